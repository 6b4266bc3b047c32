/- Texts Txc, Txe, Txf, Txg, Txh, Txi of the library, joined. -/
import Derived.Test.YtoeijomelabbfaaGreatDoorM07
import Derived.Test.YtoeijomelabbfaaGreatDoorM05
import Derived.Test.YtoeijomelabbfaaGreatDoorM06
import Derived.Test.YtoeijomelabbfaaGreatDoorM22
import Derived.Test.YtoeijomelabbfaaGreatDoorM20
/- Package txn: where a commit stands; which blocks are kept back. -/
namespace Go.Proofs.YtoeijomelabbfaaGreatDoor
set_option maxRecDepth 200000
open Go.RowKit
set_option linter.unusedVariables false
set_option linter.unusedSimpArgs false
attribute [local go_sem ↓] Go.wp_at_zero Go.wp_at_succ

theorem cells4g {w u u' : World} {b : Nat} {v0 v1 v2 v3 : Value} (h : u.cell? ⟨b, 0, none⟩ = some v0 ∧ u.cell? ⟨b, 1, none⟩ = some v1 ∧ u.cell? ⟨b, 2, none⟩ = some v2 ∧ u.cell? ⟨b, 3, none⟩ = some v3 ∧ Chg [] w u) (g : Chg [] u u') : u'.cell? ⟨b, 0, none⟩ = some v0 ∧ u'.cell? ⟨b, 1, none⟩ = some v1 ∧ u'.cell? ⟨b, 2, none⟩ = some v2 ∧ u'.cell? ⟨b, 3, none⟩ = some v3 ∧ Chg [] w u' :=
  ⟨g.cellv h.1 (by simp), g.cellv h.2.1 (by simp), g.cellv h.2.2.1 (by simp), g.cellv h.2.2.2.1 (by simp), h.2.2.2.2.then g⟩
theorem turnOf_any (s : SB) (w : World) : Calls Tryz.prog 163 #[s.v] w fun e w' => e = .returned (.int .i64 ((s.G % 2 : Nat) : Int)) ∧ Chg [] w w' := by
  obtain ⟨c0, c1, c2, c3⟩ := sup_laid w s
  have g0 := Chg.alloc [] w (supObj s)
  obtain ⟨G, B, D, X⟩ := s
  unfold SB.v supObj at *
  dsimp only at *
  go_enter Tryz.func163, Tryz.ntmps163
  go_wp2_with fail
  go_ret
  exact ⟨by simp, g0⟩
theorem turn_as (s : SB) (t : Nat) (ht : s.G % 2 = t) (w : World) : Calls Tryz.prog 163 #[s.v] w fun e w' => e = .returned (.int .i64 (t : Int)) ∧ Chg [] w w' := by
  subst ht
  exact turnOf_any s w
theorem pages_as (n k : Nat) (hk : npg n = k) (z : Int) (hz : z = (n : Int)) (hn : n ≤ 1024) (w : World) : Calls Tryz.prog 157 #[.int .i64 z] w fun e w' => e = .returned (.int .i64 (k : Int)) ∧ w = w' := by
  subst hz
  have := pages_any (n : Int) w (by omega)
  rw [npgZ_nat, hk] at this
  exact this
theorem npg_few {n : Nat} (h : n ≤ 1024) : npg n ≤ 5 := by unfold npg; omega
set_option maxHeartbeats 1000000 in
theorem area_any (s : SB) (n : Nat) (hB : s.B = (n : Int)) (hn : n ≤ 1024) (w : World) : Calls Tryz.prog 158 #[s.v] w fun e w' => e = .returned (.int .i64 ((areaN s : Nat) : Int)) ∧ Chg [] w w' := by
  obtain ⟨t, ht⟩ : ∃ t, s.G % 2 = t := ⟨_, rfl⟩
  obtain ⟨k, hk⟩ : ∃ k, npg n = k := ⟨_, rfl⟩
  have hk5 := npg_few hn
  rw [hk] at hk5
  have ht2 : t < 2 := by omega
  have he : areaN s = 2 + t * k := by unfold areaN; rw [hB, Int.toNat_natCast, hk, ht]
  obtain ⟨m, hm⟩ : ∃ m : Nat, t * k = m := ⟨_, rfl⟩
  have hmI : (t : Int) * (k : Int) = (m : Int) := by rw [← hm]; simp
  have hm10 : m ≤ 10 := by rw [← hm]; exact Nat.le_trans (Nat.mul_le_mul (Nat.le_of_lt_succ ht2) hk5) (by decide)
  obtain ⟨A, hA⟩ : ∃ A, areaN s = A := ⟨_, rfl⟩
  have hAm : A = 2 + m := by rw [← hA, he, hm]
  have hw1 : IntKind.i64.wrap (m : Int) = (m : Int) := by rw [IntKind.wrap_i64]; omega
  have hw2 : IntKind.i64.wrap (2 + (m : Int)) = (A : Int) := by rw [IntKind.wrap_i64]; omega
  rw [hA]
  obtain ⟨c0, c1, c2, c3⟩ := sup_laid w s
  have g0 := Chg.alloc [] w (supObj s)
  have cT := fun u => turn_as s t ht u
  have cP := fun u => pages_as n k hk s.B hB hn u
  have hsv : s.v = .agg #[.int .u64 s.G, .int .i64 s.B, .int .u64 s.D, .int .u64 s.X] := rfl
  clear he hm ht hk hB hA hAm
  obtain ⟨G, B, D, X⟩ := s
  unfold supObj at *
  dsimp only at *
  rw [hsv] at cT ⊢
  clear hsv
  go_enter Tryz.func158, Tryz.ntmps158
  go_wp2_with fail
  generalize w.alloc _ = w1 at *
  generalize w.heap.size = b at *
  have HS0 : (fun u => u.cell? ⟨b, 0, none⟩ = some (.int .u64 G) ∧ u.cell? ⟨b, 1, none⟩ = some (.int .i64 B) ∧ u.cell? ⟨b, 2, none⟩ = some (.int .u64 D) ∧ u.cell? ⟨b, 3, none⟩ = some (.int .u64 X) ∧ Chg [] w u) (World.drew w1) := cells4g ⟨c0, c1, c2, c3, g0⟩ (Chg.drew [] _)
  go_region_held3 (fun u => u.cell? ⟨b, 0, none⟩ = some (.int .u64 G) ∧ u.cell? ⟨b, 1, none⟩ = some (.int .i64 B) ∧ u.cell? ⟨b, 2, none⟩ = some (.int .u64 D) ∧ u.cell? ⟨b, 3, none⟩ = some (.int .u64 X) ∧ Chg [] w u)
    (first | exact HS0 | assumption | exact cells4g (by assumption) (by assumption))
    (first
    | (go_at_call 163; refine (cT _).mono ?_; rintro e1 w2 ⟨rfl, g2⟩)
    | (go_at_call 157; refine (cP _).mono ?_; rintro e1 w3 ⟨rfl, rfl⟩))
  have hS : (fun u => u.cell? ⟨b, 0, none⟩ = some (.int .u64 G) ∧ u.cell? ⟨b, 1, none⟩ = some (.int .i64 B) ∧ u.cell? ⟨b, 2, none⟩ = some (.int .u64 D) ∧ u.cell? ⟨b, 3, none⟩ = some (.int .u64 X) ∧ Chg [] w u) w2 := by assumption
  have hG : Chg [] w w2 := hS.2.2.2.2
  clear hS
  go_wp2_with fail
  go_ret
  exact ⟨by simp, hG⟩
end Go.Proofs.YtoeijomelabbfaaGreatDoor

/- A pool's cache and disk through a row of steps. -/
namespace Go.Proofs.YtoeijomelabbfaaGreatDoor
set_option maxRecDepth 200000
open Go.RowKit
set_option linter.unusedVariables false
set_option linter.unusedSimpArgs false
attribute [local go_sem ↓] Go.wp_at_zero Go.wp_at_succ

theorem wrt_small (st : RS) (z : Int) (b : List UInt8) : (write st z b).2.L.length ≤ st.L.length + 4 ∧ (write st z b).2.count = st.count := by
  have hb : (burn st).2.L = st.L ∧ (burn st).2.count = st.count := by
    unfold burn
    split
    · exact ⟨rfl, rfl⟩
    · split <;> exact ⟨rfl, rfl⟩
  unfold write
  split
  · exact ⟨Nat.le_add_right _ _, rfl⟩
  · split
    · exact ⟨Nat.le_add_right _ _, rfl⟩
    · split
      · exact ⟨by rw [hb.1]; omega, hb.2⟩
      · refine ⟨?_, hb.2⟩
        show ((burn st).2.L ++ flies z.toNat b 4).length ≤ _
        rw [List.length_append, flies_len, hb.1]
        exact Nat.le_refl _
theorem barrier_small (st : RS) : (barrier st).2.L.length ≤ st.L.length := by
  have hb : (burn st).2.L = st.L := by
    unfold burn
    split
    · rfl
    · split <;> rfl
  unfold barrier
  split
  · exact Nat.le_refl _
  · split
    · rw [hb]; exact Nat.le_refl _
    · exact Nat.zero_le _
theorem kroom_small (n : Nat) (K : List KE) (st : RS) : (kroom n K st).2.1.length ≤ K.length ∧ (kroom n K st).2.2.L.length ≤ st.L.length + 4 := by
  have hk : ∀ x : KE, (kwrote x st).2.L.length ≤ st.L.length + 4 := fun x => by
    unfold kwrote
    split
    · exact (wrt_small st _ _).1
    · exact Nat.le_add_right _ _
  unfold kroom
  split
  · exact ⟨Nat.le_refl _, Nat.le_add_right _ _⟩
  · split
    · exact ⟨Nat.le_refl _, Nat.le_add_right _ _⟩
    · split
      · exact ⟨Nat.le_succ _, hk _⟩
      · exact ⟨Nat.le_refl _, hk _⟩
theorem kdrop_le (K : List KE) (a : Nat) : (kdrop K a).length ≤ K.length := List.length_filter_le _ _
theorem kput_small (n : Nat) (K : List KE) (st : RS) (z : Int) (b : List UInt8) : (kput n K st z b).2.1.length ≤ K.length + 1 ∧ (kput n K st z b).2.2.L.length ≤ st.L.length + 4 := by
  have hr := kroom_small n K st
  unfold kput
  split
  · exact ⟨Nat.le_succ _, Nat.le_add_right _ _⟩
  · split
    · exact ⟨Nat.le_succ _, Nat.le_add_right _ _⟩
    · split
      · refine ⟨?_, Nat.le_add_right _ _⟩
        rw [List.length_append, List.length_singleton]
        exact Nat.succ_le_succ (kdrop_le K _)
      · split
        · refine ⟨?_, hr.2⟩
          rw [List.length_append, List.length_singleton]
          exact Nat.succ_le_succ hr.1
        · exact ⟨Nat.le_succ _, hr.2⟩
theorem kflushL_small : ∀ (r K : List KE) (st : RS), (kflushL r K st).2.1.length = K.length ∧ (kflushL r K st).2.2.L.length ≤ st.L.length + 4 * r.length := by
  intro r
  induction r with
  | nil => intro K st; exact ⟨rfl, Nat.le_refl _⟩
  | cons x r ih =>
    intro K st
    have hw := (wrt_small st x.pl x.bs).1
    unfold kflushL
    split
    · have := ih (kclean K x.pl) (write st x.pl x.bs).2
      refine ⟨this.1.trans (by unfold kclean; rw [List.length_map]), ?_⟩
      have h2 := this.2
      rw [List.length_cons]
      omega
    · exact ⟨rfl, by rw [List.length_cons]; show (write st x.pl x.bs).2.L.length ≤ _; omega⟩
theorem kdirty_le (K : List KE) : (kdirty K).length ≤ K.length := by
  unfold kdirty krising
  exact Nat.le_trans (List.length_filter_le _ _) (Nat.le_of_eq (List.length_mergeSort K))
theorem kflush_small (K : List KE) (st : RS) : (kflush K st).2.1.length = K.length ∧ (kflush K st).2.2.L.length ≤ st.L.length + 4 * K.length := by
  unfold kflush
  split
  · exact ⟨rfl, Nat.le_add_right _ _⟩
  · have := kflushL_small (kdirty K) K st
    have := kdirty_le K
    omega
/-- A pool's cache and disk (tag 2), since a world ws; nothing else has turned. -/
def PJ (w0 ws : World) (ts : Nat → Nat) (db cb m u kb lb : Nat) (x : KS) (w : World) : Prop :=
  ∃ tag, HasPair w0 w tag 2 db cb x.1 x.2 m u ∧ Base w0 w tag ∧ Turn w0.heap.size ts tag 2 ws w ∧ x.1.length ≤ kb ∧ x.2.L.length ≤ lb
section
variable {w0 ws w w' : World} {ts : Nat → Nat} {db cb m u kb lb : Nat} {x : KS}
theorem PJ.start {tag : Nat → Nat} (h : HasPair w0 w tag 2 db cb x.1 x.2 m u) (hb : Base w0 w tag) (h1 : x.1.length ≤ kb) (h2 : x.2.L.length ≤ lb) : PJ w0 w tag db cb m u kb lb x w :=
  ⟨tag, h, hb, (Still.of (Chg.refl [] w)).turn _ _, h1, h2⟩
theorem PJ.mono (h : PJ w0 ws ts db cb m u kb lb x w) {u' kb' lb' : Nat} (hu : u ≤ u') (hk : kb ≤ kb') (hl : lb ≤ lb') : PJ w0 ws ts db cb m u' kb' lb' x w := by
  obtain ⟨tag, a, b, c, d, e⟩ := h
  exact ⟨tag, a.mono hu, b, c, Nat.le_trans d hk, Nat.le_trans e hl⟩
theorem PJ.made (h : PJ w0 ws ts db cb m u kb lb x w) (c : Chg [] w w') : PJ w0 ws ts db cb m u kb lb x w' := by
  obtain ⟨tag, a, b, t, d, e⟩ := h
  have s := still_mark tag 9 c
  exact ⟨_, a.still s, b.still s, t.then s, d, e⟩
/-- What was new since stays as it is. -/
theorem PJ.from (h : PJ w0 ws ts db cb m u kb lb x w) {w1 : World} {t1 : Nat → Nat} (s : Still t1 ts w1 ws) : PJ w0 w1 t1 db cb m u kb lb x w := by
  obtain ⟨tag, a, b, t, d, e⟩ := h
  exact ⟨tag, a, b, (s.turn _ _).trans t, d, e⟩
theorem PJ.reads (h : PJ w0 ws ts db cb m u kb lb x w) {ao : Option Addr} {xs : List Value} (hr : Reads ws ao xs) (hp : 0 < xs.length → ∀ k, k ∈ blk ao → ts k ≠ 2) : Reads w ao xs := by
  obtain ⟨tag, a, b, t, d, e⟩ := h
  exact t.reads hr hp
theorem PJ.cell (h : PJ w0 ws ts db cb m u kb lb x w) {p : Addr} {v : Value} (hc : ws.cell? p = some v) (hp : ts p.block ≠ 2) : w.cell? p = some v := by
  obtain ⟨tag, a, b, t, d, e⟩ := h
  exact t.cell1 hc hp
theorem PJ.base (h : PJ w0 ws ts db cb m u kb lb x w) : Chg [] w0 w := by
  obtain ⟨tag, a, b, t, d, e⟩ := h
  exact b.c
theorem PJ.size (h : PJ w0 ws ts db cb m u kb lb x w) : ws.heap.size ≤ w.heap.size := by
  obtain ⟨tag, a, b, t, d, e⟩ := h
  exact t.size
/-- A block that was made new is put. -/
theorem PJ.put (h : PJ w0 ws ts db cb m u kb lb x w) (c : Chg [] w w') (z : Int) (hu : u ≤ 1000000000) (hl : lb ≤ 900000000) (ao : Option Addr) (n k : Nat) (b : List UInt8) (hr : Room w' w.heap.size ao n k (bts b)) (hn0 : 0 < n) :
    Calls Tryz.prog 18 #[.pointer (some ⟨cb, 0, none⟩), .int .i64 z, .slice ao n k] w' fun e w2 => e = .returned (.int .i64 (kput m x.1 x.2 z b).1) ∧ PJ w0 ws ts db cb m (u + 1) (kb + 1) (lb + 4) (kput m x.1 x.2 z b).2 w2 := by
  obtain ⟨tag, a, hb, t, d, e⟩ := h
  have s := still_mark tag 9 c
  have hn : b.length = n := by have := hr.len; rwa [bts_length] at this
  have hbs : ∀ q, q ∈ blk ao → mark tag w.heap.size 9 q ≠ 2 ∧ q < w'.heap.size := fun q hq => by
    have h1 := hr.le
    obtain ⟨bb, oo, rfl, -, -⟩ := hr.at_ (by omega)
    simp [blk] at hq
    subst hq
    have h2 := hr.lt q (by rw [fp_some _ _ _ (by omega)]; simp)
    rw [mark_new _ _ _ _ h2.1]
    exact ⟨by decide, h2.2⟩
  refine (p_put (a.still s) (hb.still s) (by decide) z (by omega) (by omega) ao n k b hr.reads hn hbs).mono ?_
  rintro e1 w2 ⟨he, tag', p, t2⟩
  have hsm := kput_small m x.1 x.2 z b
  exact ⟨he, tag', p, (hb.still s).turn t2, (t.then s).trans t2, by omega, by omega⟩
theorem PJ.flush (h : PJ w0 ws ts db cb m u kb lb x w) (hl : lb ≤ 900000000) :
    Calls Tryz.prog 117 #[.pointer (some ⟨cb, 0, none⟩)] w fun e w2 => e = .returned (.int .i64 (flushA x).1) ∧ PJ w0 ws ts db cb m u kb (lb + 4 * kb) (flushA x).2 w2 := by
  obtain ⟨tag, a, hb, t, d, e⟩ := h
  refine (p_flush a hb (by decide) (by omega)).mono ?_
  rintro e1 w2 ⟨he, tag', p, t2⟩
  have hsm := kflush_small x.1 x.2
  exact ⟨he, tag', p, hb.turn t2, t.trans t2, by show (kflush x.1 x.2).2.1.length ≤ _; omega, by show (kflush x.1 x.2).2.2.L.length ≤ _; omega⟩
theorem PJ.bar (h : PJ w0 ws ts db cb m u kb lb x w) :
    Calls Tryz.prog 42 #[.pointer (some ⟨db, 0, none⟩)] w fun e w2 => e = .returned (.int .i64 (barA x).1) ∧ PJ w0 ws ts db cb m u kb lb (barA x).2 w2 := by
  obtain ⟨tag, a, hb, t, d, e⟩ := h
  refine (p_barrier a hb (by decide)).mono ?_
  rintro e1 w2 ⟨he, tag', p, t2⟩
  have hsm := barrier_small x.2
  exact ⟨he, tag', p, hb.turn t2, t.trans t2, d, Nat.le_trans hsm e⟩
theorem PJ.write (h : PJ w0 ws ts db cb m u kb lb x w) (c : Chg [] w w') (z : Int) (hl : lb ≤ 900000000) (ao : Option Addr) (n k : Nat) (b : List UInt8) (hr : Room w' w.heap.size ao n k (bts b)) (h0 : 0 < n) (hk : k ≤ 140737488355328) :
    Calls Tryz.prog 41 #[.pointer (some ⟨db, 0, none⟩), .int .i64 z, .slice ao n k] w' fun e w2 => e = .returned (.int .i64 (write x.2 z b).1) ∧ PJ w0 ws ts db cb m u kb (lb + 4) (x.1, (write x.2 z b).2) w2 := by
  obtain ⟨tag, a, hb, t, d, e⟩ := h
  have s := still_mark tag 9 c
  have hn : b.length = n := by have := hr.len; rwa [bts_length] at this
  have hbs : ∀ q, q ∈ blk ao → mark tag w.heap.size 9 q ≠ 2 ∧ q < w'.heap.size := fun q hq => by
    have h1 := hr.le
    obtain ⟨bb, oo, rfl, -, -⟩ := hr.at_ (by omega)
    simp [blk] at hq
    subst hq
    have h2 := hr.lt q (by rw [fp_some _ _ _ (by omega)]; simp)
    rw [mark_new _ _ _ _ h2.1]
    exact ⟨by decide, h2.2⟩
  refine (p_write (a.still s) (hb.still s) (by decide) z (by omega) ao n k b hr.reads hn hr.le hk hbs).mono ?_
  rintro e1 w2 ⟨he, tag', p, t2⟩
  have hsm := (wrt_small x.2 z b).1
  exact ⟨he, tag', p, (hb.still s).turn t2, (t.then s).trans t2, d, by show (Go.Proofs.YtoeijomelabbfaaGreatDoor.write x.2 z b).2.L.length ≤ _; omega⟩
end
end Go.Proofs.YtoeijomelabbfaaGreatDoor

/- Package txn: the steps of a commit. -/
namespace Go.Proofs.YtoeijomelabbfaaGreatDoor
set_option maxRecDepth 200000
open Go.RowKit
set_option linter.unusedVariables false
set_option linter.unusedSimpArgs false
attribute [local go_sem ↓] Go.wp_at_zero Go.wp_at_succ

/-- A commit that is to be laid, as a value. -/
def cmA (db cb : Nat) (s : SB) (a : Option Addr) (n c : Nat) : Array Value := #[.pointer (some ⟨db, 0, none⟩), .pointer (some ⟨cb, 0, none⟩), .int .u64 s.G, .int .i64 s.B, .int .u64 s.D, .int .u64 s.X, .slice a n c]
theorem laid7 (w : World) (e : TypeId) (v0 v1 v2 v3 v4 v5 v6 : Value) : (w.alloc (.cells #[v0, v1, v2, v3, v4, v5, v6] e)).cell? ⟨w.heap.size, 0, none⟩ = some v0 ∧ (w.alloc (.cells #[v0, v1, v2, v3, v4, v5, v6] e)).cell? ⟨w.heap.size, 1, none⟩ = some v1 ∧ (w.alloc (.cells #[v0, v1, v2, v3, v4, v5, v6] e)).cell? ⟨w.heap.size, 2, none⟩ = some v2 ∧ (w.alloc (.cells #[v0, v1, v2, v3, v4, v5, v6] e)).cell? ⟨w.heap.size, 3, none⟩ = some v3 ∧ (w.alloc (.cells #[v0, v1, v2, v3, v4, v5, v6] e)).cell? ⟨w.heap.size, 4, none⟩ = some v4 ∧ (w.alloc (.cells #[v0, v1, v2, v3, v4, v5, v6] e)).cell? ⟨w.heap.size, 5, none⟩ = some v5 ∧ (w.alloc (.cells #[v0, v1, v2, v3, v4, v5, v6] e)).cell? ⟨w.heap.size, 6, none⟩ = some v6 := by
  have hl := heap_alloc_last w (.cells #[v0, v1, v2, v3, v4, v5, v6] e)
  have hc := fun j => cell_of_row _ w.heap.size j _ _ _ hl
  exact ⟨by rw [hc]; rfl, by rw [hc]; rfl, by rw [hc]; rfl, by rw [hc]; rfl, by rw [hc]; rfl, by rw [hc]; rfl, by rw [hc]; rfl⟩
theorem zero_room (w : World) : Room (w.alloc (.cells (madeCells #[.int .u8 0] 256) 5)).drew w.heap.size (some ⟨w.heap.size, 0, none⟩) 256 256 (bts zeroB) ∧ Room (w.drew.alloc (.cells (madeCells #[.int .u8 0] 256) 5)) w.heap.size (some ⟨w.heap.size, 0, none⟩) 256 256 (bts zeroB) := by
  unfold zeroB
  rw [bts_rep]
  exact ⟨(made_room w 5 (.int .u8 0) 256 (by decide)).chg (Chg.drew [] _) (by simp), made_room w.drew 5 (.int .u8 0) 256 (by decide)⟩
section
variable {w0 ws w : World} {ts : Nat → Nat} {db cb m u kb lb : Nat} {x : KS}
/-- From now on. -/
theorem PJ.rebase (h : PJ w0 ws ts db cb m u kb lb x w) {w1 : World} (c : Chg [] w w1) : ∃ t1, PJ w0 w1 t1 db cb m u kb lb x w1 ∧ (∀ k, w.heap.size ≤ k → t1 k = 9) ∧ (∀ k, k < ws.heap.size → t1 k = ts k) ∧ ∀ u' kb' lb' x' w', PJ w0 w1 t1 db cb m u' kb' lb' x' w' → PJ w0 ws ts db cb m u' kb' lb' x' w' := by
  obtain ⟨tag, a, b, t, d, e⟩ := h
  have s := still_mark tag 9 c
  refine ⟨_, PJ.start (a.still s) (b.still s) d e, fun k hk => mark_new _ _ _ _ hk, fun k hk => (mark_old _ _ _ _ (Nat.lt_of_lt_of_le hk t.size)).trans (t.2 k hk), fun u' kb' lb' x' w' g => ?_⟩
  obtain ⟨tag', a', b', t', d', e'⟩ := g
  exact ⟨tag', a', b', (t.then s).trans t', d', e'⟩
set_option maxHeartbeats 1000000 in
theorem clear_any (s : SB) (a : Option Addr) (n c : Nat) (h : PJ w0 ws ts db cb m u kb lb x w) (hl : lb ≤ 800000000) :
    Calls Tryz.prog 52 #[.agg (cmA db cb s a n c)] w fun e w' => e = .returned (.int .i64 (clearA x).1) ∧ PJ w0 ws ts db cb m u kb (lb + 8) (clearA x).2 w' := by
  have hmk : ∀ u : World, (Instr.makeSlice 41 (.int .i64 256) (.int .i64 256)).run Tryz.prog u = .ok (.slice (some ⟨u.heap.size, 0, none⟩) 256 256) (u.alloc (.cells (madeCells #[.int .u8 0] 256) 5)) := hmk 256 (by decide)
  have g0 := Chg.alloc [] w (.cells (cmA db cb s a n c) 99)
  obtain ⟨c0, c1, c2, c3, c4, c5, c6⟩ := laid7 w 99 (.pointer (some ⟨db, 0, none⟩)) (.pointer (some ⟨cb, 0, none⟩)) (.int .u64 s.G) (.int .i64 s.B) (.int .u64 s.D) (.int .u64 s.X) (.slice a n c)
  obtain ⟨t1, h1, ht, -, hback⟩ := h.rebase g0
  have hz : ts = ts := rfl
  obtain ⟨b, hb⟩ : ∃ b, w.heap.size = b := ⟨_, rfl⟩
  have htb : t1 b ≠ 2 := by rw [ht b (by omega)]; decide
  unfold cmA at *
  rw [hb] at c0 c1 c2 c3 c4 c5 c6
  have HB := mkHid hback
  clear h hback hz
  go_enter Tryz.func52, Tryz.ntmps52
  go_wp2_with fail
  generalize w.alloc _ = w1 at *
  go_loopw [5] (fun iv wr => ∃ (k : Nat) (y : KS), iv = .int .i64 k ∧ k ≤ 2 ∧ PJ w0 w1 t1 db cb m u kb (lb + 4 * k) y wr ∧ runA ([wrA 0, wrA 1].drop k) y = clearA x) (fun iv _ => 2 - (Go.RowKit.intOf iv).toNat)
  case atStart => exact ⟨0, x, rfl, by decide, h1, rfl⟩
  case round =>
    obtain ⟨k, y, rfl, hk, hJ, hrun⟩ := hrel
    by_cases hlt : k < 2
    · have d1 : decide (k < 2) = true := decide_eq_true hlt
      have d2 : decide ((k : Int) < 2) = true := decide_eq_true (by omega)
      have e1 : [wrA 0, wrA 1].drop k = wrA k :: [wrA 0, wrA 1].drop (k + 1) := by
        obtain rfl | rfl : k = 0 ∨ k = 1 := by omega
        · rfl
        · rfl
      rw [e1, runA_cons] at hrun
      have x0 := hJ.cell c0 htb
      have x0a := fun o => (Chg.alloc [] wr o).cellv x0 (by simp)
      have cW := fun (w' : World) (cc : Chg [] wr w') (hr : Room w' wr.heap.size (some ⟨wr.heap.size, 0, none⟩) 256 256 (bts zeroB)) => hJ.write cc (k : Int) (by omega) _ 256 256 zeroB hr (by decide) (by decide)
      obtain ⟨v, hv⟩ : ∃ v, (write y.2 (k : Int) zeroB).1 = v := ⟨_, rfl⟩
      obtain ⟨y', hy⟩ : ∃ y' : KS, (y.1, (write y.2 (k : Int) zeroB).2) = y' := ⟨_, rfl⟩
      have ew : wrA k y = (v, y') := by unfold wrA; rw [← hv, ← hy]
      rw [ew] at hrun
      dsimp only at hrun
      rw [hv, hy] at cW
      have HR := mkHid hrun
      have cW3 := cW _ ((Chg.alloc [] _ _).then (Chg.drew [] _)) (zero_room wr).1
      have cW4 := cW _ ((Chg.drew [] _).then (Chg.alloc [] _ _)) (zero_room wr).2
      have W3 := mkHid cW3
      have W4 := mkHid cW4
      clear cW3 cW4
      clear hrun cW e1 ew hv hy hJ
      by_cases hv0 : v = 0
      · subst hv0
        go_wp2_with fail
        go_region_law (first | (go_simp; go_at_call 41; (first | refine W3.out.mono ?_ | refine W4.out.mono ?_); rintro e w2 ⟨rfl, hJ2⟩; have x2 := hJ2.cell c0 htb))
        all_goals
          go_wp2_with fail
          exact ⟨⟨k + 1, y', by first | rfl | go_num, by omega, hJ2.mono (Nat.le_refl _) (Nat.le_refl _) (by omega), by have := HR.out; simpa using this⟩, by simp [Go.RowKit.intOf]; omega⟩
      · have d3 : (v != 0) = true := by simpa using hv0
        have e := HR.out
        rw [if_neg hv0] at e
        have HE := mkHid e
        clear HR e hv0
        go_wp2_with fail
        go_region_law (first | (go_simp; go_at_call 41; (first | refine W3.out.mono ?_ | refine W4.out.mono ?_); rintro e w2 ⟨rfl, hJ2⟩; have x2 := hJ2.cell c0 htb))
        all_goals
          go_wp2_with fail
          go_ret
          rw [← HE.out]
          exact ⟨rfl, HB.out _ _ _ _ _ (hJ2.mono (Nat.le_refl _) (Nat.le_refl _) (by omega))⟩
    · have e : k = 2 := by omega
      subst e
      have e : clearA x = (0, y) := by rw [← hrun]; rfl
      have HE := mkHid e
      clear hrun e
      go_wp2_with fail
      go_ret
      rw [HE.out]
      exact ⟨rfl, HB.out _ _ _ _ _ hJ⟩
end
end Go.Proofs.YtoeijomelabbfaaGreatDoor

/- Package txn: the pages of a commit are put. -/
namespace Go.Proofs.YtoeijomelabbfaaGreatDoor
set_option maxRecDepth 200000
open Go.RowKit
set_option linter.unusedVariables false
set_option linter.unusedSimpArgs false
attribute [local go_sem ↓] Go.wp_at_zero Go.wp_at_succ

theorem pn_nat {k : Nat} (h : k < 18446744073709551616) : pn (k : Int) = k := by unfold pn; omega
theorem seal_as (ao : Option Addr) (c : Nat) (l : List UInt8) (z : Int) (p : Nat) (hz : z = (p : Int)) (hp : p < 18446744073709551616) (w : World) (hT : Tab w) (g : Reads w ao (bts l)) (gn : l.length = 240) (B : List UInt8) (hB : sealB l p 3 = B) :
    Calls Tryz.prog 160 #[.slice ao 240 c, .int .i64 z, .int .u8 3] w fun e w' => ∃ a k, e = .returned (.tuple #[.slice a 256 k, .int .i64 0]) ∧ Room w' w.heap.size a 256 k (bts B) ∧ Chg [] w w' := by
  subst hz hB
  have := seal_any ao 240 c l (p : Int) 3 w hT g gn (Nat.le_refl _) (by decide)
  rw [pn_nat hp] at this
  exact this
section
variable {w0 ws w : World} {ts : Nat → Nat} {db cb m u kb lb : Nat} {x : KS}
set_option maxHeartbeats 4000000 in
theorem putPages_any (s : SB) (a : Option Addr) (n c : Nat) (N : List UInt8) (h : PJ w0 ws ts db cb m u kb lb x w) (hT : Tab w0) (hB : s.B = (n : Int)) (hn : n ≤ 1024) (gN : Reads ws a (bts N)) (hN : N.length = n) (hc : n ≤ c) (hat : 0 < n → ∀ k, k ∈ blk a → ts k ≠ 2) (hu : u ≤ 900000000) (hl : lb ≤ 800000000) :
    Calls Tryz.prog 116 #[.agg (cmA db cb s a n c)] w fun e w' => e = .returned (.int .i64 (pagesA m (pagesL N) (areaN s) x).1) ∧ PJ w0 ws ts db cb m (u + 5) (kb + 5) (lb + 20) (pagesA m (pagesL N) (areaN s) x).2 w' := by
  have gw := h.reads gN (fun hx => hat (by rw [bts_length] at hx; omega))
  have g0 := Chg.alloc [] w (.cells (cmA db cb s a n c) 99)
  obtain ⟨c0, c1, c2, c3, c4, c5, c6⟩ := laid7 w 99 (.pointer (some ⟨db, 0, none⟩)) (.pointer (some ⟨cb, 0, none⟩)) (.int .u64 s.G) (.int .i64 s.B) (.int .u64 s.D) (.int .u64 s.X) (.slice a n c)
  obtain ⟨b, hb⟩ : ∃ b, w.heap.size = b := ⟨_, rfl⟩
  have cA := fun u => area_any s n hB hn u
  have hA1024 : areaN s ≤ 12 := by
    have h5 := npg_few hn
    have ht : s.G % 2 < 2 := Nat.mod_lt _ (by decide)
    unfold areaN
    rw [hB, Int.toNat_natCast]
    have := Nat.mul_le_mul (Nat.le_of_lt_succ ht) h5
    omega
  have hlen : (pagesL N).length ≤ 5 := by rw [pagesL_len, hN]; exact npg_few hn
  generalize hA : areaN s = A at *
  have hsv : s.v = .agg #[.int .u64 s.G, .int .i64 s.B, .int .u64 s.D, .int .u64 s.X] := rfl
  rw [hsv] at cA
  unfold cmA at *
  rw [hb] at c0 c1 c2 c3 c4 c5 c6
  have hne : (some ⟨b, 0, none⟩ : Option Addr) = some ⟨b, 0, none⟩ := rfl
  obtain ⟨G, B, D, X⟩ := s
  dsimp only at *
  have HB := mkHid hB
  have HA := mkHid hA
  clear hsv hne hA hB
  go_enter Tryz.func116, Tryz.ntmps116
  go_wp2_with fail
  generalize w.alloc _ = w1 at *
  refine (cA w1).mono ?_
  rintro e w2 ⟨rfl, g2⟩
  have y0 := g2.cellv c0 (by simp)
  have y1 := g2.cellv c1 (by simp)
  have y2 := g2.cellv c2 (by simp)
  have y3 := g2.cellv c3 (by simp)
  have y4 := g2.cellv c4 (by simp)
  have y5 := g2.cellv c5 (by simp)
  have y6 := g2.cellv c6 (by simp)
  have cP := puts_any a n c N w2 ((gw.keep g0).keep g2) hN hc (by omega)
  go_wp2_with fail
  refine cP.mono ?_
  rintro e w3 ⟨ao, cc, bs, ps, rfl, hput, hO, g3⟩
  have hps : ps = pagesL N := hput.unique (by rw [← hN]; exact pagesL_put N)
  obtain ⟨t3, h3, ht3, -, hback⟩ := h.rebase ((g0.then g2).then g3)
  have z0 := g3.cellv y0 (by simp)
  have z1 := g3.cellv y1 (by simp)
  have htb : t3 b ≠ 2 := by rw [ht3 b (by omega)]; decide
  have hle : w.heap.size ≤ w2.heap.size := (g0.then g2).size
  have hP240 := pagesL_240 N
  rw [← hps] at hP240 hlen
  obtain ⟨PA, hPA⟩ : ∃ PA, PA = pagesA m (pagesL N) A x := ⟨_, rfl⟩
  have hPA0 : PA = pagesA m ps A x := by rw [hps]; exact hPA
  have HPA := mkHid hPA
  have HP0 := mkHid hPA0
  clear hput hps hPA hPA0
  obtain ⟨L, hL⟩ : ∃ L, ps.length = L := ⟨_, rfl⟩
  have hbl := hO.ln
  have HBK := mkHid hback
  have HO := mkHid hO
  have HL := mkHid hL
  rw [hL] at hlen ⊢
  clear h gw gN c0 c1 c2 c3 c4 c5 c6 y0 y1 y2 y3 y4 y5 y6 cA cP hback hO hL
  go_wp2_with fail
  go_loopw [16] (fun iv wr => ∃ (k : Nat) (y : KS), iv = .int .i64 k ∧ k ≤ L ∧ PJ w0 w3 t3 db cb m (u + k) (kb + k) (lb + 4 * k) y wr ∧ pagesA m (ps.drop k) (A + k) y = PA) (fun iv _ => L - (Go.RowKit.intOf iv).toNat)
  case atStart => exact ⟨0, x, rfl, Nat.zero_le _, h3, HP0.out.symm⟩
  case round =>
    obtain ⟨k, y, rfl, hk, hJ, hrun⟩ := hrel
    by_cases hlt : k < L
    · have d1 : decide (k < L) = true := decide_eq_true hlt
      have d2 : decide ((k : Int) < (L : Int)) = true := decide_eq_true (by omega)
      have hkp : k < ps.length := by rw [HL.out]; exact hlt
      have hkb : k < bs.length := by rw [hbl]; exact hkp
      obtain ⟨p, hp⟩ : ∃ p, ps[k]? = some p := ⟨_, List.getElem?_eq_getElem hkp⟩
      obtain ⟨q, hq⟩ : ∃ q, bs[k]? = some q := ⟨_, List.getElem?_eq_getElem hkb⟩
      obtain ⟨hkp', hpe⟩ := List.getElem?_eq_some_iff.1 hp
      have hpl : p.length = 240 := by rw [← hpe]; exact hP240 _ (List.getElem_mem _)
      have hpv : (bs.map pv)[k]? = some (pv q) := by rw [List.getElem?_map, hq]; rfl
      have hrd : Reads wr ao (bs.map pv) := hJ.reads HO.out.r.reads (fun _ j hj => by
        have hc0 := HO.out.r.le
        obtain ⟨bb, oo, e, -, -⟩ := HO.out.r.at_ (by omega)
        subst e
        simp [blk] at hj
        subst hj
        have := HO.out.r.lt j (by rw [fp_some _ _ _ (by omega)]; simp)
        rw [ht3 j (by omega)]
        decide)
      have hrq : Reads wr (some ⟨q, 0, none⟩) (bts p) := hJ.reads (HO.out.p k q p hq hp).reads (fun _ j hj => by
        simp [blk] at hj
        subst hj
        have := (HO.out.p k j p hq hp).lt j (by rw [fp_some _ _ _ (by decide)]; simp)
        rw [ht3 j (by omega)]
        decide)
      obtain ⟨xb, xo, rfl, ck, _⟩ := reads_lt hrd k _ hpv
      unfold pv at ck
      have x0 := hJ.cell z0 htb
      have x1 := hJ.cell z1 htb
      have hw1 : IntKind.i64.wrap ((A : Int) + (k : Int)) = ((A + k : Nat) : Int) := by rw [IntKind.wrap_i64]; omega
      obtain ⟨Z, hZ⟩ : ∃ Z, A + k = Z := ⟨_, rfl⟩
      rw [hZ] at hw1
      obtain ⟨SB_, hSB⟩ : ∃ B, sealB p Z 3 = B := ⟨_, rfl⟩
      have hT' : Tab wr := hT.then hJ.base
      have cS := seal_as (some ⟨q, 0, none⟩) 240 p (Z : Int) Z rfl (by omega) wr hT' hrq hpl SB_ hSB
      have e1 : ps.drop k = p :: ps.drop (k + 1) := by rw [List.drop_eq_getElem_cons hkp', hpe]
      obtain ⟨v, hv⟩ : ∃ v, (kput m y.1 y.2 (Z : Int) SB_).1 = v := ⟨_, rfl⟩
      obtain ⟨y', hy⟩ : ∃ y' : KS, (kput m y.1 y.2 (Z : Int) SB_).2 = y' := ⟨_, rfl⟩
      have ew : pageA m (A + k) p y = (v, y') := by unfold pageA; rw [hZ, hSB, ← hv, ← hy]
      have cW := fun (w' : World) (cc' : Chg [] wr w') (ao' : Option Addr) (k' : Nat) (hr : Room w' wr.heap.size ao' 256 k' (bts SB_)) => hJ.put cc' (Z : Int) (by omega) (by omega) ao' 256 k' SB_ hr (by decide)
      rw [hv, hy] at cW
      rw [e1] at hrun
      have hrun2 : (if (pageA m (A + k) p y).1 = 0 then pagesA m (ps.drop (k + 1)) (A + k + 1) (pageA m (A + k) p y).2 else pageA m (A + k) p y) = PA := hrun
      rw [ew] at hrun2
      dsimp only at hrun2
      have HR := mkHid hrun2
      have HW := mkHid cW
      have HZ := mkHid hZ
      clear hrun hrun2 cW e1 ew hv hy hJ hp hq hpe hpl hpv hrd hrq hSB hT' hZ
      by_cases hv0 : v = 0
      · subst hv0
        go_wp2_with fail
        refine cS.mono ?_
        rintro e w4 ⟨a4, k4, rfl, hr4, g4⟩
        have x14 := g4.cellv x1 (by simp)
        go_wp2_with fail
        refine (HW.out w4 g4 a4 k4 hr4).mono ?_
        rintro e w5 ⟨rfl, hJ5⟩
        go_wp2_with fail
        exact ⟨⟨k + 1, y', by first | rfl | go_num, by omega, hJ5.mono (by omega) (by omega) (by omega), by first | exact HR.out | (have := HR.out; rw [if_pos rfl] at this; exact this)⟩, by simp [Go.RowKit.intOf]; omega⟩
      · have d3 : (v != 0) = true := by simpa using hv0
        have e := HR.out
        rw [if_neg hv0] at e
        have HE := mkHid e
        clear HR e hv0
        go_wp2_with fail
        refine cS.mono ?_
        rintro e w4 ⟨a4, k4, rfl, hr4, g4⟩
        have x14 := g4.cellv x1 (by simp)
        go_wp2_with fail
        refine (HW.out w4 g4 a4 k4 hr4).mono ?_
        rintro e w5 ⟨rfl, hJ5⟩
        go_wp2_with fail
        go_ret
        rw [← HPA.out, ← HE.out]
        exact ⟨rfl, HBK.out _ _ _ _ _ (hJ5.mono (by omega) (by omega) (by omega))⟩
    · have e : k = L := by omega
      subst e
      have d1 : decide (k < k) = false := by simp
      have e : PA = (0, y) := by rw [← hrun, List.drop_eq_nil_of_le (by rw [HL.out]; exact Nat.le_refl _)]; rfl
      have HE := mkHid e
      clear hrun e
      go_wp2_with fail
      go_ret
      rw [← HPA.out, HE.out]
      exact ⟨rfl, HBK.out _ _ _ _ _ (hJ.mono (by omega) (by omega) (by omega))⟩
end
end Go.Proofs.YtoeijomelabbfaaGreatDoor

/- Package txn: the superblock is put; a commit is laid. -/
namespace Go.Proofs.YtoeijomelabbfaaGreatDoor
set_option maxRecDepth 200000
open Go.RowKit
set_option linter.unusedVariables false
set_option linter.unusedSimpArgs false
attribute [local go_sem ↓] Go.wp_at_zero Go.wp_at_succ

section
variable {w0 ws w : World} {ts : Nat → Nat} {db cb m u kb lb : Nat} {x : KS}
theorem copied_sup (w : World) (ao : Option Addr) (c : Nat) (s : SB) (hr : Reads w ao (bts s.form)) :
    Room ((w.alloc (.cells (madeCells #[.int .u8 0] 256) 5)).setCells w.heap.size 0 (bts s.form)) w.heap.size (some ⟨w.heap.size, 0, none⟩) 256 256 (bts (supB s)) := by
  have h0 := made_room w 5 (.int .u8 0) 256 (by decide)
  have h1 := h0.sets (bts s.form) 0 (by rw [bts_length, s.form_length]; decide)
  rw [List.take_zero, List.nil_append, bts_length, s.form_length, List.drop_replicate, Nat.zero_add] at h1
  have e : bts s.form ++ List.replicate (256 - 64) (Value.int .u8 0) = bts (supB s) := by
    unfold supB
    rw [bts_append, bts_rep]
  rw [e] at h1
  exact h1
set_option maxHeartbeats 4000000 in
theorem putSuper_any (s : SB) (a : Option Addr) (n c : Nat) (h : PJ w0 ws ts db cb m u kb lb x w) (hf : s.Fits) (hu : u ≤ 900000000) (hl : lb ≤ 800000000) :
    Calls Tryz.prog 118 #[.agg (cmA db cb s a n c)] w fun e w' => e = .returned (.int .i64 (supA m s x).1) ∧ PJ w0 ws ts db cb m (u + 1) (kb + 1) (lb + 4) (supA m s x).2 w' := by
  have hmk : ∀ u : World, (Instr.makeSlice 41 (.int .i64 256) (.int .i64 256)).run Tryz.prog u = .ok (.slice (some ⟨u.heap.size, 0, none⟩) 256 256) (u.alloc (.cells (madeCells #[.int .u8 0] 256) 5)) := hmk 256 (by decide)
  have g0 := Chg.alloc [] w (.cells (cmA db cb s a n c) 99)
  obtain ⟨c0, c1, c2, c3, c4, c5, c6⟩ := laid7 w 99 (.pointer (some ⟨db, 0, none⟩)) (.pointer (some ⟨cb, 0, none⟩)) (.int .u64 s.G) (.int .i64 s.B) (.int .u64 s.D) (.int .u64 s.X) (.slice a n c)
  obtain ⟨b, hb⟩ : ∃ b, w.heap.size = b := ⟨_, rfl⟩
  obtain ⟨t, ht⟩ : ∃ t, s.G % 2 = t := ⟨_, rfl⟩
  have cT := fun u => turn_as s t ht u
  have cP := fun u => put_sup s u hf
  have HCP := mkHid (fun (u : World) (ao : Option Addr) (c : Nat) (hr : Reads u ao (bts s.form)) => copied_sup u ao c s hr)
  have hsup : supA m s x = if s.may = true then kput m x.1 x.2 (t : Int) (supB s) else (1, x) := by unfold supA; rw [ht]
  have hfl := s.form_length
  have HFL := mkHid hfl
  obtain ⟨PA, hPA⟩ : ∃ PA, supA m s x = PA := ⟨_, rfl⟩
  rw [hPA] at hsup ⊢
  have hsv : s.v = .agg #[.int .u64 s.G, .int .i64 s.B, .int .u64 s.D, .int .u64 s.X] := rfl
  rw [hsv] at cT cP
  unfold PPut at cP
  obtain ⟨FO, hFO⟩ : ∃ FO, s.form = FO := ⟨_, rfl⟩
  obtain ⟨BB, hBB⟩ : ∃ BB, supB s = BB := ⟨_, rfl⟩
  have hT2 : t ≤ 1 := by omega
  rw [hFO] at cP HCP HFL
  rw [hBB] at hsup HCP
  unfold cmA at *
  rw [hb] at c0 c1 c2 c3 c4 c5 c6
  cases hm : s.may with
  | false =>
    rw [hm] at cP hsup
    rw [if_neg (by decide)] at hsup
    have HS := mkHid hsup
    obtain ⟨G, B, D, X⟩ := s
    dsimp only at *
    clear hPA hsup hsv hFO hBB hfl hf hm ht
    go_enter Tryz.func118, Tryz.ntmps118
    go_wp2_with fail
    generalize w.alloc _ = w1 at *
    refine (cP w1).mono ?_
    rintro e w2 ⟨g2, ⟨hno, -⟩ | ⟨-, rfl⟩⟩
    · cases hno
    go_wp2_with fail
    go_ret
    rw [HS.out]
    exact ⟨rfl, (h.made (g0.then g2)).mono (by omega) (by omega) (by omega)⟩
  | true =>
    rw [hm] at cP hsup
    rw [if_pos rfl] at hsup
    have HS := mkHid hsup
    obtain ⟨G, B, D, X⟩ := s
    dsimp only at *
    clear hPA hsup hsv hFO hBB hfl hf hm ht
    go_enter Tryz.func118, Tryz.ntmps118
    go_wp2_with fail
    generalize w.alloc _ = w1 at *
    refine (cP w1).mono ?_
    rintro e w2 ⟨g2, ⟨-, fb, fo, fc, rfl, hr2⟩ | ⟨hno, -⟩⟩
    rotate_left
    · cases hno
    have y0 := g2.cellv c0 (by simp)
    have y1 := g2.cellv c1 (by simp)
    have y2 := g2.cellv c2 (by simp)
    have y3 := g2.cellv c3 (by simp)
    have y4 := g2.cellv c4 (by simp)
    have y5 := g2.cellv c5 (by simp)
    have y6 := g2.cellv c6 (by simp)
    have g3 := Chg.alloc [] w2 (.cells (madeCells #[.int .u8 0] 256) 5)
    have R4 := HCP.out w2 (some ⟨fb, fo, none⟩) fc hr2.reads
    have hth := (made_room w2 5 (.int .u8 0) 256 (by decide)).there 0 64 (by decide)
    rw [Nat.zero_add] at hth
    have g02 := g0.then g2
    have hle := g02.size
    have G4 : Chg [] w ((w2.alloc (.cells (madeCells #[.int .u8 0] 256) 5)).setCells w2.heap.size 0 (bts FO)) := (g02.then g3).trans (Chg.setCells w2.heap.size (bts FO) 0 _) (fun _ h _ => h) (fun k hk hlt => by simp at hk; omega)
    have g24 : Chg [w2.heap.size] w2 ((w2.alloc (.cells (madeCells #[.int .u8 0] 256) 5)).setCells w2.heap.size 0 (bts FO)) := (g3.mono (by simp)).trans (Chg.setCells w2.heap.size (bts FO) 0 _) (fun _ h _ => h) (fun _ h _ => h)
    have hbw : b ≠ w2.heap.size := by have := g0.size; have := block_lt_of_cell y0; dsimp only at this; omega
    have z0 := g24.cellv y0 (by simp; exact hbw)
    have z1 := g24.cellv y1 (by simp; exact hbw)
    have z2 := g24.cellv y2 (by simp; exact hbw)
    have z3 := g24.cellv y3 (by simp; exact hbw)
    have z4 := g24.cellv y4 (by simp; exact hbw)
    have z5 := g24.cellv y5 (by simp; exact hbw)
    have hrF := hr2.reads.keep g3
    clear g24 y0 y1 y2 y3 y4 y5 y6
    go_wp2_with (first
      | (refine wpList_copy_k rfl (.tmp 16) (.tmp 17) 41 41 5 rfl Tryz.underlying41 oneB w2.heap.size 0 256 256 (some ⟨fb, fo, none⟩) 64 fc (bts FO) rfl rfl hrF (by rw [bts_length, HFL.out]; rfl) (by rw [bts_length, HFL.out]; exact hth) (bts_one _) ?_))
    have hsb : w.heap.size ≤ w2.heap.size := hle
    generalize World.setCells _ _ _ _ = w4 at *
    generalize w2.heap.size = sb at *
    have cW := fun (W : World) (cc : Chg [] w4 W) => h.put (G4.then cc) (t : Int) (by omega) (by omega) (some ⟨sb, 0, none⟩) 256 256 BB ((R4.mono hsb).chg cc (by simp)) (by decide)
    have HW := mkHid cW
    have q0 := fun (W : World) (cc : Chg [] w4 W) => cc.cellv z0 (by simp)
    have q1 := fun (W : World) (cc : Chg [] w4 W) => cc.cellv z1 (by simp)
    clear cW
    go_region_law (first
      | (go_simp; go_at_call 163; refine (cT _).mono ?_; rintro e w5 ⟨rfl, g5⟩; have p0 := ((Chg.drew [] _).then g5).cellv z0 (by simp); have p1 := ((Chg.drew [] _).then g5).cellv z1 (by simp))
      | (go_simp; go_at_call 18; refine (HW.out _ (by first | exact (Chg.drew [] _).then g5 | exact ((Chg.drew [] _).then g5).then (Chg.drew [] _))).mono ?_; rintro e w6 ⟨rfl, hJ6⟩))
    all_goals
      go_wp2_with fail
      go_ret
      rw [HS.out]
      exact ⟨rfl, hJ6⟩
end
end Go.Proofs.YtoeijomelabbfaaGreatDoor

/- Package txn: a commit is laid. -/
namespace Go.Proofs.YtoeijomelabbfaaGreatDoor
set_option maxRecDepth 200000
open Go.RowKit
set_option linter.unusedVariables false
set_option linter.unusedSimpArgs false
attribute [local go_sem ↓] Go.wp_at_zero Go.wp_at_succ

theorem reads_alloc (w : World) (vs : Array Value) (e : TypeId) : Reads (w.alloc (.cells vs e)) (some ⟨w.heap.size, 0, none⟩) vs.toList := by
  have hl := heap_alloc_last w (.cells vs e)
  have hc := fun j => cell_of_row _ w.heap.size j _ _ _ hl
  refine fun _ => ⟨w.heap.size, 0, rfl, fun j u hj => ?_⟩
  rw [Nat.zero_add, hc j]
  simpa using hj
section
variable {w0 ws w : World} {ts : Nat → Nat} {db cb m u kb lb : Nat} {x : KS}
def layV (db cb : Nat) (s : SB) (a : Option Addr) (n c : Nat) : Array Value := #[.func (.func 116) #[.agg (cmA db cb s a n c)] #[], .func (.func 117) #[.pointer (some ⟨cb, 0, none⟩)] #[], .func (.func 42) #[.pointer (some ⟨db, 0, none⟩)] #[], .func (.func 118) #[.agg (cmA db cb s a n c)] #[], .func (.func 117) #[.pointer (some ⟨cb, 0, none⟩)] #[], .func (.func 42) #[.pointer (some ⟨db, 0, none⟩)] #[]]
theorem lay_run (s : SB) (a : Option Addr) (n c : Nat) (N : List UInt8) (h : PJ w0 w ts db cb m u kb lb x w) (hT : Tab w0) (hB : s.B = (n : Int)) (hf : s.Fits) (hn : n ≤ 1024) (gN : Reads w a (bts N)) (hN : N.length = n) (hc : n ≤ c) (hat : 0 < n → ∀ k, k ∈ blk a → ts k ≠ 2) (hu : u ≤ 800000000) (hk : kb ≤ 1100) (hl : lb ≤ 700000000)
    (sb : Nat) (hr : Reads w (some ⟨sb, 0, none⟩) (layV db cb s a n c).toList) (hsb : ts sb ≠ 2) :
    Calls Tryz.prog 51 #[.slice (some ⟨sb, 0, none⟩) 6 6] w fun e w' => e = .returned (.int .i64 (layA m s N x).1) ∧ PJ w0 w ts db cb m (u + 30) (kb + 30) (lb + 36000) (layA m s N x).2 w' := by
  refine (inTurn_any (some ⟨sb, 0, none⟩) 6 6 (by decide) (layV db cb s a n c).toList (laySteps m s N) (fun i y w' => PJ w0 w ts db cb m (u + 5 * i) (kb + 5 * i) (lb + 6000 * i) y w' ∧ i ≤ 6) rfl rfl ?_ ?_ x w ⟨h, by decide⟩).mono ?_
  · intro i v f hv hf'
    match i, hv, hf' with
    | 0, hv, hf' =>
      cases hv; cases hf'
      refine ⟨_, _, rfl, enters_of Tryz.func116 (by kernel_rfl) rfl, fun y w' hJ => ?_⟩
      refine (putPages_any s a n c N hJ.1 hT hB hn gN hN hc hat (by omega) (by omega)).mono ?_
      rintro e w2 ⟨he, hJ2⟩
      exact ⟨he, hJ2.mono (by omega) (by omega) (by omega), by decide⟩
    | 1, hv, hf' =>
      cases hv; cases hf'
      refine ⟨_, _, rfl, enters_of Tryz.func117 (by kernel_rfl) rfl, fun y w' hJ => ?_⟩
      refine (hJ.1.flush (by omega)).mono ?_
      rintro e w2 ⟨he, hJ2⟩
      exact ⟨he, hJ2.mono (by omega) (by omega) (by omega), by decide⟩
    | 2, hv, hf' =>
      cases hv; cases hf'
      refine ⟨_, _, rfl, enters_of Tryz.func42 (by kernel_rfl) rfl, fun y w' hJ => ?_⟩
      refine hJ.1.bar.mono ?_
      rintro e w2 ⟨he, hJ2⟩
      exact ⟨he, hJ2.mono (by omega) (by omega) (by omega), by decide⟩
    | 3, hv, hf' =>
      cases hv; cases hf'
      refine ⟨_, _, rfl, enters_of Tryz.func118 (by kernel_rfl) rfl, fun y w' hJ => ?_⟩
      refine (putSuper_any s a n c hJ.1 hf (by omega) (by omega)).mono ?_
      rintro e w2 ⟨he, hJ2⟩
      exact ⟨he, hJ2.mono (by omega) (by omega) (by omega), by decide⟩
    | 4, hv, hf' =>
      cases hv; cases hf'
      refine ⟨_, _, rfl, enters_of Tryz.func117 (by kernel_rfl) rfl, fun y w' hJ => ?_⟩
      refine (hJ.1.flush (by omega)).mono ?_
      rintro e w2 ⟨he, hJ2⟩
      exact ⟨he, hJ2.mono (by omega) (by omega) (by omega), by decide⟩
    | 5, hv, hf' =>
      cases hv; cases hf'
      refine ⟨_, _, rfl, enters_of Tryz.func42 (by kernel_rfl) rfl, fun y w' hJ => ?_⟩
      refine hJ.1.bar.mono ?_
      rintro e w2 ⟨he, hJ2⟩
      exact ⟨he, hJ2.mono (by omega) (by omega) (by omega), by decide⟩
    | i + 6, hv, hf' => cases hf'
  · intro i y w' hJ
    exact hJ.1.reads hr (fun _ k hk => by simp [blk] at hk; subst hk; exact hsb)
  · rintro e w' ⟨j, hj, he, hJ, -⟩
    exact ⟨he, hJ.mono (by omega) (by omega) (by omega)⟩
set_option maxHeartbeats 4000000 in
theorem lay_all (s : SB) (a : Option Addr) (n c : Nat) (N : List UInt8) (h : PJ w0 ws ts db cb m u kb lb x w) (hT : Tab w0) (hB : s.B = (n : Int)) (hf : s.Fits) (hn : n ≤ 1024) (gN : Reads ws a (bts N)) (hN : N.length = n) (hc : n ≤ c) (hat : 0 < n → ∀ k, k ∈ blk a → ts k ≠ 2) (hu : u ≤ 800000000) (hk : kb ≤ 1100) (hl : lb ≤ 700000000) :
    Calls Tryz.prog 53 #[.agg (cmA db cb s a n c)] w fun e w' => e = .returned (.int .i64 (layA m s N x).1) ∧ PJ w0 ws ts db cb m (u + 30) (kb + 30) (lb + 36000) (layA m s N x).2 w' := by
  have gw := h.reads gN (fun hx => hat (by rw [bts_length] at hx; omega))
  have hblk : 0 < n → ∀ k, k ∈ blk a → k < ws.heap.size := fun h0 k hk => by
    obtain ⟨bb, oo, rfl, hc'⟩ := gN (by rw [bts_length]; omega)
    simp [blk] at hk
    subst hk
    exact block_lt_of_cell (hc' 0 _ (bts_get N 0 (by omega)))
  have g0 := Chg.alloc [] w (.cells (cmA db cb s a n c) 99)
  obtain ⟨c0, c1, c2, c3, c4, c5, c6⟩ := laid7 w 99 (.pointer (some ⟨db, 0, none⟩)) (.pointer (some ⟨cb, 0, none⟩)) (.int .u64 s.G) (.int .i64 s.B) (.int .u64 s.D) (.int .u64 s.X) (.slice a n c)
  obtain ⟨w1, hw1⟩ : ∃ w1, w.alloc (.cells (cmA db cb s a n c) 99) = w1 := ⟨_, rfl⟩
  have hr := reads_alloc w1 (layV db cb s a n c) 70
  have g1 := Chg.alloc [] w1 (.cells (layV db cb s a n c) 70)
  rw [hw1] at g0
  obtain ⟨t1, h1, ht, hts, hback⟩ := h.rebase (g0.then g1)
  have cL := lay_run s a n c N h1 hT hB hf hn ((gw.keep g0).keep g1) hN hc (fun h0 k hk => by rw [hts k (hblk h0 k hk)]; exact hat h0 k hk) hu hk hl w1.heap.size hr (by rw [ht _ g0.size]; decide)
  have hsz : w1.heap.size = w.heap.size + 1 := by rw [← hw1]; simp
  rw [hsz] at cL
  subst hw1
  have HL := mkHid cL
  have HB := mkHid hback
  clear cL hback h1 ht hts hr gw gN hblk g1 h hat hB hf hsz g0
  unfold layV at HL
  obtain ⟨G, B, D, X⟩ := s
  unfold cmA at *
  dsimp only at *
  go_enter Tryz.func53, Tryz.ntmps53
  go_wp2_with fail
  refine HL.out.mono ?_
  rintro e w2 ⟨rfl, hJ⟩
  go_wp2_with fail
  go_ret
  exact ⟨rfl, HB.out _ _ _ _ _ hJ⟩
end
end Go.Proofs.YtoeijomelabbfaaGreatDoor
