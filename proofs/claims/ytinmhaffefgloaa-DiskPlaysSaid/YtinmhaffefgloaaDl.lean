/- No disk; a disk that a law holds: what its calls leave of it, and of what lies beside it. -/
import Derived.Test.YtinmhaffefgloaaDk
namespace Go.Proofs.Ytinmhaffefgloaa
open Go.RowKit
set_option linter.unusedVariables false
set_option linter.unusedSimpArgs false

theorem powered_nil (w : World) : Calls Try.prog 40 #[.pointer none] w fun e w' => e = .returned (.int .i64 2) ∧ w = w' := by
  go_enter Try.func40, Try.ntmps40
  go_wp2_with (first | (go_at_call 31; refine (made_nil _).mono ?_; rintro e w' ⟨rfl, rfl⟩))
  go_ret
  exact ⟨rfl, rfl⟩
theorem asked_nil (z : Int) (w : World) : Calls Try.prog 32 #[.pointer none, .int .i64 z] w fun e w' => e = .returned (.int .i64 2) ∧ w = w' := by
  go_enter Try.func32, Try.ntmps32
  go_wp2_with (first | (go_at_call 40; refine (powered_nil _).mono ?_; rintro e w' ⟨rfl, rfl⟩))
  go_ret
  exact ⟨rfl, rfl⟩
theorem blocks_nil (w : World) : Calls Try.prog 10 #[.pointer none] w fun e w' => e = .returned (.int .i64 0) ∧ w = w' := by
  go_enter Try.func10, Try.ntmps10
  go_wp2_with (first | (go_at_call 31; refine (made_nil _).mono ?_; rintro e w' ⟨rfl, rfl⟩))
  go_ret
  exact ⟨rfl, rfl⟩
theorem flight_nil (w : World) : Calls Try.prog 27 #[.pointer none] w fun e w' => e = .returned (.int .i64 0) ∧ w = w' := by
  go_enter Try.func27, Try.ntmps27
  go_wp2_with (first | (go_at_call 31; refine (made_nil _).mono ?_; rintro e w' ⟨rfl, rfl⟩))
  go_ret
  exact ⟨rfl, rfl⟩
theorem off_nil (w : World) : Calls Try.prog 29 #[.pointer none] w fun e w' => e = .returned (.bool true) ∧ w = w' := by
  go_enter Try.func29, Try.ntmps29
  go_wp2_with (first | (go_at_call 31; refine (made_nil _).mono ?_; rintro e w' ⟨rfl, rfl⟩))
  go_ret
  exact ⟨rfl, rfl⟩
theorem copy_nil (w : World) : Calls Try.prog 23 #[.pointer none] w fun e w' => e = .returned (.pointer none) ∧ w = w' := by
  go_enter Try.func23, Try.ntmps23
  go_wp2_with (first | (go_at_call 31; refine (made_nil _).mono ?_; rintro e w' ⟨rfl, rfl⟩))
  go_ret
  exact ⟨rfl, rfl⟩
theorem write_nil (z : Int) (v : Value) (w : World) : Calls Try.prog 12 #[.pointer none, .int .i64 z, v] w fun e w' => e = .returned (.int .i64 2) ∧ w = w' := by
  go_enter Try.func12, Try.ntmps12
  go_wp2_with (first | (go_at_call 32; refine (asked_nil _ _).mono ?_; rintro e w' ⟨rfl, rfl⟩))
  go_ret
  exact ⟨rfl, rfl⟩
theorem read_nil (z : Int) (w : World) : Calls Try.prog 14 #[.pointer none, .int .i64 z] w fun e w' => e = .returned (.tuple #[.slice none 0 0, .int .i64 2]) ∧ w = w' := by
  go_enter Try.func14, Try.ntmps14
  go_wp2_with (first | (go_at_call 32; refine (asked_nil _ _).mono ?_; rintro e w' ⟨rfl, rfl⟩))
  go_ret2
  exact ⟨rfl, rfl⟩
theorem barrier_nil (w : World) : Calls Try.prog 17 #[.pointer none] w fun e w' => e = .returned (.int .i64 2) ∧ w = w' := by
  go_enter Try.func17, Try.ntmps17
  go_wp2_with (first | (go_at_call 40; refine (powered_nil _).mono ?_; rintro e w' ⟨rfl, rfl⟩))
  go_ret
  exact ⟨rfl, rfl⟩
theorem fuse_nil (z : Int) (w : World) : Calls Try.prog 19 #[.pointer none, .int .i64 z] w fun e w' => e = .returned (.tuple #[]) ∧ w = w' := by
  go_enter Try.func19, Try.ntmps19
  go_wp2_with (first | (go_at_call 31; refine (made_nil _).mono ?_; rintro e w' ⟨rfl, rfl⟩))
  go_end0
  exact ⟨rfl, rfl⟩
theorem crash_nil (v : Value) (w : World) : Calls Try.prog 21 #[.pointer none, v] w fun e w' => e = .returned (.tuple #[]) ∧ w = w' := by
  go_enter Try.func21, Try.ntmps21
  go_wp2_with (first | (go_at_call 31; refine (made_nil _).mono ?_; rintro e w' ⟨rfl, rfl⟩))
  refine bodyPost_ret (results_none rfl _ _ _) rfl ?_
  exact ⟨rfl, rfl⟩

theorem blk_mem {ao : Option Addr} {n c : Nat} {w : World} {B : Nat} {xs : List Value} (h : Room w B ao n c xs) (hn : 0 < n) : ∀ k, k ∈ blk ao → k ∈ fp ao c := by
  intro k hk
  unfold fp
  rw [if_neg (by have := h.le; omega)]
  exact hk
/-! ### a disk that a law holds, and blocks R beside it -/
structure Own (w0 w : World) (R : List Nat) (db : Nat) (g : DG) (fa : Option Addr) (cf : Nat) (st : RS) : Prop where
  d : DevAt w w0.heap.size db g fa cf st
  c : Chg [] w0 w
  r : ∀ k, k ∈ R → k ∉ DF db g fa cf ∧ k < w.heap.size
  W : Whole st
theorem Own.keep {w0 w w' : World} {R : List Nat} {db : Nat} {g : DG} {fa : Option Addr} {cf : Nat} {st : RS} (h : Own w0 w R db g fa cf st) (c : Chg [] w w') : Own w0 w' R db g fa cf st :=
  ⟨h.d.keep c, h.c.then c, fun k hk => ⟨(h.r k hk).1, Nat.lt_of_lt_of_le (h.r k hk).2 c.size⟩, h.W⟩
/-- New blocks are watched, too. -/
theorem Own.add {w0 w w' : World} {R : List Nat} {db : Nat} {g : DG} {fa : Option Addr} {cf : Nat} {st : RS} (h : Own w0 w R db g fa cf st) (c : Chg [] w w') (N : List Nat) (hN : ∀ k, k ∈ N → w.heap.size ≤ k ∧ k < w'.heap.size) : Own w0 w' (N ++ R) db g fa cf st :=
  ⟨h.d.keep c, h.c.then c, fun k hk => (List.mem_append.1 hk).elim (fun hx => ⟨fun hm => by have := (h.d.lt k hm).2; have := (hN k hx).1; omega, (hN k hx).2⟩) (fun hx => ⟨(h.r k hx).1, Nat.lt_of_lt_of_le (h.r k hx).2 c.size⟩), h.W⟩
theorem Own.less {w0 w : World} {R R' : List Nat} {db : Nat} {g : DG} {fa : Option Addr} {cf : Nat} {st : RS} (h : Own w0 w R db g fa cf st) (hR : ∀ k, k ∈ R' → k ∈ R) : Own w0 w R' db g fa cf st :=
  ⟨h.d, h.c, fun k hk => h.r k (hR k hk), h.W⟩
theorem Own.old {w0 w : World} {R : List Nat} {db : Nat} {g : DG} {fa : Option Addr} {cf : Nat} {st : RS} (h : Own w0 w R db g fa cf st) {k : Nat} (hk : k < w0.heap.size) : k ∉ DF db g fa cf := fun hm => by have := (h.d.lt k hm).1; omega
theorem Own.step {w0 w w' : World} {R : List Nat} {db : Nat} {g : DG} {fa fa' : Option Addr} {cf cf' : Nat} {st st' : RS} (h : Own w0 w R db g fa cf st) (d : DevAt w' w0.heap.size db g fa' cf' st') (c : Chg (DF db g fa cf) w w') (l : Later w fa cf fa' cf') (hW : Whole st') : Own w0 w' R db g fa' cf' st' :=
  ⟨d, h.c.trans c (by simp) (fun k hk hlt => by have := (h.d.lt k hk).1; omega), fun k hk => ⟨fun hm => by
    have hr := h.r k hk
    simp only [DF, List.mem_cons] at hm hr
    rcases hm with hm | hm | hm | hm
    · exact hr.1 (Or.inl hm)
    · exact hr.1 (Or.inr (Or.inl hm))
    · exact hr.1 (Or.inr (Or.inr (Or.inl hm)))
    · rcases l k hm with hx | hx
      · exact hr.1 (Or.inr (Or.inr (Or.inr hx)))
      · omega, Nat.lt_of_lt_of_le (h.r k hk).2 c.size⟩, hW⟩
theorem DF_three {db : Nat} {g : DG} {fa : Option Addr} {cf : Nat} {k : Nat} (hk : k ∈ [g.lb, g.nb, db]) : k ∈ DF db g fa cf := by
  simp only [List.mem_cons, List.not_mem_nil, or_false] at hk
  simp only [DF, List.mem_cons]
  rcases hk with hk | hk | hk
  · exact Or.inr (Or.inl hk)
  · exact Or.inr (Or.inr (Or.inl hk))
  · exact Or.inl hk
theorem burn_whole {st : RS} (h : Whole st) : Whole (burn st).2 := by
  unfold burn
  split
  · exact h
  · split <;> exact h
theorem write_whole {st : RS} (z : Int) (b : List UInt8) (h : Whole st) : Whole (write st z b).2 := by
  unfold write
  split
  · exact h
  · split
    · exact h
    · split
      · exact burn_whole h
      · exact burn_whole h
theorem barrier_whole {st : RS} (h : Whole st) : Whole (barrier st).2 := by
  unfold barrier
  split
  · exact h
  · split
    · exact burn_whole h
    · have := burn_whole h
      exact ⟨by show (settle (burn st).2.S (burn st).2.L).length = _; rw [settle_len]; exact this.1, this.2⟩
theorem crash_whole {st : RS} (ps : List UInt8) (h : Whole st) : Whole (crash st ps) := ⟨by show (torn st.S _).length = _; rw [torn_len]; exact h.1, h.2⟩
theorem own_write (z : Int) (w0 : World) (R : List Nat) (db : Nat) (g : DG) (fa : Option Addr) (cf : Nat) (st : RS) (w : World) (h : Own w0 w R db g fa cf st) (hLb : st.L.length ≤ 1000000000)
    (ab : Option Addr) (nb cb : Nat) (b : List UInt8) (gb : Reads w ab (bts b)) (gn : b.length = nb) (gc : nb ≤ cb) (gm : cb ≤ 140737488355328) (hab : ∀ k, k ∈ blk ab → k ∈ R) :
    Calls Try.prog 12 #[.pointer (some ⟨db, 0, none⟩), .int .i64 z, .slice ab nb cb] w fun e w' => e = .returned (.int .i64 (write st z b).1) ∧ ∃ fa' cf', Own w0 w' R db g fa' cf' (write st z b).2 ∧ Chg (DF db g fa cf) w w' := by
  refine (dwrite_any z w0.heap.size db g fa cf st w h.d h.W h.c.size hLb ab nb cb b gb gn gc gm (fun k hk => h.r k (hab k hk))).mono ?_
  rintro e w' ⟨he, fa', cf', h2, hg2, hl2⟩
  exact ⟨he, fa', cf', h.step h2 hg2 hl2 (write_whole z b h.W), hg2⟩
theorem own_barrier (w0 : World) (R : List Nat) (db : Nat) (g : DG) (fa : Option Addr) (cf : Nat) (st : RS) (w : World) (h : Own w0 w R db g fa cf st) :
    Calls Try.prog 17 #[.pointer (some ⟨db, 0, none⟩)] w fun e w' => e = .returned (.int .i64 (barrier st).1) ∧ ∃ fa' cf', Own w0 w' R db g fa' cf' (barrier st).2 ∧ Chg (DF db g fa cf) w w' := by
  refine (dbarrier_any w0.heap.size db g fa cf st w h.d).mono ?_
  rintro e w' ⟨he, fa', cf', h2, hg2, hl2⟩
  have hg3 : Chg (DF db g fa cf) w w' := hg2.mono (fun k hk _ => DF_three hk)
  exact ⟨he, fa', cf', h.step h2 hg3 (fun k hk => Or.inl (hl2 k hk)) (barrier_whole h.W), hg3⟩
theorem own_crash (w0 : World) (R : List Nat) (db : Nat) (g : DG) (fa : Option Addr) (cf : Nat) (st : RS) (w : World) (h : Own w0 w R db g fa cf st)
    (ap : Option Addr) (np cp : Nat) (ps : List UInt8) (gp : Reads w ap (bts ps)) (gn : ps.length = np) (hnp : np ≤ maxLen) (hap : ∀ k, k ∈ blk ap → k ∈ R ∨ k < w0.heap.size) :
    Calls Try.prog 21 #[.pointer (some ⟨db, 0, none⟩), .slice ap np cp] w fun e w' => e = .returned (.tuple #[]) ∧ Own w0 w' R db g none 0 (crash st ps) ∧ Chg (DF db g fa cf) w w' := by
  refine (dcrash_any w0.heap.size db g fa cf st w h.d ap np cp ps gp gn hnp (fun k hk => (hap k hk).elim (fun hx => (h.r k hx).1) (fun hx => h.old hx))).mono ?_
  rintro e w' ⟨he, h2, hg2⟩
  have hg3 : Chg (DF db g fa cf) w w' := hg2.mono (fun k hk _ => DF_three hk)
  exact ⟨he, h.step h2 hg3 (fun k hk => by rw [fp_zero] at hk; simp at hk) (crash_whole ps h.W), hg3⟩
theorem own_fuse (z : Int) (hz : z < 9223372036854775808) (w0 : World) (R : List Nat) (db : Nat) (g : DG) (fa : Option Addr) (cf : Nat) (st : RS) (w : World) (h : Own w0 w R db g fa cf st) :
    Calls Try.prog 19 #[.pointer (some ⟨db, 0, none⟩), .int .i64 z] w fun e w' => e = .returned (.tuple #[]) ∧ Own w0 w' R db g fa cf { st with left := z.toNat } ∧ Chg (DF db g fa cf) w w' := by
  refine (fuse_set z w0.heap.size db g fa cf st w h.d hz).mono ?_
  rintro e w' ⟨he, h2, hg2⟩
  have hg3 : Chg (DF db g fa cf) w w' := hg2.mono (fun k hk _ => by simp at hk; simp [DF, hk])
  exact ⟨he, h.step h2 hg3 (fun k hk => Or.inl hk) h.W, hg3⟩
theorem own_read (A : Nat) (w0 : World) (R : List Nat) (db : Nat) (g : DG) (fa : Option Addr) (cf : Nat) (st : RS) (w : World) (h : Own w0 w R db g fa cf st) (hw : whyN st A = 0) :
    Calls Try.prog 14 #[.pointer (some ⟨db, 0, none⟩), .int .i64 A] w fun e w' => ∃ ao c, e = .returned (.tuple #[.slice ao 256 c, .int .i64 0]) ∧ Room w' w.heap.size ao 256 c (bts (reads st A 4)) ∧ Own w0 w' (fp ao c ++ R) db g fa cf st ∧ Chg [] w w' := by
  refine (dread_yes A w0.heap.size db g fa cf st w h.d h.W hw).mono ?_
  rintro e w' ⟨ao, c, he, hr, hg⟩
  exact ⟨ao, c, he, hr, h.add hg _ (fun k hk => hr.lt k hk), hg⟩
theorem own_new (n : Nat) (h1 : 1 ≤ n) (h2 : n ≤ 1024) (w : World) : Calls Try.prog 7 #[.int .i64 n] w fun e w' => ∃ db g, e = .returned (.tuple #[.pointer (some ⟨db, 0, none⟩), .int .i64 0]) ∧ Own w w' [] db g none 0 (RS.new n) := by
  refine (dnew_yes n h1 h2 w).mono ?_
  rintro e w' ⟨db, g, he, h, hg⟩
  exact ⟨db, g, he, h, hg, fun k hk => by simp at hk, new_whole n h2⟩
end Go.Proofs.Ytinmhaffefgloaa
