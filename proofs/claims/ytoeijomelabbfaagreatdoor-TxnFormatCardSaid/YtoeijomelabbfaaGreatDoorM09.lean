/- Texts Jd, Je, Jf of the library, joined. -/
import Derived.Test.YtoeijomelabbfaaGreatDoorM03
import Derived.Test.YtoeijomelabbfaaGreatDoorM08
import Derived.Maps.OwnSet
import Derived.Lib.SlKeysI
import Derived.StillTailTactics
/- heap.Push, heap.Fix, heap.Pop over the waiting line. -/
namespace Go.Proofs.YtoeijomelabbfaaGreatDoor
set_option maxRecDepth 200000
open Go.RowKit
set_option linter.unusedVariables false
set_option linter.unusedSimpArgs false
attribute [local go_sem ↓] Go.wp_at_zero Go.wp_at_succ

theorem eltL : Elt Tryz.prog 132 128 8 := Elt.mk (z := .pointer none) Tryz.underlying132 (by kernel_rfl) (by kernel_rfl)
theorem Room.shorten {w : World} {B : Nat} {ao : Option Addr} {n c : Nat} {xs : List Value} (h : Room w B ao n c xs) {m : Nat} (hm : m ≤ n) : Room w B ao m c (xs.take m) := by
  have h1 := h.len
  have h2 := h.le
  refine ⟨by simp; omega, by omega, h.max, fun hc => ?_⟩
  obtain ⟨b, o, e, hB, hs, hv⟩ := h.at_ hc
  refine ⟨b, o, e, hB, hs, fun j u hu => hv j u ?_⟩
  rw [List.getElem?_take] at hu
  split at hu
  · exact hu
  · cases hu
/-- Of the struct in cb its line alone may have turned. -/
def Only3 (cb : Nat) (w w' : World) : Prop := ∀ j, j ≠ 3 → w'.cell? ⟨cb, j, none⟩ = w.cell? ⟨cb, j, none⟩ ∧ w'.frozen? ⟨cb, j, none⟩ = w.frozen? ⟨cb, j, none⟩
theorem Only3.of {cb : Nat} {S : List Nat} {w w' : World} (c : Chg S w w') (hcb : cb ∉ S) (hlt : cb < w.heap.size) : Only3 cb w w' := fun j _ => ⟨c.cell (p := ⟨cb, j, none⟩) hlt hcb, c.frozen (p := ⟨cb, j, none⟩) hlt hcb⟩
theorem Only3.set (cb : Nat) (w : World) (v : Value) : Only3 cb w (w.setCell ⟨cb, 3, none⟩ v) := fun j hj => ⟨by rw [World.cell?_setCell_other _ _ _ _ (by simp [hj])], by rw [World.frozen?_setCell]⟩
theorem Only3.trans {cb : Nat} {a b c : World} (h : Only3 cb a b) (g : Only3 cb b c) : Only3 cb a c := fun j hj => ⟨(g j hj).1.trans (h j hj).1, (g j hj).2.trans (h j hj).2⟩
theorem cb_SF {w : World} {B cb : Nat} {la : Option Addr} {cl : Nat} {E : List Ent} (h : LineAt w B cb la cl E) : cb ∉ SF la cl E := fun hk => by
  simp only [SF, List.mem_append, List.mem_map] at hk
  rcases hk with hk | ⟨e, he, e2⟩
  · exact h.cr hk
  · exact h.nc e he e2
theorem assert_block (p : Addr) (w : World) : (Instr.typeAssert (.iface 128 (.pointer (some p))) 20 128 false).run Tryz.prog w = .ok (.pointer (some p)) w := by kernel_rfl
set_option maxRecDepth 20000 in
/-- One more block behind the line. -/
theorem wpush_any (x : Ent) (s0 : Nat) (B cb : Nat) (la : Option Addr) (cl : Nat) (E : List Ent) (w : World) (h : LineAt w B cb la cl E) (hB : B ≤ w.heap.size) (hx : Blk w x.b 139 (entV x s0)) (hxl : x.bs.length = 256) (hxF : x.b ∉ LF cb la cl E) (hxB : B ≤ x.b) (hsm : E.length < 100000) :
    Calls Tryz.prog 255 #[.pointer (some ⟨cb, 3, none⟩), .iface 128 (.pointer (some ⟨x.b, 0, none⟩))] w fun e w' => e = .returned (.tuple #[]) ∧ ∃ la' cl', LineAt w' B cb la' cl' (E ++ [x]) ∧ Chg (x.b :: LF cb la cl E) w w' ∧ (∀ k, k ∈ fp la' cl' → k ∈ fp la cl ∨ w.heap.size ≤ k) ∧ Only3 cb w w' := by
  have c3 := h.c3
  have f3 := h.f3
  have ux := hx.cell 259 _ (entV_spot hxl)
  have gx := hx.frozen 259
  have ta := assert_block ⟨x.b, 0, none⟩
  go_enter Tryz.func255, Tryz.ntmps255
  have hxcb : x.b ≠ cb := fun e => hxF (by simp [LF, e])
  have hxfp : x.b ∉ fp la cl := fun hm => hxF (by simp [LF, hm])
  have hxE : ∀ e ∈ E, e.b ≠ x.b := fun e he h9 => hxF (by simp only [LF, List.mem_cons, List.mem_append, List.mem_map]; exact Or.inr (Or.inr ⟨e, he, h9⟩))
  have g1 : Chg [x.b] w (w.setCell ⟨x.b, 259, none⟩ (.int .i64 E.length)) := Chg.setCell w ⟨x.b, 259, none⟩ _
  have hR := h.r.chg g1 (fun k hk hm => by simp at hm; rw [hm] at hk; exact hxfp hk)
  have hx1 := hx.set1 259 (.int .i64 E.length)
  rw [entV_setSpot hxl] at hx1
  have c31 := g1.cellv c3 (by simpa using fun e => hxcb e.symm)
  have f31 := (g1.frozen (p := ⟨cb, 3, none⟩) (block_lt_of_cell c3) (by simpa using fun e => hxcb e.symm)).trans f3
  have hE1 : ∀ i (hi : i < E.length), Blk (w.setCell ⟨x.b, 259, none⟩ (.int .i64 E.length)) E[i].b 139 (entV E[i] i) := fun i hi => (h.e i hi).chg g1 (by simpa using hxE _ (List.getElem_mem hi))
  have hB1 : B ≤ (w.setCell ⟨x.b, 259, none⟩ (.int .i64 E.length)).heap.size := by simpa using hB
  have HE := mkHid hE1
  have HZ := mkHid (show (w.setCell ⟨x.b, 259, none⟩ (.int .i64 E.length)).heap.size = w.heap.size by simp)
  clear hE1
  go_wp2_with (at_builtin; refine wpList_append_1 _ rfl (.tmp 17) (.tmp 19) 132 rfl 128 8 eltL B la E.length cl (E.map ptrV) rfl hR hB1 (ptrV x) 1 (by rw [HZ.out]; rfl) rfl (by unfold maxLen; omega) (by omega) ?_; intro la' cl' w3 hR3 hg3 hf3; have c33 := hg3.cellv c31 h.cr; have f33 := (hg3.frozen (p := ⟨cb, 3, none⟩) (block_lt_of_cell c31) h.cr).trans f31)
  go_end0
  have hE1 := HE.out
  have hz := HZ.out
  have g2 : Chg (x.b :: LF cb la cl E) w w3 := g1.trans hg3 (fun k hk _ => by simp at hk; simp [hk]) (fun k hk _ => by simp [LF, hk])
  have g4 : Chg [cb] w3 (w3.setCell ⟨cb, 3, none⟩ (.slice la' (E.length + 1) cl')) := Chg.setCell w3 ⟨cb, 3, none⟩ _
  have hx3 := hx1.chg hg3 hxfp
  have hcbw : cb < w.heap.size := block_lt_of_cell c3
  have hfn : ∀ k, k ∈ fp la' cl' → k ∈ fp la cl ∨ w.heap.size ≤ k := fun k hk => by
    rcases hf3 with h9 | ⟨q, h9, h10⟩
    · left; rw [← h9]; exact hk
    · right; rw [h10] at hk; simp at hk; rw [hz] at h9; omega
  have hold : ∀ k, k < w.heap.size → k ∉ fp la cl → k ∉ fp la' cl' := fun k h1 h2 h3 => (hfn k h3).elim h2 (fun h4 => by omega)
  have hel : (E ++ [x]).length = E.length + 1 := by simp
  refine ⟨rfl, la', cl', ⟨?_, ?_, ?_, ?_, ?_, ?_, ?_, ?_, hold cb hcbw h.cr, ?_, h.cB, by rw [hel]; omega⟩, g2.trans g4 (fun _ h _ => h) (fun k hk _ => by simp at hk; simp [LF, hk]), hfn, (((Only3.of g1 (by simpa using fun e => hxcb e.symm) hcbw).trans (Only3.of hg3 h.cr (by rw [hz]; exact hcbw))).trans (Only3.set cb w3 _))⟩
  · rw [hel]; exact World.cell?_setCell_same _ _ _ c33
  · rw [World.frozen?_setCell]; exact f33
  · rw [hel, List.map_append]
    exact hR3.chg g4 (fun k hk => by simp; rintro rfl; exact hold k hcbw h.cr hk)
  · intro i hi
    rw [hel] at hi
    by_cases hlt : i < E.length
    · rw [List.getElem_append_left hlt]
      exact ((hE1 i hlt).chg hg3 (h.nr _ (List.getElem_mem hlt))).chg g4 (by simpa using h.nc _ (List.getElem_mem hlt))
    · have : i = E.length := by omega
      subst this
      rw [List.getElem_append_right (Nat.le_refl _)]
      simp only [Nat.sub_self, List.getElem_cons_zero]
      exact hx3.chg g4 (by simpa using hxcb)
  · intro e he
    rcases List.mem_append.1 he with he | he
    · exact h.bl e he
    · simp at he; rw [he]; exact hxl
  · rw [List.map_append, List.nodup_append]
    refine ⟨h.nd, by simp, fun a ha b hb => ?_⟩
    obtain ⟨e, he, rfl⟩ := List.mem_map.1 ha
    simp at hb
    rw [hb]
    exact hxE e he
  · intro e he
    rcases List.mem_append.1 he with he | he
    · exact h.nc e he
    · simp at he; rw [he]; exact hxcb
  · intro e he
    rcases List.mem_append.1 he with he | he
    · obtain ⟨i, hi, rfl⟩ := List.getElem_of_mem he
      exact hold _ (h.e i hi).lt (h.nr _ (List.getElem_mem hi))
    · simp at he; rw [he]; exact hold _ hx.lt hxfp
  · intro e he
    rcases List.mem_append.1 he with he | he
    · exact h.eB e he
    · simp at he; rw [he]; exact hxB
set_option maxRecDepth 20000 in
/-- The last block of the line is taken off. -/
theorem wpop_any (x : Ent) (B cb : Nat) (la : Option Addr) (cl : Nat) (E : List Ent) (w : World) (h : LineAt w B cb la cl (E ++ [x])) :
    Calls Tryz.prog 254 #[.pointer (some ⟨cb, 3, none⟩)] w fun e w' => e = .returned (.iface 128 (.pointer (some ⟨x.b, 0, none⟩))) ∧ LineAt w' B cb la cl E ∧ Chg (cb :: fp la cl) w w' ∧ Only3 cb w w' := by
  have hel : (E ++ [x]).length = E.length + 1 := by simp
  have c3 := h.c3
  have f3 := h.f3
  have hsm := h.sm
  obtain ⟨lb, lo, rfl, hc, hlb⟩ := h.cell (by omega)
  obtain ⟨cn, fn⟩ := hc E.length (by omega)
  rw [List.getElem_append_right (Nat.le_refl _)] at cn
  simp only [Nat.sub_self, List.getElem_cons_zero] at cn
  rw [hel] at c3 hsm
  unfold ptrV at cn
  have hlc := h.r.le
  rw [hel] at hlc
  have hcl := h.r.max
  have hcb : lb ≠ cb := fun e => h.cr (by rw [← e]; exact hlb)
  have g1 : Chg [lb] w (w.setCell ⟨lb, lo + E.length, none⟩ (.pointer none)) := Chg.setCell w ⟨lb, lo + E.length, none⟩ _
  have c31 := g1.cellv c3 (by simpa using fun e => hcb e.symm)
  have f31 := (g1.frozen (p := ⟨cb, 3, none⟩) (block_lt_of_cell c3) (by simpa using fun e => hcb e.symm)).trans f3
  have hsl : ∀ u : World, (Instr.slice 132 (.slice (some ⟨lb, lo, none⟩) (E.length + 1) cl) none (some (.int .i64 (E.length : Int))) none).run Tryz.prog u = .ok (.slice (some ⟨lb, lo, none⟩) E.length cl) u := fun u =>
    run_take_k (some ⟨lb, lo, none⟩) (E.length + 1) cl E.length Tryz.underlying132 (by kernel_rfl) (by omega) u
  have HE := mkHid hel
  clear hel hc
  go_enter Tryz.func254, Tryz.ntmps254
  go_wp2
  go_ret
  have hel := HE.out
  have hfp : fp (some ⟨lb, lo, none⟩) cl = [lb] := fp_some _ _ _ (by omega)
  have g2 : Chg [cb] (w.setCell ⟨lb, lo + E.length, none⟩ (.pointer none)) ((w.setCell ⟨lb, lo + E.length, none⟩ (.pointer none)).setCell ⟨cb, 3, none⟩ (.slice (some ⟨lb, lo, none⟩) E.length cl)) := Chg.setCell _ ⟨cb, 3, none⟩ _
  have hmem : ∀ e ∈ E, e ∈ E ++ [x] := fun e he => List.mem_append_left _ he
  refine ⟨rfl, ⟨World.cell?_setCell_same _ _ _ c31, by rw [World.frozen?_setCell]; exact f31, ?_, ?_, fun e he => h.bl e (hmem e he), ?_, fun e he => h.nc e (hmem e he), fun e he => h.nr e (hmem e he), h.cr, fun e he => h.eB e (hmem e he), h.cB, by omega⟩, g1.trans g2 (fun k hk _ => by rw [hfp]; simp at hk; simp [hk]) (fun k hk _ => by simp at hk; simp [hk]), (Only3.of g1 (by simpa using fun e => hcb e.symm) (block_lt_of_cell c3)).trans (Only3.set cb _ _)⟩
  · have h9 := h.r.set E.length (by omega) (.pointer none)
    have h8 := h9.shorten (m := E.length) (by omega)
    rw [List.map_append, List.take_set, List.set_eq_of_length_le (by simp), List.take_left' (by simp)] at h8
    exact h8.chg g2 (by rw [hfp]; simpa using hcb)
  · intro i hi
    have := h.e i (by omega)
    rw [List.getElem_append_left hi] at this
    exact (this.chg g1 (by simp; intro e9; exact h.nr _ (hmem _ (List.getElem_mem hi)) (by rw [hfp, e9]; simp))).chg g2 (by simpa using h.nc _ (hmem _ (List.getElem_mem hi)))
  · have := h.nd
    rw [List.map_append, List.nodup_append] at this
    exact this.1

theorem LF_of_SF {cb : Nat} {la : Option Addr} {cl : Nat} {E : List Ent} : ∀ k, k ∈ SF la cl E → k ∈ LF cb la cl E := fun k hk => by
  simp only [SF, List.mem_append] at hk
  simp only [LF, List.mem_cons, List.mem_append]
  exact Or.inr hk
set_option maxRecDepth 20000 in
/-- heap.Push. -/
theorem hpush_any (x : Ent) (s0 : Nat) (B cb : Nat) (la : Option Addr) (cl : Nat) (E : List Ent) (w : World) (h : LineAt w B cb la cl E) (hB : B ≤ w.heap.size) (hx : Blk w x.b 139 (entV x s0)) (hxl : x.bs.length = 256) (hxF : x.b ∉ LF cb la cl E) (hxB : B ≤ x.b) (hsm : E.length < 100000) (hH : Heap E E.length) :
    Calls Tryz.prog 143 #[.iface 191 (.pointer (some ⟨cb, 3, none⟩)), .iface 128 (.pointer (some ⟨x.b, 0, none⟩))] w fun e w' => e = .returned (.tuple #[]) ∧ ∃ la' cl' E', LineAt w' B cb la' cl' E' ∧ E'.Perm (E ++ [x]) ∧ Heap E' E'.length ∧ Chg (x.b :: LF cb la cl E) w w' ∧ (∀ k, k ∈ fp la' cl' → k ∈ fp la cl ∨ w.heap.size ≤ k) ∧ Only3 cb w w' := by
  have hup : UpOk (E ++ [x]) E.length (E ++ [x]).length := by
    have hk : ∀ k, k < E.length → key (E ++ [x]) k = key E k := fun k hk => by
      rw [key_lt (by simp; omega), key_lt hk, List.getElem_append_left hk]
    refine ⟨fun k k0 kn kj => ?_, fun k k0 kn kp _ => ?_⟩
    · simp at kn
      rw [hk _ (by omega), hk _ (by omega)]
      exact hH k k0 (by omega)
    · simp at kn
      omega
  have Hup := mkHid hup
  clear hup
  have m1 := meth_push w ⟨cb, 3, none⟩
  have hel : (E ++ [x]).length = E.length + 1 := by simp
  have HE := mkHid hel
  clear hel
  go_enter Tryz.func143, Tryz.ntmps143
  go_wp2_with (first | (go_at_call 255; refine (wpush_any x s0 B cb la cl E w h hB hx hxl hxF hxB hsm).mono ?_; rintro e w1 ⟨rfl, la1, cl1, h1, g1, f1, q1⟩; have m2 := meth_len cb 3 la1 _ cl1 w1 h1.c3; rw [HE.out] at m2) | (go_at_call 247; refine (len_any la1 (E.length + 1) cl1 w1).mono ?_; rintro e w2 ⟨rfl, rfl⟩) | (go_at_call 176; refine (up_any E.length B cb la1 cl1 (E ++ [x]) w1 h1 (by rw [HE.out]; omega) Hup.out).mono ?_; rintro e w2 ⟨rfl, E', h2, p2, H2, g2⟩))
  go_end0
  rw [← p2.length_eq] at H2
  exact ⟨rfl, la1, cl1, E', h2, p2, H2, g1.trans g2 (fun _ h _ => h) (fun k hk hlt => by
    simp only [SF, List.mem_append, List.map_append, List.map_cons, List.map_nil, List.mem_cons, List.not_mem_nil, or_false] at hk
    simp only [LF, List.mem_cons, List.mem_append]
    rcases hk with hk | hk | hk
    · rcases f1 k hk with h9 | h9
      · exact Or.inr (Or.inr (Or.inl h9))
      · omega
    · exact Or.inr (Or.inr (Or.inr hk))
    · exact Or.inl hk), f1, q1.trans (Only3.of g2 (cb_SF h1) (block_lt_of_cell h1.c3))⟩
set_option maxRecDepth 20000 in
/-- heap.Fix. -/
theorem hfix_any (i : Nat) (B cb : Nat) (la : Option Addr) (cl : Nat) (E : List Ent) (w : World) (h : LineAt w B cb la cl E) (hi : i < E.length) (hD : DownOk E i E.length) :
    Calls Tryz.prog 144 #[.iface 191 (.pointer (some ⟨cb, 3, none⟩)), .int .i64 i] w fun e w' => e = .returned (.tuple #[]) ∧ ∃ E', LineAt w' B cb la cl E' ∧ E'.Perm E ∧ Heap E' E'.length ∧ Chg (SF la cl E) w w' := by
  have hsm := h.sm
  have m1 := meth_len cb 3 la _ cl w h.c3
  have HD := mkHid hD
  clear hD
  go_enter Tryz.func144, Tryz.ntmps144
  go_wp2_with (first | (go_at_call 247; refine (len_any la E.length cl w).mono ?_; rintro e w2 ⟨rfl, rfl⟩) | (go_at_call 177; refine (down_any i E.length B cb la cl E w h (Nat.le_refl _) (by omega) HD.out).mono ?_; rintro e w2 ⟨b, E', rfl, h2, p2, o2, t2, u2, g2⟩; have T2 := mkHid t2; have U2 := mkHid u2; clear t2 u2 o2) | (go_at_call 176; refine (up_any i B cb la cl E' w2 h2 (by rw [p2.length_eq]; exact hi) (p2.length_eq.symm ▸ U2.out (by simpa using ‹(!b) = true›))).mono ?_; rintro e w3 ⟨rfl, E3, h3, p3, H3, g3⟩))
  · go_end0
    exact ⟨rfl, E3, h3, p3.trans p2, by rw [p3.length_eq]; exact H3, g2.trans g3 (fun _ h _ => h) (fun k hk _ => SF_perm p2 k hk)⟩
  · go_end0
    exact ⟨rfl, E', h2, p2, by rw [p2.length_eq]; exact T2.out (by simpa using ‹(!b) = false›), g2⟩
theorem split_last {E : List Ent} {x : Ent} {n : Nat} (hl : E.length = n + 1) (h : E[n]? = some x) : ∃ F, E = F ++ [x] ∧ F.length = n := by
  refine ⟨E.take n, ?_, by simp; omega⟩
  have h1 : n < E.length := by omega
  rw [List.getElem?_eq_getElem h1] at h
  have h2 := List.take_succ_eq_append_getElem h1
  rw [List.take_of_length_le (by omega)] at h2
  have h3 : E[n] = x := by simpa using h
  rw [h3] at h2
  exact h2
theorem heap_front {F : List Ent} {x : Ent} {n : Nat} (hn : n ≤ F.length) (h : Heap (F ++ [x]) n) : Heap F n := by
  intro k k0 kn
  have hk : ∀ k, k < F.length → key (F ++ [x]) k = key F k := fun k hk => by
    rw [key_lt (by simp; omega), key_lt hk, List.getElem_append_left hk]
  have := h k k0 kn
  rwa [hk _ (by omega), hk _ (by omega)] at this
set_option maxRecDepth 20000 in
set_option maxHeartbeats 1000000 in
/-- heap.Pop. -/
theorem hpop_any (B cb : Nat) (la : Option Addr) (cl : Nat) (E : List Ent) (w : World) (h : LineAt w B cb la cl E) (h0 : 0 < E.length) (hH : Heap E E.length) :
    Calls Tryz.prog 175 #[.iface 191 (.pointer (some ⟨cb, 3, none⟩))] w fun e w' => e = .returned (.iface 128 (.pointer (some ⟨E[0].b, 0, none⟩))) ∧ ∃ F, LineAt w' B cb la cl F ∧ (F ++ [E[0]]).Perm E ∧ Heap F F.length ∧ Blk w' E[0].b 139 (entV E[0] F.length) ∧ Chg (LF cb la cl E) w w' ∧ Only3 cb w w' := by
  have hsm := h.sm
  obtain ⟨n, hn⟩ : ∃ n, E.length = n + 1 := ⟨E.length - 1, by omega⟩
  have hn1 : n < E.length := by omega
  have hDn : DownOk (swp E 0 n h0 hn1) 0 n := by
    refine ⟨fun k k0 kn ki kp => ?_, fun k k0 kn kp h9 => by omega⟩
    rw [key_swp _ _ _ _ _ _ (by omega), key_swp _ _ _ _ _ _ (by omega), if_neg (by omega), if_neg kp, if_neg (by omega), if_neg ki]
    exact hH k k0 (by omega)
  have hlast : (swp E 0 n h0 hn1)[n]? = some E[0] := by
    have hl : n < (swp E 0 n h0 hn1).length := by rw [swp_len]; exact hn1
    rw [List.getElem?_eq_getElem hl, swp_get, if_pos rfl]
  have hsl : (swp E 0 n h0 hn1).length = n + 1 := by rw [swp_len]; exact hn
  have hsp := swp_perm E 0 n h0 hn1
  generalize hS : swp E 0 n h0 hn1 = S at hDn hlast hsl hsp
  have HS := mkHid hS
  have HD := mkHid hDn
  have HL := mkHid hlast
  have HN := mkHid hn
  have HSL := mkHid hsl
  have m1 := meth_len cb 3 la _ cl w h.c3
  rw [hn] at m1
  have m2 := meth_swap cb 3 la _ cl w h.c3
  rw [hn] at m2
  have cS := swap_any 0 n B cb la cl E w h h0 hn1
  rw [hS, hn, show ((0 : Nat) : Int) = 0 from rfl] at cS
  have cD : ∀ w2, LineAt w2 B cb la cl S → _ := fun w2 h2 => down_any 0 n B cb la cl S w2 h2 (by omega) (by omega) hDn
  rw [show ((0 : Nat) : Int) = 0 from rfl] at cD
  clear hS hDn hlast hn hsl
  go_enter Tryz.func175, Tryz.ntmps175
  have CD := mkHid cD
  clear cD
  go_wp2_with (first | (go_at_call 247; refine (len_any la (n + 1) cl w).mono ?_; rintro e w2 ⟨rfl, rfl⟩) | (go_at_call 249; refine cS.mono ?_; rintro e w2 ⟨rfl, h2, g2⟩) | (go_at_call 177; refine (CD.out w2 h2).mono ?_; rintro e w3 ⟨b, E', rfl, h3, p3, o3, t3, u3, g3⟩; have T3 := mkHid t3; have U3 := mkHid u3; have O3 := mkHid o3; clear t3 u3 o3; have m3 := meth_pop w3 ⟨cb, 3, none⟩; obtain ⟨F, rfl, hFl⟩ := split_last (p3.length_eq.trans HSL.out) ((O3.out n (Nat.le_refl _)).trans HL.out); have HF := mkHid hFl; clear hFl) | (go_at_call 254; refine (wpop_any E[0] B cb la cl F w3 h3).mono ?_; rintro e w4 ⟨rfl, h4, g4, q4⟩))
  go_ret
  have hFl := HF.out
  have hb3 := h3.e F.length (by simp)
  rw [List.getElem_append_right (Nat.le_refl _)] at hb3
  simp only [Nat.sub_self, List.getElem_cons_zero] at hb3
  have hm0 : E[0] ∈ E := List.getElem_mem h0
  have hHn : Heap (F ++ [E[0]]) n := by
    cases hb : b
    · have := U3.out hb
      exact fun k k0 kn => this.1 k k0 kn (by omega)
    · exact T3.out hb
  refine ⟨rfl, F, h4, p3.trans hsp, by rw [hFl]; exact heap_front (by omega) hHn, hb3.chg g4 (by simp only [List.mem_cons, not_or]; exact ⟨h.nc _ hm0, h.nr _ hm0⟩), ?_, ((Only3.of g2 (cb_SF h) (block_lt_of_cell h.c3)).trans (Only3.of g3 (fun hk => cb_SF h (SF_perm hsp _ hk)) (block_lt_of_cell h2.c3))).trans q4⟩
  have k1 : Chg (LF cb la cl E) w w3 := Chg.trans g2 g3 (fun k hk _ => LF_of_SF k hk) (fun k hk _ => LF_of_SF k (SF_perm hsp k hk))
  exact k1.trans g4 (fun _ h _ => h) (fun k hk _ => by
    simp only [List.mem_cons] at hk
    simp only [LF, List.mem_cons, List.mem_append]
    exact hk.imp id Or.inl)
end Go.Proofs.YtoeijomelabbfaaGreatDoor

/- The cache in memory: its struct, its map, its line. -/
namespace Go.Proofs.YtoeijomelabbfaaGreatDoor
set_option maxRecDepth 200000
open Go.RowKit Go.Maps
set_option linter.unusedVariables false
set_option linter.unusedSimpArgs false
attribute [local go_sem ↓] Go.wp_at_zero Go.wp_at_succ

def ptrR : Value → Option (DataW Unit × List MemPlace)
  | .pointer (some ⟨b, 0, none⟩) => some (.lit (.int .u64 b), [])
  | .pointer none => some (.nil, [])
  | _ => none
theorem ptrR_mk (b : Nat) : ptrR (.pointer (some ⟨b, 0, none⟩)) = some (.lit (.int .u64 b), []) := rfl
theorem ptrR_inv {v : Value} {ps : List MemPlace} {b : Nat} (h : ptrR v = some (.lit (.int .u64 b), ps)) : v = .pointer (some ⟨b, 0, none⟩) := by
  unfold ptrR at h
  split at h
  · rename_i x
    simp at h
    rw [show x = b by omega]
  · simp at h
  · cases h
/-- The map of a cache: the blocks of E by their places. -/
structure HeldAt (w : World) (mb : Nat) (E : List Ent) (D : DataW Unit) : Prop where
  o : w.ownsMap Tryz.prog 3 ptrR mb E.length D
  s : Maps.size D = E.length
  y : ∀ e ∈ E, Maps.has D (.int .i64 e.pl) = true ∧ D.atKey (.int .i64 e.pl) .nil = .lit (.int .u64 e.b)
  n : ∀ z : Int, (∀ e ∈ E, (e.pl : Int) ≠ z) → Maps.has D (.int .i64 z) = false
theorem HeldAt.chg {w w' : World} {mb : Nat} {E : List Ent} {D : DataW Unit} {S : List Nat} (h : HeldAt w mb E D) (c : Chg S w w') (hn : mb ∉ S) : HeldAt w' mb E D := by
  refine ⟨?_, h.s, h.y, h.n⟩
  have hlt := h.o.lt
  obtain ⟨es, clock, hb, F, hs, hD⟩ := h.o
  exact ⟨es, clock, (c.block mb hlt hn).trans hb, F, hs, hD⟩
theorem HeldAt.perm {w : World} {mb : Nat} {E E' : List Ent} {D : DataW Unit} (h : HeldAt w mb E D) (p : E'.Perm E) : HeldAt w mb E' D :=
  ⟨by rw [p.length_eq]; exact h.o, by rw [p.length_eq]; exact h.s, fun e he => h.y e (p.mem_iff.1 he), fun z hz => h.n z fun e he => hz e (p.mem_iff.2 he)⟩
/-- What is told by the map: the places and the blocks. -/
theorem HeldAt.alike {w : World} {mb : Nat} {E E' : List Ent} {D : DataW Unit} (h : HeldAt w mb E D) (hl : E'.map (fun e => (e.pl, e.b)) = E.map (fun e => (e.pl, e.b))) : HeldAt w mb E' D := by
  have hlen : E'.length = E.length := by simpa using congrArg List.length hl
  refine ⟨by rw [hlen]; exact h.o, by rw [hlen]; exact h.s, fun e he => ?_, fun z hz => h.n z fun e he => ?_⟩
  · have : (e.pl, e.b) ∈ E.map (fun e => (e.pl, e.b)) := by rw [← hl]; exact List.mem_map.2 ⟨e, he, rfl⟩
    obtain ⟨e2, he2, heq⟩ := List.mem_map.1 this
    simp at heq
    rw [← heq.1, ← heq.2]
    exact h.y e2 he2
  · have : (e.pl, e.b) ∈ E'.map (fun e => (e.pl, e.b)) := by rw [hl]; exact List.mem_map.2 ⟨e, he, rfl⟩
    obtain ⟨e2, he2, heq⟩ := List.mem_map.1 this
    simp at heq
    rw [← heq.1]
    exact hz e2 he2
/-- A cache over the disk in block db: E are its blocks in the heap's order, L in the order of their last uses. -/
structure CacheAt (w : World) (B cb mb : Nat) (la : Option Addr) (cl : Nat) (E L : List Ent) (most uses db : Nat) : Prop where
  c0 : w.cell? ⟨cb, 0, none⟩ = some (.pointer (some ⟨db, 0, none⟩))
  c1 : w.cell? ⟨cb, 1, none⟩ = some (.int .i64 most)
  c2 : w.cell? ⟨cb, 2, none⟩ = some (.map (some mb))
  c4 : w.cell? ⟨cb, 4, none⟩ = some (.int .u64 uses)
  f4 : w.frozen? ⟨cb, 4, none⟩ = false
  ln : LineAt w B cb la cl E
  hp : Heap E E.length
  hd : ∃ D, HeldAt w mb E D
  pm : E.Perm L
  so : L.Pairwise (fun a b => a.used < b.used)
  us : ∀ e ∈ L, e.used ≤ uses
  np : (L.map Ent.pl).Nodup
  pl : ∀ e ∈ L, e.pl < 1024
  le : L.length ≤ most
  mo : 1 ≤ most ∧ most ≤ 1024
  mF : mb ∉ LF cb la cl E
  mB : B ≤ mb
/-- The blocks of a cache. -/
def CF (cb mb : Nat) (la : Option Addr) (cl : Nat) (E : List Ent) : List Nat := mb :: LF cb la cl E
theorem CacheAt.lt {w : World} {B cb mb : Nat} {la : Option Addr} {cl : Nat} {E L : List Ent} {most uses db : Nat} (h : CacheAt w B cb mb la cl E L most uses db) : ∀ k, k ∈ CF cb mb la cl E → B ≤ k ∧ k < w.heap.size := by
  intro k hk
  simp only [CF, List.mem_cons] at hk
  rcases hk with rfl | hk
  · obtain ⟨D, hD⟩ := h.hd
    exact ⟨h.mB, hD.o.lt⟩
  · exact h.ln.lt k hk
theorem CacheAt.chg {w w' : World} {B cb mb : Nat} {la : Option Addr} {cl : Nat} {E L : List Ent} {most uses db : Nat} {S : List Nat} (h : CacheAt w B cb mb la cl E L most uses db) (c : Chg S w w') (hn : ∀ k, k ∈ CF cb mb la cl E → k ∉ S) : CacheAt w' B cb mb la cl E L most uses db := by
  have hcb : cb ∉ S := hn cb (by simp [CF, LF])
  obtain ⟨D, hD⟩ := h.hd
  exact ⟨c.cellv h.c0 hcb, c.cellv h.c1 hcb, c.cellv h.c2 hcb, c.cellv h.c4 hcb, (c.frozen (p := ⟨cb, 4, none⟩) (show cb < w.heap.size from block_lt_of_cell h.c0) hcb).trans h.f4,
    h.ln.chg c (fun k hk => hn k (by simp [CF, hk])), h.hp, ⟨D, hD.chg c (hn mb (by simp [CF]))⟩, h.pm, h.so, h.us, h.np, h.pl, h.le, h.mo, h.mF, h.mB⟩
theorem CacheAt.keep {w w' : World} {B cb mb : Nat} {la : Option Addr} {cl : Nat} {E L : List Ent} {most uses db : Nat} (h : CacheAt w B cb mb la cl E L most uses db) (c : Chg [] w w') : CacheAt w' B cb mb la cl E L most uses db := h.chg c (by simp)

theorem cmade_yes (cb db : Nat) (w : World) (c0 : w.cell? ⟨cb, 0, none⟩ = some (.pointer (some ⟨db, 0, none⟩))) :
    Calls Tryz.prog 151 #[.pointer (some ⟨cb, 0, none⟩)] w fun e w' => e = .returned (.bool true) ∧ w = w' := by
  go_enter Tryz.func151, Tryz.ntmps151
  go_wp2
  go_ret
  exact ⟨rfl, rfl⟩
end Go.Proofs.YtoeijomelabbfaaGreatDoor

/- The cache: what a call is told first; how many blocks are held; a use. -/
namespace Go.Proofs.YtoeijomelabbfaaGreatDoor
set_option maxRecDepth 200000
open Go.RowKit Go.Maps
set_option linter.unusedVariables false
set_option linter.unusedSimpArgs false
attribute [local go_sem ↓] Go.wp_at_zero Go.wp_at_succ

section
variable (cb db : Nat) (B : Nat) (g : DG) (fa : Option Addr) (cf : Nat) (st : RS) (w : World) (h : DevAt w B db g fa cf st) (c0 : w.cell? ⟨cb, 0, none⟩ = some (.pointer (some ⟨db, 0, none⟩)))
include h c0
theorem cpowered_any : Calls Tryz.prog 141 #[.pointer (some ⟨cb, 0, none⟩)] w fun e w' => e = .returned (.int .i64 (if st.gone then 9 else 0)) ∧ w = w' := by
  cases hg : st.gone
  all_goals
    go_enter Tryz.func141, Tryz.ntmps141
    go_wp2_with (first | (go_at_call 151; refine (cmade_yes cb db w c0).mono ?_; rintro e w' ⟨rfl, rfl⟩) | (go_at_call 60; refine (off_any B db g fa cf st w h).mono ?_; rw [hg]; rintro e w' ⟨rfl, rfl⟩))
    go_ret
    exact ⟨rfl, rfl⟩
theorem casked_any (z : Int) (hW : Whole st) : Calls Tryz.prog 77 #[.pointer (some ⟨cb, 0, none⟩), .int .i64 z] w fun e w' => e = .returned (.int .i64 (whyN st z)) ∧ w = w' := by
  unfold whyN
  cases hg : st.gone
  · simp only [Bool.false_eq_true, if_false]
    by_cases h1 : z < 0
    · rw [if_pos (Or.inl h1)]
      have h1' : decide (z < 0) = true := decide_eq_true h1
      go_enter Tryz.func77, Tryz.ntmps77
      go_wp2_with (first | (go_at_call 141; refine (cpowered_any cb db B g fa cf st w h c0).mono ?_; rw [hg]; rintro e w' ⟨rfl, rfl⟩) | (go_at_call 48; refine (blocks_any B db g fa cf st w h hW).mono ?_; rintro e w' ⟨rfl, rfl⟩))
      go_ret
      exact ⟨rfl, rfl⟩
    · have h1' : decide (z < 0) = false := decide_eq_false h1
      by_cases h2 : (st.count : Int) ≤ z
      · rw [if_pos (Or.inr h2)]
        have h2' : decide ((st.count : Int) ≤ z) = true := decide_eq_true h2
        go_enter Tryz.func77, Tryz.ntmps77
        go_wp2_with (first | (go_at_call 141; refine (cpowered_any cb db B g fa cf st w h c0).mono ?_; rw [hg]; rintro e w' ⟨rfl, rfl⟩) | (go_at_call 48; refine (blocks_any B db g fa cf st w h hW).mono ?_; rintro e w' ⟨rfl, rfl⟩))
        go_ret
        exact ⟨rfl, rfl⟩
      · rw [if_neg (by omega)]
        have h2' : decide ((st.count : Int) ≤ z) = false := decide_eq_false h2
        go_enter Tryz.func77, Tryz.ntmps77
        go_wp2_with (first | (go_at_call 141; refine (cpowered_any cb db B g fa cf st w h c0).mono ?_; rw [hg]; rintro e w' ⟨rfl, rfl⟩) | (go_at_call 48; refine (blocks_any B db g fa cf st w h hW).mono ?_; rintro e w' ⟨rfl, rfl⟩))
        go_ret
        exact ⟨rfl, rfl⟩
  · simp only [if_true]
    go_enter Tryz.func77, Tryz.ntmps77
    go_wp2_with (first | (go_at_call 141; refine (cpowered_any cb db B g fa cf st w h c0).mono ?_; rw [hg]; rintro e w' ⟨rfl, rfl⟩))
    go_ret
    exact ⟨rfl, rfl⟩
end
section
variable (B cb mb : Nat) (la : Option Addr) (cl : Nat) (E L : List Ent) (most uses db : Nat) (w : World) (h : CacheAt w B cb mb la cl E L most uses db)
include h
end
theorem LineAt.cb {w w' : World} {B cb : Nat} {la : Option Addr} {cl : Nat} {E : List Ent} (h : LineAt w B cb la cl E) (c : Chg [cb] w w') (e3 : w'.cell? ⟨cb, 3, none⟩ = w.cell? ⟨cb, 3, none⟩) (e4 : w'.frozen? ⟨cb, 3, none⟩ = w.frozen? ⟨cb, 3, none⟩) : LineAt w' B cb la cl E :=
  ⟨e3.trans h.c3, e4.trans h.f3, h.r.chg c (fun k hk => by simp; rintro rfl; exact h.cr hk), fun i hi => (h.e i hi).chg c (by simpa using h.nc _ (List.getElem_mem hi)), h.bl, h.nd, h.nc, h.nr, h.cr, h.eB, h.cB, h.sm⟩
theorem set_alike {E : List Ent} {i : Nat} (hi : i < E.length) {x : Ent} {β : Type} (f : Ent → β) (hx : f x = f E[i]) : (E.set i x).map f = E.map f := by
  rw [List.map_set, hx]
  have : f E[i] = (E.map f)[i]'(by simpa using hi) := by simp
  rw [this, List.set_getElem_self]
theorem LineAt.upd {w w' : World} {B cb : Nat} {la : Option Addr} {cl : Nat} {E : List Ent} (h : LineAt w B cb la cl E) {i : Nat} (hi : i < E.length) {x : Ent} (hb : x.b = E[i].b) (hl : x.bs.length = 256) (c : Chg [E[i].b] w w') (hx : Blk w' E[i].b 139 (entV x i)) : LineAt w' B cb la cl (E.set i x) := by
  have hm := List.getElem_mem hi
  have mem : ∀ e ∈ E.set i x, e ∈ E ∨ e = x := fun e he => List.mem_or_eq_of_mem_set he
  refine ⟨by rw [List.length_set]; exact c.cellv h.c3 (by simpa using fun e => h.nc _ hm e.symm), (c.frozen (p := ⟨cb, 3, none⟩) (block_lt_of_cell h.c3) (by simpa using fun e => h.nc _ hm e.symm)).trans h.f3, ?_, ?_, ?_, by rw [set_alike hi Ent.b hb]; exact h.nd, ?_, ?_, h.cr, ?_, h.cB, by rw [List.length_set]; exact h.sm⟩
  · rw [List.length_set, set_alike hi ptrV (by simp [ptrV, hb])]
    exact h.r.chg c (fun k hk => by simp; rintro rfl; exact h.nr _ hm hk)
  · intro k hk
    rw [List.length_set] at hk
    rw [List.getElem_set]
    split
    · rename_i hik
      subst hik
      rw [hb]; exact hx
    · rename_i hik
      exact (h.e k hk).chg c (by simp; exact fun e => hik ((bs_inj h.nd hi hk).2 e.symm))
  · intro e he
    rcases mem e he with he | rfl
    · exact h.bl e he
    · exact hl
  · intro e he
    rcases mem e he with he | rfl
    · exact h.nc e he
    · rw [hb]; exact h.nc _ hm
  · intro e he
    rcases mem e he with he | rfl
    · exact h.nr e he
    · rw [hb]; exact h.nr _ hm
  · intro e he
    rcases mem e he with he | rfl
    · exact h.eB e he
    · rw [hb]; exact h.eB _ hm
theorem key_set {E : List Ent} {i : Nat} (hi : i < E.length) (x : Ent) (k : Nat) (hk : k < E.length) : key (E.set i x) k = if k = i then x.used else key E k := by
  rw [key_lt (by rw [List.length_set]; exact hk), List.getElem_set, key_lt hk]
  by_cases h : i = k
  · rw [if_pos h, if_pos h.symm]
  · rw [if_neg h, if_neg (fun e => h e.symm)]
theorem down_set {E : List Ent} {i : Nat} (hi : i < E.length) (x : Ent) (h : Heap E E.length) : DownOk (E.set i x) i E.length := by
  refine ⟨fun k k0 kn ki kp => ?_, fun k k0 kn kp i0 => ?_⟩
  · rw [key_set hi x _ (by omega), key_set hi x _ kn, if_neg ki, if_neg kp]
    exact h k k0 kn
  · rw [key_set hi x _ (by omega), key_set hi x _ kn, if_neg (by omega), if_neg (by omega)]
    have h1 := h k k0 kn
    rw [kp] at h1
    exact Nat.le_trans (h i i0 hi) h1
/-- A block, used as the u-th. -/
def Ent.now (e : Ent) (u : Nat) : Ent := ⟨e.b, e.pl, e.bs, e.dirty, u⟩
/-- A block as it is used now: behind all others. -/
def used (L : List Ent) (x : Ent) (u : Nat) : List Ent := L.filter (fun e => e.b != x.b) ++ [x.now u]
theorem nodup_of_b {E : List Ent} (h : (E.map Ent.b).Nodup) : E.Nodup := by
  have := List.pairwise_map.1 h
  exact this.imp fun hne e => hne (by rw [e])
theorem b_inj {E : List Ent} (h : (E.map Ent.b).Nodup) {x y : Ent} (hx : x ∈ E) (hy : y ∈ E) (e : x.b = y.b) : x = y := by
  obtain ⟨i, hi, rfl⟩ := List.getElem_of_mem hx
  obtain ⟨j, hj, rfl⟩ := List.getElem_of_mem hy
  obtain rfl := (bs_inj h hi hj).2 e
  rfl
theorem set_used {E L : List Ent} (hnd : (E.map Ent.b).Nodup) (p : E.Perm L) {i : Nat} (hi : i < E.length) (u : Nat) : (E.set i (E[i].now u)).Perm (used L E[i] u) := by
  have hndL : (L.map Ent.b).Nodup := (p.map _).nodup_iff.1 hnd
  have n1 : (E.set i (E[i].now u)).Nodup := nodup_of_b (by rw [set_alike hi (x := E[i].now u) Ent.b rfl]; exact hnd)
  have n2 : (used L E[i] u).Nodup := by
    refine List.nodup_append.2 ⟨(nodup_of_b hndL).filter _, by simp, fun a ha b hb => ?_⟩
    simp at hb
    have := (List.mem_filter.1 ha).2
    simp at this
    rintro rfl
    rw [hb] at this
    exact this rfl
  refine (List.perm_ext_iff_of_nodup n1 n2).2 fun e => ?_
  unfold used
  rw [List.mem_append, List.mem_filter, List.mem_singleton]
  constructor
  · intro he
    obtain ⟨k, hk, rfl⟩ := List.getElem_of_mem he
    rw [List.length_set] at hk
    rw [List.getElem_set]
    split
    · exact Or.inr rfl
    · rename_i hik
      exact Or.inl ⟨p.mem_iff.1 (List.getElem_mem hk), by simp; exact fun e => hik ((bs_inj hnd hi hk).2 e.symm)⟩
  · rintro (⟨he, hb⟩ | rfl)
    · simp at hb
      obtain ⟨k, hk, rfl⟩ := List.getElem_of_mem (p.mem_iff.2 he)
      have hki : i ≠ k := fun e => hb (by subst e; rfl)
      have : (E.set i (E[i].now u))[k]'(by rw [List.length_set]; exact hk) = E[k] := by rw [List.getElem_set, if_neg hki]
      rw [← this]
      exact List.getElem_mem (show k < (E.set i (E[i].now u)).length by rw [List.length_set]; exact hk)
    · exact List.mem_set hi _
theorem LF_alike {cb : Nat} {la : Option Addr} {cl : Nat} {E E' : List Ent} (h : (E'.map Ent.b).Perm (E.map Ent.b)) : ∀ k, k ∈ LF cb la cl E' → k ∈ LF cb la cl E := by
  intro k hk
  simp only [LF, List.mem_cons, List.mem_append] at hk ⊢
  exact hk.imp id (Or.imp id h.mem_iff.1)
theorem cuse_any (i : Nat) (B cb mb : Nat) (la : Option Addr) (cl : Nat) (E L : List Ent) (most uses db : Nat) (w : World) (h : CacheAt w B cb mb la cl E L most uses db) (hi : i < E.length) (hu : uses < 9223372036854775807) :
    Calls Tryz.prog 79 #[.pointer (some ⟨cb, 0, none⟩), .pointer (some ⟨E[i].b, 0, none⟩)] w fun e w' => e = .returned (.tuple #[]) ∧ ∃ E', CacheAt w' B cb mb la cl E' (used L E[i] (uses + 1)) most (uses + 1) db ∧ Chg (LF cb la cl E) w w' := by
  have c4 := h.c4
  have f4 := h.f4
  have he := h.ln.e i hi
  have hm := List.getElem_mem hi
  have hl := h.ln.bl _ hm
  have u1 := he.cell 258 _ (entV_used hl)
  have u2 := he.frozen 258
  have hbc := h.ln.nc _ hm
  have g1 : Chg [cb] w (w.setCell ⟨cb, 4, none⟩ (.int .u64 ((uses : Int) + 1))) := Chg.setCell w ⟨cb, 4, none⟩ _
  have g2 : Chg [E[i].b] (w.setCell ⟨cb, 4, none⟩ (.int .u64 ((uses : Int) + 1))) ((w.setCell ⟨cb, 4, none⟩ (.int .u64 ((uses : Int) + 1))).setCell ⟨E[i].b, 258, none⟩ (.int .u64 ((uses : Int) + 1))) := Chg.setCell _ ⟨E[i].b, 258, none⟩ _
  have hln1 := h.ln.cb g1 (by rw [World.cell?_setCell_other _ _ _ _ (by simp)]) (by rw [World.frozen?_setCell])
  have hx2 : Blk ((w.setCell ⟨cb, 4, none⟩ (.int .u64 ((uses : Int) + 1))).setCell ⟨E[i].b, 258, none⟩ (.int .u64 ((uses : Int) + 1))) E[i].b 139 (entV (E[i].now (uses + 1)) i) := by
    have := (hln1.e i hi).set1 258 (.int .u64 ((uses + 1 : Nat) : Int))
    rw [entV_setUsed hl] at this
    exact this
  have hln2 := hln1.upd hi (x := (E[i].now (uses + 1))) rfl hl g2 hx2
  have s2 := hx2.cell 259 _ (entV_spot (e := (E[i].now (uses + 1))) hl)
  go_enter Tryz.func79, Tryz.ntmps79
  go_wp2
  generalize hW : (w.setCell ⟨cb, 4, none⟩ (.int .u64 ((uses : Int) + 1))).setCell ⟨E[i].b, 258, none⟩ (.int .u64 ((uses : Int) + 1)) = w2 at *
  have HW := mkHid hW
  clear hW u1 u2 c4 f4 hx2
  go_region_with (first | (go_at_call 144; refine (hfix_any i B cb la cl (E.set i (E[i].now (uses + 1))) _ (hln2.keep (by first | exact Chg.refl _ _ | exact Chg.drew _ _)) (by rw [List.length_set]; exact hi) (by rw [List.length_set]; exact down_set hi _ h.hp)).mono ?_; rintro e w3 ⟨rfl, E', h3, p3, H3, g3⟩))
  go_end0
  have hset := set_alike hi (x := (E[i].now (uses + 1))) Ent.b rfl
  have hpE : (E'.map Ent.b).Perm (E.map Ent.b) := by rw [← hset]; exact p3.map _
  have hP : E'.Perm (used L E[i] (uses + 1)) := p3.trans (set_used h.ln.nd h.pm hi (uses + 1))
  have g13 : Chg (SF la cl E) (w.setCell ⟨cb, 4, none⟩ (.int .u64 ((uses : Int) + 1))) w3 := g2.trans ((Chg.drew [] w2).trans g3 (fun _ h _ => by simp at h) (fun _ h _ => h)) (fun k hk _ => by
    simp at hk
    simp only [SF, List.mem_append, List.mem_map]
    exact Or.inr ⟨_, hm, hk.symm⟩) (fun k hk _ => by simp only [SF, List.mem_append] at hk ⊢; rw [hset] at hk; exact hk)
  have hcbS : cb ∉ SF la cl E := fun hk => by
    simp only [SF, List.mem_append, List.mem_map] at hk
    rcases hk with hk | ⟨e, he, e2⟩
    · exact h.ln.cr hk
    · exact h.ln.nc e he e2
  have hmbS : mb ∉ SF la cl E := fun hk => h.mF (LF_of_SF _ hk)
  have hmc : mb ≠ cb := fun e => h.mF (by simp [LF, e])
  have hcell : ∀ j v, j ≠ 4 → w.cell? ⟨cb, j, none⟩ = some v → w3.cell? ⟨cb, j, none⟩ = some v := fun j v hj hv => g13.cellv (set_other' hv hj) hcbS
  have hlen : (used L E[i] (uses + 1)).length = L.length := by rw [← hP.length_eq, p3.length_eq, List.length_set, h.pm.length_eq]
  have hmem : ∀ e ∈ used L E[i] (uses + 1), e ∈ L ∨ e = (E[i].now (uses + 1)) := fun e he => by
    unfold used at he
    rw [List.mem_append, List.mem_filter, List.mem_singleton] at he
    exact he.imp And.left id
  obtain ⟨D, hD⟩ := h.hd
  have hD3 := (hD.chg g1 (by simpa using hmc)).chg g13 hmbS
  refine ⟨rfl, E', ⟨hcell 0 _ (by decide) h.c0, hcell 1 _ (by decide) h.c1, hcell 2 _ (by decide) h.c2, ?_, ?_, h3, H3, ⟨D, (hD3.alike (set_alike hi (x := E[i].now (uses + 1)) (fun e => (e.pl, e.b)) rfl)).perm p3⟩, hP, ?_, ?_, ?_, ?_, by rw [hlen]; exact h.le, h.mo, fun hk => h.mF (LF_alike hpE _ hk), h.mB⟩, ?_⟩
  · exact g13.cellv (World.cell?_setCell_same _ _ _ h.c4) hcbS
  · exact (g13.frozen (p := ⟨cb, 4, none⟩) (by rw [show (w.setCell ⟨cb, 4, none⟩ (.int .u64 ((uses : Int) + 1))).heap.size = w.heap.size by simp]; exact block_lt_of_cell h.c4) hcbS).trans (by rw [World.frozen?_setCell]; exact h.f4)
  · unfold used
    refine List.pairwise_append.2 ⟨h.so.filter _, by simp, fun a ha b hb => ?_⟩
    simp at hb
    have := h.us a (List.mem_filter.1 ha).1
    rw [hb]
    show a.used < uses + 1
    omega
  · intro e he
    rcases hmem e he with he | rfl
    · have := h.us e he; omega
    · exact Nat.le_refl _
  · have : ((used L E[i] (uses + 1)).map Ent.pl).Perm (L.map Ent.pl) := by
      refine (hP.symm.map _).trans ?_
      refine (p3.map _).trans ?_
      rw [set_alike hi (x := E[i].now (uses + 1)) Ent.pl rfl]
      exact h.pm.map _
    exact this.nodup_iff.2 h.np
  · intro e he
    rcases hmem e he with he | rfl
    · exact h.pl e he
    · exact h.pl E[i] (h.pm.mem_iff.1 hm)
  · exact g1.trans g13 (fun k hk _ => by simp at hk; simp [LF, hk]) (fun k hk _ => LF_of_SF k hk)
end Go.Proofs.YtoeijomelabbfaaGreatDoor
