/- heap.Push, heap.Fix, heap.Pop over the waiting line. -/
import Derived.Test.YtdmhcbbakgljoaaJc
namespace Go.Proofs.Ytdmhcbbakgljoaa
open Go.RowKit
set_option linter.unusedVariables false
set_option linter.unusedSimpArgs false
attribute [local go_sem ↓] Go.wp_at_zero Go.wp_at_succ

theorem eltL : Elt Try.prog 56 62 8 := Elt.mk (z := .pointer none) Try.underlying56 (by kernel_rfl) (by kernel_rfl)
theorem Room.shorten {w : World} {B : Nat} {ao : Option Addr} {n c : Nat} {xs : List Value} (h : Room w B ao n c xs) {m : Nat} (hm : m ≤ n) : Room w B ao m c (xs.take m) := by
  have h1 := h.len
  have h2 := h.le
  refine ⟨by simp; omega, by omega, h.max, fun hc => ?_⟩
  obtain ⟨b, o, e, hB, hs, hv⟩ := h.at_ hc
  refine ⟨b, o, e, hB, hs, fun j u hu => hv j u ?_⟩
  rw [List.getElem?_take] at hu
  split at hu
  · exact hu
  · cases hu
/-- Of the struct in cb its line alone may have turned. -/
def Only3 (cb : Nat) (w w' : World) : Prop := ∀ j, j ≠ 3 → w'.cell? ⟨cb, j, none⟩ = w.cell? ⟨cb, j, none⟩ ∧ w'.frozen? ⟨cb, j, none⟩ = w.frozen? ⟨cb, j, none⟩
theorem Only3.of {cb : Nat} {S : List Nat} {w w' : World} (c : Chg S w w') (hcb : cb ∉ S) (hlt : cb < w.heap.size) : Only3 cb w w' := fun j _ => ⟨c.cell (p := ⟨cb, j, none⟩) hlt hcb, c.frozen (p := ⟨cb, j, none⟩) hlt hcb⟩
theorem Only3.set (cb : Nat) (w : World) (v : Value) : Only3 cb w (w.setCell ⟨cb, 3, none⟩ v) := fun j hj => ⟨by rw [World.cell?_setCell_other _ _ _ _ (by simp [hj])], by rw [World.frozen?_setCell]⟩
theorem Only3.trans {cb : Nat} {a b c : World} (h : Only3 cb a b) (g : Only3 cb b c) : Only3 cb a c := fun j hj => ⟨(g j hj).1.trans (h j hj).1, (g j hj).2.trans (h j hj).2⟩
theorem cb_SF {w : World} {B cb : Nat} {la : Option Addr} {cl : Nat} {E : List Ent} (h : LineAt w B cb la cl E) : cb ∉ SF la cl E := fun hk => by
  simp only [SF, List.mem_append, List.mem_map] at hk
  rcases hk with hk | ⟨e, he, e2⟩
  · exact h.cr hk
  · exact h.nc e he e2
theorem assert_block (p : Addr) (w : World) : (Instr.typeAssert (.iface 62 (.pointer (some p))) 20 62 false).run Try.prog w = .ok (.pointer (some p)) w := by kernel_rfl
set_option maxRecDepth 20000 in
/-- One more block behind the line. -/
theorem wpush_any (x : Ent) (s0 : Nat) (B cb : Nat) (la : Option Addr) (cl : Nat) (E : List Ent) (w : World) (h : LineAt w B cb la cl E) (hB : B ≤ w.heap.size) (hx : Blk w x.b 68 (entV x s0)) (hxl : x.bs.length = 256) (hxF : x.b ∉ LF cb la cl E) (hxB : B ≤ x.b) (hsm : E.length < 100000) :
    Calls Try.prog 99 #[.pointer (some ⟨cb, 3, none⟩), .iface 62 (.pointer (some ⟨x.b, 0, none⟩))] w fun e w' => e = .returned (.tuple #[]) ∧ ∃ la' cl', LineAt w' B cb la' cl' (E ++ [x]) ∧ Chg (x.b :: LF cb la cl E) w w' ∧ (∀ k, k ∈ fp la' cl' → k ∈ fp la cl ∨ w.heap.size ≤ k) ∧ Only3 cb w w' := by
  have c3 := h.c3
  have f3 := h.f3
  have ux := hx.cell 259 _ (entV_spot hxl)
  have gx := hx.frozen 259
  have ta := assert_block ⟨x.b, 0, none⟩
  go_enter Try.func99, Try.ntmps99
  have hxcb : x.b ≠ cb := fun e => hxF (by simp [LF, e])
  have hxfp : x.b ∉ fp la cl := fun hm => hxF (by simp [LF, hm])
  have hxE : ∀ e ∈ E, e.b ≠ x.b := fun e he h9 => hxF (by simp only [LF, List.mem_cons, List.mem_append, List.mem_map]; exact Or.inr (Or.inr ⟨e, he, h9⟩))
  have g1 : Chg [x.b] w (w.setCell ⟨x.b, 259, none⟩ (.int .i64 E.length)) := Chg.setCell w ⟨x.b, 259, none⟩ _
  have hR := h.r.chg g1 (fun k hk hm => by simp at hm; rw [hm] at hk; exact hxfp hk)
  have hx1 := hx.set1 259 (.int .i64 E.length)
  rw [entV_setSpot hxl] at hx1
  have c31 := g1.cellv c3 (by simpa using fun e => hxcb e.symm)
  have f31 := (g1.frozen (p := ⟨cb, 3, none⟩) (block_lt_of_cell c3) (by simpa using fun e => hxcb e.symm)).trans f3
  have hE1 : ∀ i (hi : i < E.length), Blk (w.setCell ⟨x.b, 259, none⟩ (.int .i64 E.length)) E[i].b 68 (entV E[i] i) := fun i hi => (h.e i hi).chg g1 (by simpa using hxE _ (List.getElem_mem hi))
  have hB1 : B ≤ (w.setCell ⟨x.b, 259, none⟩ (.int .i64 E.length)).heap.size := by simpa using hB
  have HE := mkHid hE1
  have HZ := mkHid (show (w.setCell ⟨x.b, 259, none⟩ (.int .i64 E.length)).heap.size = w.heap.size by simp)
  clear hE1
  go_wp2_with (at_builtin; refine wpList_append_1 _ rfl (.tmp 17) (.tmp 19) 56 rfl 62 8 eltL B la E.length cl (E.map ptrV) rfl hR hB1 (ptrV x) 1 (by rw [HZ.out]; rfl) rfl (by unfold maxLen; omega) (by omega) ?_; intro la' cl' w3 hR3 hg3 hf3; have c33 := hg3.cellv c31 h.cr; have f33 := (hg3.frozen (p := ⟨cb, 3, none⟩) (block_lt_of_cell c31) h.cr).trans f31)
  go_end0
  have hE1 := HE.out
  have hz := HZ.out
  have g2 : Chg (x.b :: LF cb la cl E) w w3 := g1.trans hg3 (fun k hk _ => by simp at hk; simp [hk]) (fun k hk _ => by simp [LF, hk])
  have g4 : Chg [cb] w3 (w3.setCell ⟨cb, 3, none⟩ (.slice la' (E.length + 1) cl')) := Chg.setCell w3 ⟨cb, 3, none⟩ _
  have hx3 := hx1.chg hg3 hxfp
  have hcbw : cb < w.heap.size := block_lt_of_cell c3
  have hfn : ∀ k, k ∈ fp la' cl' → k ∈ fp la cl ∨ w.heap.size ≤ k := fun k hk => by
    rcases hf3 with h9 | ⟨q, h9, h10⟩
    · left; rw [← h9]; exact hk
    · right; rw [h10] at hk; simp at hk; rw [hz] at h9; omega
  have hold : ∀ k, k < w.heap.size → k ∉ fp la cl → k ∉ fp la' cl' := fun k h1 h2 h3 => (hfn k h3).elim h2 (fun h4 => by omega)
  have hel : (E ++ [x]).length = E.length + 1 := by simp
  refine ⟨rfl, la', cl', ⟨?_, ?_, ?_, ?_, ?_, ?_, ?_, ?_, hold cb hcbw h.cr, ?_, h.cB, by rw [hel]; omega⟩, g2.trans g4 (fun _ h _ => h) (fun k hk _ => by simp at hk; simp [LF, hk]), hfn, (((Only3.of g1 (by simpa using fun e => hxcb e.symm) hcbw).trans (Only3.of hg3 h.cr (by rw [hz]; exact hcbw))).trans (Only3.set cb w3 _))⟩
  · rw [hel]; exact World.cell?_setCell_same _ _ _ c33
  · rw [World.frozen?_setCell]; exact f33
  · rw [hel, List.map_append]
    exact hR3.chg g4 (fun k hk => by simp; rintro rfl; exact hold k hcbw h.cr hk)
  · intro i hi
    rw [hel] at hi
    by_cases hlt : i < E.length
    · rw [List.getElem_append_left hlt]
      exact ((hE1 i hlt).chg hg3 (h.nr _ (List.getElem_mem hlt))).chg g4 (by simpa using h.nc _ (List.getElem_mem hlt))
    · have : i = E.length := by omega
      subst this
      rw [List.getElem_append_right (Nat.le_refl _)]
      simp only [Nat.sub_self, List.getElem_cons_zero]
      exact hx3.chg g4 (by simpa using hxcb)
  · intro e he
    rcases List.mem_append.1 he with he | he
    · exact h.bl e he
    · simp at he; rw [he]; exact hxl
  · rw [List.map_append, List.nodup_append]
    refine ⟨h.nd, by simp, fun a ha b hb => ?_⟩
    obtain ⟨e, he, rfl⟩ := List.mem_map.1 ha
    simp at hb
    rw [hb]
    exact hxE e he
  · intro e he
    rcases List.mem_append.1 he with he | he
    · exact h.nc e he
    · simp at he; rw [he]; exact hxcb
  · intro e he
    rcases List.mem_append.1 he with he | he
    · obtain ⟨i, hi, rfl⟩ := List.getElem_of_mem he
      exact hold _ (h.e i hi).lt (h.nr _ (List.getElem_mem hi))
    · simp at he; rw [he]; exact hold _ hx.lt hxfp
  · intro e he
    rcases List.mem_append.1 he with he | he
    · exact h.eB e he
    · simp at he; rw [he]; exact hxB
set_option maxRecDepth 20000 in
/-- The last block of the line is taken off. -/
theorem wpop_any (x : Ent) (B cb : Nat) (la : Option Addr) (cl : Nat) (E : List Ent) (w : World) (h : LineAt w B cb la cl (E ++ [x])) :
    Calls Try.prog 98 #[.pointer (some ⟨cb, 3, none⟩)] w fun e w' => e = .returned (.iface 62 (.pointer (some ⟨x.b, 0, none⟩))) ∧ LineAt w' B cb la cl E ∧ Chg (cb :: fp la cl) w w' ∧ Only3 cb w w' := by
  have hel : (E ++ [x]).length = E.length + 1 := by simp
  have c3 := h.c3
  have f3 := h.f3
  have hsm := h.sm
  obtain ⟨lb, lo, rfl, hc, hlb⟩ := h.cell (by omega)
  obtain ⟨cn, fn⟩ := hc E.length (by omega)
  rw [List.getElem_append_right (Nat.le_refl _)] at cn
  simp only [Nat.sub_self, List.getElem_cons_zero] at cn
  rw [hel] at c3 hsm
  unfold ptrV at cn
  have hlc := h.r.le
  rw [hel] at hlc
  have hcl := h.r.max
  have hcb : lb ≠ cb := fun e => h.cr (by rw [← e]; exact hlb)
  have g1 : Chg [lb] w (w.setCell ⟨lb, lo + E.length, none⟩ (.pointer none)) := Chg.setCell w ⟨lb, lo + E.length, none⟩ _
  have c31 := g1.cellv c3 (by simpa using fun e => hcb e.symm)
  have f31 := (g1.frozen (p := ⟨cb, 3, none⟩) (block_lt_of_cell c3) (by simpa using fun e => hcb e.symm)).trans f3
  have hsl : ∀ u : World, (Instr.slice 56 (.slice (some ⟨lb, lo, none⟩) (E.length + 1) cl) none (some (.int .i64 (E.length : Int))) none).run Try.prog u = .ok (.slice (some ⟨lb, lo, none⟩) E.length cl) u := fun u =>
    run_take_k (some ⟨lb, lo, none⟩) (E.length + 1) cl E.length Try.underlying56 (by kernel_rfl) (by omega) u
  have HE := mkHid hel
  clear hel hc
  go_enter Try.func98, Try.ntmps98
  go_wp2
  go_ret
  have hel := HE.out
  have hfp : fp (some ⟨lb, lo, none⟩) cl = [lb] := fp_some _ _ _ (by omega)
  have g2 : Chg [cb] (w.setCell ⟨lb, lo + E.length, none⟩ (.pointer none)) ((w.setCell ⟨lb, lo + E.length, none⟩ (.pointer none)).setCell ⟨cb, 3, none⟩ (.slice (some ⟨lb, lo, none⟩) E.length cl)) := Chg.setCell _ ⟨cb, 3, none⟩ _
  have hmem : ∀ e ∈ E, e ∈ E ++ [x] := fun e he => List.mem_append_left _ he
  refine ⟨rfl, ⟨World.cell?_setCell_same _ _ _ c31, by rw [World.frozen?_setCell]; exact f31, ?_, ?_, fun e he => h.bl e (hmem e he), ?_, fun e he => h.nc e (hmem e he), fun e he => h.nr e (hmem e he), h.cr, fun e he => h.eB e (hmem e he), h.cB, by omega⟩, g1.trans g2 (fun k hk _ => by rw [hfp]; simp at hk; simp [hk]) (fun k hk _ => by simp at hk; simp [hk]), (Only3.of g1 (by simpa using fun e => hcb e.symm) (block_lt_of_cell c3)).trans (Only3.set cb _ _)⟩
  · have h9 := h.r.set E.length (by omega) (.pointer none)
    have h8 := h9.shorten (m := E.length) (by omega)
    rw [List.map_append, List.take_set, List.set_eq_of_length_le (by simp), List.take_left' (by simp)] at h8
    exact h8.chg g2 (by rw [hfp]; simpa using hcb)
  · intro i hi
    have := h.e i (by omega)
    rw [List.getElem_append_left hi] at this
    exact (this.chg g1 (by simp; intro e9; exact h.nr _ (hmem _ (List.getElem_mem hi)) (by rw [hfp, e9]; simp))).chg g2 (by simpa using h.nc _ (hmem _ (List.getElem_mem hi)))
  · have := h.nd
    rw [List.map_append, List.nodup_append] at this
    exact this.1

theorem LF_of_SF {cb : Nat} {la : Option Addr} {cl : Nat} {E : List Ent} : ∀ k, k ∈ SF la cl E → k ∈ LF cb la cl E := fun k hk => by
  simp only [SF, List.mem_append] at hk
  simp only [LF, List.mem_cons, List.mem_append]
  exact Or.inr hk
set_option maxRecDepth 20000 in
/-- heap.Push. -/
theorem hpush_any (x : Ent) (s0 : Nat) (B cb : Nat) (la : Option Addr) (cl : Nat) (E : List Ent) (w : World) (h : LineAt w B cb la cl E) (hB : B ≤ w.heap.size) (hx : Blk w x.b 68 (entV x s0)) (hxl : x.bs.length = 256) (hxF : x.b ∉ LF cb la cl E) (hxB : B ≤ x.b) (hsm : E.length < 100000) (hH : Heap E E.length) :
    Calls Try.prog 48 #[.iface 88 (.pointer (some ⟨cb, 3, none⟩)), .iface 62 (.pointer (some ⟨x.b, 0, none⟩))] w fun e w' => e = .returned (.tuple #[]) ∧ ∃ la' cl' E', LineAt w' B cb la' cl' E' ∧ E'.Perm (E ++ [x]) ∧ Heap E' E'.length ∧ Chg (x.b :: LF cb la cl E) w w' ∧ (∀ k, k ∈ fp la' cl' → k ∈ fp la cl ∨ w.heap.size ≤ k) ∧ Only3 cb w w' := by
  have hup : UpOk (E ++ [x]) E.length (E ++ [x]).length := by
    have hk : ∀ k, k < E.length → key (E ++ [x]) k = key E k := fun k hk => by
      rw [key_lt (by simp; omega), key_lt hk, List.getElem_append_left hk]
    refine ⟨fun k k0 kn kj => ?_, fun k k0 kn kp _ => ?_⟩
    · simp at kn
      rw [hk _ (by omega), hk _ (by omega)]
      exact hH k k0 (by omega)
    · simp at kn
      omega
  have Hup := mkHid hup
  clear hup
  have m1 := meth_push w ⟨cb, 3, none⟩
  have hel : (E ++ [x]).length = E.length + 1 := by simp
  have HE := mkHid hel
  clear hel
  go_enter Try.func48, Try.ntmps48
  go_wp2_with (first | (go_at_call 99; refine (wpush_any x s0 B cb la cl E w h hB hx hxl hxF hxB hsm).mono ?_; rintro e w1 ⟨rfl, la1, cl1, h1, g1, f1, q1⟩; have m2 := meth_len cb 3 la1 _ cl1 w1 h1.c3; rw [HE.out] at m2) | (go_at_call 95; refine (len_any la1 (E.length + 1) cl1 w1).mono ?_; rintro e w2 ⟨rfl, rfl⟩) | (go_at_call 56; refine (up_any E.length B cb la1 cl1 (E ++ [x]) w1 h1 (by rw [HE.out]; omega) Hup.out).mono ?_; rintro e w2 ⟨rfl, E', h2, p2, H2, g2⟩))
  go_end0
  rw [← p2.length_eq] at H2
  exact ⟨rfl, la1, cl1, E', h2, p2, H2, g1.trans g2 (fun _ h _ => h) (fun k hk hlt => by
    simp only [SF, List.mem_append, List.map_append, List.map_cons, List.map_nil, List.mem_cons, List.not_mem_nil, or_false] at hk
    simp only [LF, List.mem_cons, List.mem_append]
    rcases hk with hk | hk | hk
    · rcases f1 k hk with h9 | h9
      · exact Or.inr (Or.inr (Or.inl h9))
      · omega
    · exact Or.inr (Or.inr (Or.inr hk))
    · exact Or.inl hk), f1, q1.trans (Only3.of g2 (cb_SF h1) (block_lt_of_cell h1.c3))⟩
set_option maxRecDepth 20000 in
/-- heap.Fix. -/
theorem hfix_any (i : Nat) (B cb : Nat) (la : Option Addr) (cl : Nat) (E : List Ent) (w : World) (h : LineAt w B cb la cl E) (hi : i < E.length) (hD : DownOk E i E.length) :
    Calls Try.prog 49 #[.iface 88 (.pointer (some ⟨cb, 3, none⟩)), .int .i64 i] w fun e w' => e = .returned (.tuple #[]) ∧ ∃ E', LineAt w' B cb la cl E' ∧ E'.Perm E ∧ Heap E' E'.length ∧ Chg (SF la cl E) w w' := by
  have hsm := h.sm
  have m1 := meth_len cb 3 la _ cl w h.c3
  have HD := mkHid hD
  clear hD
  go_enter Try.func49, Try.ntmps49
  go_wp2_with (first | (go_at_call 95; refine (len_any la E.length cl w).mono ?_; rintro e w2 ⟨rfl, rfl⟩) | (go_at_call 57; refine (down_any i E.length B cb la cl E w h (Nat.le_refl _) (by omega) HD.out).mono ?_; rintro e w2 ⟨b, E', rfl, h2, p2, o2, t2, u2, g2⟩; have T2 := mkHid t2; have U2 := mkHid u2; clear t2 u2 o2) | (go_at_call 56; refine (up_any i B cb la cl E' w2 h2 (by rw [p2.length_eq]; exact hi) (p2.length_eq.symm ▸ U2.out (by simpa using ‹(!b) = true›))).mono ?_; rintro e w3 ⟨rfl, E3, h3, p3, H3, g3⟩))
  · go_end0
    exact ⟨rfl, E3, h3, p3.trans p2, by rw [p3.length_eq]; exact H3, g2.trans g3 (fun _ h _ => h) (fun k hk _ => SF_perm p2 k hk)⟩
  · go_end0
    exact ⟨rfl, E', h2, p2, by rw [p2.length_eq]; exact T2.out (by simpa using ‹(!b) = false›), g2⟩
theorem split_last {E : List Ent} {x : Ent} {n : Nat} (hl : E.length = n + 1) (h : E[n]? = some x) : ∃ F, E = F ++ [x] ∧ F.length = n := by
  refine ⟨E.take n, ?_, by simp; omega⟩
  have h1 : n < E.length := by omega
  rw [List.getElem?_eq_getElem h1] at h
  have h2 := List.take_succ_eq_append_getElem h1
  rw [List.take_of_length_le (by omega)] at h2
  have h3 : E[n] = x := by simpa using h
  rw [h3] at h2
  exact h2
theorem heap_front {F : List Ent} {x : Ent} {n : Nat} (hn : n ≤ F.length) (h : Heap (F ++ [x]) n) : Heap F n := by
  intro k k0 kn
  have hk : ∀ k, k < F.length → key (F ++ [x]) k = key F k := fun k hk => by
    rw [key_lt (by simp; omega), key_lt hk, List.getElem_append_left hk]
  have := h k k0 kn
  rwa [hk _ (by omega), hk _ (by omega)] at this
set_option maxRecDepth 20000 in
set_option maxHeartbeats 1000000 in
/-- heap.Pop. -/
theorem hpop_any (B cb : Nat) (la : Option Addr) (cl : Nat) (E : List Ent) (w : World) (h : LineAt w B cb la cl E) (h0 : 0 < E.length) (hH : Heap E E.length) :
    Calls Try.prog 55 #[.iface 88 (.pointer (some ⟨cb, 3, none⟩))] w fun e w' => e = .returned (.iface 62 (.pointer (some ⟨E[0].b, 0, none⟩))) ∧ ∃ F, LineAt w' B cb la cl F ∧ (F ++ [E[0]]).Perm E ∧ Heap F F.length ∧ Blk w' E[0].b 68 (entV E[0] F.length) ∧ Chg (LF cb la cl E) w w' ∧ Only3 cb w w' := by
  have hsm := h.sm
  obtain ⟨n, hn⟩ : ∃ n, E.length = n + 1 := ⟨E.length - 1, by omega⟩
  have hn1 : n < E.length := by omega
  have hDn : DownOk (swp E 0 n h0 hn1) 0 n := by
    refine ⟨fun k k0 kn ki kp => ?_, fun k k0 kn kp h9 => by omega⟩
    rw [key_swp _ _ _ _ _ _ (by omega), key_swp _ _ _ _ _ _ (by omega), if_neg (by omega), if_neg kp, if_neg (by omega), if_neg ki]
    exact hH k k0 (by omega)
  have hlast : (swp E 0 n h0 hn1)[n]? = some E[0] := by
    have hl : n < (swp E 0 n h0 hn1).length := by rw [swp_len]; exact hn1
    rw [List.getElem?_eq_getElem hl, swp_get, if_pos rfl]
  have hsl : (swp E 0 n h0 hn1).length = n + 1 := by rw [swp_len]; exact hn
  have hsp := swp_perm E 0 n h0 hn1
  generalize hS : swp E 0 n h0 hn1 = S at hDn hlast hsl hsp
  have HS := mkHid hS
  have HD := mkHid hDn
  have HL := mkHid hlast
  have HN := mkHid hn
  have HSL := mkHid hsl
  have m1 := meth_len cb 3 la _ cl w h.c3
  rw [hn] at m1
  have m2 := meth_swap cb 3 la _ cl w h.c3
  rw [hn] at m2
  have cS := swap_any 0 n B cb la cl E w h h0 hn1
  rw [hS, hn, show ((0 : Nat) : Int) = 0 from rfl] at cS
  have cD : ∀ w2, LineAt w2 B cb la cl S → _ := fun w2 h2 => down_any 0 n B cb la cl S w2 h2 (by omega) (by omega) hDn
  rw [show ((0 : Nat) : Int) = 0 from rfl] at cD
  clear hS hDn hlast hn hsl
  go_enter Try.func55, Try.ntmps55
  have CD := mkHid cD
  clear cD
  go_wp2_with (first | (go_at_call 95; refine (len_any la (n + 1) cl w).mono ?_; rintro e w2 ⟨rfl, rfl⟩) | (go_at_call 97; refine cS.mono ?_; rintro e w2 ⟨rfl, h2, g2⟩) | (go_at_call 57; refine (CD.out w2 h2).mono ?_; rintro e w3 ⟨b, E', rfl, h3, p3, o3, t3, u3, g3⟩; have T3 := mkHid t3; have U3 := mkHid u3; have O3 := mkHid o3; clear t3 u3 o3; have m3 := meth_pop w3 ⟨cb, 3, none⟩; obtain ⟨F, rfl, hFl⟩ := split_last (p3.length_eq.trans HSL.out) ((O3.out n (Nat.le_refl _)).trans HL.out); have HF := mkHid hFl; clear hFl) | (go_at_call 98; refine (wpop_any E[0] B cb la cl F w3 h3).mono ?_; rintro e w4 ⟨rfl, h4, g4, q4⟩))
  go_ret
  have hFl := HF.out
  have hb3 := h3.e F.length (by simp)
  rw [List.getElem_append_right (Nat.le_refl _)] at hb3
  simp only [Nat.sub_self, List.getElem_cons_zero] at hb3
  have hm0 : E[0] ∈ E := List.getElem_mem h0
  have hHn : Heap (F ++ [E[0]]) n := by
    cases hb : b
    · have := U3.out hb
      exact fun k k0 kn => this.1 k k0 kn (by omega)
    · exact T3.out hb
  refine ⟨rfl, F, h4, p3.trans hsp, by rw [hFl]; exact heap_front (by omega) hHn, hb3.chg g4 (by simp only [List.mem_cons, not_or]; exact ⟨h.nc _ hm0, h.nr _ hm0⟩), ?_, ((Only3.of g2 (cb_SF h) (block_lt_of_cell h.c3)).trans (Only3.of g3 (fun hk => cb_SF h (SF_perm hsp _ hk)) (block_lt_of_cell h2.c3))).trans q4⟩
  have k1 : Chg (LF cb la cl E) w w3 := Chg.trans g2 g3 (fun k hk _ => LF_of_SF k hk) (fun k hk _ => LF_of_SF k (SF_perm hsp k hk))
  exact k1.trans g4 (fun _ h _ => h) (fun k hk _ => by
    simp only [List.mem_cons] at hk
    simp only [LF, List.mem_cons, List.mem_append]
    exact hk.imp id Or.inl)
end Go.Proofs.Ytdmhcbbakgljoaa
