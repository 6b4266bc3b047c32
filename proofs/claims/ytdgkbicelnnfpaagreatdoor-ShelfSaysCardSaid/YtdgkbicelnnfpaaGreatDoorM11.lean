/- Texts Pd, Pe, Pf, Pg of the library, joined. -/
import Derived.Test.YtdgkbicelnnfpaaGreatDoorM10
/- The places of a space: Push, Pop, heap.Push, heap.Remove. -/
namespace Go.Proofs.YtdgkbicelnnfpaaGreatDoor
open Go.RowKit
set_option linter.unusedVariables false
set_option linter.unusedSimpArgs false
attribute [local go_sem ↓] Go.wp_at_zero Go.wp_at_succ

theorem Room.shortenF {w : World} {B : Nat} {ao : Option Addr} {n c : Nat} {xs : List Value} (h : Room w B ao n c xs) {m : Nat} (hm : m ≤ n) : Room w B ao m c (xs.take m) := by
  have h1 := h.len
  have h2 := h.le
  refine ⟨by simp; omega, by omega, h.max, fun hc => ?_⟩
  obtain ⟨b, o, e, hB, hs, hv⟩ := h.at_ hc
  refine ⟨b, o, e, hB, hs, fun j u hu => hv j u ?_⟩
  rw [List.getElem?_take] at hu
  split at hu
  · exact hu
  · cases hu
theorem set_other'F {w : World} {b i j : Nat} {u v : Value} (h : w.cell? ⟨b, j, none⟩ = some v) (hij : j ≠ i) : (w.setCell ⟨b, i, none⟩ u).cell? ⟨b, j, none⟩ = some v := by
  rw [World.cell?_setCell_other _ _ _ _ (by simp [hij])]
  exact h
theorem SpotsOk.push {n : Nat} {L : List Nat} {S : List Int} (h : SpotsOk n L S) {x : Nat} (hx : x < n) (hn : x ∉ L) : SpotsOk n (L ++ [x]) (S.set x (L.length : Int)) := by
  have hl := h.len
  refine ⟨by simp [hl], fun k hk => ?_, fun y hy hyn => ?_⟩
  · by_cases a : k < L.length
    · rw [List.getElem_append_left a, List.getElem?_set_ne (by rintro e; exact hn (e ▸ List.getElem_mem a))]
      exact h.at_ k a
    · have : k = L.length := by simp at hk; omega
      subst this
      rw [List.getElem_append_right (Nat.le_refl _)]
      simp only [Nat.sub_self, List.getElem_cons_zero]
      rw [List.getElem?_set_self (by omega)]
  · simp at hyn
    rw [List.getElem?_set_ne (fun e => hyn.2 e.symm)]
    exact h.no y hy hyn.1
theorem SpotsOk.pop {n : Nat} {L : List Nat} {S : List Int} {x : Nat} (h : SpotsOk n (L ++ [x]) S) : SpotsOk n L (S.set x (-1)) := by
  have hl := h.len
  have hnd := h.nodup
  have hxn := h.lt x (by simp)
  have hx : x ∉ L := fun hm => by
    rw [List.nodup_append] at hnd
    exact hnd.2.2 x hm x (by simp) rfl
  refine ⟨by simp [hl], fun k hk => ?_, fun y hy hyn => ?_⟩
  · rw [List.getElem?_set_ne (by rintro e; exact hx (e ▸ List.getElem_mem hk))]
    have := h.at_ k (by simp; omega)
    rwa [List.getElem_append_left hk] at this
  · by_cases e : x = y
    · subst e
      rw [List.getElem?_set_self (by omega)]
    · rw [List.getElem?_set_ne e]
      exact h.no y hy (by simp; exact ⟨hyn, fun h9 => e h9.symm⟩)
theorem assert_int (x : Nat) (w : World) : (Instr.typeAssert (.iface 3 (.int .i64 (x : Int))) 20 3 false).run Tryz.prog w = .ok (.int .i64 (x : Int)) w := by kernel_rfl
set_option maxRecDepth 20000 in
/-- One more place behind the line. -/
theorem wpush_anyF (x : Nat) (B pb : Nat) (la : Option Addr) (cl : Nat) (sa : Option Addr) (cs n : Nat) (L : List Nat) (w : World) (h : PlAt w B pb la cl sa cs n L) (hB : B ≤ w.heap.size) (hx : x < n) (hxL : x ∉ L) :
    Calls Tryz.prog 220 #[.pointer (some ⟨pb, 0, none⟩), .iface 3 (.int .i64 (x : Int))] w fun e w' => e = .returned (.tuple #[]) ∧ ∃ la' cl', PlAt w' B pb la' cl' sa cs n (L ++ [x]) ∧ Chg (PF pb la cl sa cs) w w' ∧ (∀ k, k ∈ fp la' cl' → k ∈ fp la cl ∨ w.heap.size ≤ k) := by
  have hnn := h.nn
  have hle := h.le
  have c0 := h.c0
  have c1 := h.c1
  have f0 := h.f0
  have d1 := h.d1
  have d2 := h.d2
  have d3 := h.d3
  have ta := assert_int x
  obtain ⟨S, hS, hok⟩ := h.s
  have hSl := hok.len
  have hS0 := hS
  obtain ⟨sb, so, rfl, _, hs2, _⟩ := hS.at_ (by have := hS.le; omega)
  obtain ⟨ux, gx⟩ := hs2 x (by have := hS.le; omega)
  obtain ⟨vx, ux⟩ := Option.isSome_iff_exists.1 ux
  have hfs : fp (some ⟨sb, so, none⟩) cs = [sb] := fp_some _ _ _ (by have := hS.le; omega)
  have g1 : Chg [sb] w ((w.setCell ⟨sb, so + x, none⟩ (.int .i64 L.length)).drew) := (Chg.setCell w ⟨sb, so + x, none⟩ _).then (Chg.drew [] _)
  rw [hfs] at d2 d3
  simp only [List.mem_singleton] at d2 d3
  have hR := h.r.chg g1 (fun k hk => by simpa using d3 k hk)
  have c01 := g1.cellv c0 (by simpa using d2)
  have c11 := g1.cellv c1 (by simpa using d2)
  have f01 := (g1.frozen (p := ⟨pb, 0, none⟩) (block_lt_of_cell c0) (by simpa using d2)).trans f0
  have s1 := (hS0.set x hx (.int .i64 (L.length : Int))).chg (Chg.drew [] _) (by simp)
  rw [zvs_set] at s1
  have hB1 : B ≤ ((w.setCell ⟨sb, so + x, none⟩ (.int .i64 L.length)).drew).heap.size := by simpa using hB
  have HZ := mkHid (show ((w.setCell ⟨sb, so + x, none⟩ (.int .i64 L.length)).drew).heap.size = w.heap.size by simp)
  have HS := mkHid s1
  have HK := mkHid (hok.push hx hxL)
  clear hs2 s1 hok hS hS0
  go_enter Tryz.func220, Tryz.ntmps220
  go_wp2
  go_region
  generalize hw1 : ((w.setCell ⟨sb, so + x, none⟩ (.int .i64 L.length)).drew) = w1 at *
  clear hw1 c0 c1 f0 ux gx
  go_wp2_with (at_builtin; refine wpList_append_1 _ rfl (.tmp 22) (.tmp 24) 79 rfl 3 8 eltNF B la L.length cl (ivs L) rfl hR hB1 (.int .i64 (x : Int)) 1 rfl rfl (by unfold maxLen; omega) (by omega) ?_; intro la' cl' w3 hR3 hg3 hf3; have c03 := hg3.cellv c01 d1; have f03 := (hg3.frozen (p := ⟨pb, 0, none⟩) (block_lt_of_cell c01) d1).trans f01)
  go_end0
  have hz := HZ.out
  have hpw : pb < w.heap.size := block_lt_of_cell h.c0
  have hfn : ∀ k, k ∈ fp la' cl' → k ∈ fp la cl ∨ w.heap.size ≤ k := fun k hk => by
    rcases hf3 with h9 | ⟨q, h9, h10⟩
    · left; rw [← h9]; exact hk
    · right; rw [h10] at hk; simp at hk; omega
  have hold : ∀ k, k < w.heap.size → k ∉ fp la cl → k ∉ fp la' cl' := fun k h1 h2 h3 => (hfn k h3).elim h2 (fun h4 => by omega)
  have g2 : Chg (PF pb la cl (some ⟨sb, so, none⟩) cs) w w3 := g1.trans hg3 (fun k hk _ => by simp at hk; simp [PF, hfs, hk]) (fun k hk _ => by simp [PF, hk])
  have g4 : Chg [pb] w3 (w3.setCell ⟨pb, 0, none⟩ (.slice la' (L.length + 1) cl')) := Chg.setCell w3 ⟨pb, 0, none⟩ _
  have hel : (L ++ [x]).length = L.length + 1 := by simp
  have hsb : sb < w.heap.size := by have := h.lt sb (by simp [PF, hfs]); omega
  have hsl : sb ∉ fp la' cl' := hold sb hsb (fun hk => d3 sb hk rfl)
  have c13 := hg3.cellv c11 d1
  refine ⟨rfl, la', cl', ⟨?_, ?_, ?_, ?_, ⟨_, (HS.out.chg hg3 ?_).chg g4 ?_, HK.out⟩, hnn, h.pB, hold pb hpw d1, by rw [hfs]; simpa using d2, ?_⟩, g2.trans g4 (fun _ h _ => h) (fun k hk _ => by simp at hk; simp [PF, hk]), hfn⟩
  · rw [hel]; exact World.cell?_setCell_same _ _ _ c03
  · rw [World.frozen?_setCell]; exact f03
  · exact set_other'F c13 (by decide)
  · rw [hel]
    have e : ivs (L ++ [x]) = ivs L ++ [.int .i64 (x : Int)] := by simp [ivs]
    rw [e]
    exact hR3.chg g4 (fun k hk => by simp; rintro rfl; exact hold k hpw d1 hk)
  · intro k hk h9
    rw [hfs] at hk
    simp at hk
    subst hk
    exact d3 k h9 rfl
  · intro k hk
    rw [hfs] at hk
    simp at hk ⊢
    rw [hk]
    exact fun e => d2 e.symm
  · intro k hk h9
    rw [hfs] at h9
    simp at h9
    rw [h9] at hk
    exact hsl hk
set_option maxRecDepth 20000 in
/-- The last place of the line is taken off. -/
theorem wpop_anyF (x : Nat) (B pb : Nat) (la : Option Addr) (cl : Nat) (sa : Option Addr) (cs n : Nat) (L : List Nat) (w : World) (h : PlAt w B pb la cl sa cs n (L ++ [x])) :
    Calls Tryz.prog 219 #[.pointer (some ⟨pb, 0, none⟩)] w fun e w' => e = .returned (.iface 3 (.int .i64 (x : Int))) ∧ PlAt w' B pb la cl sa cs n L ∧ Chg (PF pb la cl sa cs) w w' := by
  have hel : (L ++ [x]).length = L.length + 1 := by simp
  have c0 := h.c0
  have c1 := h.c1
  have f0 := h.f0
  have hsm := h.le
  have hnn := h.nn
  have d1 := h.d1
  have d2 := h.d2
  have d3 := h.d3
  have hxn : x < n := h.lt' x (by simp)
  obtain ⟨S, hS, hok⟩ := h.s
  have hSl := hok.len
  rw [hel] at c0 hsm
  have hlc := h.r.le
  rw [hel] at hlc
  have hcl := h.r.max
  have hr := h.r
  obtain ⟨lb, lo, rfl, _, _, hv1⟩ := h.r.at_ (by omega)
  have cn := hv1 L.length _ (ivs_get (L := L ++ [x]) (by simp))
  rw [List.getElem_append_right (Nat.le_refl _)] at cn
  simp only [Nat.sub_self, List.getElem_cons_zero] at cn
  have hS0 := hS
  obtain ⟨sb, so, rfl, _, hs2, _⟩ := hS.at_ (by have := hS.le; omega)
  obtain ⟨ux, gx⟩ := hs2 x (by have := hS.le; omega)
  obtain ⟨vx, ux⟩ := Option.isSome_iff_exists.1 ux
  have hfs : fp (some ⟨sb, so, none⟩) cs = [sb] := fp_some _ _ _ (by have := hS.le; omega)
  have hfl : fp (some ⟨lb, lo, none⟩) cl = [lb] := fp_some _ _ _ (by omega)
  rw [hfs] at d2 d3
  rw [hfl] at d1 d3
  simp only [List.mem_singleton] at d1 d2 d3
  have d3' : lb ≠ sb := d3 lb rfl
  have g1 : Chg [sb] w (w.setCell ⟨sb, so + x, none⟩ (.int .i64 (-1))) := Chg.setCell w ⟨sb, so + x, none⟩ _
  have c01 := g1.cellv c0 (by simpa using d2)
  have c11 := g1.cellv c1 (by simpa using d2)
  have f01 := (g1.frozen (p := ⟨pb, 0, none⟩) (block_lt_of_cell c0) (by simpa using d2)).trans f0
  have hsl : ∀ u : World, (Instr.slice 79 (.slice (some ⟨lb, lo, none⟩) (L.length + 1) cl) none (some (.int .i64 (L.length : Int))) none).run Tryz.prog u = .ok (.slice (some ⟨lb, lo, none⟩) L.length cl) u := fun u =>
    run_take_k (some ⟨lb, lo, none⟩) (L.length + 1) cl L.length Tryz.underlying79 (by kernel_rfl) (by omega) u
  have HE := mkHid hel
  have HK := mkHid hok.pop
  clear hel hs2 hok hv1 hS
  go_enter Tryz.func219, Tryz.ntmps219
  go_wp2
  go_ret
  have hel := HE.out
  have s1 := hS0.set x hxn (.int .i64 (-1))
  rw [zvs_set] at s1
  have g2 : Chg [pb] (w.setCell ⟨sb, so + x, none⟩ (.int .i64 (-1))) ((w.setCell ⟨sb, so + x, none⟩ (.int .i64 (-1))).setCell ⟨pb, 0, none⟩ (.slice (some ⟨lb, lo, none⟩) L.length cl)) := Chg.setCell _ ⟨pb, 0, none⟩ _
  refine ⟨rfl, ⟨World.cell?_setCell_same _ _ _ c01, by rw [World.frozen?_setCell]; exact f01, set_other'F c11 (by decide), ?_, ⟨_, s1.chg g2 (by rw [hfs]; simpa using fun e => d2 e.symm), HK.out⟩, hnn, h.pB, by rw [hfl]; simpa using d1, by rw [hfs]; simpa using d2, by rw [hfl, hfs]; simpa using d3'⟩, g1.trans g2 (fun k hk _ => by simp at hk; simp [PF, hfs, hk]) (fun k hk _ => by simp at hk; simp [PF, hk])⟩
  have h8 := hr.shortenF (m := L.length) (by omega)
  have e : (ivs (L ++ [x])).take L.length = ivs L := by
    simp [ivs]
  rw [e] at h8
  exact (h8.chg g1 (by rw [hfl]; simpa using d3')).chg g2 (by rw [hfl]; simpa using fun e => d1 e.symm)
end Go.Proofs.YtdgkbicelnnfpaaGreatDoor

/- The places of a space: heap.Push, heap.Remove; a place leaves, a place joins. -/
namespace Go.Proofs.YtdgkbicelnnfpaaGreatDoor
open Go.RowKit
set_option linter.unusedVariables false
set_option linter.unusedSimpArgs false
attribute [local go_sem ↓] Go.wp_at_zero Go.wp_at_succ

theorem sub_PF {pb : Nat} {la : Option Addr} {cl : Nat} {sa : Option Addr} {cs : Nat} : ∀ k, k ∈ fp la cl ++ fp sa cs → k ∈ PF pb la cl sa cs := fun k hk => List.mem_cons_of_mem _ hk
theorem split_lastF {E : List Nat} {x : Nat} {n : Nat} (hl : E.length = n + 1) (h : E[n]? = some x) : ∃ F, E = F ++ [x] ∧ F.length = n := by
  refine ⟨E.take n, ?_, by simp; omega⟩
  have h1 : n < E.length := by omega
  rw [List.getElem?_eq_getElem h1] at h
  have h2 := List.take_succ_eq_append_getElem h1
  rw [List.take_of_length_le (by omega)] at h2
  have h3 : E[n] = x := by simpa using h
  rw [h3] at h2
  exact h2
theorem key_front {F : List Nat} {x : Nat} : ∀ k, k < F.length → keyF (F ++ [x]) k = keyF F k := fun k hk => by
  rw [key_ltF (by simp; omega), key_ltF hk, List.getElem_append_left hk]
theorem heap_frontF {F : List Nat} {x : Nat} {n : Nat} (hn : n ≤ F.length) (h : HeapF (F ++ [x]) n) : HeapF F n := by
  intro k k0 kn
  have := h k k0 kn
  rwa [key_front _ (by omega), key_front _ (by omega)] at this
/-- The last one goes in the place of the i-th: from there the heap may be broken. -/
theorem down_last {E : List Nat} {i n : Nat} (hE : E.length = n + 1) (hi : i < n) (h : HeapF E E.length) : DownOkF (swpF E i n (by omega) (by omega)) i n := by
  have hk := key_swpF E i n (by omega) (by omega)
  refine ⟨fun k k0 kn ki kp => ?_, fun k k0 kn kp i0 => ?_⟩
  · rw [hk _ (by omega), hk k (by omega), if_neg (by omega), if_neg kp, if_neg (by omega), if_neg ki]
    exact h k k0 (by omega)
  · rw [hk _ (by omega), hk k (by omega), if_neg (by omega), if_neg (by omega), if_neg (by omega), if_neg (by omega)]
    have h1 := h k k0 (by omega)
    rw [kp] at h1
    exact Nat.le_trans (h i i0 (by omega)) h1
set_option maxRecDepth 20000 in
/-- heap.Push. -/
theorem hpush_anyF (x : Nat) (B pb : Nat) (la : Option Addr) (cl : Nat) (sa : Option Addr) (cs n : Nat) (L : List Nat) (w : World) (h : PlAt w B pb la cl sa cs n L) (hB : B ≤ w.heap.size) (hx : x < n) (hxL : x ∉ L) (hH : HeapF L L.length) :
    Calls Tryz.prog 139 #[.iface 186 (.pointer (some ⟨pb, 0, none⟩)), .iface 3 (.int .i64 (x : Int))] w fun e w' => e = .returned (.tuple #[]) ∧ ∃ la' cl' L', PlAt w' B pb la' cl' sa cs n L' ∧ L'.Perm (L ++ [x]) ∧ HeapF L' L'.length ∧ Chg (PF pb la cl sa cs) w w' ∧ (∀ k, k ∈ fp la' cl' → k ∈ fp la cl ∨ w.heap.size ≤ k) := by
  have hup : UpOkF (L ++ [x]) L.length (L.length + 1) := by
    refine ⟨fun k k0 kn kj => ?_, fun k k0 kn kp _ => ?_⟩
    · rw [key_front _ (by omega), key_front _ (by omega)]
      exact hH k k0 (by omega)
    · omega
  have Hup := mkHid hup
  clear hup
  have hel : (L ++ [x]).length = L.length + 1 := by simp
  have HE := mkHid hel
  clear hel
  have m1 := fun u => meth_pushF u ⟨pb, 0, none⟩
  have m2 := fun u => meth_lenF u ⟨pb, 0, none⟩
  have hle := h.le
  have hnn := h.nn
  go_enter Tryz.func139, Tryz.ntmps139
  go_wp2_with (first | (go_at_call 220; refine (wpush_anyF x B pb la cl sa cs n L w h hB hx hxL).mono ?_; rintro e w1 ⟨rfl, la1, cl1, h1, g1, f1⟩; have l1 := len_anyF B pb la1 cl1 sa cs n (L ++ [x]) w1 h1; rw [HE.out] at l1) | (go_at_call 104; refine l1.mono ?_; rintro e w2 ⟨rfl, rfl⟩) | (go_at_call 172; refine (up_anyF L.length (L.length + 1) B pb la1 cl1 sa cs n (L ++ [x]) w1 h1 (by rw [HE.out]; omega) (by omega) Hup.out).mono ?_; rintro e w2 ⟨rfl, E', h2, p2, H2, o2, g2⟩))
  go_end0
  have hel' : E'.length = L.length + 1 := by rw [p2.length_eq]; exact HE.out
  refine ⟨rfl, la1, cl1, E', h2, p2, by rw [hel']; exact H2, g1.trans g2 (fun _ h _ => h) (fun k hk hlt => ?_), f1⟩
  simp only [PF, List.mem_cons, List.mem_append] at hk ⊢
  rcases hk with hk | hk
  · rcases f1 k hk with h9 | h9
    · exact Or.inr (Or.inl h9)
    · omega
  · exact Or.inr (Or.inr hk)
set_option maxRecDepth 20000 in
set_option maxHeartbeats 1000000 in
/-- heap.Remove. -/
theorem hremove_any (i : Nat) (B pb : Nat) (la : Option Addr) (cl : Nat) (sa : Option Addr) (cs n : Nat) (L : List Nat) (w : World) (h : PlAt w B pb la cl sa cs n L) (hi : i < L.length) (hH : HeapF L L.length) :
    Calls Tryz.prog 166 #[.iface 186 (.pointer (some ⟨pb, 0, none⟩)), .int .i64 i] w fun e w' => ∃ v, e = .returned v ∧ ∃ L', PlAt w' B pb la cl sa cs n L' ∧ (L' ++ [L[i]]).Perm L ∧ HeapF L' L'.length ∧ Chg (PF pb la cl sa cs) w w' := by
  have hle := h.le
  have hnn := h.nn
  have m0 := fun u => meth_lenF u ⟨pb, 0, none⟩
  have m1 := fun u => meth_swapF u ⟨pb, 0, none⟩
  have m2 := fun u => meth_popF u ⟨pb, 0, none⟩
  obtain ⟨k, hk⟩ : ∃ k, L.length = k + 1 := ⟨L.length - 1, by omega⟩
  have hl := len_anyF B pb la cl sa cs n L w h
  rw [hk] at hl
  by_cases hik : i = k
  · subst hik
    have hlast : L[i]? = some L[i] := List.getElem?_eq_getElem hi
    obtain ⟨F, hF, hFl⟩ := split_lastF hk hlast
    generalize L[i] = x at *
    subst hF
    have hpop := wpop_anyF x B pb la cl sa cs n F w h
    have hHF : HeapF F F.length := heap_frontF (Nat.le_refl _) (fun a a0 an => hH a a0 (by simp; omega))
    have HH := mkHid hHF
    clear hHF hlast hFl hH
    have hne : ((i : Int) != (i : Int)) = false := by simp
    go_enter Tryz.func166, Tryz.ntmps166
    go_wp2_with (first | (go_at_call 104; refine hl.mono ?_; rintro e w2 ⟨rfl, rfl⟩) | (go_at_call 219; refine hpop.mono ?_; rintro e w4 ⟨rfl, h4, g4⟩))
    go_ret
    exact ⟨_, rfl, F, h4, List.Perm.refl _, HH.out, g4⟩
  · have hkl : k < L.length := by omega
    have hDn := down_last hk (show i < k by omega) hH
    have hlast : (swpF L i k hi hkl)[k]? = some L[i] := by
      have hl : k < (swpF L i k hi hkl).length := by rw [swp_lenF]; exact hkl
      rw [List.getElem?_eq_getElem hl, swp_getF, if_pos rfl]
    have hsl : (swpF L i k hi hkl).length = k + 1 := by rw [swp_lenF]; exact hk
    have hsp := swp_permF L i k hi hkl
    have cS := swap_anyF i k B pb la cl sa cs n L w h hi hkl
    generalize hS : swpF L i k hi hkl = S at hDn hlast hsl hsp cS
    have hne : ((k : Int) != (i : Int)) = true := by simp; omega
    have hne' : (k != i) = true := by simp; omega
    have HD := mkHid hDn
    have HL := mkHid hlast
    have HSL := mkHid hsl
    clear hS hDn hlast hsl
    have cD : ∀ w2, PlAt w2 B pb la cl sa cs n S → _ := fun w2 h2 => down_anyF i k B pb la cl sa cs n S w2 h2 (by rw [HSL.out]; omega) (by omega) HD.out
    have CD := mkHid cD
    clear cD
    have fin : ∀ w2 w3 (E' : List Nat), PlAt w2 B pb la cl sa cs n S → Chg (fp la cl ++ fp sa cs) w w2 → PlAt w3 B pb la cl sa cs n E' → E'.Perm S → E'[k]? = some L[i] → HeapF E' k → Chg (fp la cl ++ fp sa cs) w2 w3 →
        Calls Tryz.prog 219 #[.pointer (some ⟨pb, 0, none⟩)] w3 fun e w' => ∃ x, e = .returned (.iface 3 (.int .i64 (x : Int))) ∧ ∃ L', PlAt w' B pb la cl sa cs n L' ∧ (L' ++ [L[i]]).Perm L ∧ HeapF L' L'.length ∧ Chg (PF pb la cl sa cs) w w' := by
      intro w2 w3 E' h2 g2 h3 p3 o3 H3 g3
      obtain ⟨F, rfl, hFl⟩ := split_lastF (p3.length_eq.trans HSL.out) o3
      refine (wpop_anyF L[i] B pb la cl sa cs n F w3 h3).mono ?_
      rintro e w4 ⟨rfl, h4, g4⟩
      exact ⟨_, rfl, F, h4, p3.trans hsp, by rw [hFl]; exact heap_frontF (by omega) H3, (g2.trans g3 (fun k hk _ => sub_PF k hk) (fun k hk _ => sub_PF k hk)).trans g4 (fun _ h _ => h) (fun _ h _ => h)⟩
    have Fin := mkHid fin
    clear fin hH
    go_enter Tryz.func166, Tryz.ntmps166
    go_wp2_with (first | (go_at_call 104; refine hl.mono ?_; rintro e w2 ⟨rfl, rfl⟩) | (go_at_call 221; refine cS.mono ?_; rintro e w2 ⟨rfl, h2, g2⟩) | (go_at_call 173; refine (CD.out w2 h2).mono ?_; rintro e w3 ⟨b, E', rfl, h3, p3, o3, t3, u3, g3⟩; have T3 := mkHid t3; have U3 := mkHid u3; have O3 := mkHid ((o3 k (Nat.le_refl _)).trans HL.out); clear t3 u3 o3) | (go_at_call 172; refine (up_anyF i k B pb la cl sa cs n E' w3 h3 (by rw [p3.length_eq, HSL.out]; omega) (by omega) (U3.out (by simpa using ‹(!b) = true›))).mono ?_; rintro e w5 ⟨rfl, E5, h5, p5, H5, o5, g5⟩; have hP := Fin.out w2 w5 E5 h2 g2 h5 (p5.trans p3) ((o5 k (Nat.le_refl _)).trans O3.out) H5 (g3.trans g5 (fun _ h _ => h) (fun _ h _ => h))) | (go_at_call 219; (first | refine hP.mono ?_ | refine (Fin.out w2 w3 E' h2 g2 h3 p3 O3.out (T3.out (by simpa using ‹(!b) = false›)) g3).mono ?_); rintro e w4 ⟨x, rfl, hend⟩))
    all_goals
      go_ret
      exact ⟨_, rfl, hend⟩
end Go.Proofs.YtdgkbicelnnfpaaGreatDoor

/- A space in memory: its places as which are free; Claim, Give, Take, Free, and what is told of none. -/
namespace Go.Proofs.YtdgkbicelnnfpaaGreatDoor
open Go.RowKit
set_option linter.unusedVariables false
set_option linter.unusedSimpArgs false
attribute [local go_sem ↓] Go.wp_at_zero Go.wp_at_succ

section
variable (x : Nat) (B pb : Nat) (la : Option Addr) (cl : Nat) (sa : Option Addr) (cs n : Nat) (L : List Nat) (w : World) (h : PlAt w B pb la cl sa cs n L) (hH : HeapF L L.length)
include h hH
theorem leave_any (hx : x ∈ L) : Calls Tryz.prog 127 #[.pointer (some ⟨pb, 0, none⟩), .int .i64 (x : Int)] w fun e w' => e = .returned (.tuple #[]) ∧ ∃ L', PlAt w' B pb la cl sa cs n L' ∧ (L' ++ [x]).Perm L ∧ HeapF L' L'.length ∧ Chg (PF pb la cl sa cs) w w' := by
  have c1 := h.c1
  have hnn := h.nn
  have hxn := h.lt' x hx
  obtain ⟨S, hS, hok⟩ := h.s
  have hSl := hok.len
  obtain ⟨sb, so, rfl, hc⟩ := hS.reads (by rw [zvs_len]; omega)
  obtain ⟨k, hk, rfl⟩ := List.getElem_of_mem hx
  have ci := hc _ _ (zvs_get (hok.at_ k hk))
  have hR := hremove_any k B pb la cl _ cs n L w h hk hH
  clear hc
  generalize L[k] = x at *
  go_enter Tryz.func127, Tryz.ntmps127
  go_wp2_with (first | (go_at_call 166; refine hR.mono ?_; rintro e w2 ⟨v, rfl, L', h2, p2, H2, g2⟩))
  go_end0
  exact ⟨rfl, L', h2, p2, H2, g2⟩
theorem join_anyF (hB : B ≤ w.heap.size) (hx : x < n) (hxL : x ∉ L) : Calls Tryz.prog 158 #[.pointer (some ⟨pb, 0, none⟩), .int .i64 (x : Int)] w fun e w' => e = .returned (.tuple #[]) ∧ ∃ la' cl' L', PlAt w' B pb la' cl' sa cs n L' ∧ L'.Perm (L ++ [x]) ∧ HeapF L' L'.length ∧ Chg (PF pb la cl sa cs) w w' ∧ (∀ k, k ∈ fp la' cl' → k ∈ fp la cl ∨ w.heap.size ≤ k) := by
  go_enter Tryz.func158, Tryz.ntmps158
  go_wp2_with (first | (go_at_call 139; refine (hpush_anyF x B pb la cl sa cs n L w h hB hx hxL hH).mono ?_; rintro e w2 ⟨rfl, hpost⟩))
  go_end0
  exact ⟨rfl, hpost⟩
end
/-- The places that are free, rising. -/
def freeL (Is : List Bool) : List Nat := (List.range Is.length).filter (fun x => Is.getD x false)
theorem mem_freeL (Is : List Bool) (x : Nat) : x ∈ freeL Is ↔ Is[x]? = some true := by
  unfold freeL
  rw [List.mem_filter, List.mem_range]
  simp only [List.getD_eq_getElem?_getD]
  constructor
  · rintro ⟨h, e⟩
    rw [List.getElem?_eq_getElem h] at e ⊢
    simpa using e
  · intro e
    have h := (List.getElem?_eq_some_iff.1 e).1
    exact ⟨h, by rw [e]; rfl⟩
theorem freeL_lt (Is : List Bool) : (freeL Is).Pairwise (· < ·) := by
  unfold freeL
  exact List.Pairwise.filter _ List.pairwise_lt_range
theorem lt_nodup {L : List Nat} (h : L.Pairwise (· < ·)) : L.Nodup := h.imp (fun h e => by omega)
theorem set_get (Is : List Bool) (x : Nat) (b : Bool) (y : Nat) (hx : x < Is.length) : (Is.set x b)[y]? = some true ↔ (if x = y then b = true else Is[y]? = some true) := by
  by_cases e : x = y
  · subst e
    rw [List.getElem?_set_self hx, if_pos rfl]
    simp
  · rw [List.getElem?_set_ne e, if_neg e]
def claimN (Is : List Bool) (z : Int) : Int × List Bool := if z < 0 ∨ (Is.length : Int) ≤ z then (1, Is) else if Is[z.toNat]? = some true then (0, Is.set z.toNat false) else (6, Is)
def giveN (Is : List Bool) (z : Int) : Int × List Bool := if z < 0 ∨ (Is.length : Int) ≤ z then (1, Is) else if Is[z.toNat]? = some true then (7, Is) else (0, Is.set z.toNat true)
def takeNF (Is : List Bool) : Int × Int × List Bool := match freeL Is with
  | [] => (0, 8, Is)
  | x :: _ => ((x : Int), 0, Is.set x false)

/-- A space in block sb, its blocks F; Is: which of its places are free. -/
structure SpAt (w : World) (B sb : Nat) (F : List Nat) (Is : List Bool) : Prop where
  ex : ∃ pb la cl sa cs L, w.cell? ⟨sb, 0, none⟩ = some (.pointer (some ⟨pb, 0, none⟩)) ∧ B ≤ sb ∧ PlAt w B pb la cl sa cs Is.length L ∧ HeapF L L.length ∧ (∀ x, x ∈ L ↔ Is[x]? = some true) ∧ sb ∉ PF pb la cl sa cs ∧ F = sb :: PF pb la cl sa cs
theorem SpAt.lt {w : World} {B sb : Nat} {F : List Nat} {Is : List Bool} (h : SpAt w B sb F Is) : ∀ k, k ∈ F → B ≤ k ∧ k < w.heap.size := by
  obtain ⟨pb, la, cl, sa, cs, L, c0, hB, hP, hH, hm, hn, rfl⟩ := h.ex
  intro k hk
  rcases List.mem_cons.1 hk with rfl | hk
  · exact ⟨hB, block_lt_of_cell c0⟩
  · exact hP.lt k hk
theorem SpAt.chg {w w' : World} {B sb : Nat} {F : List Nat} {Is : List Bool} {S : List Nat} (h : SpAt w B sb F Is) (c : Chg S w w') (hn : ∀ k, k ∈ F → k ∉ S) : SpAt w' B sb F Is := by
  obtain ⟨pb, la, cl, sa, cs, L, c0, hB, hP, hH, hm, hx, rfl⟩ := h.ex
  exact ⟨pb, la, cl, sa, cs, L, c.cellv c0 (hn sb (by simp)), hB, hP.chg c (fun k hk => hn k (by simp [hk])), hH, hm, hx, rfl⟩
theorem SpAt.keep {w w' : World} {B sb : Nat} {F : List Nat} {Is : List Bool} (h : SpAt w B sb F Is) (c : Chg [] w w') : SpAt w' B sb F Is := h.chg c (by simp)
theorem SpAt.mono {w : World} {B B' sb : Nat} {F : List Nat} {Is : List Bool} (h : SpAt w B sb F Is) (hB : B' ≤ B) : SpAt w B' sb F Is := by
  obtain ⟨pb, la, cl, sa, cs, L, c0, h1, hP, hH, hm, hx, rfl⟩ := h.ex
  obtain ⟨S, hS, hok⟩ := hP.s
  exact ⟨pb, la, cl, sa, cs, L, c0, by omega, ⟨hP.c0, hP.f0, hP.c1, hP.r.mono hB, ⟨S, hS.mono hB, hok⟩, hP.nn, Nat.le_trans hB hP.pB, hP.d1, hP.d2, hP.d3⟩, hH, hm, hx, rfl⟩
theorem SpAt.base {w : World} {B sb : Nat} {F : List Nat} {Is : List Bool} (h : SpAt w B sb F Is) : B ≤ w.heap.size := by
  obtain ⟨pb, la, cl, sa, cs, L, c0, hB, _⟩ := h.ex
  have := block_lt_of_cell c0
  exact Nat.le_of_lt (Nat.lt_of_le_of_lt hB this)
/-- What a call has made of a space. -/
def Step (w w' : World) (B sb : Nat) (F : List Nat) (Is : List Bool) : Prop := ∃ F', SpAt w' B sb F' Is ∧ Chg F w w' ∧ ∀ k, k ∈ F' → k ∈ F ∨ w.heap.size ≤ k
theorem Step.refl {w : World} {B sb : Nat} {F : List Nat} {Is : List Bool} (h : SpAt w B sb F Is) : Step w w B sb F Is := ⟨F, h, Chg.refl _ _, fun _ h => Or.inl h⟩

theorem made_yesF (sb pb : Nat) (w : World) (c0 : w.cell? ⟨sb, 0, none⟩ = some (.pointer (some ⟨pb, 0, none⟩))) : Calls Tryz.prog 103 #[.pointer (some ⟨sb, 0, none⟩)] w fun e w' => e = .returned (.bool true) ∧ w = w' := by
  go_enter Tryz.func103, Tryz.ntmps103
  go_wp2
  go_ret
  exact ⟨rfl, rfl⟩
theorem mem_perm_snoc {L L' : List Nat} {x : Nat} (hnd : L.Nodup) (p : (L' ++ [x]).Perm L) (y : Nat) : y ∈ L' ↔ y ∈ L ∧ x ≠ y := by
  have h1 : (L' ++ [x]).Nodup := p.nodup_iff.2 hnd
  rw [List.nodup_append] at h1
  have h2 := p.mem_iff (a := y)
  simp at h2
  rw [← h2]
  constructor
  · intro h
    exact ⟨Or.inl h, fun e => h1.2.2 y h x (by simp) e.symm⟩
  · rintro ⟨h | h, h3⟩
    · exact h
    · exact absurd h.symm h3
theorem SpAt.same {w w' : World} {B sb pb : Nat} {la la' : Option Addr} {cl cl' : Nat} {sa : Option Addr} {cs : Nat} {L' : List Nat} {Is' : List Bool} (c0 : w.cell? ⟨sb, 0, none⟩ = some (.pointer (some ⟨pb, 0, none⟩))) (hB : B ≤ sb) (hx : sb ∉ PF pb la cl sa cs)
    (hP : PlAt w' B pb la' cl' sa cs Is'.length L') (hH : HeapF L' L'.length) (hm : ∀ x, x ∈ L' ↔ Is'[x]? = some true) (c : Chg (PF pb la cl sa cs) w w') (hf : ∀ k, k ∈ fp la' cl' → k ∈ fp la cl ∨ w.heap.size ≤ k) : Step w w' B sb (sb :: PF pb la cl sa cs) Is' := by
  have hsw : sb < w.heap.size := block_lt_of_cell c0
  refine ⟨sb :: PF pb la' cl' sa cs, ⟨pb, la', cl', sa, cs, L', c.cellv c0 hx, hB, hP, hH, hm, ?_, rfl⟩, c.mono (fun k hk _ => by simp [hk]), ?_⟩
  · intro hk
    simp only [PF, List.mem_cons, List.mem_append] at hk hx
    rcases hk with hk | hk | hk
    · exact hx (Or.inl hk)
    · rcases hf sb hk with h9 | h9
      · exact hx (Or.inr (Or.inl h9))
      · omega
    · exact hx (Or.inr (Or.inr hk))
  · intro k hk
    simp only [PF, List.mem_cons, List.mem_append] at hk ⊢
    rcases hk with hk | hk | hk | hk
    · exact Or.inl (Or.inl hk)
    · exact Or.inl (Or.inr (Or.inl hk))
    · rcases hf k hk with h9 | h9
      · exact Or.inl (Or.inr (Or.inr (Or.inl h9)))
      · exact Or.inr h9
    · exact Or.inl (Or.inr (Or.inr (Or.inr hk)))
set_option maxRecDepth 20000 in
theorem change_claim (z : Int) (B sb : Nat) (F : List Nat) (Is : List Bool) (w : World) (h : SpAt w B sb F Is) :
    Calls Tryz.prog 126 #[.pointer (some ⟨sb, 0, none⟩), .int .i64 z, .bool true, .int .i64 6, .func (.func 127) #[] #[]] w fun e w' => e = .returned (.int .i64 (claimN Is z).1) ∧ Step w w' B sb F (claimN Is z).2 := by
  have h0 := h
  obtain ⟨pb, la, cl, sa, cs, L, c0, hB, hP, hH, hm, hx, rfl⟩ := h.ex
  have cM := made_yesF sb pb w c0
  have cH := has_any B pb la cl sa cs Is.length L w hP z
  by_cases hz : 0 ≤ z ∧ z < (Is.length : Int)
  · obtain ⟨x, rfl⟩ : ∃ x : Nat, z = (x : Int) := ⟨z.toNat, by omega⟩
    have hxn : x < Is.length := by omega
    rw [decide_eq_true hz] at cH
    have cF := isfree_any x B pb la cl sa cs Is.length L w hP hxn
    by_cases hxL : x ∈ L
    · have hI := (hm x).1 hxL
      rw [decide_eq_true hxL] at cF
      have e : claimN Is (x : Int) = (0, Is.set x false) := by unfold claimN; rw [if_neg (by omega), Int.toNat_natCast, if_pos hI]
      rw [e]
      have cD := leave_any x B pb la cl sa cs Is.length L w hP hH hxL
      have HM := mkHid hm
      clear hm hI
      go_enter Tryz.func126, Tryz.ntmps126
      go_wp2_with (first | (go_at_call 103; refine cM.mono ?_; rintro e w' ⟨rfl, rfl⟩) | (go_at_call 164; refine cH.mono ?_; rintro e w' ⟨rfl, rfl⟩) | (go_at_call 165; refine cF.mono ?_; rintro e w' ⟨rfl, rfl⟩) | (go_at_call 127; refine cD.mono ?_; rintro e w' ⟨rfl, L', h2, p2, H2, g2⟩))
      go_ret
      have hm := HM.out
      refine ⟨rfl, SpAt.same c0 hB hx (Is' := Is.set x false) (by rw [List.length_set]; exact h2) H2 (fun y => ?_) g2 (fun k hk => Or.inl hk)⟩
      rw [mem_perm_snoc hP.nd p2 y, hm y, set_get _ _ _ _ hxn]
      by_cases e : x = y
      · simp [e]
      · simp [e]
    · have hI : ¬ Is[x]? = some true := fun e => hxL ((hm x).2 e)
      rw [decide_eq_false hxL] at cF
      have e : claimN Is (x : Int) = (6, Is) := by unfold claimN; rw [if_neg (by omega), Int.toNat_natCast, if_neg hI]
      rw [e]
      go_enter Tryz.func126, Tryz.ntmps126
      go_wp2_with (first | (go_at_call 103; refine cM.mono ?_; rintro e w' ⟨rfl, rfl⟩) | (go_at_call 164; refine cH.mono ?_; rintro e w' ⟨rfl, rfl⟩) | (go_at_call 165; refine cF.mono ?_; rintro e w' ⟨rfl, rfl⟩))
      go_ret
      exact ⟨rfl, Step.refl h0⟩
  · rw [decide_eq_false hz] at cH
    have e : claimN Is z = (1, Is) := by unfold claimN; rw [if_pos (by omega)]
    rw [e]
    go_enter Tryz.func126, Tryz.ntmps126
    go_wp2_with (first | (go_at_call 103; refine cM.mono ?_; rintro e w' ⟨rfl, rfl⟩) | (go_at_call 164; refine cH.mono ?_; rintro e w' ⟨rfl, rfl⟩))
    go_ret
    exact ⟨rfl, Step.refl h0⟩
set_option maxRecDepth 20000 in
theorem change_give (z : Int) (B sb : Nat) (F : List Nat) (Is : List Bool) (w : World) (h : SpAt w B sb F Is) :
    Calls Tryz.prog 126 #[.pointer (some ⟨sb, 0, none⟩), .int .i64 z, .bool false, .int .i64 7, .func (.func 158) #[] #[]] w fun e w' => e = .returned (.int .i64 (giveN Is z).1) ∧ Step w w' B sb F (giveN Is z).2 := by
  have h0 := h
  obtain ⟨pb, la, cl, sa, cs, L, c0, hB, hP, hH, hm, hx, rfl⟩ := h.ex
  have cM := made_yesF sb pb w c0
  have cH := has_any B pb la cl sa cs Is.length L w hP z
  by_cases hz : 0 ≤ z ∧ z < (Is.length : Int)
  · obtain ⟨x, rfl⟩ : ∃ x : Nat, z = (x : Int) := ⟨z.toNat, by omega⟩
    have hxn : x < Is.length := by omega
    rw [decide_eq_true hz] at cH
    have cF := isfree_any x B pb la cl sa cs Is.length L w hP hxn
    by_cases hxL : x ∈ L
    · have hI := (hm x).1 hxL
      rw [decide_eq_true hxL] at cF
      have e : giveN Is (x : Int) = (7, Is) := by unfold giveN; rw [if_neg (by omega), Int.toNat_natCast, if_pos hI]
      rw [e]
      go_enter Tryz.func126, Tryz.ntmps126
      go_wp2_with (first | (go_at_call 103; refine cM.mono ?_; rintro e w' ⟨rfl, rfl⟩) | (go_at_call 164; refine cH.mono ?_; rintro e w' ⟨rfl, rfl⟩) | (go_at_call 165; refine cF.mono ?_; rintro e w' ⟨rfl, rfl⟩))
      go_ret
      exact ⟨rfl, Step.refl h0⟩
    · have hI : ¬ Is[x]? = some true := fun e => hxL ((hm x).2 e)
      rw [decide_eq_false hxL] at cF
      have e : giveN Is (x : Int) = (0, Is.set x true) := by unfold giveN; rw [if_neg (by omega), Int.toNat_natCast, if_neg hI]
      rw [e]
      have cD := join_anyF x B pb la cl sa cs Is.length L w hP hH h.base hxn hxL
      have HM := mkHid hm
      clear hm hI
      go_enter Tryz.func126, Tryz.ntmps126
      go_wp2_with (first | (go_at_call 103; refine cM.mono ?_; rintro e w' ⟨rfl, rfl⟩) | (go_at_call 164; refine cH.mono ?_; rintro e w' ⟨rfl, rfl⟩) | (go_at_call 165; refine cF.mono ?_; rintro e w' ⟨rfl, rfl⟩) | (go_at_call 158; refine cD.mono ?_; rintro e w' ⟨rfl, la2, cl2, L', h2, p2, H2, g2, f2⟩))
      go_ret
      have hm := HM.out
      refine ⟨rfl, SpAt.same c0 hB hx (Is' := Is.set x true) (by rw [List.length_set]; exact h2) H2 (fun y => ?_) g2 f2⟩
      rw [p2.mem_iff, List.mem_append, List.mem_singleton, hm y, set_get _ _ _ _ hxn]
      by_cases e : x = y
      · simp [e]
      · rw [if_neg e]
        exact ⟨fun h9 => h9.resolve_right (fun h8 => e h8.symm), Or.inl⟩
  · rw [decide_eq_false hz] at cH
    have e : giveN Is z = (1, Is) := by unfold giveN; rw [if_pos (by omega)]
    rw [e]
    go_enter Tryz.func126, Tryz.ntmps126
    go_wp2_with (first | (go_at_call 103; refine cM.mono ?_; rintro e w' ⟨rfl, rfl⟩) | (go_at_call 164; refine cH.mono ?_; rintro e w' ⟨rfl, rfl⟩))
    go_ret
    exact ⟨rfl, Step.refl h0⟩
theorem claim_any (z : Int) (B sb : Nat) (F : List Nat) (Is : List Bool) (w : World) (h : SpAt w B sb F Is) :
    Calls Tryz.prog 74 #[.pointer (some ⟨sb, 0, none⟩), .int .i64 z] w fun e w' => e = .returned (.int .i64 (claimN Is z).1) ∧ Step w w' B sb F (claimN Is z).2 := by
  have cC := change_claim z B sb F Is w h
  generalize claimN Is z = r at *
  go_enter Tryz.func74, Tryz.ntmps74
  go_wp2_with (first | (go_at_call 126; refine cC.mono ?_; rintro e w' ⟨rfl, hs⟩))
  go_ret
  exact ⟨rfl, hs⟩
theorem give_any (z : Int) (B sb : Nat) (F : List Nat) (Is : List Bool) (w : World) (h : SpAt w B sb F Is) :
    Calls Tryz.prog 114 #[.pointer (some ⟨sb, 0, none⟩), .int .i64 z] w fun e w' => e = .returned (.int .i64 (giveN Is z).1) ∧ Step w w' B sb F (giveN Is z).2 := by
  have cC := change_give z B sb F Is w h
  generalize giveN Is z = r at *
  go_enter Tryz.func114, Tryz.ntmps114
  go_wp2_with (first | (go_at_call 126; refine cC.mono ?_; rintro e w' ⟨rfl, hs⟩))
  go_ret
  exact ⟨rfl, hs⟩
end Go.Proofs.YtdgkbicelnnfpaaGreatDoor

/- A space: Take, Free; a space that no call made; New. -/
namespace Go.Proofs.YtdgkbicelnnfpaaGreatDoor
open Go.RowKit
set_option linter.unusedVariables false
set_option linter.unusedSimpArgs false
attribute [local go_sem ↓] Go.wp_at_zero Go.wp_at_succ

theorem line_perm {L : List Nat} {Is : List Bool} (hnd : L.Nodup) (hm : ∀ x, x ∈ L ↔ Is[x]? = some true) : L.Perm (freeL Is) :=
  (List.perm_ext_iff_of_nodup hnd (lt_nodup (freeL_lt Is))).2 fun x => by rw [hm, mem_freeL]
theorem line_top {L : List Nat} {Is : List Bool} {x : Nat} {r : List Nat} (hnd : L.Nodup) (hm : ∀ x, x ∈ L ↔ Is[x]? = some true) (hH : HeapF L L.length) (hf : freeL Is = x :: r) : ∃ h : 0 < L.length, L[0] = x := by
  have p := line_perm hnd hm
  rw [hf] at p
  have hl := p.length_eq
  simp at hl
  refine ⟨by omega, ?_⟩
  have hx : x ∈ L := p.mem_iff.2 (by simp)
  obtain ⟨k, hk, e⟩ := List.getElem_of_mem hx
  have h1 := heap_topF hH k hk
  rw [key_ltF (by omega), key_ltF hk, e] at h1
  have h2 := p.mem_iff.1 (List.getElem_mem (l := L) (n := 0) (by omega))
  have hs := freeL_lt Is
  rw [hf, List.pairwise_cons] at hs
  rcases List.mem_cons.1 h2 with h2 | h2
  · exact h2
  · have := hs.1 _ h2
    omega
set_option maxRecDepth 20000 in
theorem take_anyF (B sb : Nat) (F : List Nat) (Is : List Bool) (w : World) (h : SpAt w B sb F Is) :
    Calls Tryz.prog 56 #[.pointer (some ⟨sb, 0, none⟩)] w fun e w' => e = .returned (.tuple #[.int .i64 (takeNF Is).1, .int .i64 (takeNF Is).2.1]) ∧ Step w w' B sb F (takeNF Is).2.2 := by
  have h0 := h
  obtain ⟨pb, la, cl, sa, cs, L, c0, hB, hP, hH, hm, hx, hF⟩ := h.ex
  have cM := made_yesF sb pb w c0
  have cL := len_anyF B pb la cl sa cs Is.length L w hP
  have p := line_perm hP.nd hm
  unfold takeNF
  cases hf : freeL Is with
  | nil =>
    rw [hf] at p
    have hl : L.length = 0 := by simpa using p.length_eq
    rw [hl] at cL
    clear hm hP hH p hf
    go_enter Tryz.func56, Tryz.ntmps56
    go_wp2_with (first | (go_at_call 103; refine cM.mono ?_; rintro e w' ⟨rfl, rfl⟩) | (go_at_call 104; refine cL.mono ?_; rintro e w' ⟨rfl, rfl⟩))
    go_ret2
    exact ⟨rfl, Step.refl h0⟩
  | cons x r =>
    obtain ⟨hl, hx0⟩ := line_top hP.nd hm hH hf
    have hle := hP.le
    have hnn := hP.nn
    have hI := (mem_freeL Is x).1 (by rw [hf]; simp)
    have hxn := (List.getElem?_eq_some_iff.1 hI).1
    have cC := claim_any (x : Int) B sb F Is w h0
    have e : claimN Is (x : Int) = (0, Is.set x false) := by unfold claimN; rw [if_neg (by omega), Int.toNat_natCast, if_pos hI]
    rw [e] at cC
    have cp := hP.c0
    have hR := hP.r.reads
    obtain ⟨lb, lo, rfl, hc⟩ := hR (by rw [ivs_len]; exact hl)
    have ci := hc 0 _ (ivs_get hl)
    rw [hx0, Nat.add_zero] at ci
    have hl2 : ((L.length : Int) == 0) = false := beq_eq_false_iff_ne.2 (by omega)
    have hl3 : (L.length == 0) = false := beq_eq_false_iff_ne.2 (by omega)
    have hl4 : decide (0 < L.length) = true := decide_eq_true hl
    clear hc hR hm hH p hx0 hf
    go_enter Tryz.func56, Tryz.ntmps56
    go_wp2_with (first | (go_at_call 103; refine cM.mono ?_; rintro e w' ⟨rfl, rfl⟩) | (go_at_call 104; refine cL.mono ?_; rintro e w' ⟨rfl, rfl⟩) | (go_at_call 74; refine cC.mono ?_; rintro e w' ⟨rfl, hs⟩))
    go_ret2
    exact ⟨rfl, hs⟩
/-! ### none, and one that no call made -/
section
variable (v : Value) (w : World) (hm : Calls Tryz.prog 103 #[v] w fun e w' => e = .returned (.bool false) ∧ w = w')
include hm
end
end Go.Proofs.YtdgkbicelnnfpaaGreatDoor
