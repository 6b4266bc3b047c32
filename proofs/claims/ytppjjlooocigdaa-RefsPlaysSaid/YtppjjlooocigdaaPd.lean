/- The places of a space: Push, Pop, heap.Push, heap.Remove. -/
import Derived.Test.YtppjjlooocigdaaPc
namespace Go.Proofs.Ytppjjlooocigdaa
open Go.RowKit
set_option linter.unusedVariables false
set_option linter.unusedSimpArgs false
attribute [local go_sem ↓] Go.wp_at_zero Go.wp_at_succ

theorem Room.shorten {w : World} {B : Nat} {ao : Option Addr} {n c : Nat} {xs : List Value} (h : Room w B ao n c xs) {m : Nat} (hm : m ≤ n) : Room w B ao m c (xs.take m) := by
  have h1 := h.len
  have h2 := h.le
  refine ⟨by simp; omega, by omega, h.max, fun hc => ?_⟩
  obtain ⟨b, o, e, hB, hs, hv⟩ := h.at_ hc
  refine ⟨b, o, e, hB, hs, fun j u hu => hv j u ?_⟩
  rw [List.getElem?_take] at hu
  split at hu
  · exact hu
  · cases hu
theorem set_other' {w : World} {b i j : Nat} {u v : Value} (h : w.cell? ⟨b, j, none⟩ = some v) (hij : j ≠ i) : (w.setCell ⟨b, i, none⟩ u).cell? ⟨b, j, none⟩ = some v := by
  rw [World.cell?_setCell_other _ _ _ _ (by simp [hij])]
  exact h
theorem SpotsOk.push {n : Nat} {L : List Nat} {S : List Int} (h : SpotsOk n L S) {x : Nat} (hx : x < n) (hn : x ∉ L) : SpotsOk n (L ++ [x]) (S.set x (L.length : Int)) := by
  have hl := h.len
  refine ⟨by simp [hl], fun k hk => ?_, fun y hy hyn => ?_⟩
  · by_cases a : k < L.length
    · rw [List.getElem_append_left a, List.getElem?_set_ne (by rintro e; exact hn (e ▸ List.getElem_mem a))]
      exact h.at_ k a
    · have : k = L.length := by simp at hk; omega
      subst this
      rw [List.getElem_append_right (Nat.le_refl _)]
      simp only [Nat.sub_self, List.getElem_cons_zero]
      rw [List.getElem?_set_self (by omega)]
  · simp at hyn
    rw [List.getElem?_set_ne (fun e => hyn.2 e.symm)]
    exact h.no y hy hyn.1
theorem SpotsOk.pop {n : Nat} {L : List Nat} {S : List Int} {x : Nat} (h : SpotsOk n (L ++ [x]) S) : SpotsOk n L (S.set x (-1)) := by
  have hl := h.len
  have hnd := h.nodup
  have hxn := h.lt x (by simp)
  have hx : x ∉ L := fun hm => by
    rw [List.nodup_append] at hnd
    exact hnd.2.2 x hm x (by simp) rfl
  refine ⟨by simp [hl], fun k hk => ?_, fun y hy hyn => ?_⟩
  · rw [List.getElem?_set_ne (by rintro e; exact hx (e ▸ List.getElem_mem hk))]
    have := h.at_ k (by simp; omega)
    rwa [List.getElem_append_left hk] at this
  · by_cases e : x = y
    · subst e
      rw [List.getElem?_set_self (by omega)]
    · rw [List.getElem?_set_ne e]
      exact h.no y hy (by simp; exact ⟨hyn, fun h9 => e h9.symm⟩)
theorem assert_int (x : Nat) (w : World) : (Instr.typeAssert (.iface 3 (.int .i64 (x : Int))) 20 3 false).run Try.prog w = .ok (.int .i64 (x : Int)) w := by kernel_rfl
set_option maxRecDepth 20000 in
/-- One more place behind the line. -/
theorem wpush_any (x : Nat) (B pb : Nat) (la : Option Addr) (cl : Nat) (sa : Option Addr) (cs n : Nat) (L : List Nat) (w : World) (h : PlAt w B pb la cl sa cs n L) (hB : B ≤ w.heap.size) (hx : x < n) (hxL : x ∉ L) :
    Calls Try.prog 79 #[.pointer (some ⟨pb, 0, none⟩), .iface 3 (.int .i64 (x : Int))] w fun e w' => e = .returned (.tuple #[]) ∧ ∃ la' cl', PlAt w' B pb la' cl' sa cs n (L ++ [x]) ∧ Chg (PF pb la cl sa cs) w w' ∧ (∀ k, k ∈ fp la' cl' → k ∈ fp la cl ∨ w.heap.size ≤ k) := by
  have hnn := h.nn
  have hle := h.le
  have c0 := h.c0
  have c1 := h.c1
  have f0 := h.f0
  have d1 := h.d1
  have d2 := h.d2
  have d3 := h.d3
  have ta := assert_int x
  obtain ⟨S, hS, hok⟩ := h.s
  have hSl := hok.len
  have hS0 := hS
  obtain ⟨sb, so, rfl, _, hs2, _⟩ := hS.at_ (by have := hS.le; omega)
  obtain ⟨ux, gx⟩ := hs2 x (by have := hS.le; omega)
  obtain ⟨vx, ux⟩ := Option.isSome_iff_exists.1 ux
  have hfs : fp (some ⟨sb, so, none⟩) cs = [sb] := fp_some _ _ _ (by have := hS.le; omega)
  have g1 : Chg [sb] w ((w.setCell ⟨sb, so + x, none⟩ (.int .i64 L.length)).drew) := (Chg.setCell w ⟨sb, so + x, none⟩ _).then (Chg.drew [] _)
  rw [hfs] at d2 d3
  simp only [List.mem_singleton] at d2 d3
  have hR := h.r.chg g1 (fun k hk => by simpa using d3 k hk)
  have c01 := g1.cellv c0 (by simpa using d2)
  have c11 := g1.cellv c1 (by simpa using d2)
  have f01 := (g1.frozen (p := ⟨pb, 0, none⟩) (block_lt_of_cell c0) (by simpa using d2)).trans f0
  have s1 := (hS0.set x hx (.int .i64 (L.length : Int))).chg (Chg.drew [] _) (by simp)
  rw [zvs_set] at s1
  have hB1 : B ≤ ((w.setCell ⟨sb, so + x, none⟩ (.int .i64 L.length)).drew).heap.size := by simpa using hB
  have HZ := mkHid (show ((w.setCell ⟨sb, so + x, none⟩ (.int .i64 L.length)).drew).heap.size = w.heap.size by simp)
  have HS := mkHid s1
  have HK := mkHid (hok.push hx hxL)
  clear hs2 s1 hok hS hS0
  go_enter Try.func79, Try.ntmps79
  go_wp2
  go_region
  generalize hw1 : ((w.setCell ⟨sb, so + x, none⟩ (.int .i64 L.length)).drew) = w1 at *
  clear hw1 c0 c1 f0 ux gx
  go_wp2_with (at_builtin; refine wpList_append_1 _ rfl (.tmp 22) (.tmp 24) 77 rfl 3 8 eltN B la L.length cl (ivs L) rfl hR hB1 (.int .i64 (x : Int)) 1 rfl rfl (by unfold maxLen; omega) (by omega) ?_; intro la' cl' w3 hR3 hg3 hf3; have c03 := hg3.cellv c01 d1; have f03 := (hg3.frozen (p := ⟨pb, 0, none⟩) (block_lt_of_cell c01) d1).trans f01)
  go_end0
  have hz := HZ.out
  have hpw : pb < w.heap.size := block_lt_of_cell h.c0
  have hfn : ∀ k, k ∈ fp la' cl' → k ∈ fp la cl ∨ w.heap.size ≤ k := fun k hk => by
    rcases hf3 with h9 | ⟨q, h9, h10⟩
    · left; rw [← h9]; exact hk
    · right; rw [h10] at hk; simp at hk; omega
  have hold : ∀ k, k < w.heap.size → k ∉ fp la cl → k ∉ fp la' cl' := fun k h1 h2 h3 => (hfn k h3).elim h2 (fun h4 => by omega)
  have g2 : Chg (PF pb la cl (some ⟨sb, so, none⟩) cs) w w3 := g1.trans hg3 (fun k hk _ => by simp at hk; simp [PF, hfs, hk]) (fun k hk _ => by simp [PF, hk])
  have g4 : Chg [pb] w3 (w3.setCell ⟨pb, 0, none⟩ (.slice la' (L.length + 1) cl')) := Chg.setCell w3 ⟨pb, 0, none⟩ _
  have hel : (L ++ [x]).length = L.length + 1 := by simp
  have hsb : sb < w.heap.size := by have := h.lt sb (by simp [PF, hfs]); omega
  have hsl : sb ∉ fp la' cl' := hold sb hsb (fun hk => d3 sb hk rfl)
  have c13 := hg3.cellv c11 d1
  refine ⟨rfl, la', cl', ⟨?_, ?_, ?_, ?_, ⟨_, (HS.out.chg hg3 ?_).chg g4 ?_, HK.out⟩, hnn, h.pB, hold pb hpw d1, by rw [hfs]; simpa using d2, ?_⟩, g2.trans g4 (fun _ h _ => h) (fun k hk _ => by simp at hk; simp [PF, hk]), hfn⟩
  · rw [hel]; exact World.cell?_setCell_same _ _ _ c03
  · rw [World.frozen?_setCell]; exact f03
  · exact set_other' c13 (by decide)
  · rw [hel]
    have e : ivs (L ++ [x]) = ivs L ++ [.int .i64 (x : Int)] := by simp [ivs]
    rw [e]
    exact hR3.chg g4 (fun k hk => by simp; rintro rfl; exact hold k hpw d1 hk)
  · intro k hk h9
    rw [hfs] at hk
    simp at hk
    subst hk
    exact d3 k h9 rfl
  · intro k hk
    rw [hfs] at hk
    simp at hk ⊢
    rw [hk]
    exact fun e => d2 e.symm
  · intro k hk h9
    rw [hfs] at h9
    simp at h9
    rw [h9] at hk
    exact hsl hk
set_option maxRecDepth 20000 in
/-- The last place of the line is taken off. -/
theorem wpop_any (x : Nat) (B pb : Nat) (la : Option Addr) (cl : Nat) (sa : Option Addr) (cs n : Nat) (L : List Nat) (w : World) (h : PlAt w B pb la cl sa cs n (L ++ [x])) :
    Calls Try.prog 78 #[.pointer (some ⟨pb, 0, none⟩)] w fun e w' => e = .returned (.iface 3 (.int .i64 (x : Int))) ∧ PlAt w' B pb la cl sa cs n L ∧ Chg (PF pb la cl sa cs) w w' := by
  have hel : (L ++ [x]).length = L.length + 1 := by simp
  have c0 := h.c0
  have c1 := h.c1
  have f0 := h.f0
  have hsm := h.le
  have hnn := h.nn
  have d1 := h.d1
  have d2 := h.d2
  have d3 := h.d3
  have hxn : x < n := h.lt' x (by simp)
  obtain ⟨S, hS, hok⟩ := h.s
  have hSl := hok.len
  rw [hel] at c0 hsm
  have hlc := h.r.le
  rw [hel] at hlc
  have hcl := h.r.max
  have hr := h.r
  obtain ⟨lb, lo, rfl, _, _, hv1⟩ := h.r.at_ (by omega)
  have cn := hv1 L.length _ (ivs_get (L := L ++ [x]) (by simp))
  rw [List.getElem_append_right (Nat.le_refl _)] at cn
  simp only [Nat.sub_self, List.getElem_cons_zero] at cn
  have hS0 := hS
  obtain ⟨sb, so, rfl, _, hs2, _⟩ := hS.at_ (by have := hS.le; omega)
  obtain ⟨ux, gx⟩ := hs2 x (by have := hS.le; omega)
  obtain ⟨vx, ux⟩ := Option.isSome_iff_exists.1 ux
  have hfs : fp (some ⟨sb, so, none⟩) cs = [sb] := fp_some _ _ _ (by have := hS.le; omega)
  have hfl : fp (some ⟨lb, lo, none⟩) cl = [lb] := fp_some _ _ _ (by omega)
  rw [hfs] at d2 d3
  rw [hfl] at d1 d3
  simp only [List.mem_singleton] at d1 d2 d3
  have d3' : lb ≠ sb := d3 lb rfl
  have g1 : Chg [sb] w (w.setCell ⟨sb, so + x, none⟩ (.int .i64 (-1))) := Chg.setCell w ⟨sb, so + x, none⟩ _
  have c01 := g1.cellv c0 (by simpa using d2)
  have c11 := g1.cellv c1 (by simpa using d2)
  have f01 := (g1.frozen (p := ⟨pb, 0, none⟩) (block_lt_of_cell c0) (by simpa using d2)).trans f0
  have hsl : ∀ u : World, (Instr.slice 77 (.slice (some ⟨lb, lo, none⟩) (L.length + 1) cl) none (some (.int .i64 (L.length : Int))) none).run Try.prog u = .ok (.slice (some ⟨lb, lo, none⟩) L.length cl) u := fun u =>
    run_take_k (some ⟨lb, lo, none⟩) (L.length + 1) cl L.length Try.underlying77 (by kernel_rfl) (by omega) u
  have HE := mkHid hel
  have HK := mkHid hok.pop
  clear hel hs2 hok hv1 hS
  go_enter Try.func78, Try.ntmps78
  go_wp2
  go_ret
  have hel := HE.out
  have s1 := hS0.set x hxn (.int .i64 (-1))
  rw [zvs_set] at s1
  have g2 : Chg [pb] (w.setCell ⟨sb, so + x, none⟩ (.int .i64 (-1))) ((w.setCell ⟨sb, so + x, none⟩ (.int .i64 (-1))).setCell ⟨pb, 0, none⟩ (.slice (some ⟨lb, lo, none⟩) L.length cl)) := Chg.setCell _ ⟨pb, 0, none⟩ _
  refine ⟨rfl, ⟨World.cell?_setCell_same _ _ _ c01, by rw [World.frozen?_setCell]; exact f01, set_other' c11 (by decide), ?_, ⟨_, s1.chg g2 (by rw [hfs]; simpa using fun e => d2 e.symm), HK.out⟩, hnn, h.pB, by rw [hfl]; simpa using d1, by rw [hfs]; simpa using d2, by rw [hfl, hfs]; simpa using d3'⟩, g1.trans g2 (fun k hk _ => by simp at hk; simp [PF, hfs, hk]) (fun k hk _ => by simp at hk; simp [PF, hk])⟩
  have h8 := hr.shorten (m := L.length) (by omega)
  have e : (ivs (L ++ [x])).take L.length = ivs L := by
    simp [ivs]
  rw [e] at h8
  exact (h8.chg g1 (by rw [hfl]; simpa using d3')).chg g2 (by rw [hfl]; simpa using fun e => d1 e.symm)
end Go.Proofs.Ytppjjlooocigdaa
