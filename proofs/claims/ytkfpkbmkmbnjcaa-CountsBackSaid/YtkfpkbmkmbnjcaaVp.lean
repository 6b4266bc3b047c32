/- The landed code: its contracts, as the laws take them. -/
import Derived.Test.YtkfpkbmkmbnjcaaVn
namespace Go.Proofs.Ytkfpkbmkmbnjcaa
open Go.RowKit
set_option linter.unusedVariables false
set_option linter.unusedSimpArgs false

theorem page_no (a0 : Option Addr) (n c : Nat) (L : List UInt8) (z : Int) (w : World) (g0 : Reads w a0 (bts L)) (gn : L.length = n) (hc : n ≤ c) (hn : n ≤ 140737488351232) (hz : z < 0 ∨ (npg n : Int) ≤ z) : Calls Try.prog 8 #[.slice a0 n c, .int .i64 z] w fun e w' => e = .returned (.tuple #[.slice none 0 0, .int .i64 1]) ∧ Chg [] w w' := by
  refine (page_core a0 n c L z w g0 gn hc hn).mono ?_
  rintro e w' ⟨hg, ⟨rfl, _⟩ | ⟨x, b, hx, _⟩⟩
  · exact ⟨rfl, hg⟩
  · have := x.2
    omega
theorem page_yes (a0 : Option Addr) (n c : Nat) (L : List UInt8) (x : Nat) (w : World) (g0 : Reads w a0 (bts L)) (gn : L.length = n) (hc : n ≤ c) (hn : n ≤ 140737488351232) (hx : x < npg n) : Calls Try.prog 8 #[.slice a0 n c, .int .i64 (x : Int)] w fun e w' => ∃ a cc ps p, e = .returned (.tuple #[.slice a 240 cc, .int .i64 0]) ∧ IsPut L n ps ∧ ps[x]? = some p ∧ Room w' w.heap.size a 240 cc (bts p) ∧ Chg [] w w' := by
  refine (page_core a0 n c L (x : Int) w g0 gn hc hn).mono ?_
  rintro e w' ⟨hg, ⟨rfl, h⟩ | ⟨y, b, hy, rfl, hr⟩⟩
  · exact absurd rfl (h ⟨x, hx⟩)
  · obtain ⟨y, hyn⟩ := y
    dsimp only at hy hr
    obtain rfl : y = x := by omega
    refine ⟨_, _, (List.range (npg n)).map (fun i => pageOf (partL L n i)), _, rfl, isPut_of gn (by rw [List.length_map, List.length_range]) (fun i hi => ?_), ?_, hr, hg⟩
    · rw [List.getElem?_map, List.getElem?_range hi]; rfl
    · rw [List.getElem?_map, List.getElem?_range hx]; rfl
end Go.Proofs.Ytkfpkbmkmbnjcaa
