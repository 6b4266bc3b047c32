/- What the program's calls are to answer (Sup); the law's awake, torn; arguments opened; bytes.Equal. -/
import Derived.Test.YthbnakahcchbnaaZf
import Derived.Test.YthbnakahcchbnaaE
namespace Go.Proofs.Ythbnakahcchbnaa
open Go.ChangeShapes Go.WideShapes Go.ChangeAt Go.RowKit
set_option linter.unusedVariables false
set_option linter.unusedSimpArgs false
attribute [local go_sem ↓] Go.wp_at_zero Go.wp_at_succ

/-- What the program's Put answers. -/
def PPut (w : World) (s : SB) (e : Ending) (w' : World) : Prop :=
  Chg [] w w' ∧ ((s.may = true ∧ ∃ b o c, e = .returned (.tuple #[.slice (some ⟨b, o, none⟩) 64 c, .int .i64 0]) ∧ Room w' w.heap.size (some ⟨b, o, none⟩) 64 c (bts s.form)) ∨ (s.may = false ∧ e = .returned (.tuple #[.slice none 0 0, .int .i64 1])))
/-- The numbers are such as the program has them. -/
def SB.Fits (s : SB) : Prop := s.G < 2 ^ 64 ∧ s.D < 2 ^ 64 ∧ s.X < 2 ^ 64 ∧ -9223372036854775808 ≤ s.B ∧ s.B < 9223372036854775808
theorem SB.fits_of_may {s : SB} (h : s.may = true) : s.Fits := by
  rw [SB.may_iff] at h
  exact ⟨by omega, by omega, by omega, by omega, by omega⟩
theorem SB.Fits.wide {s : SB} (h : s.Fits) : s.Wide := ⟨h.1, h.2.1, h.2.2.1⟩
structure Sup : Prop where
  may : ∀ (s : SB) (w : World), s.Fits → Calls Try.prog 13 #[s.v] w fun e w' => e = .returned (.bool s.may) ∧ Chg [] w w'
  put : ∀ (s : SB) (w : World), s.Fits → Calls Try.prog 9 #[s.v] w (PPut w s)
  take : ∀ (ao : Option Addr) (n c : Nat) (l : List UInt8) (w : World), Reads w ao (bts l) → l.length = n → n ≤ c → c ≤ maxLen → Calls Try.prog 15 #[.slice ao n c] w (STake w l)
  choose : ∀ (ao : Option Addr) (n c : Nat) (l : List UInt8) (bo : Option Addr) (m d : Nat) (k : List UInt8) (w : World), Reads w ao (bts l) → l.length = n → n ≤ c → c ≤ maxLen → Reads w bo (bts k) → k.length = m → m ≤ d → d ≤ maxLen → Calls Try.prog 17 #[.slice ao n c, .slice bo m d] w (SChoose w l k)

theorem beq_any (ao : Option Addr) (n c : Nat) (l : List UInt8) (bo : Option Addr) (m d : Nat) (k : List UInt8) (w : World) (h1 : Reads w ao (bts l)) (hn : l.length = n) (h2 : Reads w bo (bts k)) (hm : k.length = m) :
    Calls Try.prog 12 #[.slice ao n c, .slice bo m d] w fun e w' => e = .returned (.bool (decide (l = k))) ∧ w = w' := by
  have r1 := run_convert_k (P := Try.prog) w 25 5 9 Try.underlying25 Try.underlying5 Try.underlying9 ao n c l h1 hn
  have r2 := run_convert_k (P := Try.prog) w 25 5 9 Try.underlying25 Try.underlying5 Try.underlying9 bo m d k h2 hm
  go_enter Try.func12, Try.ntmps12
  go_wp2
  go_ret
  exact ⟨ret_bool' (by rw [Bool.eq_iff_iff]; simp), rfl⟩

/-! ### the argument, opened -/
section
variable {H : Type} {enc : TypeId × Value → H} {P : Program} {w : World} {base : Nat} {spare : Nat → Bool} {held : Bool}
theorem trod_struct4 {t : TypeId} {f0 f1 f2 f3 : Field} {fuel : Nat} {cs : List Value} {x : DataW H × List MemPlace} (ht : P.underlying t = some (.struct #[f0, f1, f2, f3])) (h : DataW.trod enc P w base spare held fuel t cs = some x) :
    ∃ y0 y1 y2 y3 n, x = (.agg [y0.1, y1.1, y2.1, y3.1], y0.2 ++ (y1.2 ++ (y2.2 ++ y3.2))) ∧ cs.length = P.cellsOf t ∧ DataW.trod enc P w base spare held n f0.type ((cs.drop f0.offset).take (P.cellsOf f0.type)) = some y0 ∧
      DataW.trod enc P w base spare held n f1.type ((cs.drop f1.offset).take (P.cellsOf f1.type)) = some y1 ∧ DataW.trod enc P w base spare held n f2.type ((cs.drop f2.offset).take (P.cellsOf f2.type)) = some y2 ∧ DataW.trod enc P w base spare held n f3.type ((cs.drop f3.offset).take (P.cellsOf f3.type)) = some y3 := by
  obtain ⟨xs, n, _, rfl, hl, hlen, hf⟩ := DataW.trod_struct ht h
  match xs, hlen with
  | [y0, y1, y2, y3], _ => exact ⟨y0, y1, y2, y3, n, by simp, hl, by simpa using hf 0 f0 rfl, by simpa using hf 1 f1 rfl, by simpa using hf 2 f2 rfl, by simpa using hf 3 f3 rfl⟩
end
theorem wf_u64 {z : Int} (h : (Lit.int .u64 z).wf = true) : 0 ≤ z ∧ z < 18446744073709551616 := by
  have := Go.bounds_u64 h
  omega
theorem wf_i64 {z : Int} (h : (Lit.int .i64 z).wf = true) : -9223372036854775808 ≤ z ∧ z < 9223372036854775808 := by
  have := Go.bounds_i64 h
  omega
theorem open_super {H : Type} {enc : TypeId × Value → H} {base : Nat} (v : Value) (W : World) {d : DataW H} {p : List MemPlace} (k : DataW.Trod enc Try.prog W 0 (fun _ => true) true 24 v d p) (hv : Value.okWide Try.prog W .any base 24 v) :
    ∃ s : SB, v = s.v ∧ s.Fits := by
  obtain ⟨cs, rfl, hsz⟩ := okWide_struct Try.underlying24 hv
  have e4 : Try.prog.cellsOf 24 = 4 := by kernel_rfl
  rw [e4] at hsz
  obtain ⟨m, hm⟩ := k
  obtain ⟨y0, y1, y2, y3, q, hx, hl2, h0, h1, h2, h3⟩ := trod_struct4 Try.underlying24 hm
  obtain ⟨cl, rfl⟩ : ∃ cl : List Value, cs = cl.toArray := ⟨cs.toList, by simp⟩
  match cl, hsz with
  | [v0, v1, v2, v3], _ =>
    have cu : Try.prog.cellsOf 22 = 1 := by kernel_rfl
    have ci : Try.prog.cellsOf 3 = 1 := by kernel_rfl
    simp only [cu, ci, Value.cells, List.drop_zero, List.drop_succ_cons, List.take_succ_cons, List.take_zero] at h0 h1 h2 h3
    obtain ⟨q0, r0, _, wf0⟩ := DataW.trod_int Try.underlying22 h0
    obtain ⟨q1, r1, _, wf1⟩ := DataW.trod_int Try.underlying3 h1
    obtain ⟨q2, r2, _, wf2⟩ := DataW.trod_int Try.underlying22 h2
    obtain ⟨q3, r3, _, wf3⟩ := DataW.trod_int Try.underlying22 h3
    simp at r0 r1 r2 r3
    subst r0 r1 r2 r3
    have b0 := wf_u64 wf0
    have b1 := wf_i64 wf1
    have b2 := wf_u64 wf2
    have b3 := wf_u64 wf3
    refine ⟨⟨q0.toNat, q1, q2.toNat, q3.toNat⟩, ?_, ⟨by dsimp only; omega, by dsimp only; omega, by dsimp only; omega, b1.1, b1.2⟩⟩
    unfold SB.v
    rw [show ((q0.toNat : Nat) : Int) = q0 by omega, show ((q2.toNat : Nat) : Int) = q2 by omega, show ((q3.toNat : Nat) : Int) = q3 by omega]
end Go.Proofs.Ythbnakahcchbnaa
