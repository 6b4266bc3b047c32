/- The law's rows of calls, opened. -/
import Derived.Test.YtdmhcbbakgljoaaKa
import Derived.Test.YtdmhcbbakgljoaaE
import Derived.Lib.SmallJoins
import Derived.Deep.Slices
namespace Go.Proofs.Ytdmhcbbakgljoaa
open Go.ChangeShapes Go.WideShapes Go.ChangeAt Go.RowKit
set_option linter.unusedVariables false
set_option linter.unusedSimpArgs false
set_option maxRecDepth 20000

structure ActD where
  wh : Int
  num : Int
  x : UInt8
  ba : Option Addr
  nb : Nat
  cb : Nat
  b : List UInt8
structure ActAt (w : World) (bk o : Nat) (A : ActD) : Prop where
  c0 : w.cell? ⟨bk, o, none⟩ = some (.int .i64 A.wh)
  c1 : w.cell? ⟨bk, o + 1, none⟩ = some (.int .i64 A.num)
  c2 : w.cell? ⟨bk, o + 2, none⟩ = some (.int .u8 (A.x.toNat : Int))
  c3 : w.cell? ⟨bk, o + 3, none⟩ = some (.slice A.ba A.nb A.cb)
  w0 : (Lit.int .i64 A.wh).wf = true
  w1 : (Lit.int .i64 A.num).wf = true
  rb : Reads w A.ba (bts A.b)
  lb : A.b.length = A.nb
  le : A.nb ≤ A.cb
  max : A.cb ≤ 140737488351232
theorem ActAt.old {S : List Nat} {w w' : World} {b o : Nat} {A : ActD} (h : ActAt w b o A) (g : Chg S w w') (hS : ∀ k, k ∈ S → w.heap.size ≤ k) : ActAt w' b o A := by
  have hb : b < w.heap.size := block_lt_of_cell h.c0
  have hn : b ∉ S := fun hm => by have := hS b hm; omega
  exact ⟨g.cellv h.c0 hn, g.cellv h.c1 hn, g.cellv h.c2 hn, g.cellv h.c3 hn, h.w0, h.w1, h.rb.old g hS, h.lb, h.le, h.max⟩
/-- The slice at a holds the calls. -/
def ActsAt (w : World) (a : Option Addr) (n : Nat) (acts : Nat → ActD) : Prop := 0 < n → ∃ b o, a = some ⟨b, o, none⟩ ∧ ∀ i, i < n → ActAt w b (o + i * 4) (acts i)
section
variable {H : Type} {enc : TypeId × Value → H} {P : Program} {w : World} {base : Nat} {spare : Nat → Bool} {held : Bool}
theorem trod_struct4 {t : TypeId} {f0 f1 f2 f3 : Field} {fuel : Nat} {cs : List Value} {x : DataW H × List MemPlace} (ht : P.underlying t = some (.struct #[f0, f1, f2, f3])) (h : DataW.trod enc P w base spare held fuel t cs = some x) :
    ∃ y0 y1 y2 y3 n, x = (.agg [y0.1, y1.1, y2.1, y3.1], y0.2 ++ (y1.2 ++ (y2.2 ++ y3.2))) ∧ cs.length = P.cellsOf t ∧ DataW.trod enc P w base spare held n f0.type ((cs.drop f0.offset).take (P.cellsOf f0.type)) = some y0 ∧
      DataW.trod enc P w base spare held n f1.type ((cs.drop f1.offset).take (P.cellsOf f1.type)) = some y1 ∧ DataW.trod enc P w base spare held n f2.type ((cs.drop f2.offset).take (P.cellsOf f2.type)) = some y2 ∧
      DataW.trod enc P w base spare held n f3.type ((cs.drop f3.offset).take (P.cellsOf f3.type)) = some y3 := by
  obtain ⟨xs, n, _, rfl, hl, hlen, hf⟩ := DataW.trod_struct ht h
  match xs, hlen with
  | [y0, y1, y2, y3], _ => exact ⟨y0, y1, y2, y3, n, by simp, hl, by simpa using hf 0 f0 rfl, by simpa using hf 1 f1 rfl, by simpa using hf 2 f2 rfl, by simpa using hf 3 f3 rfl⟩
end
/-- One call, opened. -/
theorem open_act {H : Type} {enc : TypeId × Value → H} {W : World} {a : Addr} {cs : List Value} {n : Nat} {x : DataW H × List MemPlace}
    (hc : W.cells? 0 a 4 = some cs) (h : DataW.trod enc Try.prog W 0 (fun _ => true) true n 34 cs = some x) (hs : Sized Try.prog 34 x.1) :
    ∃ A : ActD, a.spot = none ∧ ActAt W a.block a.off A := by
  obtain ⟨hl, _, hcell⟩ := World.cells?_some hc
  obtain ⟨y0, y1, y2, y3, m, rfl, hl2, h0, h1, h2, h3⟩ := trod_struct4 Try.underlying34 h
  match cs, hl with
  | [v0, v1, v2, v3], _ =>
    have e0 := hcell 0 (by omega)
    have e1 := hcell 1 (by omega)
    have e2 := hcell 2 (by omega)
    have e3 := hcell 3 (by omega)
    have c3 : Try.prog.cellsOf 3 = 1 := by kernel_rfl
    have c5 : Try.prog.cellsOf 5 = 1 := by kernel_rfl
    have c32 : Try.prog.cellsOf 31 = 1 := by kernel_rfl
    simp only [c3, c5, c32, List.drop_zero, List.drop_succ_cons, List.take_succ_cons, List.take_zero] at h0 h1 h2 h3
    obtain ⟨q0, r0, rfl, wf0⟩ := DataW.trod_int Try.underlying3 h0
    obtain ⟨q1, r1, rfl, wf1⟩ := DataW.trod_int Try.underlying3 h1
    obtain ⟨q2, r2, rfl, wf2⟩ := DataW.trod_int Try.underlying5 h2
    obtain ⟨ba, bl, bc, r3⟩ := Joins.slice_form Try.underlying31 h3
    simp at r0 r1 r2 r3
    subst r0 r1 r2 r3
    obtain ⟨lb, g3, gn3, gc3, gm3, gd3⟩ := opened_bytes Try.underlying31 Try.underlying5 (by kernel_rfl) ⟨m, h3⟩
    have hs3 : Sized Try.prog 31 y3.1 := hs.field Try.underlying34 (j := 3) rfl rfl
    have hb3 := hs3.slice (bytes := 1) Try.underlying31 (by kernel_rfl) gd3
    have hq2 := wf_u8 wf2
    obtain ⟨b, o, s⟩ := a
    have hs0 : s = none := by
      have := World.cell?_spot e0
      simpa [Addr.add] using this
    subst hs0
    simp only [Addr.add_lit] at e0 e1 e2 e3
    have hx : ((UInt8.ofNat q2.toNat).toNat : Int) = q2 := by simp; omega
    exact ⟨⟨q0, q1, UInt8.ofNat q2.toNat, ba, bl, bc, lb⟩, rfl, ⟨by simpa using e0, e1, by rw [hx]; exact e2, e3, wf0, wf1, g3, gn3, gc3, by show bc ≤ _; omega⟩⟩
/-- All calls, opened. -/
theorem open_acts {H : Type} {enc : TypeId × Value → H} {base : Nat} (v : Value) (W : World) {d : DataW H} {p : List MemPlace} (k : DataW.Trod enc Try.prog W 0 (fun _ => true) true 22 v d p) (hv : Value.okWide Try.prog W .any base 22 v) (hs : Sized Try.prog 22 d) :
    ∃ a0 n0 c0 acts, v = .slice a0 n0 c0 ∧ n0 ≤ c0 ∧ c0 ≤ maxLen ∧ ActsAt W a0 n0 acts ∧ c0 * 48 ≤ 140737488351232 := by
  obtain ⟨a0, n0, c0, rfl⟩ := okWide_slice Try.underlying22 hv
  obtain ⟨m, hm⟩ := k
  rcases Deep.open_slice Try.underlying22 hm with ⟨hcs, hx⟩ | ⟨a, len, cap, mm, nn, D, Pl, hcs, _, hl, hmx, hme, hx, hel⟩
  · simp [Value.cells] at hcs
    obtain ⟨rfl, rfl, rfl⟩ := hcs
    exact ⟨none, 0, 0, fun _ => ⟨0, 0, 0, none, 0, 0, []⟩, rfl, Nat.le_refl _, Nat.zero_le _, (fun h => by omega), by omega⟩
  · simp [Value.cells] at hcs
    obtain ⟨rfl, rfl, rfl⟩ := hcs
    simp only [Prod.mk.injEq] at hx
    obtain ⟨rfl, _⟩ := hx
    simp only [if_true] at hme
    subst hme
    have hact : ∀ i, i < n0 → ∃ A : ActD, (a.add (i * 4)).spot = none ∧ ActAt W (a.add (i * 4)).block (a.add (i * 4)).off A := fun i hi => by
      obtain ⟨cs', h1, h2⟩ := hel i (by omega)
      have e5 : Try.prog.cellsOf 34 = 4 := by kernel_rfl
      rw [e5] at h1
      exact open_act h1 h2 (hs.elem Try.underlying22 (List.mem_map.2 ⟨i, by simpa using hi, rfl⟩))
    haveI : Inhabited ActD := ⟨⟨0, 0, 0, none, 0, 0, []⟩⟩
    obtain ⟨acts, hacts⟩ := Deep.choose_lt hact
    refine ⟨some a, n0, _, acts, rfl, hl, hmx, fun h0 => ?_, hs.slice (bytes := 48) Try.underlying22 (by kernel_rfl) (Or.inr ⟨_, _, rfl, by simp; omega⟩)⟩
    obtain ⟨b, o, s⟩ := a
    have hs0 := (hacts 0 h0).1
    simp [Addr.add] at hs0
    subst hs0
    refine ⟨b, o, rfl, fun i hi => ?_⟩
    have := (hacts i hi).2
    simpa [Addr.add_lit] using this
end Go.Proofs.Ytdmhcbbakgljoaa
