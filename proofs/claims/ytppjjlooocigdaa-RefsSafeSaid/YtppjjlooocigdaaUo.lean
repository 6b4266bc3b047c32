/- The law's rows of calls, opened; do; alike. -/
import Derived.Test.YtppjjlooocigdaaUm
import Derived.Test.YtppjjlooocigdaaE
import Derived.Lib.SmallJoins
import Derived.Deep.Slices
import Derived.Deep.CutBlock
namespace Go.Proofs.Ytppjjlooocigdaa
open Go.ChangeShapes Go.WideShapes Go.ChangeAt Go.RowKit
set_option linter.unusedVariables false
set_option linter.unusedSimpArgs false
attribute [local go_sem ↓] Go.wp_at_zero Go.wp_at_succ

structure ActD where
  wh : Int
  num : Int
structure ActAt (w : World) (bk o : Nat) (A : ActD) : Prop where
  c0 : w.cell? ⟨bk, o, none⟩ = some (.int .i64 A.wh)
  c1 : w.cell? ⟨bk, o + 1, none⟩ = some (.int .i64 A.num)
  w0 : (Lit.int .i64 A.wh).wf = true
  w1 : (Lit.int .i64 A.num).wf = true
theorem ActAt.keep {w w' : World} {b o : Nat} {A : ActD} (h : ActAt w b o A) (g : Chg [] w w') : ActAt w' b o A :=
  ⟨g.cellv h.c0 (by simp), g.cellv h.c1 (by simp), h.w0, h.w1⟩
/-- The slice at a holds the calls. -/
def ActsAt (w : World) (a : Option Addr) (n : Nat) (acts : Nat → ActD) : Prop := 0 < n → ∃ b o, a = some ⟨b, o, none⟩ ∧ ∀ i, i < n → ActAt w b (o + i * 2) (acts i)
section
variable {H : Type} {enc : TypeId × Value → H} {P : Program} {w : World} {base : Nat} {spare : Nat → Bool} {held : Bool}
theorem trod_struct2 {t : TypeId} {f0 f1 : Field} {fuel : Nat} {cs : List Value} {x : DataW H × List MemPlace} (ht : P.underlying t = some (.struct #[f0, f1])) (h : DataW.trod enc P w base spare held fuel t cs = some x) :
    ∃ y0 y1 n, x = (.agg [y0.1, y1.1], y0.2 ++ y1.2) ∧ cs.length = P.cellsOf t ∧ DataW.trod enc P w base spare held n f0.type ((cs.drop f0.offset).take (P.cellsOf f0.type)) = some y0 ∧
      DataW.trod enc P w base spare held n f1.type ((cs.drop f1.offset).take (P.cellsOf f1.type)) = some y1 := by
  obtain ⟨xs, n, _, rfl, hl, hlen, hf⟩ := DataW.trod_struct ht h
  match xs, hlen with
  | [y0, y1], _ => exact ⟨y0, y1, n, by simp, hl, by simpa using hf 0 f0 rfl, by simpa using hf 1 f1 rfl⟩
end
/-- One call, opened. -/
theorem open_act {H : Type} {enc : TypeId × Value → H} {W : World} {a : Addr} {cs : List Value} {n : Nat} {x : DataW H × List MemPlace}
    (hc : W.cells? 0 a 2 = some cs) (h : DataW.trod enc Try.prog W 0 (fun _ => true) true n 33 cs = some x) :
    ∃ A : ActD, a.spot = none ∧ ActAt W a.block a.off A := by
  obtain ⟨hl, _, hcell⟩ := World.cells?_some hc
  obtain ⟨y0, y1, m, rfl, hl2, h0, h1⟩ := trod_struct2 Try.underlying33 h
  match cs, hl with
  | [v0, v1], _ =>
    have e0 := hcell 0 (by omega)
    have e1 := hcell 1 (by omega)
    have c3 : Try.prog.cellsOf 3 = 1 := by kernel_rfl
    simp only [c3, List.drop_zero, List.drop_succ_cons, List.take_succ_cons, List.take_zero] at h0 h1
    obtain ⟨q0, r0, rfl, wf0⟩ := DataW.trod_int Try.underlying3 h0
    obtain ⟨q1, r1, rfl, wf1⟩ := DataW.trod_int Try.underlying3 h1
    simp at r0 r1
    subst r0 r1
    obtain ⟨b, o, s⟩ := a
    have hs0 : s = none := by
      have := World.cell?_spot e0
      simpa [Addr.add] using this
    subst hs0
    simp only [Addr.add_lit] at e0 e1
    exact ⟨⟨q0, q1⟩, rfl, ⟨by simpa using e0, e1, wf0, wf1⟩⟩
/-- All calls, opened. -/
theorem open_acts {H : Type} {enc : TypeId × Value → H} {base : Nat} (v : Value) (W : World) {d : DataW H} {p : List MemPlace} (k : DataW.Trod enc Try.prog W 0 (fun _ => true) true 23 v d p) (hv : Value.okWide Try.prog W .any base 23 v) (hs : Sized Try.prog 23 d) :
    ∃ a0 n0 c0 acts, v = .slice a0 n0 c0 ∧ n0 ≤ c0 ∧ c0 ≤ maxLen ∧ ActsAt W a0 n0 acts ∧ c0 * 16 ≤ 140737488351232 := by
  obtain ⟨a0, n0, c0, rfl⟩ := okWide_slice Try.underlying23 hv
  obtain ⟨m, hm⟩ := k
  rcases Deep.open_slice Try.underlying23 hm with ⟨hcs, hx⟩ | ⟨a, len, cap, mm, nn, D, Pl, hcs, _, hl, hmx, hme, hx, hel⟩
  · simp [Value.cells] at hcs
    obtain ⟨rfl, rfl, rfl⟩ := hcs
    exact ⟨none, 0, 0, fun _ => ⟨0, 0⟩, rfl, Nat.le_refl _, Nat.zero_le _, (fun h => by omega), by omega⟩
  · simp [Value.cells] at hcs
    obtain ⟨rfl, rfl, rfl⟩ := hcs
    simp only [Prod.mk.injEq] at hx
    obtain ⟨rfl, _⟩ := hx
    simp only [if_true] at hme
    subst hme
    have hact : ∀ i, i < n0 → ∃ A : ActD, (a.add (i * 2)).spot = none ∧ ActAt W (a.add (i * 2)).block (a.add (i * 2)).off A := fun i hi => by
      obtain ⟨cs', h1, h2⟩ := hel i (by omega)
      have e5 : Try.prog.cellsOf 33 = 2 := by kernel_rfl
      rw [e5] at h1
      exact open_act h1 h2
    haveI : Inhabited ActD := ⟨⟨0, 0⟩⟩
    obtain ⟨acts, hacts⟩ := Deep.choose_lt hact
    refine ⟨some a, n0, _, acts, rfl, hl, hmx, fun h0 => ?_, hs.slice (bytes := 16) Try.underlying23 (by kernel_rfl) (Or.inr ⟨_, _, rfl, by simp; omega⟩)⟩
    obtain ⟨b, o, s⟩ := a
    have hs0 := (hacts 0 h0).1
    simp [Addr.add] at hs0
    subst hs0
    refine ⟨b, o, rfl, fun i hi => ?_⟩
    have := (hacts i hi).2
    simpa [Addr.add_lit] using this


/-! ### do -/
def doN (wh num : Int) (N C : List UInt8) : Int × List UInt8 × List UInt8 :=
  if wh = 0 then (if (allocN N C).2.1 = 0 then (allocN N C).1 else -1, (allocN N C).2.2, C)
  else if wh = 1 then (-1, (incN N num).2, C)
  else if wh = 2 then (-1, (decN N num).2.2, C)
  else if wh = 3 then (-1, N, N)
  else if wh = 4 then (-1, C, C)
  else (-1, N, C)
theorem Turn.ahead {B : Nat} {tag tag' : Nat → Nat} {i : Nat} {w w1 w' : World} (g : Chg [] w w1) (h : Turn B tag tag' i w1 w') : Turn B tag tag' i w w' := by
  obtain ⟨⟨S, h1, h2⟩, h3⟩ := h
  exact ⟨⟨S, g.trans h1 (by simp) (fun k hk _ => hk), h2⟩, fun k hk => h3 k (Nat.lt_of_lt_of_le hk g.size)⟩
set_option maxRecDepth 20000 in
theorem do_any {B : Nat} {w : World} {tag : Nat → Nat} {i rb n : Nat} {N C : List UInt8} (h : HasR B w tag i rb n N C) (wh num : Int) :
    Calls Try.prog 26 #[.pointer (some ⟨rb, 0, none⟩), .agg #[.int .i64 wh, .int .i64 num]] w fun e w' => e = .returned (.int .i64 (doN wh num N C).1) ∧ ∃ tag', HasR B w' tag' i rb n (doN wh num N C).2.1 (doN wh num N C).2.2 ∧ Turn B tag tag' i w w' := by
  have g0 := Chg.alloc [] w (.cells #[.int .i64 wh, .int .i64 num] 33)
  have h0 := h.still (Still.of g0)
  by_cases q0 : wh = 0
  · subst q0
    have e : doN 0 num N C = (if (allocN N C).2.1 = 0 then (allocN N C).1 else -1, (allocN N C).2.2, C) := rfl
    rw [e]
    have c1 := r_alloc h0
    have he : (allocN N C).2.1 = 0 ∨ (allocN N C).2.1 = 8 := by unfold allocN; split <;> simp
    generalize allocN N C = q at *
    obtain ⟨x, ec, N'⟩ := q
    simp only at *
    clear e h h0
    rcases he with rfl | rfl
    · rw [if_pos rfl]
      go_enter Try.func26, Try.ntmps26
      go_wp2_with (first | (go_at_call 10; refine c1.mono ?_; rintro e w1 ⟨rfl, tg, h1, s1⟩))
      go_ret
      exact ⟨rfl, tg, h1, s1.ahead g0⟩
    · rw [if_neg (by decide)]
      go_enter Try.func26, Try.ntmps26
      go_wp2_with (first | (go_at_call 10; refine c1.mono ?_; rintro e w1 ⟨rfl, tg, h1, s1⟩))
      go_ret
      exact ⟨rfl, tg, h1, s1.ahead g0⟩
  · by_cases q1 : wh = 1
    · subst q1
      have e : doN 1 num N C = (-1, (incN N num).2, C) := rfl
      rw [e]
      have c1 := r_inc h0 num
      generalize incN N num = q at *
      clear e h h0
      go_enter Try.func26, Try.ntmps26
      go_wp2_with (first | (go_at_call 12; refine c1.mono ?_; rintro e w1 ⟨rfl, tg, h1, s1⟩))
      go_ret
      exact ⟨rfl, tg, h1, s1.ahead g0⟩
    · by_cases q2 : wh = 2
      · subst q2
        have e : doN 2 num N C = (-1, (decN N num).2.2, C) := rfl
        rw [e]
        have c1 := r_dec h0 num
        generalize decN N num = q at *
        clear e h h0
        go_enter Try.func26, Try.ntmps26
        go_wp2_with (first | (go_at_call 14; refine c1.mono ?_; rintro e w1 ⟨rfl, tg, h1, s1⟩))
        go_ret
        exact ⟨rfl, tg, h1, s1.ahead g0⟩
      · by_cases q3 : wh = 3
        · subst q3
          have e : doN 3 num N C = (-1, N, N) := rfl
          rw [e]
          have c1 := r_commit h0
          clear e h h0
          go_enter Try.func26, Try.ntmps26
          go_wp2_with (first | (go_at_call 16; refine c1.mono ?_; rintro e w1 ⟨rfl, tg, h1, s1⟩))
          go_ret
          exact ⟨rfl, tg, h1, s1.ahead g0⟩
        · by_cases q4 : wh = 4
          · subst q4
            have e : doN 4 num N C = (-1, C, C) := rfl
            rw [e]
            have c1 := r_abort h0
            clear e h h0
            go_enter Try.func26, Try.ntmps26
            go_wp2_with (first | (go_at_call 18; refine c1.mono ?_; rintro e w1 ⟨rfl, tg, h1, s1⟩))
            go_ret
            exact ⟨rfl, tg, h1, s1.ahead g0⟩
          · have e : doN wh num N C = (-1, N, C) := by unfold doN; rw [if_neg q0, if_neg q1, if_neg q2, if_neg q3, if_neg q4]
            rw [e]
            have b0 : (wh == 0) = false := beq_eq_false_iff_ne.2 q0
            have b1 : (wh == 1) = false := beq_eq_false_iff_ne.2 q1
            have b2 : (wh == 2) = false := beq_eq_false_iff_ne.2 q2
            have b3 : (wh == 3) = false := beq_eq_false_iff_ne.2 q3
            have b4 : (wh == 4) = false := beq_eq_false_iff_ne.2 q4
            clear e
            go_enter Try.func26, Try.ntmps26
            go_wp2_with fail
            go_ret
            exact ⟨rfl, tag, h0, (Still.of g0).turn _ _⟩
end Go.Proofs.Ytppjjlooocigdaa
