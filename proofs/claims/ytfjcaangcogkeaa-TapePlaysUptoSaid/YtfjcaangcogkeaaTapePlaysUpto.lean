/- Rows of calls of a tape are answered as the reference answers them. Condition: what is read is of bulk at most 1048576 (greater rows of calls could push more bytes than memory bears). -/
import Derived.Test.YtfjcaangcogkeaaD
import Derived.Test.YtfjcaangcogkeaaE
import Derived.Test.YtfjcaangcogkeaaF
import Derived.Test.YtfjcaangcogkeaaG
import Derived.Lib.SmallJoins
import Derived.Deep.QuietTactic
import Derived.BigQuiet
import Derived.Deep.DeepCutAuto
import Derived.ProofKit
import Derived.OpenShut
import Derived.SizedLaws
import Derived.Carry
import Derived.Test.YtfjcaangcogkeaaJ
import Derived.Deep.Slices
import Derived.Deep.CondSized
import Derived.JoinedCond
namespace Go.Proofs.Ytfjcaangcogkeaa.tapePlays
open Go.ChangeShapes Go.WideShapes Go.ChangeAt Go.RowKit
set_option linter.unusedVariables false
theorem bulk_append {H : Type} (l r : List (DataW H)) : Rows.uptoBulkAll (l ++ r) = Rows.uptoBulkAll l + Rows.uptoBulkAll r := by
  induction l with
  | nil => simp [Rows.uptoBulkAll]
  | cons x l ih => simp only [List.cons_append, Rows.uptoBulkAll, ih]; omega
theorem bulk_one {H : Type} (d : DataW H) : 1 ≤ Rows.uptoBulk d := by
  cases d with
  | lit l => cases l <;> simp [Rows.uptoBulk]
  | nil => simp [Rows.uptoBulk]
  | ptr d => simp [Rows.uptoBulk]
  | slice elems spare => simp [Rows.uptoBulk]
  | agg parts => simp [Rows.uptoBulk]
  | iface t d => simp [Rows.uptoBulk]
  | map entries => simp [Rows.uptoBulk]
  | held h => simp [Rows.uptoBulk]
theorem bulk_length {H : Type} (l : List (DataW H)) : l.length ≤ Rows.uptoBulkAll l := by
  induction l with
  | nil => simp [Rows.uptoBulkAll]
  | cons x r ih => have := bulk_one x; simp only [Rows.uptoBulkAll, List.length_cons]; omega
theorem bulk_of {H : Type} {d : DataW H} {c : Nat} (h : (d = .nil ∧ c = 0) ∨ ∃ es sp, d = .slice es sp ∧ es.length + sp.length = c) : c + 1 ≤ Rows.uptoBulk d := by
  rcases h with ⟨rfl, rfl⟩ | ⟨es, sp, rfl, rfl⟩
  · simp [Rows.uptoBulk]
  · have h1 := bulk_length es
    have h2 := bulk_length sp
    simp only [Rows.uptoBulk]
    omega
theorem bulk_take {H : Type} (D : Nat → DataW H) (n i : Nat) (h : i ≤ n) : Rows.uptoBulkAll ((List.range i).map D) ≤ Rows.uptoBulkAll ((List.range n).map D) := by
  have e : (List.range n).map D = (List.range i).map D ++ ((List.range n).map D).drop i := by
    have := (List.take_append_drop i ((List.range n).map D)).symm
    rwa [← List.map_take, List.take_range, Nat.min_eq_left h] at this
  rw [e, bulk_append]
  omega
def totOf (acts : Nat → ActD) : Nat → Nat
  | 0 => 0
  | i + 1 => totOf acts i + (acts i).bn
/-- One call, opened. -/
theorem open_act {H : Type} {enc : TypeId × Value → H} {W : World} {a : Addr} {cs : List Value} {n : Nat} {x : DataW H × List MemPlace}
    (hc : W.cells? 0 a 4 = some cs) (h : DataW.trod enc Try.prog W 0 (fun _ => true) true n 42 cs = some x) (hb : Rows.uptoBulk x.1 ≤ 1048576) :
    ∃ A : ActD, a.spot = none ∧ ActAt W a.block a.off A ∧ A.bn ≤ Rows.uptoBulk x.1 := by
  obtain ⟨hl, _, hcell⟩ := World.cells?_some hc
  obtain ⟨y0, y1, y2, y3, m, rfl, hl2, h0, h1, h2, h3⟩ := Joins.trod_struct4 Try.underlying42 h
  match cs, hl with
  | [v0, v1, v2, v3], _ =>
    have e0 := hcell 0 (by omega)
    have e1 := hcell 1 (by omega)
    have e2 := hcell 2 (by omega)
    have e3 := hcell 3 (by omega)
    have c3 : Try.prog.cellsOf 3 = 1 := by kernel_rfl
    have c22 : Try.prog.cellsOf 22 = 1 := by kernel_rfl
    have c40 : Try.prog.cellsOf 40 = 1 := by kernel_rfl
    simp only [c3, c22, c40, List.drop_zero, List.drop_succ_cons, List.take_succ_cons, List.take_zero] at h0 h1 h2 h3
    obtain ⟨q0, r0, rfl, _⟩ := DataW.trod_int Try.underlying3 h0
    obtain ⟨q1, r1, rfl, _⟩ := DataW.trod_int Try.underlying3 h1
    obtain ⟨ba, bl, bc, r2⟩ := Joins.slice_form Try.underlying22 h2
    obtain ⟨sa, sl, sc, r3⟩ := Joins.slice_form Try.underlying40 h3
    simp at r0 r1 r2 r3
    subst r0 r1 r2 r3
    obtain ⟨lb, g2, gn2, gc2, gm2, gd2⟩ := opened_bytes Try.underlying22 Try.underlying5 (by kernel_rfl) ⟨m, h2⟩
    obtain ⟨ls, g3, gn3, gc3, gm3, gw3, gd3⟩ := opened_ints Try.underlying40 Try.underlying3 (by kernel_rfl) ⟨m, h3⟩
    have b2 := bulk_of gd2
    have b3 := bulk_of gd3
    simp only [Rows.uptoBulk, Rows.uptoBulkAll] at hb ⊢
    obtain ⟨b, o, s⟩ := a
    have hs0 : s = none := by
      have := World.cell?_spot e0
      simpa [Addr.add] using this
    subst hs0
    simp only [Addr.add_lit] at e0 e1 e2 e3
    exact ⟨⟨q0, q1, ba, bl, bc, lb, sa, sl, sc, ls⟩, rfl, ⟨by simpa using e0, e1, e2, e3, g2, gn2, g3, gn3, by show bl ≤ _ ∧ sl ≤ _; omega⟩, by show bl ≤ _; omega⟩
theorem walk {H : Type} {enc : TypeId × Value → H} {base : Nat} (v : Value) (W : World) {d : DataW H} {p : List MemPlace} (k : DataW.Trod enc Try.prog W 0 (fun _ => true) true 34 v d p) (hv : Value.okWide Try.prog W .any base 34 v) (hs : Sized Try.prog 34 d) (hk : Rows.uptoSmall H ([d] ++ []) = true) :
    Calls Try.prog 5 #[v] W fun e w' => e = .returned (.bool true) ∧ Below W.heap.size W w' := by
  obtain ⟨a0, n0, c0, rfl⟩ := okWide_slice Try.underlying34 hv
  have hbulk : Rows.uptoBulkAll ([d] ++ []) ≤ 1048576 := of_decide_eq_true hk
  obtain ⟨m, hm⟩ := k
  rcases Deep.open_slice Try.underlying34 hm with ⟨hcs, hx⟩ | ⟨a, len, cap, mm, nn, D, Pl, hcs, _, hl, hmx, hme, hx, hel⟩
  · simp [Value.cells] at hcs
    obtain ⟨rfl, rfl, rfl⟩ := hcs
    exact plays none 0 0 (fun _ => ⟨0, 0, none, 0, 0, [], none, 0, 0, []⟩) (fun _ => 0) W (Nat.le_refl _) (Nat.zero_le _) (by omega) (by omega) (by omega)
  · simp [Value.cells] at hcs
    obtain ⟨rfl, rfl, rfl⟩ := hcs
    simp only [Prod.mk.injEq] at hx
    obtain ⟨rfl, _⟩ := hx
    simp only [if_true] at hme
    subst hme
    simp only [List.append_nil, Rows.uptoBulkAll, Rows.uptoBulk] at hbulk
    have hB : Rows.uptoBulkAll ((List.range n0).map D) ≤ 1048576 := by omega
    have hone : ∀ i, i < n0 → Rows.uptoBulk (D i) ≤ 1048576 := fun i hi => by
      have h1 := bulk_take D n0 (i + 1) (by omega)
      rw [List.range_succ, List.map_append, bulk_append] at h1
      simp only [List.map_cons, List.map_nil, Rows.uptoBulkAll] at h1
      omega
    have hact : ∀ i, i < n0 → ∃ A : ActD, (a.add (i * 4)).spot = none ∧ ActAt W (a.add (i * 4)).block (a.add (i * 4)).off A ∧ A.bn ≤ Rows.uptoBulk (D i) := fun i hi => by
      obtain ⟨cs', h1, h2⟩ := hel i (by omega)
      have e4 : Try.prog.cellsOf 42 = 4 := by kernel_rfl
      rw [e4] at h1
      exact open_act h1 h2 (hone i hi)
    haveI : Inhabited ActD := ⟨⟨0, 0, none, 0, 0, [], none, 0, 0, []⟩⟩
    obtain ⟨acts, hacts⟩ := Deep.choose_lt hact
    have htot : ∀ i, i ≤ n0 → totOf acts i ≤ Rows.uptoBulkAll ((List.range i).map D) := by
      intro i
      induction i with
      | zero => intro _; simp [totOf]
      | succ i ih =>
        intro hi
        have h1 := ih (by omega)
        have h2 := (hacts i (by omega)).2.2
        rw [List.range_succ, List.map_append, bulk_append]
        simp only [totOf, List.map_cons, List.map_nil, Rows.uptoBulkAll]
        omega
    refine plays (some a) n0 _ acts (totOf acts) W hl hmx (fun h0 => ?_) (fun i hi => rfl) (fun i hi => by have h1 := htot i hi; have h2 := bulk_take D n0 i hi; omega)
    obtain ⟨b, o, s⟩ := a
    have hs0 := (hacts 0 h0).1
    simp [Addr.add] at hs0
    subst hs0
    refine ⟨b, o, rfl, fun i hi => ?_⟩
    have := (hacts i hi).2.1
    simpa [Addr.add_lit] using this

theorem own : ownKnob Try.prog.godebug = none := by kernel_rfl
theorem laidOut : laidOutB Try.prog = true := by kernel_rfl
set_option maxRecDepth 100000 in
theorem lifted (os : Os) (started : os.Started) (H : Type) (enc : TypeId × Value → H) (F : Stop.Interp) :
    ReturnsInHanded {} Try.checked os 5 .any ((Rows.OpenSpec.upto Rows.tapePlaysSpec).pre6 enc Try.prog Try.f5 Rows.tapePlaysUptoRow.domain false) (((Rows.OpenSpec.upto Rows.tapePlaysSpec).at F).post enc Try.prog Try.f5 false true false false) := by
  refine returnsInHanded_of_cond_sized (C := Try.checked) (s := Rows.OpenSpec.upto Rows.tapePlaysSpec) (k := Rows.uptoSmall) rfl own started (by kernel_rfl) Try.func5
    (OpenSpec.witness (enc := enc) (C := Try.checked) (s := Rows.OpenSpec.upto Rows.tapePlaysSpec) (k := Rows.uptoSmall) rfl false ⟨#[], #[.slice none 0 0], []⟩ 8 (by kernel_rfl) (by kernel_rfl) (by kernel_rfl)
      (x := ([.nil], [], [])) (by kernel_rfl) rfl (by kernel_rfl)) ?_
  intro W base args ds gs before hval0 hW hcnd hk0 hsz0 _
  have hsz : (DataW.weightsEach Try.prog (Try.f5.params.toList ++ (Rows.OpenSpec.upto Rows.tapePlaysSpec).bare.plain.varTypes Try.prog) (ds ++ gs)).all (· ≤ reachBytes) = true := hsz0
  have hval : ∀ (j : Nat) t v, Try.f5.params[j]? = some t → args[j]? = some v → Value.okWide Try.prog W .any base t v := hval0
  have hW' := hW
  obtain ⟨p, q, hA0, hV, rfl, hfz, hnd⟩ := hW
  have hA : DataW.TrodAll enc Try.prog W 0 (fun _ => true) true Try.f5.params.toList args.toList ds p := hA0
  rw [Try.params5] at hA hval hsz
  obtain ⟨v0, vs0, d0, ds0, p0, q0, hargs, rfl, rfl, h0, r0⟩ := trodAll_cons hA
  obtain ⟨rfl, rfl, rfl⟩ := trodAll_nil r0
  obtain rfl : args = #[v0] := by cases args; simp_all
  obtain ⟨rfl, rfl⟩ := trodVars_none hV
  have k0 := h0
  have lt0 : ∀ x ∈ p0, x.block < W.heap.size := by obtain ⟨m, hm⟩ := k0; exact DataW.trod_lt m _ _ _ hm
  refine (walk v0 W k0 (hval 0 34 v0 rfl rfl) (sized_of hsz (j := 0) (t := 34) rfl rfl) hk0).mono fun e W' ⟨he, bel⟩ => ?_
  subst he
  exact ⟨_, rfl, _, _, _, [], _, [], hW', trodAll_mk1 (shut_bool Try.underlying4 _), (trodAll_cons_mk (Below.trod laidOut (by kernel_rfl) (of_decide_eq_true (by kernel_rfl)) k0 bel lt0) trodAll_mk0), rfl, bel.frame _, fun h => by cases h⟩
theorem proved : Rows.TapePlaysUptoSaid :=
  OpenClaim.holds_of_cond 5 Try.f5 rfl rfl rfl rfl rfl rfl rfl ⟨rfl, rfl, rfl, rfl, rfl⟩ rfl rfl rfl rfl rfl (by kernel_rfl) Try.func5 (by kernel_rfl)
    (of_decide_eq_true (by kernel_rfl)) (by unfold Func.isWrapper; first | (rw [if_pos (by decide +kernel)]; kernel_rfl) | (rw [if_neg (by decide +kernel)]; exact ⟨rfl, rfl⟩))
    (fun os started H enc _ F => lifted os started H enc F)
#print axioms proved
end Go.Proofs.Ytfjcaangcogkeaa.tapePlays
