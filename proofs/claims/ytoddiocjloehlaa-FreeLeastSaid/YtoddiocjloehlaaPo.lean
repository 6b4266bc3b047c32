/- The law's rows of calls, opened; a space beside the document's own, and two of them. -/
import Derived.Test.YtoddiocjloehlaaPm
import Derived.Lib.SmallJoins
import Derived.Deep.Slices
namespace Go.Proofs.Ytoddiocjloehlaa
open Go.ChangeShapes Go.WideShapes Go.ChangeAt Go.RowKit
set_option linter.unusedVariables false
set_option linter.unusedSimpArgs false

structure ActD where
  wh : Int
  num : Int
structure ActAt (w : World) (bk o : Nat) (A : ActD) : Prop where
  c0 : w.cell? ⟨bk, o, none⟩ = some (.int .i64 A.wh)
  c1 : w.cell? ⟨bk, o + 1, none⟩ = some (.int .i64 A.num)
  w0 : (Lit.int .i64 A.wh).wf = true
  w1 : (Lit.int .i64 A.num).wf = true
theorem ActAt.keep {w w' : World} {b o : Nat} {A : ActD} (h : ActAt w b o A) (g : Chg [] w w') : ActAt w' b o A :=
  ⟨g.cellv h.c0 (by simp), g.cellv h.c1 (by simp), h.w0, h.w1⟩
/-- The slice at a holds the calls. -/
def ActsAt (w : World) (a : Option Addr) (n : Nat) (acts : Nat → ActD) : Prop := 0 < n → ∃ b o, a = some ⟨b, o, none⟩ ∧ ∀ i, i < n → ActAt w b (o + i * 2) (acts i)
section
variable {H : Type} {enc : TypeId × Value → H} {P : Program} {w : World} {base : Nat} {spare : Nat → Bool} {held : Bool}
theorem trod_struct2 {t : TypeId} {f0 f1 : Field} {fuel : Nat} {cs : List Value} {x : DataW H × List MemPlace} (ht : P.underlying t = some (.struct #[f0, f1])) (h : DataW.trod enc P w base spare held fuel t cs = some x) :
    ∃ y0 y1 n, x = (.agg [y0.1, y1.1], y0.2 ++ y1.2) ∧ cs.length = P.cellsOf t ∧ DataW.trod enc P w base spare held n f0.type ((cs.drop f0.offset).take (P.cellsOf f0.type)) = some y0 ∧
      DataW.trod enc P w base spare held n f1.type ((cs.drop f1.offset).take (P.cellsOf f1.type)) = some y1 := by
  obtain ⟨xs, n, _, rfl, hl, hlen, hf⟩ := DataW.trod_struct ht h
  match xs, hlen with
  | [y0, y1], _ => exact ⟨y0, y1, n, by simp, hl, by simpa using hf 0 f0 rfl, by simpa using hf 1 f1 rfl⟩
end
/-- One call, opened. -/
theorem open_act {H : Type} {enc : TypeId × Value → H} {W : World} {a : Addr} {cs : List Value} {n : Nat} {x : DataW H × List MemPlace}
    (hc : W.cells? 0 a 2 = some cs) (h : DataW.trod enc Try.prog W 0 (fun _ => true) true n 32 cs = some x) :
    ∃ A : ActD, a.spot = none ∧ ActAt W a.block a.off A := by
  obtain ⟨hl, _, hcell⟩ := World.cells?_some hc
  obtain ⟨y0, y1, m, rfl, hl2, h0, h1⟩ := trod_struct2 Try.underlying32 h
  match cs, hl with
  | [v0, v1], _ =>
    have e0 := hcell 0 (by omega)
    have e1 := hcell 1 (by omega)
    have c3 : Try.prog.cellsOf 3 = 1 := by kernel_rfl
    simp only [c3, List.drop_zero, List.drop_succ_cons, List.take_succ_cons, List.take_zero] at h0 h1
    obtain ⟨q0, r0, rfl, wf0⟩ := DataW.trod_int Try.underlying3 h0
    obtain ⟨q1, r1, rfl, wf1⟩ := DataW.trod_int Try.underlying3 h1
    simp at r0 r1
    subst r0 r1
    obtain ⟨b, o, s⟩ := a
    have hs0 : s = none := by
      have := World.cell?_spot e0
      simpa [Addr.add] using this
    subst hs0
    simp only [Addr.add_lit] at e0 e1
    exact ⟨⟨q0, q1⟩, rfl, ⟨by simpa using e0, e1, wf0, wf1⟩⟩
/-- All calls, opened. -/
theorem open_acts {H : Type} {enc : TypeId × Value → H} {base : Nat} (v : Value) (W : World) {d : DataW H} {p : List MemPlace} (k : DataW.Trod enc Try.prog W 0 (fun _ => true) true 22 v d p) (hv : Value.okWide Try.prog W .any base 22 v) (hs : Sized Try.prog 22 d) :
    ∃ a0 n0 c0 acts, v = .slice a0 n0 c0 ∧ n0 ≤ c0 ∧ c0 ≤ maxLen ∧ ActsAt W a0 n0 acts ∧ c0 * 16 ≤ 140737488351232 := by
  obtain ⟨a0, n0, c0, rfl⟩ := okWide_slice Try.underlying22 hv
  obtain ⟨m, hm⟩ := k
  rcases Deep.open_slice Try.underlying22 hm with ⟨hcs, hx⟩ | ⟨a, len, cap, mm, nn, D, Pl, hcs, _, hl, hmx, hme, hx, hel⟩
  · simp [Value.cells] at hcs
    obtain ⟨rfl, rfl, rfl⟩ := hcs
    exact ⟨none, 0, 0, fun _ => ⟨0, 0⟩, rfl, Nat.le_refl _, Nat.zero_le _, (fun h => by omega), by omega⟩
  · simp [Value.cells] at hcs
    obtain ⟨rfl, rfl, rfl⟩ := hcs
    simp only [Prod.mk.injEq] at hx
    obtain ⟨rfl, _⟩ := hx
    simp only [if_true] at hme
    subst hme
    have hact : ∀ i, i < n0 → ∃ A : ActD, (a.add (i * 2)).spot = none ∧ ActAt W (a.add (i * 2)).block (a.add (i * 2)).off A := fun i hi => by
      obtain ⟨cs', h1, h2⟩ := hel i (by omega)
      have e5 : Try.prog.cellsOf 32 = 2 := by kernel_rfl
      rw [e5] at h1
      exact open_act h1 h2
    haveI : Inhabited ActD := ⟨⟨0, 0⟩⟩
    obtain ⟨acts, hacts⟩ := Deep.choose_lt hact
    refine ⟨some a, n0, _, acts, rfl, hl, hmx, fun h0 => ?_, hs.slice (bytes := 16) Try.underlying22 (by kernel_rfl) (Or.inr ⟨_, _, rfl, by simp; omega⟩)⟩
    obtain ⟨b, o, s⟩ := a
    have hs0 := (hacts 0 h0).1
    simp [Addr.add] at hs0
    subst hs0
    refine ⟨b, o, rfl, fun i hi => ?_⟩
    have := (hacts i hi).2
    simpa [Addr.add_lit] using this

theorem SpAt.off' {w w' : World} {B sb : Nat} {F : List Nat} {Is : List Bool} (h : SpAt w B sb F Is) (o : Off F w w') : SpAt w' B sb F Is := by
  obtain ⟨S, hS, h1⟩ := o
  exact h.chg hS (fun k hk hm => h1 k hm hk)
/-- A space, the document's own beside it, blocks R apart from both. -/
structure Duo (w0 w : World) (R : List Nat) (sb : Nat) (Is : List Bool) (rb : Nat) (Ir : List Bool) : Prop where
  x : ∃ F G, SpAt w w0.heap.size sb F Is ∧ RfAt w w0.heap.size rb G Ir ∧ (∀ k, k ∈ F → k ∉ G) ∧ ∀ k, k ∈ R → k ∉ F ∧ k ∉ G ∧ k < w.heap.size
  c : Chg [] w0 w
theorem Duo.add {w0 w w' : World} {R : List Nat} {sb : Nat} {Is : List Bool} {rb : Nat} {Ir : List Bool} (h : Duo w0 w R sb Is rb Ir) (g : Chg [] w w') (N : List Nat) (hN : ∀ k, k ∈ N → w.heap.size ≤ k ∧ k < w'.heap.size) : Duo w0 w' (N ++ R) sb Is rb Ir := by
  obtain ⟨F, G, hS, hG, hx, hr⟩ := h.x
  refine ⟨⟨F, G, hS.keep g, hG.keep g, hx, fun k hk => ?_⟩, h.c.then g⟩
  rcases List.mem_append.1 hk with hk | hk
  · have := hN k hk
    exact ⟨fun hm => by have := (hS.lt k hm).2; omega, fun hm => by have := (hG.lt k hm).2; omega, this.2⟩
  · exact ⟨(hr k hk).1, (hr k hk).2.1, Nat.lt_of_lt_of_le (hr k hk).2.2 g.size⟩
theorem Duo.keep {w0 w w' : World} {R : List Nat} {sb : Nat} {Is : List Bool} {rb : Nat} {Ir : List Bool} (h : Duo w0 w R sb Is rb Ir) (g : Chg [] w w') : Duo w0 w' R sb Is rb Ir := h.add g [] (by simp)
theorem Duo.less {w0 w : World} {R R' : List Nat} {sb : Nat} {Is : List Bool} {rb : Nat} {Ir : List Bool} (h : Duo w0 w R sb Is rb Ir) (hR : ∀ k, k ∈ R' → k ∈ R) : Duo w0 w R' sb Is rb Ir := by
  obtain ⟨F, G, hS, hG, hx, hr⟩ := h.x
  exact ⟨⟨F, G, hS, hG, hx, fun k hk => hr k (hR k hk)⟩, h.c⟩
theorem duo_s {w0 w : World} {R : List Nat} {sb : Nat} {Is Is' : List Bool} {rb : Nat} {Ir : List Bool} {f : Nat} {args : Array Value} {post : Ending → Prop} (h : Duo w0 w R sb Is rb Ir)
    (hc : ∀ F, SpAt w w0.heap.size sb F Is → Calls Try.prog f args w fun e w' => post e ∧ Step w w' w0.heap.size sb F Is') : Calls Try.prog f args w fun e w' => post e ∧ Duo w0 w' R sb Is' rb Ir ∧ Off R w w' := by
  obtain ⟨F, G, hS, hG, hx, hr⟩ := h.x
  refine (hc F hS).mono ?_
  rintro e w' ⟨hp, hst⟩
  obtain ⟨F', h1, h2, h3⟩ := hst.apart (R := G ++ R) (fun k hk => by
    rcases List.mem_append.1 hk with hk | hk
    · exact ⟨fun hm => hx k hm hk, (hG.lt k hk).2⟩
    · exact ⟨(hr k hk).1, (hr k hk).2.2⟩)
  exact ⟨hp, ⟨⟨F', G, h1, hG.chg h2 (fun k hk hm => hx k hm hk), fun k hk hm => (h3 k (List.mem_append_left _ hm)).1 hk, fun k hk => ⟨(h3 k (List.mem_append_right _ hk)).1, (hr k hk).2.1, (h3 k (List.mem_append_right _ hk)).2⟩⟩, h.c.trans h2 (by simp) (fun k hk hlt => by have := (hS.lt k hk).1; omega)⟩, ⟨F, h2, fun k hk hm => (hr k hm).1 hk⟩⟩
theorem duo_r {w0 w : World} {R : List Nat} {sb : Nat} {Is : List Bool} {rb : Nat} {Ir Ir' : List Bool} {f : Nat} {args : Array Value} {post : Ending → Prop} (h : Duo w0 w R sb Is rb Ir)
    (hc : ∀ G, RfAt w w0.heap.size rb G Ir → Calls Try.prog f args w fun e w' => post e ∧ RStep w w' w0.heap.size rb G Ir') : Calls Try.prog f args w fun e w' => post e ∧ Duo w0 w' R sb Is rb Ir' ∧ Off R w w' := by
  obtain ⟨F, G, hS, hG, hx, hr⟩ := h.x
  refine (hc G hG).mono ?_
  rintro e w' ⟨hp, h1, h2⟩
  exact ⟨hp, ⟨⟨F, G, hS.chg h2 (fun k hk hm => hx k hk hm), h1, hx, fun k hk => ⟨(hr k hk).1, (hr k hk).2.1, Nat.lt_of_lt_of_le (hr k hk).2.2 h2.size⟩⟩, h.c.trans h2 (by simp) (fun k hk hlt => by have := (hG.lt k hk).1; omega)⟩, ⟨G, h2, fun k hk hm => (hr k hm).2.1 hk⟩⟩
section
variable {w0 w : World} {R : List Nat} {sb : Nat} {Is : List Bool} {rb : Nat} {Ir : List Bool} (h : Duo w0 w R sb Is rb Ir)
include h
theorem duo_take : Calls Try.prog 10 #[.pointer (some ⟨sb, 0, none⟩)] w fun e w' => e = .returned (.tuple #[.int .i64 (takeN Is).1, .int .i64 (takeN Is).2.1]) ∧ Duo w0 w' R sb (takeN Is).2.2 rb Ir ∧ Off R w w' := duo_s h fun F hS => take_any _ sb F Is w hS
theorem duo_claim (z : Int) : Calls Try.prog 12 #[.pointer (some ⟨sb, 0, none⟩), .int .i64 z] w fun e w' => e = .returned (.int .i64 (claimN Is z).1) ∧ Duo w0 w' R sb (claimN Is z).2 rb Ir ∧ Off R w w' := duo_s h fun F hS => claim_any z _ sb F Is w hS
theorem duo_give (z : Int) : Calls Try.prog 14 #[.pointer (some ⟨sb, 0, none⟩), .int .i64 z] w fun e w' => e = .returned (.int .i64 (giveN Is z).1) ∧ Duo w0 w' R sb (giveN Is z).2 rb Ir ∧ Off R w w' := duo_s h fun F hS => give_any z _ sb F Is w hS
theorem duo_rtake : Calls Try.prog 11 #[.pointer (some ⟨rb, 0, none⟩)] w fun e w' => e = .returned (.tuple #[.int .i64 (takeN Ir).1, .int .i64 (takeN Ir).2.1]) ∧ Duo w0 w' R sb Is rb (takeN Ir).2.2 ∧ Off R w w' := duo_r h fun G hG => rtake_any _ rb G Ir w hG
theorem duo_rclaim (z : Int) : Calls Try.prog 13 #[.pointer (some ⟨rb, 0, none⟩), .int .i64 z] w fun e w' => e = .returned (.int .i64 (claimN Ir z).1) ∧ Duo w0 w' R sb Is rb (claimN Ir z).2 ∧ Off R w w' := duo_r h fun G hG => rclaim_any z _ rb G Ir w hG
theorem duo_rgive (z : Int) : Calls Try.prog 15 #[.pointer (some ⟨rb, 0, none⟩), .int .i64 z] w fun e w' => e = .returned (.int .i64 (giveN Ir z).1) ∧ Duo w0 w' R sb Is rb (giveN Ir z).2 ∧ Off R w w' := duo_r h fun G hG => rgive_any z _ rb G Ir w hG
theorem duo_free : Calls Try.prog 17 #[.pointer (some ⟨sb, 0, none⟩)] w fun e w' => e = .returned (.int .i64 (freeL Is).length) ∧ w = w' := by
  obtain ⟨F, G, hS, hG, hx, hr⟩ := h.x
  exact free_any _ sb F Is w hS
theorem duo_list : Calls Try.prog 19 #[.pointer (some ⟨sb, 0, none⟩)] w fun e w' => ∃ a c, e = .returned (.slice a (freeL Is).length c) ∧ Room w' w.heap.size a (freeL Is).length c (ivs (freeL Is)) ∧ Duo w0 w' (fp a c ++ R) sb Is rb Ir ∧ Chg [] w w' := by
  obtain ⟨F, G, hS, hG, hx, hr⟩ := h.x
  refine (list_any _ sb F Is w hS).mono ?_
  rintro e w' ⟨a, c, he, hr, hg⟩
  exact ⟨a, c, he, hr, h.add hg (fp a c) (fun k hk => hr.lt k hk), hg⟩
theorem duo_rlist : Calls Try.prog 18 #[.pointer (some ⟨rb, 0, none⟩)] w fun e w' => ∃ a c, e = .returned (.slice a (freeL Ir).length c) ∧ Room w' w.heap.size a (freeL Ir).length c (ivs (freeL Ir)) ∧ Duo w0 w' (fp a c ++ R) sb Is rb Ir ∧ Chg [] w w' := by
  obtain ⟨F, G, hS, hG, hx, hr⟩ := h.x
  refine (rlist_any _ rb G Ir w hG).mono ?_
  rintro e w' ⟨a, c, he, hr, hg⟩
  exact ⟨a, c, he, hr, h.add hg (fp a c) (fun k hk => hr.lt k hk), hg⟩
theorem duo_small : Is.length ≤ 1024 ∧ (freeL Is).length ≤ 1024 ∧ (freeL Ir).length ≤ 1024 := by
  obtain ⟨F, G, hS, hG, hx, hr⟩ := h.x
  exact ⟨hS.small, Nat.le_trans (freeL_le _) hS.small, Nat.le_trans (freeL_le _) hG.nn⟩
/-- A copy goes on; the old one may be spoilt. -/
theorem duo_copy : Calls Try.prog 16 #[.pointer (some ⟨sb, 0, none⟩)] w fun e w' => ∃ sb' Q, e = .returned (.pointer (some ⟨sb', 0, none⟩)) ∧ Solo w0 w' (Q ++ R) sb Is ∧ ∀ w2, Off (Q ++ R) w' w2 → Chg [] w0 w2 → Duo w0 w2 R sb' Is rb Ir := by
  obtain ⟨F, G, hS, hG, hx, hr⟩ := h.x
  refine (copy_any _ sb F Is w hS).mono ?_
  rintro e w' ⟨sb', F', he, hS', hg⟩
  refine ⟨sb', F' ++ G, he, ⟨⟨F, hS.keep hg, fun k hk => ?_⟩, h.c.then hg⟩, fun w2 ho hc2 => ⟨⟨F', G, (hS'.mono h.c.size).off' (ho.less (by simp; intro k hk; exact Or.inl hk)), ?_, fun k hk hm => ?_, fun k hk => ?_⟩, hc2⟩⟩
  · simp only [List.mem_append] at hk
    rcases hk with (hk | hk) | hk
    · exact ⟨fun hm => by have := (hS.lt k hm).2; have := (hS'.lt k hk).1; omega, (hS'.lt k hk).2⟩
    · exact ⟨fun hm => hx k hm hk, Nat.lt_of_lt_of_le (hG.lt k hk).2 hg.size⟩
    · exact ⟨(hr k hk).1, Nat.lt_of_lt_of_le (hr k hk).2.2 hg.size⟩
  · obtain ⟨S, hSS, h1⟩ := ho
    exact (hG.keep hg).chg hSS (fun k hk hm => h1 k hm (by simp [hk]))
  · have := (hS'.lt k hk).1
    have := (hG.lt k hm).2
    omega
  · refine ⟨fun hm => ?_, (hr k hk).2.1, Nat.lt_of_lt_of_le (hr k hk).2.2 (Nat.le_trans hg.size ho.size)⟩
    have := (hS'.lt k hm).1
    have := (hr k hk).2.2
    omega
end
end Go.Proofs.Ytoddiocjloehlaa
