/- The landed code: Page. -/
import Derived.Test.YtkfpkbmkmbnjcaaVj
namespace Go.Proofs.Ytkfpkbmkmbnjcaa
open Go.RowKit
set_option linter.unusedVariables false
set_option linter.unusedSimpArgs false
attribute [local go_sem] Oper.semAt_some

/-- The counts on page x. -/
def partL (L : List UInt8) (n x : Nat) : List UInt8 := (L.drop (240 * x)).take (plen n x)
theorem partL_len {L : List UInt8} {n x : Nat} (h : L.length = n) (hx : x < npg n) : (partL L n x).length = plen n x := by
  have := plen_in hx
  unfold partL
  rw [List.length_take, List.length_drop]
  omega
theorem partL_reads {w : World} {ao : Option Addr} {L : List UInt8} {n c x : Nat} (g : Reads w ao (bts L)) (h : L.length = n) (hc : n ≤ c) : Reads w (cut ao c (240 * x)) (bts (partL L n x)) := by
  have := (g.cut c (240 * x) (by rw [bts_length]; omega)).take (plen n x)
  rw [bts_drop, bts_take] at this
  exact this
theorem KpB.t {Bn : Nat} {v : Value} {A B C : World} (h : KpB Bn v A B) (k : KpB Bn v B C) : KpB Bn v A C := fun e => k (h e)
theorem KpB.b {Bn : Nat} {v : Value} (W : World) (l : Nat) (o o' : Obj) (h : W.heap[l]? = some o) (ho : o.isCells = false) : KpB Bn v W (W.putObj l o') := fun e => (Side.putObj (B := 0) o' (Nat.zero_le _) h ho).cell e
theorem KpB.chg {Bn : Nat} {v : Value} {S : List Nat} {W W' : World} (g : Chg S W W') (hn : Bn ∉ S) : KpB Bn v W W' := fun e => g.cellv e hn

theorem Side.size {B : Nat} {W W' : World} (h : Side B W W') : W.heap.size ≤ W'.heap.size := by
  obtain ⟨S, g, _⟩ := h
  exact g.size
theorem Side.opg {B B' : Nat} {W W' : World} {ao : Option Addr} {c : Nat} {bs : List Nat} {ps : List (List UInt8)} (h : Side B W W') (o : OPg W B' ao c bs ps) : OPg W' B' ao c bs ps :=
  ⟨o.ln, h.room o.r, fun i b p hb hp => h.room (o.p i b p hb hp), o.nd, o.ap⟩
/-- What Page has left when page x has been met. -/
def PageMet (L : List UInt8) (n : Nat) (z : Int) (w : World) (W : World) : Prop := ∃ (x : PgI n) (b : Nat), (x.1 : Int) = z ∧ Boxed W (w.heap.size + 1) 22 (.slice (some ⟨b, 0, none⟩) 240 240) ∧ Boxed W (w.heap.size + 2) 25 (.int .i64 0) ∧ Room W w.heap.size (some ⟨b, 0, none⟩) 240 240 (bts (pageOf (partL L n x.1))) ∧ Chg [] w W

set_option maxRecDepth 100000 in
set_option maxHeartbeats 2000000 in
theorem page_core (a0 : Option Addr) (n c : Nat) (L : List UInt8) (z : Int) (w : World) (g0 : Reads w a0 (bts L)) (gn : L.length = n) (hc : n ≤ c) (hn : n ≤ 140737488351232) : Calls Try.prog 8 #[.slice a0 n c, .int .i64 z] w fun e w' => Chg [] w w' ∧
    ((e = .returned (.tuple #[.slice none 0 0, .int .i64 1]) ∧ ∀ x : PgI n, (x.1 : Int) ≠ z) ∨
     ∃ (x : PgI n) (b : Nat), (x.1 : Int) = z ∧ e = .returned (.tuple #[.slice (some ⟨b, 0, none⟩) 240 240, .int .i64 0]) ∧ Room w' w.heap.size (some ⟨b, 0, none⟩) 240 240 (bts (pageOf (partL L n x.1)))) := by
  refine (callsIn_wide (n := 3)).1 ?_
  refine callsIn_of_wp_marks Try.func8 rfl trivial ?_ rfl
  simp only [Try.ntmps8, List.size_toArray, List.length_cons, List.length_nil, Nat.reduceAdd, Nat.reduceSub, Array.replicate_succ, Array.replicate_zero, List.push_toArray, List.append_toArray, List.nil_append, List.cons_append]
  gi_wp2_with (refine ⟨trivial, ?_⟩; gi_at_call 18; refine (callsIn_wide.2 (parts_any _ _ _ _)).mono ?_; rintro e w' ⟨rfl, rfl⟩)
  have b0 := Boxed.new w 3 (.int .i64 z)
  have b1 := Boxed.new (w.alloc (.cells #[.int .i64 z] 3)) 22 (.slice none 0 0)
  have b2 := Boxed.new ((w.alloc (.cells #[.int .i64 z] 3)).alloc (.cells #[.slice none 0 0] 22)) 25 (.int .i64 0)
  have b3 := Boxed.new (((w.alloc (.cells #[.int .i64 z] 3)).alloc (.cells #[.slice none 0 0] 22)).alloc (.cells #[.int .i64 0] 25)) 22 (.slice a0 n c)
  have e0 := ((b0.alloc (.cells #[.slice none 0 0] 22)).alloc (.cells #[.int .i64 0] 25)).alloc (.cells #[.slice a0 n c] 22)
  have e1 := (b1.alloc (.cells #[.int .i64 0] 25)).alloc (.cells #[.slice a0 n c] 22)
  have e2 := b2.alloc (.cells #[.slice a0 n c] 22)
  have gw : Chg [] w ((((w.alloc (.cells #[.int .i64 z] 3)).alloc (.cells #[.slice none 0 0] 22)).alloc (.cells #[.int .i64 0] 25)).alloc (.cells #[.slice a0 n c] 22)) := (((Chg.alloc [] w _).then (Chg.alloc [] _ _)).then (Chg.alloc [] _ _)).then (Chg.alloc [] _ _)
  simp only [World.size_alloc] at b3 e1 e2
  clear b0 b1 b2
  have hsz : ((((w.alloc (.cells #[.int .i64 z] 3)).alloc (.cells #[.slice none 0 0] 22)).alloc (.cells #[.int .i64 0] 25)).alloc (.cells #[.slice a0 n c] 22)).heap.size = w.heap.size + 1 + 1 + 1 + 1 := by simp
  generalize ((((w.alloc (.cells #[.int .i64 z] 3)).alloc (.cells #[.slice none 0 0] 22)).alloc (.cells #[.int .i64 0] 25)).alloc (.cells #[.slice a0 n c] 22)) = wl at *
  obtain ⟨s0, hs0⟩ : ∃ s, w.heap.size = s := ⟨_, rfl⟩
  obtain ⟨s1, hs1⟩ : ∃ s, s0 + 1 = s := ⟨_, rfl⟩
  obtain ⟨s2, hs2⟩ : ∃ s, s1 + 1 = s := ⟨_, rfl⟩
  obtain ⟨s3, hs3⟩ : ∃ s, s2 + 1 = s := ⟨_, rfl⟩
  simp only [hs0, hs1, hs2, hs3] at b3 e0 e1 e2 hsz ⊢
  have HS0 := mkHid hs0
  have n01 : s0 ≠ s1 := by omega
  have n02 : s0 ≠ s2 := by omega
  have n03 : s0 ≠ s3 := by omega
  have n12 : s1 ≠ s2 := by omega
  have n13 : s1 ≠ s3 := by omega
  have n23 : s2 ≠ s3 := by omega
  have H01 := mkHid hs1
  have H12 := mkHid hs2
  have HSZ := mkHid hsz
  clear hs0 hs1 hs2 hs3 hsz
  refine wpIn_rangeFunc_ownG rfl (by decide) (gf := 21) (lb := #[.pointer (some ⟨s3, 0, none⟩)]) rfl trivial (enters_of Try.func21 (by kernel_rfl) rfl)
    (parts_stops (3 - 1) (by decide) s3 a0 n c hc hn wl b3.lt b3.cell) KpB.t (fun W l o o' _ h ho _ => KpB.b W l o o' h ho) (Below.refl _ _) (fun _ => rfl)
    (fun pre W => (∀ x ∈ pre, (x.1 : Int) ≠ z) ∧ Boxed W s0 3 (.int .i64 z) ∧ Boxed W s1 22 (.slice none 0 0) ∧ Boxed W s2 25 (.int .i64 0) ∧ Chg [] w W)
    (fun c pre W => c = .ret ∧ ∃ (x : PgI n) (b : Nat), (x.1 : Int) = z ∧ Boxed W s1 22 (.slice (some ⟨b, 0, none⟩) 240 240) ∧ Boxed W s2 25 (.int .i64 0) ∧ Room W s0 (some ⟨b, 0, none⟩) 240 240 (bts (pageOf (partL L n x.1))) ∧ Chg [] w W)
    (ownFrom_side (fun pre W W' ⟨h1, h2, h3, h4, h5⟩ sd => ⟨h1, sd.boxed h2, sd.boxed h3, sd.boxed h4, sd.chg h5 gw.size⟩))
    (fun c => ownFrom_side (fun pre W W' ⟨h1, x, b, h2, h3, h4, h5, h6⟩ sd => ⟨h1, x, b, h2, sd.boxed h3, sd.boxed h4, sd.room h5, sd.chg h6 gw.size⟩))
    ⟨by simp, e0, e1, e2, gw⟩
    (fun x => { tmps := #[.slice a0 n c, .int .i64 z, undef, .pointer (some ⟨s0, 0, none⟩), .pointer (some ⟨s1, 0, none⟩), .pointer (some ⟨s2, 0, none⟩), .int .i64 (x.1 : Int), pval a0 c n x.1, .slice a0 n c, .func (.func 21) #[] #[.pointer (some ⟨s3, 0, none⟩)], .int .i64 (x.1 : Int), pval a0 c n x.1, undef, undef, undef, undef, undef], defers := [] }) ?assign ?body ?done ?stop
  case assign =>
    intro l x W K hK
    dsimp only [pencs]
    gi_wp2
    exact hK
  case body =>
    rintro l pre x W ⟨h1, h2, h3, h4, h5⟩ _
    have c0 := h2.cell
    dsimp only [pval]
    by_cases hx : (x.1 : Int) = z
    · subst hx
      have g1 := partL_reads (x := x.1) (g0.keep h5) gn hc
      have gl := partL_len gn x.2
      have cP := page_1 _ _ (c - 240 * x.1) _ W g1 gl (plen_le n x.1)
      have cp1 := h3.cell
      have cp2 := h4.cell
      have f1 := h3.frozen
      have f2 := h4.frozen
      gi_wp2_with (refine ⟨trivial, ?_⟩; gi_at_call 19; refine (calls_up cP).mono ?_; rintro e W1 ⟨b, rfl, hb, hr, hg⟩; have k1 := Boxed.chg h3 hg (by simp); have k2 := Boxed.chg h4 hg (by simp); have kp1 := k1.cell; have kp2 := k2.cell; have kf1 := k1.frozen; have kf2 := k2.frozen)
      have gg : Chg [s1, s2] W ((W1.setCell ⟨s1, 0, none⟩ (.slice (some ⟨b, 0, none⟩) 240 240)).setCell ⟨s2, 0, none⟩ (.int .i64 0)) :=
        (hg.trans (Chg.setCell W1 ⟨s1, 0, none⟩ _) (U := [s1, s2]) (by simp) (by simp)).trans (Chg.setCell _ ⟨s2, 0, none⟩ _) (fun _ h _ => h) (by simp)
      have gb : s0 ≤ b := by have := HS0.out; have := h5.size; omega
      refine ⟨gg.keepsFrom _ (fun k hk => by simp at hk; rcases hk with rfl | rfl; exact Boxed.cells h3; exact Boxed.cells h4), rfl, x, b, rfl, (k1.set _).other n12 _, ?_, ?_, ?_⟩
      · exact (k2.other (fun e => n12 e.symm) _).set _
      · have hb1 := (h3.lt)
        have hb2 := (h4.lt)
        refine ((hr.mono (B' := s0) (by have := HS0.out; have := h5.size; omega)).chg (Chg.setCell W1 ⟨s1, 0, none⟩ _) ?_).chg (Chg.setCell _ ⟨s2, 0, none⟩ _) ?_
        · intro k hk hm
          rw [fp_some _ _ _ (by decide)] at hk
          simp at hk hm
          omega
        · intro k hk hm
          rw [fp_some _ _ _ (by decide)] at hk
          simp at hk hm
          omega
      · exact h5.trans gg (by simp) (fun k hk hlt => by have := HS0.out; have := H01.out; have := H12.out; simp at hk; omega)
    · have hd : ((x.1 : Int) == z) = false := by simpa using hx
      gi_wp2
      refine ⟨KeepsFrom.refl _ _, fun e => e, fun y hy => ?_, h2, h3, h4, h5⟩
      rcases List.mem_append.1 hy with hy | hy
      · exact h1 y hy
      · simp at hy
        subst hy
        exact hx
  case done =>
    rintro D xs W hD hall ⟨h1, h2, h3, h4, h5⟩ hK
    have cp1 := h3.cell
    have cp2 := h4.cell
    have f1 := h3.frozen
    have f2 := h4.frozen
    gi_wp2
    have gg : Chg [s1, s2] W ((W.setCell ⟨s1, 0, none⟩ (.slice none 0 0)).setCell ⟨s2, 0, none⟩ (.int .i64 1)) :=
      (Chg.setCell W ⟨s1, 0, none⟩ _).trans (Chg.setCell _ ⟨s2, 0, none⟩ _) (by simp) (by simp)
    have hK' := (gg.keepsFrom 0 (fun k hk => by simp at hk; rcases hk with rfl | rfl; exact Boxed.cells h3; exact Boxed.cells h4)).same D _ (Nat.zero_le _) hK rfl
    have sd := Side.putObj (B := wl.heap.size) (.deferred none) hD hK' rfl
    have k1 := sd.boxed ((h3.set (.slice none 0 0)).other n12 (.int .i64 1))
    have k2 := sd.boxed ((h4.other (fun e => n12 e.symm) (.slice none 0 0)).set (.int .i64 1))
    have c1 := k1.cell
    have c2 := k2.cell
    refine ⟨by simp, .inl ⟨_, _, rfl, run_takeDeferred hK', ?_⟩⟩
    refine ⟨.tuple #[.slice none 0 0, .int .i64 1], ?_, sd.chg (h5.trans gg (by simp) (fun k hk hlt => by have := HS0.out; have := H01.out; have := H12.out; simp at hk; omega)) gw.size, .inl ⟨rfl, fun x e => ?_⟩⟩
    · simp [results, Try.f8, go_sem, c1, c2]
    · have hm : x.1 ∈ xs.map (·.1) := by rw [hall]; exact List.mem_range.2 x.2
      obtain ⟨y, hy, he⟩ := List.mem_map.1 hm
      exact h1 y hy (by rw [he]; exact e)
  case stop =>
    rintro D c pre W hD _ ⟨rfl, x, b, h2, h3, h4, h5, h6⟩ hK
    gi_wp2
    have sd := Side.putObj (B := wl.heap.size) (.deferred none) hD hK rfl
    have c1 := (sd.boxed h3).cell
    have c2 := (sd.boxed h4).cell
    refine ⟨by simp, .inl ⟨_, _, rfl, run_takeDeferred hK, ?_⟩⟩
    refine ⟨.tuple #[.slice (some ⟨b, 0, none⟩) 240 240, .int .i64 0], ?_, sd.chg h6 gw.size, .inr ⟨x, b, h2, rfl, by rw [HS0.out]; exact sd.room h5⟩⟩
    simp [results, Try.f8, go_sem, c1, c2]
end Go.Proofs.Ytkfpkbmkmbnjcaa
