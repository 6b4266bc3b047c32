/- Package node: Take. -/
import Derived.Test.YtbopfpdgoalfoaaDoorNq
namespace Go.Proofs.YtbopfpdgoalfoaaDoor
open Go.RowKit
set_option linter.unusedVariables false
set_option linter.unusedSimpArgs false
attribute [local go_sem ↓] Go.wp_at_zero Go.wp_at_succ

theorem three_chg (wr : World) (R : Nat) (x y z : Value) : Chg [R] wr (((wr.setCell ⟨R, 0, none⟩ x).setCell ⟨R, 1, none⟩ y).setCell ⟨R, 2, none⟩ z) :=
  ((Chg.setCell wr ⟨R, 0, none⟩ x).trans (Chg.setCell _ ⟨R, 1, none⟩ y) (fun _ h _ => h) (fun _ h _ => h)).trans (Chg.setCell _ ⟨R, 2, none⟩ z) (fun _ h _ => h) (fun _ h _ => h)
set_option maxRecDepth 20000 in
set_option maxHeartbeats 1000000 in
theorem take_any (ao : Option Addr) (n c : Nat) (l : List UInt8) (w : World) (hx : Reads w ao (bts l)) (hn : l.length = n) (hc : n ≤ c) (hm : c ≤ maxLen) :
    Calls Tryd.prog 5 #[.slice ao n c] w fun e w' => NodeRes w.heap.size e w' (takeN l) ∧ Chg [] w w' := by
  have t0 := start_there w
  have g0 := Chg.alloc [] w (.cells #[.bool false, .slice none 0 0, .slice none 0 0] 24)
  have hz0 : (w.alloc (.cells #[.bool false, .slice none 0 0, .slice none 0 0] 24)).heap.size = w.heap.size + 1 := by simp
  have hold : 0 < n → ∀ k, k ∈ blk ao → k < w.heap.size := fun hp => hx.lt (by rw [bts_length, hn]; exact hp)
  have g1 := Chg.alloc [] (w.alloc (.cells #[.bool false, .slice none 0 0, .slice none 0 0] 24)) (.cells #[.slice ao n c, .int .i64 0] 42)
  have hl1 := heap_alloc_last (w.alloc (.cells #[.bool false, .slice none 0 0, .slice none 0 0] 24)) (.cells #[.slice ao n c, .int .i64 0] 42)
  have hR : Rdr ((w.alloc (.cells #[.bool false, .slice none 0 0, .slice none 0 0] 24)).alloc (.cells #[.slice ao n c, .int .i64 0] 42)) (w.heap.size + 1) ao n c l 0 := by
    rw [hz0] at hl1
    refine ⟨?_, ?_, frozen_of_row _ _ _ _ _ hl1, frozen_of_row _ _ _ _ _ hl1, (hx.keep g0).keep g1, hn, hc, hm, fun hp k hk => by have := hold hp k hk; omega⟩
    · rw [cell_of_row _ _ _ _ _ _ hl1]; rfl
    · rw [cell_of_row _ _ _ _ _ _ hl1]; rfl
  have t1 := there_chg t0 g1 (by simp)
  have G1 := g0.then g1
  have hz1 : ((w.alloc (.cells #[.bool false, .slice none 0 0, .slice none 0 0] 24)).alloc (.cells #[.slice ao n c, .int .i64 0] 42)).heap.size = w.heap.size + 2 := by simp
  have HO := mkHid (And.intro hz1 hold)
  clear hz0 hz1 hold hl1 g0 g1 t0 hx hn
  go_enter Tryd.func5, Tryd.ntmps5
  go_wp2_with fail
  generalize (w.alloc (.cells #[.bool false, .slice none 0 0, .slice none 0 0] 24)).alloc (.cells #[.slice ao n c, .int .i64 0] 42) = w1 at *
  refine (taken_any w1 (w.heap.size + 1) ao n c l hR).mono ?_
  rintro e w2 ⟨lf, K, V, ka, va, kc, vc, a2, n2, c2, l2, er, rfl, rk, rv, dj, h2, g2, hend⟩
  have G2 : Chg [] w w2 := G1.trans g2 (by simp) (fun q hq hlt => by simp at hq; omega)
  have t2 := there_chg t1 g2 (by simp)
  have gA := Chg.alloc [] w2 (.cells #[.bool lf, .slice ka K.length kc, .slice va V.length vc] 24)
  have G3 := G2.then gA
  have t3 := there_chg t2 gA (by simp)
  have h3 := h2.keep gA (by simp) (by simp)
  have hsz : w1.heap.size ≤ w2.heap.size := g2.size
  have hb : w.heap.size + 2 ≤ w1.heap.size := by have := HO.out.1; omega
  have rk3 := rk.chg gA (by simp)
  have rv3 := rv.chg gA (by simp)
  have hl3 := heap_alloc_last w2 (.cells #[.bool lf, .slice ka K.length kc, .slice va V.length vc] 24)
  have d0 := cell_of_row _ w2.heap.size 0 _ _ _ hl3
  have d1 := cell_of_row _ w2.heap.size 1 _ _ _ hl3
  have d2 := cell_of_row _ w2.heap.size 2 _ _ _ hl3
  simp only [List.getElem?_toArray, List.getElem?_cons_succ, List.getElem?_cons_zero] at d0 d1 d2
  have HE := mkHid hend
  have HR := mkHid (And.intro rk3 (And.intro rv3 dj))
  have HS := mkHid (And.intro hsz hb)
  clear hl3 hend rk rv rk3 rv3 dj h2 g2 t2 t1 G1 G2 gA hR hsz hb
  have e0 := h3.c0
  have e1 := h3.c1
  have cO := noughts_any a2 n2 c2 l2 (w2.alloc (.cells #[.bool lf, .slice ka K.length kc, .slice va V.length vc] 24)) h3.rd h3.ln h3.le h3.mx
  obtain ⟨v0, r0⟩ := Option.isSome_iff_exists.1 (t3 0 (by decide)).1
  obtain ⟨v1, r1⟩ := Option.isSome_iff_exists.1 (t3 1 (by decide)).1
  obtain ⟨v2, r2⟩ := Option.isSome_iff_exists.1 (t3 2 (by decide)).1
  have q0 := (t3 0 (by decide)).2
  have q1 := (t3 1 (by decide)).2
  have q2 := (t3 2 (by decide)).2
  simp only [Nat.zero_add] at r0 r1 r2 q0 q1 q2
  clear t3 h3
  by_cases he : er = 0
  · subst he
    have hall := HE.out.1 rfl
    generalize hq : l2.all (· == 0) = q at *
    have HQ := mkHid hall
    clear hall hq HE
    cases q with
    | false =>
      go_wp2_with (first | (go_at_call 15; refine cO.mono ?_; rintro e w' ⟨rfl, rfl⟩))
      refine bodyPost_ret (v := .tuple #[.agg #[.bool false, .slice none 0 0, .slice none 0 0], .int .i64 5]) (by simp [results, Tryd.results5, go_sem, r0, r1, r2]) rfl ⟨?_, G3.trans (three_chg _ w.heap.size _ _ _) (by simp) (fun q hq hlt => by simp at hq; omega)⟩
      rw [HQ.out, if_neg (by decide)]
      exact NodeRes.none _ _ _
    | true =>
      go_wp2_with (first | (go_at_call 15; refine cO.mono ?_; rintro e w' ⟨rfl, rfl⟩))
      refine bodyPost_ret (v := .tuple #[.agg #[.bool lf, .slice ka K.length kc, .slice va V.length vc], .int .i64 0]) (by simp [results, Tryd.results5, go_sem, r0, r1, r2]) rfl ⟨?_, G3.trans (three_chg _ w.heap.size _ _ _) (by simp) (fun q hq hlt => by simp at hq; omega)⟩
      rw [HQ.out, if_pos trivial]
      obtain ⟨rk, rv, dj⟩ := HR.out
      obtain ⟨hsz, hb⟩ := HS.out
      exact ⟨ka, kc, va, vc, rfl, (rk.mono (by omega)).chg (three_chg _ w.heap.size _ _ _) (fun q hq hm => by have := (rk.lt q hq).1; simp at hm; omega), (rv.mono (by omega)).chg (three_chg _ w.heap.size _ _ _) (fun q hq hm => by have := (rv.lt q hq).1; simp at hm; omega), dj⟩
  · have hd : (er != 0) = true := by simp; exact he
    have hall := HE.out.2 he
    have HQ := mkHid hall
    clear hall HE cO
    go_wp2_with fail
    clear d0 d1 d2 e0
    generalize w2.alloc (.cells #[.bool lf, .slice ka K.length kc, .slice va V.length vc] 24) = w3 at *
    have r0d : w3.drew.cell? ⟨w.heap.size, 0, none⟩ = some v0 := r0
    have r1d : w3.drew.cell? ⟨w.heap.size, 1, none⟩ = some v1 := r1
    have r2d : w3.drew.cell? ⟨w.heap.size, 2, none⟩ = some v2 := r2
    have q0d : w3.drew.frozen? ⟨w.heap.size, 0, none⟩ = false := q0
    have q1d : w3.drew.frozen? ⟨w.heap.size, 1, none⟩ = false := q1
    have q2d : w3.drew.frozen? ⟨w.heap.size, 2, none⟩ = false := q2
    have e1d : w3.drew.cell? ⟨w.heap.size + 1, 1, none⟩ = some (.int .i64 er) := e1
    clear e1
    go_region_held3 (fun u => u.cell? ⟨w.heap.size + 1, 1, none⟩ = some (.int .i64 er)) (first | exact e1d | exact (three_chg w3.drew w.heap.size _ _ _).cellv e1d (by simp)) (fail)
    go_wp2_with fail
    refine bodyPost_ret (v := .tuple #[.agg #[.bool false, .slice none 0 0, .slice none 0 0], .int .i64 er]) (by simp [results, Tryd.results5, go_sem, r0, r1, r2]) rfl ⟨?_, (G3.then (Chg.drew [] w3)).trans (three_chg _ w.heap.size _ _ _) (by simp) (fun q hq hlt => by simp at hq; omega)⟩
    rw [HQ.out]
    exact NodeRes.none _ _ _
end Go.Proofs.YtbopfpdgoalfoaaDoor
