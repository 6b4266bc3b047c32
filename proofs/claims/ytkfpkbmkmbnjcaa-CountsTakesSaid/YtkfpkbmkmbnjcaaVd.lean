/- The reference: Page, Same; the law's own. -/
import Derived.Test.YtkfpkbmkmbnjcaaVc
namespace Go.Proofs.Ytkfpkbmkmbnjcaa
open Go.RowKit
set_option linter.unusedVariables false
set_option linter.unusedSimpArgs false
attribute [local go_sem ↓] Go.wp_at_zero Go.wp_at_succ

theorem rpage_no (a0 : Option Addr) (n c : Nat) (L : List UInt8) (z : Int) (w : World) (g0 : Reads w a0 (bts L)) (gn : L.length = n) (hn : n ≤ 140737488351232) (hz : z < 0 ∨ (npg n : Int) ≤ z) : Calls Try.prog 9 #[.slice a0 n c, .int .i64 z] w fun e w' => e = .returned (.tuple #[.slice none 0 0, .int .i64 1]) ∧ Chg [] w w' := by
  have cP := rput_any a0 n c L w g0 gn hn
  by_cases h1 : z < 0
  · have d1 : decide (z < 0) = true := decide_eq_true h1
    go_enter Try.func9, Try.ntmps9
    go_wp2_with (first | (go_at_call 11; refine cP.mono ?_; rintro e w1 ⟨ao, cc, bs, ps, rfl, hP, hO, hg⟩))
    go_ret2
    exact ⟨rfl, hg⟩
  · have d1 : decide (z < 0) = false := decide_eq_false h1
    have hz2 : (npg n : Int) ≤ z := by omega
    go_enter Try.func9, Try.ntmps9
    go_wp2_with fail
    refine cP.mono ?_
    rintro e w1 ⟨ao, cc, bs, ps, rfl, hP, hO, hg⟩
    have d2 : decide (z ≥ (ps.length : Int)) = true := decide_eq_true (by rw [hP.1]; omega)
    have d3 : decide ((ps.length : Int) ≤ z) = true := decide_eq_true (by rw [hP.1]; omega)
    clear hP hO cP
    go_wp2_with fail
    go_ret2
    exact ⟨rfl, hg⟩
theorem rpage_yes (a0 : Option Addr) (n c : Nat) (L : List UInt8) (x : Nat) (w : World) (g0 : Reads w a0 (bts L)) (gn : L.length = n) (hn : n ≤ 140737488351232) (hx : x < npg n) : Calls Try.prog 9 #[.slice a0 n c, .int .i64 (x : Int)] w fun e w' => ∃ b ps p, e = .returned (.tuple #[.slice (some ⟨b, 0, none⟩) 240 240, .int .i64 0]) ∧ IsPut L n ps ∧ ps[x]? = some p ∧ Room w' w.heap.size (some ⟨b, 0, none⟩) 240 240 (bts p) ∧ Chg [] w w' := by
  have cP := rput_any a0 n c L w g0 gn hn
  have d1 : decide ((x : Int) < 0) = false := decide_eq_false (by omega)
  go_enter Try.func9, Try.ntmps9
  go_wp2_with fail
  refine cP.mono ?_
  rintro e w1 ⟨ao, cc, bs, ps, rfl, hP, hO, hg⟩
  have hxl : x < ps.length := by rw [hP.1]; exact hx
  have d2 : decide ((x : Int) ≥ (ps.length : Int)) = false := decide_eq_false (by omega)
  have d3 : decide ((ps.length : Int) ≤ (x : Int)) = false := decide_eq_false (by omega)
  have d4 : decide (ps.length ≤ x) = false := decide_eq_false (by omega)
  have hp := List.getElem?_eq_getElem hxl
  have hb : bs[x]? = some (bs[x]'(by rw [hO.ln]; exact hxl)) := List.getElem?_eq_getElem _
  have hr := hO.p x _ _ hb hp
  generalize bs[x]'(by rw [hO.ln]; exact hxl) = b at *
  obtain ⟨lb, lo, e, hcell, _⟩ := reads_lt hO.r.reads x (pv b) (by rw [List.getElem?_map, hb]; rfl)
  subst e
  have hcell' : w1.cell? ⟨lb, lo + x, none⟩ = some (.slice (some ⟨b, 0, none⟩) 240 240) := hcell
  have HP := mkHid hP
  have HQ := mkHid hp
  clear hcell hP hO cP hb hp
  go_wp2_with fail
  go_ret2
  exact ⟨b, ps, _, rfl, HP.out, HQ.out, hr, hg⟩
set_option maxRecDepth 20000 in
theorem rsame_any (a b : Option Addr) (na nb ca cb : Nat) (ps qs : List (List UInt8)) (w : World) (h : RdPg w a ps) (g : RdPg w b qs) (hna : ps.length = na) (hnb : qs.length = nb) (hb1 : na ≤ 9223372036854775806) :
    Calls Try.prog 10 #[.slice a na ca, .slice b nb cb] w fun e w' => e = .returned (.bool (decide (ps = qs))) ∧ Chg [] w w' := by
  by_cases hnm : na = nb
  · subst hnm
    go_enter Try.func10, Try.ntmps10
    go_wp2_with fail
    go_loopw [5] (fun v wr => ∃ k : Nat, v = .int .i64 k ∧ k ≤ na ∧ ps.take k = qs.take k ∧ Chg [] w wr) (fun v _ => na - (intOf v).toNat)
    case atStart => exact ⟨0, rfl, Nat.zero_le _, by simp, Chg.refl _ _⟩
    case round =>
      obtain ⟨k, rfl, hk, he, hg⟩ := hrel
      by_cases hlt : k < na
      · have hd : decide (k < na) = true := decide_eq_true hlt
        have hd2 : decide ((k : Int) < (na : Int)) = true := decide_eq_true (by omega)
        have kp : k < ps.length := by omega
        have kq : k < qs.length := by omega
        have hpq : ps.take (k + 1) = qs.take (k + 1) ↔ ps[k] = qs[k] := by
          rw [List.take_succ_eq_append_getElem kp, List.take_succ_eq_append_getElem kq, he]
          exact ⟨fun h => by simpa using List.append_cancel_left h, fun h => by rw [h]⟩
        obtain ⟨ab, ao, a', ca', rfl, c1, _, _, r1⟩ := (h.keep hg).at_ (List.getElem?_eq_getElem kp)
        obtain ⟨bb, bo, b', cb', rfl, c2, _, _, r2⟩ := (g.keep hg).at_ (List.getElem?_eq_getElem kq)
        have HPQ := mkHid hpq
        generalize ps[k] = p at *
        generalize qs[k] = q at *
        have v1 : ∀ m, (convert 22 9 (.slice a' p.length ca')).run Try.prog (wr.drewN m) = .ok (.string ⟨p.toArray⟩) (wr.drewN m) := fun m => run_convert_k (P := Try.prog) _ 22 5 9 Try.underlying22 Try.underlying5 Try.underlying9 a' _ ca' p (r1.keep (Chg.drewN _ _)) rfl
        have v2 : ∀ m, (convert 22 9 (.slice b' q.length cb')).run Try.prog (wr.drewN m) = .ok (.string ⟨q.toArray⟩) (wr.drewN m) := fun m => run_convert_k (P := Try.prog) _ 22 5 9 Try.underlying22 Try.underlying5 Try.underlying9 b' _ cb' q (r2.keep (Chg.drewN _ _)) rfl
        clear he hpq
        by_cases hxy : p = q
        · subst hxy
          go_wp2_with fail
          go_quiet (fail)
          go_wp2_with fail
          exact ⟨⟨k + 1, by first | rfl | go_num, by omega, HPQ.out.2 (by simp), hg.then (Chg.drewN _ _)⟩, by simp [intOf]; omega⟩
        · have hs : (p == q) = false := by simp [hxy]
          have Hxy := mkHid hxy
          clear hxy
          go_wp2_with fail
          go_quiet (fail)
          go_wp2_with fail
          go_ret
          have hne : ps ≠ qs := fun e => Hxy.out (HPQ.out.1 (by rw [e]))
          rw [decide_eq_false hne]
          exact ⟨rfl, hg.then (Chg.drewN _ _)⟩
      · have hkn : k = na := by omega
        subst hkn
        have hd : decide (k < k) = false := by simp
        have hpq : ps = qs := by rwa [List.take_of_length_le (by omega), List.take_of_length_le (by omega)] at he
        have HPQ := mkHid hpq
        clear he hpq
        go_wp2_with fail
        go_ret
        rw [decide_eq_true HPQ.out]
        exact ⟨rfl, hg⟩
  · have hne : ((na : Int) != (nb : Int)) = true := by simp; omega
    have hne2 : (na != nb) = true := by simp; omega
    have hpq : ps ≠ qs := fun e => hnm (by rw [← hna, ← hnb, e])
    rw [decide_eq_false hpq]
    clear hpq hna hnb
    go_enter Try.func10, Try.ntmps10
    go_wp2_with fail
    go_ret
    exact ⟨rfl, Chg.refl _ _⟩
end Go.Proofs.Ytkfpkbmkmbnjcaa
