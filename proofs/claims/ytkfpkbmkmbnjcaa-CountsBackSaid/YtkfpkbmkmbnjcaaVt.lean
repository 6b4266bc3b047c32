/- CountsBack. -/
import Derived.Test.YtkfpkbmkmbnjcaaVs
namespace Go.Proofs.Ytkfpkbmkmbnjcaa
open Go.RowKit
set_option linter.unusedVariables false
set_option linter.unusedSimpArgs false
attribute [local go_sem ↓] Go.wp_at_zero Go.wp_at_succ

set_option maxRecDepth 20000 in
set_option maxHeartbeats 2000000 in
theorem back_core (a0 : Option Addr) (n c : Nat) (L : List UInt8) (a1 : Option Addr) (np ca : Nat) (ps : List (List UInt8)) (z : Int) (w : World) (g0 : Reads w a0 (bts L)) (gn : L.length = n) (gc : n ≤ c) (gr : c * 1 ≤ 140737488351232) (h : RdPg w a1 ps) (hnp : ps.length = np) (gc1 : np ≤ ca) (gr1 : ca * 24 ≤ 140737488351232) :
    Calls Try.prog 5 #[.slice a0 n c, .slice a1 np ca, .int .i64 z] w fun e w' => e = .returned (.bool true) ∧ Chg [] w w' := by
  have hn : n ≤ 140737488351232 := by omega
  have hnb : np ≤ 140737488351232 := by omega
  have cP := put_any a0 n c L w g0 gn gc hn
  have HN := mkHid hnp
  have HG := mkHid gn
  clear hnp gn
  go_enter Try.func5, Try.ntmps5
  go_wp2_with fail
  refine cP.mono ?_
  rintro e w1 ⟨ao, cc, bs, us, rfl, hP, hO, g1⟩
  have hRd := hO.read
  have hul : us.length ≤ 140737488351232 := by rw [hP.1]; have := npg_le n; omega
  have cT := take_any ao us.length cc us (n : Int) w1 hRd rfl hul
  -- what comes behind the first half
  have rest : ∀ w5, Chg [] w w5 → RdPg w5 a1 ps := fun w5 g5 => h.keep g5
  have cR := fun (u : World) (hu : Chg [] w u) => take_any a1 np ca ps z u (rest u hu) HN.out hnb
  have cQ := fun (u : World) (a : Option Addr) (k cx : Nat) (M : List UInt8) (hm : Reads u a (bts M)) (hl : M.length = k) (hk : k ≤ 1024) (hkx : k ≤ cx) => put_any a k cx M u hm hl hkx (by omega)
  have htp := fun (out : List UInt8) (e : takeN ps z = (0, out)) => take_put e
  have hok := take_ok_of (ps := ps) (z := z)
  have hlen := take_len (ps := ps) (z := z)
  have HR := mkHid cR
  have HQ := mkHid cQ
  have HT := mkHid htp
  have HO := mkHid hok
  have HE := mkHid hlen
  have RS := mkHid rest
  clear cP cR cQ htp hok hlen rest hO hRd
  by_cases h1024 : n ≤ 1024
  · have d1 : decide ((n : Int) ≤ 1024) = true := decide_eq_true (by omega)
    have d2 : decide (n ≤ 1024) = true := decide_eq_true h1024
    rw [put_take HG.out h1024 hP] at cT
    clear hP
    go_wp2_with fail
    refine cT.mono ?_
    rintro e w2 ⟨⟨a, k, rfl, hr⟩, g2⟩
    simp only at hr
    have q2 := g1.then g2
    have hLn := HG.out
    rw [hLn]
    have r1 := run_convert_k (P := Try.prog) w2 22 5 9 Try.underlying22 Try.underlying5 Try.underlying9 a n k L hr.reads hLn
    have r2 := run_convert_k (P := Try.prog) w2 22 5 9 Try.underlying22 Try.underlying5 Try.underlying9 a0 n c L (g0.keep q2) hLn
    clear hLn cT hr g1 g2
    go_wp2_with fail
    clear r1 r2
    refine (HR.out w2 q2).mono ?_
    rintro e w3 ⟨⟨b, kb, rfl, hb⟩, g3⟩
    have q3 := q2.then g3
    have hok := HO.out
    have htp := HT.out
    have hle := HE.out
    generalize takeN ps z = r at *
    obtain ⟨er, out⟩ := r
    simp only at hok hle hb
    by_cases he : er = 0
    · subst he
      obtain ⟨z1, z2, z3⟩ := htp out rfl
      subst z1
      have Z2 := mkHid z2
      clear htp hok z2
      go_wp2_with fail
      refine (HQ.out w3 b out.length kb out hb.reads rfl z3 hb.le).mono ?_
      rintro e w4 ⟨ar, cr, br, qs, rfl, hQ, hR, g4⟩
      have hqp := Z2.out.unique hQ
      subst hqp
      have q4 := q3.then g4
      have cS := rsame_any ar a1 ps.length np cr ca ps ps w4 hR.read (RS.out w4 q4) rfl HN.out (by rw [HN.out]; omega)
      rw [decide_eq_true rfl] at cS
      clear hQ hR
      go_wp2_with fail
      refine cS.mono ?_
      rintro e w5 ⟨rfl, g5⟩
      clear cS
      go_wp2_with fail
      refine (wakes_any w5).mono ?_
      rintro e w6 ⟨rfl, g6⟩
      go_wp2_with fail
      go_ret
      exact ⟨ret_bool' (by first | rfl | simp), (q4.then g5).then g6⟩
    · have ho : out = [] := hok.resolve_left he
      subst ho
      have b1 : (er != 0) = true := by simp [he]
      clear htp hok
      go_wp2_with fail
      refine (wakes_any w3).mono ?_
      rintro e w4 ⟨rfl, g4⟩
      go_wp2_with fail
      go_ret
      exact ⟨ret_bool' (by first | rfl | simp), q3.then g4⟩
  · have d1 : decide ((n : Int) ≤ 1024) = false := decide_eq_false (by omega)
    have d2 : decide (n ≤ 1024) = false := decide_eq_false h1024
    rw [take_out (Or.inr (show (1024 : Int) < (n : Int) by omega))] at cT
    clear hP
    go_wp2_with fail
    refine cT.mono ?_
    rintro e w2 ⟨⟨a, k, rfl, hr⟩, g2⟩
    simp only at hr
    have q2 := g1.then g2
    clear cT hr g1 g2
    go_wp2_with fail
    refine (HR.out w2 q2).mono ?_
    rintro e w3 ⟨⟨b, kb, rfl, hb⟩, g3⟩
    have q3 := q2.then g3
    have hok := HO.out
    have htp := HT.out
    have hle := HE.out
    generalize takeN ps z = r at *
    obtain ⟨er, out⟩ := r
    simp only at hok hle hb
    by_cases he : er = 0
    · subst he
      obtain ⟨z1, z2, z3⟩ := htp out rfl
      subst z1
      have Z2 := mkHid z2
      clear htp hok z2
      go_wp2_with fail
      refine (HQ.out w3 b out.length kb out hb.reads rfl z3 hb.le).mono ?_
      rintro e w4 ⟨ar, cr, br, qs, rfl, hQ, hR, g4⟩
      have hqp := Z2.out.unique hQ
      subst hqp
      have q4 := q3.then g4
      have cS := rsame_any ar a1 ps.length np cr ca ps ps w4 hR.read (RS.out w4 q4) rfl HN.out (by rw [HN.out]; omega)
      rw [decide_eq_true rfl] at cS
      clear hQ hR
      go_wp2_with fail
      refine cS.mono ?_
      rintro e w5 ⟨rfl, g5⟩
      clear cS
      go_wp2_with fail
      refine (wakes_any w5).mono ?_
      rintro e w6 ⟨rfl, g6⟩
      go_wp2_with fail
      go_ret
      exact ⟨ret_bool' (by first | rfl | simp), (q4.then g5).then g6⟩
    · have ho : out = [] := hok.resolve_left he
      subst ho
      have b1 : (er != 0) = true := by simp [he]
      clear htp hok
      go_wp2_with fail
      refine (wakes_any w3).mono ?_
      rintro e w4 ⟨rfl, g4⟩
      go_wp2_with fail
      go_ret
      exact ⟨ret_bool' (by first | rfl | simp), q3.then g4⟩
end Go.Proofs.Ytkfpkbmkmbnjcaa
