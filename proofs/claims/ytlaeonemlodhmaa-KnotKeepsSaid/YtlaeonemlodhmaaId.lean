/- The package: run, by a closure; Find, Child; the reference's Child. -/
import Derived.Test.YtlaeonemlodhmaaIc
import Derived.Shelf.Abstract
namespace Go.Proofs.Ytlaeonemlodhmaa
open Go.RowKit
set_option linter.unusedVariables false
set_option linter.unusedSimpArgs false
attribute [local go_sem ↓] Go.wp_at_zero Go.wp_at_succ

set_option maxRecDepth 20000 in
theorem findlit_any (b : Nat) (k x : Nat) (w : World) (hc : w.cell? ⟨b, 0, none⟩ = some (.int .u64 (x : Int))) : Calls Try.prog 32 #[.int .u64 (k : Int), .pointer (some ⟨b, 0, none⟩)] w fun e w' => e = .returned (.bool (decide (k < x))) ∧ w = w' := by
  go_enter Try.func32, Try.ntmps32
  go_wp2_with fail
  go_ret
  first | exact ⟨rfl, rfl⟩ | exact ⟨ret_bool' (by rw [Bool.eq_iff_iff]; simp), rfl⟩
set_option maxRecDepth 20000 in
theorem childlit_any (b : Nat) (k x : Nat) (w : World) (hc : w.cell? ⟨b, 0, none⟩ = some (.int .u64 (x : Int))) : Calls Try.prog 35 #[.int .u64 (k : Int), .pointer (some ⟨b, 0, none⟩)] w fun e w' => e = .returned (.bool (decide (k ≤ x))) ∧ w = w' := by
  go_enter Try.func35, Try.ntmps35
  go_wp2_with fail
  go_ret
  first | exact ⟨rfl, rfl⟩ | exact ⟨ret_bool' (by rw [Bool.eq_iff_iff]; simp), rfl⟩
set_option maxRecDepth 20000 in
set_option maxHeartbeats 1000000 in
theorem run_any (lf : Bool) (ka : Option Addr) (kl kc : Nat) (va : Option Addr) (vl vc : Nat) (K V : List Nat) (w : World) (h : RdN w ka kc va vc K V) (hk : K.length = kl) (hv : V.length = vl) (p : Nat → Bool) (g : Nat) (lb : Array Value) (he : Enters Try.prog g)
    (hf : ∀ (k : Nat) (w1 : World), Chg [] w w1 → Calls Try.prog g (#[.int .u64 (k : Int)] ++ lb) w1 fun e w' => e = .returned (.bool (p k)) ∧ w1 = w') :
    Calls Try.prog 31 #[.agg #[.bool lf, .slice ka kl kc, .slice va vl vc], .func (.func g) #[] lb] w fun e w' => e = .returned (.int .i64 (runN p K V : Nat)) ∧ Chg [] w w' := by
  have hkc := h.ck
  have hbk := h.bk
  have g0 := Chg.alloc [] w (.cells #[.bool lf, .slice ka kl kc, .slice va vl vc] 24)
  obtain ⟨c0, c1, c2⟩ := laid3 w (.bool lf) (.slice ka kl kc) (.slice va vl vc) 24
  have h1 := h.keep g0
  obtain ⟨P, hP⟩ : ∃ P, np K V = P := ⟨_, rfl⟩
  have cP := pairs_any lf ka kl kc va vl vc P (by rw [min_np hk hv, hP])
  have hPk : P ≤ kl := by rw [← hP, ← hk]; exact np_le.1
  have hklb : kl ≤ 140737488351232 := by omega
  have hklc : kl ≤ kc := by omega
  have HC := mkHid (And.intro c0 (And.intro c1 c2))
  have HP := mkHid hP
  have HK := mkHid hk
  have HF := mkHid hf
  have hsl := fun u : World => run_take_k (P := Try.prog) (t := 22) (e := 25) ka kl kc P Try.underlying22 (by kernel_rfl) (by omega) u
  have eg : ∀ (args : Array Value) (w : World), (callFunc g args).run Try.prog w = .ok (.enter g args) w := he
  clear c0 c1 c2 hk hv h hP hf he
  go_enter Try.func31, Try.ntmps31
  go_wp2_with fail
  generalize w.alloc (.cells #[.bool lf, .slice ka kl kc, .slice va vl vc] 24) = w1 at *
  generalize w.heap.size = b at *
  obtain ⟨c0, c1, c2⟩ := HC.out
  refine (cP w1).mono ?_
  rintro e w2 ⟨rfl, g2⟩
  have x1 := g2.cellv c1 (by simp)
  have gA := g0.then g2
  have hr := h1.keep g2
  go_wp2_with fail
  go_loopw [15] (fun iv wr => ∃ k : Nat, iv = .int .i64 k ∧ k ≤ runN p K V ∧ k ≤ P ∧ w2 = wr) (fun iv _ => P - (intOf iv).toNat)
  case atStart => exact ⟨0, rfl, Nat.zero_le _, Nat.zero_le _, rfl⟩
  case round =>
    obtain ⟨k, rfl, hkr, hkP, rfl⟩ := hrel
    by_cases hlt : k < P
    · have d1 : decide (k < P) = true := decide_eq_true hlt
      have d2 : decide ((k : Int) < (P : Int)) = true := decide_eq_true (by omega)
      have hkl : k < kl := by omega
      obtain ⟨y, hy⟩ : ∃ y, K[k]? = some y := ⟨_, List.getElem?_eq_getElem (by rw [HK.out]; exact hkl)⟩
      obtain ⟨kb, ko, rfl, ck, _⟩ := reads_lt hr.rk k _ (uvs_get hy)
      cases hp : p y with
      | true =>
        have hs : k + 1 ≤ runN p K V := run_step hkr (by rw [HP.out]; exact hlt) hy hp
        have HPY := mkHid hp
        clear hr hy hp
        go_wp2_with fail
        refine (HF.out y _ gA).mono ?_
        rw [HPY.out]
        rintro e w3 ⟨rfl, rfl⟩
        go_wp2_with fail
        exact ⟨⟨k + 1, by first | rfl | go_num, hs, by omega, by first | trivial | rfl⟩, by simp [intOf]; omega⟩
      | false =>
        have hs : runN p K V = k := run_stop hkr (by rw [HP.out]; exact hlt) hy hp
        have HS := mkHid hs
        have HPY := mkHid hp
        clear hr hy hp hs
        go_wp2_with fail
        refine (HF.out y _ gA).mono ?_
        rw [HPY.out]
        rintro e w3 ⟨rfl, rfl⟩
        go_wp2_with fail
        go_ret
        rw [HS.out]
        exact ⟨rfl, gA⟩
    · have hke : k = P := by omega
      have d1 : decide (k < P) = false := decide_eq_false hlt
      have d2 : decide ((k : Int) < (P : Int)) = false := decide_eq_false (by omega)
      have hs : runN p K V = P := by rw [← hke]; exact run_end hkr (by rw [HP.out]; exact hlt)
      have HS := mkHid hs
      clear hr hs hke
      go_wp2_with fail
      go_ret
      rw [HS.out]
      exact ⟨rfl, gA⟩
theorem enters_find : Enters Try.prog 32 := enters_of Try.func32 (by kernel_rfl) rfl
theorem enters_child : Enters Try.prog 35 := enters_of Try.func35 (by kernel_rfl) rfl
section
variable (lf : Bool) (ka : Option Addr) (kl kc : Nat) (va : Option Addr) (vl vc : Nat) (K V : List Nat) (w : World) (h : RdN w ka kc va vc K V) (hk : K.length = kl) (hv : V.length = vl) (x : Nat)
include h hk hv
theorem run_find (b : Nat) (hb : w.cell? ⟨b, 0, none⟩ = some (.int .u64 (x : Int))) : Calls Try.prog 31 #[.agg #[.bool lf, .slice ka kl kc, .slice va vl vc], .func (.func 32) #[] #[.pointer (some ⟨b, 0, none⟩)]] w fun e w' => e = .returned (.int .i64 (findN x K V : Nat)) ∧ Chg [] w w' :=
  run_any lf ka kl kc va vl vc K V w h hk hv (fun k => decide (k < x)) _ _ enters_find fun k w1 g => findlit_any b k x w1 (g.cellv hb (by simp))
theorem run_child (b : Nat) (hb : w.cell? ⟨b, 0, none⟩ = some (.int .u64 (x : Int))) : Calls Try.prog 31 #[.agg #[.bool lf, .slice ka kl kc, .slice va vl vc], .func (.func 35) #[] #[.pointer (some ⟨b, 0, none⟩)]] w fun e w' => e = .returned (.int .i64 (runN (fun k => decide (k ≤ x)) K V : Nat)) ∧ Chg [] w w' :=
  run_any lf ka kl kc va vl vc K V w h hk hv (fun k => decide (k ≤ x)) _ _ enters_child fun k w1 g => childlit_any b k x w1 (g.cellv hb (by simp))
end
end Go.Proofs.Ytlaeonemlodhmaa
