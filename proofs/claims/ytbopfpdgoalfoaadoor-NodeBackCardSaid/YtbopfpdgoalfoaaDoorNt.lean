/- bytes.HasPrefix; bytes.Trim of noughts alone. -/
import Derived.Test.YtbopfpdgoalfoaaDoorNv
import Derived.Test.YtbopfpdgoalfoaaDoorY
namespace Go.Proofs.YtbopfpdgoalfoaaDoor
open Go.RowKit
set_option linter.unusedVariables false
set_option linter.unusedSimpArgs false
attribute [local go_sem ↓] Go.wp_at_zero Go.wp_at_succ

theorem prefix_any (ao : Option Addr) (n c : Nat) (F z : List UInt8) (bo : Option Addr) (m d : Nat) (w : World) (h1 : Reads w ao (bts (F ++ z))) (hn : (F ++ z).length = n) (hc : n ≤ c) (h2 : Reads w bo (bts F)) (hm : F.length = m) :
    Calls Tryd.prog 9 #[.slice ao n c, .slice bo m d] w fun e w' => e = .returned (.bool true) ∧ w = w' := by
  have hmn : m ≤ n := by rw [← hn, ← hm, List.length_append]; omega
  have hge : decide (m ≤ n) = true := decide_eq_true hmn
  have hge2 : decide ((n : Int) ≥ (m : Int)) = true := decide_eq_true (by omega)
  have hge3 : decide ((m : Int) ≤ (n : Int)) = true := decide_eq_true (by omega)
  have hs : (Instr.slice 25 (.slice ao n c) none (some (.int .i64 (m : Int))) none).run Tryd.prog w = .ok (.slice ao m c) w := run_take_k (e := 5) ao n c m Tryd.underlying25 (by kernel_rfl) (by omega) w
  have hr : Reads w ao (bts F) := by
    have h := h1.take m
    rw [bts_take, ← hm, List.take_left] at h
    exact h
  have hb := beq_any ao m c F bo m d F w hr hm h2 hm
  rw [decide_eq_true rfl] at hb
  have HB := mkHid hb
  clear hb h1 hr hn hm h2 hmn
  go_enter Tryd.func9, Tryd.ntmps9
  go_wp2_with (first | (go_at_call 19; refine HB.out.mono ?_; rintro e w' ⟨rfl, rfl⟩))
  go_ret
  exact ⟨rfl, rfl⟩
theorem trimR_any (ao : Option Addr) (n c : Nat) (w : World) (hx : Reads w ao (bts (List.replicate n 0))) (hc : n ≤ c) (hm : c ≤ maxLen) :
    Calls Tryd.prog 22 #[.slice ao n c, .int .u8 0] w fun e w' => e = .returned (.slice ao 0 c) ∧ w = w' := by
  unfold maxLen at hm
  go_enter Tryd.func22, Tryd.ntmps22
  go_wp2_with fail
  go_loop [0] (fun sv => ∃ k, sv = .slice ao k c ∧ k ≤ n) (fun sv => match sv with | .slice _ k _ => k | _ => 0)
  case atStart => exact ⟨n, rfl, Nat.le_refl _⟩
  case round =>
    obtain ⟨k, rfl, hk⟩ := hrel
    cases k with
    | zero =>
      go_wp2_with fail
      go_ret
      exact ⟨rfl, rfl⟩
    | succ j =>
      have hv : (bts (List.replicate n 0))[j]? = some (.int .u8 0) := by simp [bts, List.getElem?_replicate]; omega
      obtain ⟨b, o, rfl, hcell, _⟩ := reads_lt hx j _ hv
      have hs : (Instr.slice 25 (.slice (some ⟨b, o, none⟩) (j + 1) c) none (some (.int .i64 (j : Int))) none).run Tryd.prog w = .ok (.slice (some ⟨b, o, none⟩) j c) w := run_take_k (e := 5) (some ⟨b, o, none⟩) (j + 1) c j Tryd.underlying25 (by kernel_rfl) (by omega) w
      have d1 : decide (((j + 1 : Nat) : Int) > 0) = true := decide_eq_true (by omega)
      have d2 : decide ((j : Int) + 1 > 0) = true := decide_eq_true (by omega)
      have d3 : decide (0 < (j : Int) + 1) = true := decide_eq_true (by omega)
      clear hv hx
      go_wp2_with fail
      go_round
      case rel => exact ⟨j, rfl, by omega⟩
      case measure => simp
theorem trimL_any (ao : Option Addr) (c : Nat) (w : World) :
    Calls Tryd.prog 21 #[.slice ao 0 c, .int .u8 0] w fun e w' => e = .returned (.slice none 0 0) ∧ w = w' := by
  go_enter Tryd.func21, Tryd.ntmps21
  go_wp2_with fail
  go_loop [0] (fun sv => sv = .slice ao 0 c) (fun _ => 0)
  case atStart => rfl
  case round =>
    subst hrel
    go_wp2_with fail
    go_ret
    exact ⟨rfl, rfl⟩
set_option maxRecDepth 20000 in
theorem trim_any (ao : Option Addr) (n c : Nat) (w : World) (hx : Reads w ao (bts (List.replicate n 0))) (hc : n ≤ c) (hm : c ≤ maxLen) :
    Calls Tryd.prog 10 #[.slice ao n c, .string ⟨#[0]⟩] w fun e w' => e = .returned (.slice none 0 0) ∧ Chg [] w w' := by
  cases n with
  | zero =>
    go_enter Tryd.func10, Tryd.ntmps10
    go_wp2_with fail
    go_ret
    exact ⟨rfl, Chg.refl _ _⟩
  | succ j =>
    have d1 : (((j + 1 : Nat) : Int) == 0) = false := by simp; omega
    have d2 : ((j : Int) + 1 == 0) = false := by simp; omega
    have cR := fun q => (trimR_any ao (j + 1) c (w.drewN q) (hx.keep (Chg.drewN w q)) hc hm).mono (fun e w' h => And.intro h.1 h.2.symm)
    have cL := fun q => (trimL_any ao c (w.drewN q)).mono (fun e w' h => And.intro h.1 h.2.symm)
    clear hx
    go_enter Tryd.func10, Tryd.ntmps10
    go_wp2_with fail
    go_quiet ((first | (go_at_call 22; exact Calls.quiet_of_same (cR _)) | (go_at_call 21; exact Calls.quiet_of_same (cL _))))
    go_wp2_with fail
    go_ret
    exact ⟨rfl, Chg.drewN w _⟩
end Go.Proofs.YtbopfpdgoalfoaaDoor
