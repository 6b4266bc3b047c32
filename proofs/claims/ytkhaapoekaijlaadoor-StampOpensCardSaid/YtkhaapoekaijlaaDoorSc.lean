/- The reference's Seal. -/
import Derived.Test.YtkhaapoekaijlaaDoorSb
namespace Go.Proofs.YtkhaapoekaijlaaDoor
open Go.RowKit
set_option linter.unusedVariables false
set_option linter.unusedSimpArgs false

theorem Own.set {w0 w : World} {b n : Nat} {l : List UInt8} (h : Own w0 w b n l) (i : Nat) (hi : i < n) (x : UInt8) (v : Int) (hv : v = (x.toNat : Int)) (l' : List UInt8) (hl' : l.set i x = l') : Own w0 (w.setCell ⟨b, i, none⟩ (.int .u8 v)) b n l' := by
  subst hl' hv
  have := h.r.set i hi (.int .u8 (x.toNat : Int))
  have e : (bts l).set i (.int .u8 (x.toNat : Int)) = bts (l.set i x) := by simp [bts]
  rw [Nat.zero_add, e] at this
  exact ⟨this, h.g.trans (Chg.setCell w ⟨b, i, none⟩ _) (fun _ h _ => h) (fun k hk hlt => by simp at hk; have := (h.r.lt b (by rw [fp_some _ _ _ (by omega)]; simp)).1; omega)⟩
theorem Own.cell {w0 w : World} {b n : Nat} {l : List UInt8} (h : Own w0 w b n l) (i : Nat) (hi : i < n) : (∃ v, w.cell? ⟨b, i, none⟩ = some v) ∧ w.frozen? ⟨b, i, none⟩ = false := by
  have := h.there i 1 (by omega) 0 (by decide)
  exact ⟨Option.isSome_iff_exists.1 this.1, this.2⟩
theorem Own.at_ {w0 w : World} {b n : Nat} {l : List UInt8} (h : Own w0 w b n l) (i : Nat) (x : UInt8) (hx : l[i]? = some x) : w.cell? ⟨b, i, none⟩ = some (.int .u8 (x.toNat : Int)) := by
  have := h.r.reads.cell i (.int .u8 (x.toNat : Int)) (by simp [bts, hx])
  rwa [Nat.zero_add] at this
theorem set_take (l : List UInt8) (k m : Nat) (h : k < l.length) (hm : 0 < m) : (l.take k ++ List.replicate m 0).set k l[k] = l.take (k + 1) ++ List.replicate (m - 1) 0 := by
  obtain ⟨m, rfl⟩ : ∃ j, m = j + 1 := ⟨m - 1, by omega⟩
  have hk : (l.take k).length = k := by simp; omega
  rw [List.set_append_right _ _ (by omega), hk, Nat.sub_self, List.replicate_succ, List.set_cons_zero, List.take_succ_eq_append_getElem h]
  simp [List.append_assoc, -List.take_append_getElem]
theorem set_rep (A : List UInt8) (m : Nat) (C : List UInt8) (x : UInt8) (i : Nat) (hi : i = A.length + m) : (A ++ (List.replicate (m + 1) 0 ++ C)).set i x = A ++ (List.replicate m 0 ++ (x :: C)) := by
  subst hi
  rw [List.set_append_right _ _ (by omega), show A.length + m - A.length = m by omega, List.replicate_succ', List.append_assoc, List.set_append_right _ _ (by simp), List.length_replicate, Nat.sub_self]
  simp
theorem rest_byte (N : Nat) : ((N : Int) % 256) = ((UInt8.ofNat N).toNat : Int) := by rw [ofNat_toNat]; rfl

theorem be4 (kd : Nat) (h : kd < 256) : be kd 4 = List.replicate 3 0 ++ [UInt8.ofNat kd] := by
  simp only [be]
  rw [Nat.div_eq_of_lt (show kd < 256 ^ 3 by omega), Nat.div_eq_of_lt (show kd < 256 ^ 2 by omega), Nat.div_eq_of_lt (show kd < 256 ^ 1 by omega), Nat.pow_zero, Nat.div_one]
  rfl
theorem refseal_long (ao : Option Addr) (n c : Nat) (k : Int) (kd : Nat) (w : World) (hn : 240 < n) :
    Calls Tryd.prog 9 #[.slice ao n c, .int .i64 k, .int .u8 kd] w fun e w' => e = .returned (.tuple #[.slice none 0 0, .int .i64 3]) ∧ w = w' := by
  have hd : decide ((240 : Int) < (n : Int)) = true := decide_eq_true (by omega)
  go_enter Tryd.func9, Tryd.ntmps9
  go_wp2_with fail
  go_ret2
  exact ⟨rfl, rfl⟩

set_option maxHeartbeats 1000000 in
theorem refseal_any (ao : Option Addr) (n c : Nat) (l : List UInt8) (k : Int) (kd : Nat) (w : World) (g : Reads w ao (bts l)) (gn : l.length = n) (hn : n ≤ 240) (hkd : kd < 256) :
    Calls Tryd.prog 9 #[.slice ao n c, .int .i64 k, .int .u8 kd] w (SealPost w l (pn k) kd) := by
  have hmk : ∀ u : World, (Instr.makeSlice 22 (.int .i64 256) (.int .i64 256)).run Tryd.prog u = .ok (.slice (some ⟨u.heap.size, 0, none⟩) 256 256) (u.alloc (.cells (madeCells #[.int .u8 0] 256) 5)) := hmk 256 (by decide)
  have hd : decide ((240 : Int) < (n : Int)) = false := decide_eq_false (by omega)
  have hpn := pn_eq k
  have hplt := pn_lt k
  go_enter Tryd.func9, Tryd.ntmps9
  have h0 := own_made 256 (by decide) w
  have hlen : l.length ≤ 240 := by omega
  go_wp2_with fail
  generalize w.alloc _ = w0 at h0 ⊢
  generalize w.heap.size = nb at h0 ⊢
  go_loopw [9] (fun i wr => ∃ j : Nat, i = .int .i64 j ∧ j ≤ n ∧ Own w wr nb 256 (l.take j ++ List.replicate (256 - j) 0)) (fun i _ => n - (intOf i).toNat)
  case atStart => exact ⟨0, rfl, by omega, by simpa only [List.take_zero, List.nil_append, Nat.sub_zero] using h0⟩
  case round =>
    clear h0
    obtain ⟨j, rfl, hj, hr⟩ := hrel
    by_cases hlt : j < n
    · have hdj : decide ((j : Int) < (n : Int)) = true := decide_eq_true (by omega)
      obtain ⟨b1, o1, rfl, hcell⟩ := (g.keep hr.g) (by rw [bts_length]; omega)
      have hck := hcell j _ (bts_get l j (by omega))
      clear hcell
      obtain ⟨⟨v, hv⟩, hf⟩ := hr.cell j (by omega)
      have hs := hr.set j (by omega) (l[j]'(by omega)) _ rfl _ (set_take l j (256 - j) (by omega) (by omega))
      go_wp2_with fail
      refine ⟨⟨j + 1, by go_num, by omega, ?_⟩, by simp [intOf]; omega⟩
      rw [show 256 - (j + 1) = 256 - j - 1 by omega]
      exact hs
    · have : j = n := by omega
      subst this
      have hdj : decide ((j : Int) < (j : Int)) = false := decide_eq_false (by omega)
      rw [List.take_of_length_le (by omega)] at hr
      go_wp2_with fail
      obtain ⟨A, hA⟩ : ∃ A, A = l ++ List.replicate (240 - l.length) (0 : UInt8) := ⟨_, rfl⟩
      have hAl : A.length = 240 := by rw [hA, List.length_append, List.length_replicate]; omega
      have e0 : l ++ List.replicate (256 - l.length) (0 : UInt8) = A ++ (List.replicate 8 0 ++ (be (pn k) 0 ++ List.replicate 8 0)) := by
        rw [hA, List.append_assoc, show 256 - l.length = (240 - l.length) + (8 + 8) by omega, ← List.replicate_append_replicate, ← List.replicate_append_replicate]
        rfl
      rw [← gn, e0] at hr
      have hbd : body l (pn k) kd = A ++ (be (pn k) 8 ++ be kd 4) := by rw [hA]; rfl
      have Hbd := mkHid hbd
      clear e0 hA hbd g hdj hd
      generalize hP : pn k = P at *
      generalize hwk : IntKind.u64.wrap k = K at *
      subst hpn
      go_loopw [10, 11] (fun v i wr => ∃ (q p : Nat), v = .int .u64 (p : Int) ∧ Hid (p = P / 256 ^ (248 - q)) ∧ i = .int .i64 (prev q) ∧ 240 ≤ q ∧ q ≤ 248 ∧ Own w wr nb 256 (A ++ (List.replicate (q - 240) 0 ++ (be P (248 - q) ++ List.replicate 8 0)))) (fun _ i _ => (intOf i).toNat)
      case atStart => exact ⟨248, P, rfl, (by simp : P = P / 256 ^ (248 - 248)), rfl, by decide, by decide, hr⟩
      case round =>
        clear hr
        obtain ⟨q, p, rfl, hp, rfl, hq1, hq2, hr⟩ := hrel
        by_cases hq : 240 < q
        · obtain ⟨m, rfl⟩ : ∃ m, q = m + 1 := ⟨q - 1, by omega⟩
          simp only [prev_succ]
          have hp64 : p < 2 ^ 64 := by rw [hp.out]; exact Nat.lt_of_le_of_lt (Nat.div_le_self _ _) hplt
          have hdm : decide ((240 : Int) ≤ (m : Int)) = true := decide_eq_true (by omega)
          obtain ⟨⟨v, hv⟩, hf⟩ := hr.cell m (by omega)
          have hs := hr.set m (by omega) (UInt8.ofNat p) _ (rest_byte p) (A ++ (List.replicate (m - 240) 0 ++ (UInt8.ofNat p :: (be P (248 - (m + 1)) ++ List.replicate 8 0)))) (by
            rw [show m + 1 - 240 = (m - 240) + 1 by omega]
            exact set_rep A (m - 240) _ _ m (by omega))
          go_wp2_with fail
          refine ⟨⟨m, p / 256, by go_num, ?_, rfl, by omega, by omega, ?_⟩, by simp [intOf, prev]; omega⟩
          · show p / 256 = _
            rw [hp.out, Nat.div_div_eq_div_mul, ← Nat.pow_succ, show (248 - (m + 1)).succ = 248 - m by omega]
          · rw [show 248 - m = (248 - (m + 1)) + 1 by omega, be, ← hp.out]
            exact hs
        · obtain rfl : q = 240 := by omega
          have hdm : decide ((240 : Int) ≤ prev 240) = false := by decide
          have hr' : Own w wr nb 256 ((A ++ be P 8) ++ (List.replicate (3 + 1) 0 ++ List.replicate 4 0)) := by
            rw [List.append_assoc]
            exact hr
          have hs := hr'.set 251 (by decide) (UInt8.ofNat kd) (kd : Int) (by rw [ofNat_toNat, Nat.mod_eq_of_lt hkd]) (A ++ (be P 8 ++ be kd 4) ++ List.replicate 4 0) (by
            rw [set_rep (A ++ be P 8) 3 (List.replicate 4 0) (UInt8.ofNat kd) 251 (by rw [List.length_append, hAl, be_length]), be4 kd hkd]
            simp only [List.append_assoc, List.cons_append, List.nil_append])
          obtain ⟨⟨v, hv⟩, hf⟩ := hr'.cell 251 (by decide)
          rw [← Hbd.out] at hs
          have hbl : (body l P kd).length = 252 := body_length l P kd hlen
          generalize hbd : body l P kd = bd at hs hbl Hbd
          have hg1 : Reads (wr.setCell ⟨nb, 251, none⟩ (.int .u8 (kd : Int))) (some ⟨nb, 0, none⟩) (bts bd) := by
            have := hs.r.reads.take 252
            rwa [bts_take, List.take_append_of_le_length (by omega), List.take_of_length_le (by omega)] at this
          clear hr hr'
          obtain ⟨S, hS⟩ : ∃ S, S = (csum bd).toNat := ⟨_, rfl⟩
          have hSv : v32 (csum bd) = (S : Int) := by rw [hS]; rfl
          have hSlt : S < 2 ^ 32 := by rw [hS]; exact (csum bd).isLt
          go_wp2_with (first | (go_at_call 17; refine (refsum_any _ 252 256 bd _ hg1 hbl (by decide)).mono ?_; rintro e w' ⟨rfl, rfl⟩))
          have hs' : Own w (wr.setCell ⟨nb, 251, none⟩ (.int .u8 (kd : Int))) nb 256 (bd ++ (List.replicate 4 0 ++ be S 0)) := by
            rw [show be S 0 = [] from rfl, List.append_nil]
            exact hs
          generalize wr.setCell ⟨nb, 251, none⟩ (.int .u8 (kd : Int)) = w3 at hs' ⊢
          clear hs hg1 hv hf
          go_loopw [12, 13] (fun v i wr => ∃ (q p : Nat), v = .int .u32 (p : Int) ∧ Hid (p = S / 256 ^ (256 - q)) ∧ i = .int .i64 (prev q) ∧ 252 ≤ q ∧ q ≤ 256 ∧ Own w wr nb 256 (bd ++ (List.replicate (q - 252) 0 ++ be S (256 - q)))) (fun _ i _ => (intOf i).toNat)
          case atStart => exact ⟨256, S, by rw [hS], (by simp : S = S / 256 ^ (256 - 256)), rfl, by decide, by decide, hs'⟩
          case round =>
            clear hs' hp
            obtain ⟨q, p, rfl, hp, rfl, hq1, hq2, hr⟩ := hrel
            by_cases hq : 252 < q
            · obtain ⟨m, rfl⟩ : ∃ m, q = m + 1 := ⟨q - 1, by omega⟩
              simp only [prev_succ]
              have hp64 : p < 2 ^ 32 := by rw [hp.out]; exact Nat.lt_of_le_of_lt (Nat.div_le_self _ _) hSlt
              have hdm : decide ((252 : Int) ≤ (m : Int)) = true := decide_eq_true (by omega)
              obtain ⟨⟨v, hv⟩, hf⟩ := hr.cell m (by omega)
              have hs := hr.set m (by omega) (UInt8.ofNat p) _ (rest_byte p) (bd ++ (List.replicate (m - 252) 0 ++ (UInt8.ofNat p :: be S (256 - (m + 1))))) (by
                rw [show m + 1 - 252 = (m - 252) + 1 by omega]
                exact set_rep bd (m - 252) _ _ m (by omega))
              go_wp2_with fail
              refine ⟨⟨m, p / 256, by go_num, ?_, rfl, by omega, by omega, ?_⟩, by simp [intOf, prev]; omega⟩
              · show p / 256 = _
                rw [hp.out, Nat.div_div_eq_div_mul, ← Nat.pow_succ, show (256 - (m + 1)).succ = 256 - m by omega]
              · rw [show 256 - m = (256 - (m + 1)) + 1 by omega, be, ← hp.out]
                exact hs
            · obtain rfl : q = 252 := by omega
              have hdm : decide ((252 : Int) ≤ prev 252) = false := by decide
              go_wp2_with fail
              go_ret2
              refine ⟨_, _, rfl, ?_, hr.g⟩
              unfold sealB
              rw [hbd, ← hS]
              exact hr.r
end Go.Proofs.YtkhaapoekaijlaaDoor
