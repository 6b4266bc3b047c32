/- The law's helpers: a number brought into bounds, a block's bytes, two lists of numbers compared. -/
import Derived.Test.YtdmhcbbakgljoaaJx
import Derived.Test.YtdmhcbbakgljoaaV
namespace Go.Proofs.Ytdmhcbbakgljoaa
open Go.RowKit Go.Maps
set_option linter.unusedVariables false
set_option linter.unusedSimpArgs false
attribute [local go_sem ↓] Go.wp_at_zero Go.wp_at_succ

theorem within_any (k : Int) (lo hi : Nat) (h1 : lo ≤ hi) (h2 : hi ≤ 1000) (hk : (Lit.int .i64 k).wf = true) (w : World) :
    Calls Try.prog 7 #[.int .i64 k, .int .i64 lo, .int .i64 hi] w fun e w' => ∃ m : Nat, e = .returned (.int .i64 (m : Int)) ∧ lo ≤ m ∧ m ≤ hi ∧ w = w' := by
  have bk := Go.bounds_i64 hk
  obtain ⟨n, hn⟩ : ∃ n, n = hi - lo + 1 := ⟨_, rfl⟩
  have e1 : (hi : Int) - (lo : Int) + 1 = (n : Int) := by omega
  have f5 : ((n : Int) == 0) = false := beq_eq_false_iff_ne.2 (by omega)
  obtain ⟨u, hu⟩ : ∃ u : Nat, IntKind.u64.wrap k = (u : Int) := ⟨(IntKind.u64.wrap k).toNat, by rw [IntKind.wrap_u64]; omega⟩
  have hu2 : (u : Int) < 18446744073709551616 := by rw [← hu, IntKind.wrap_u64]; omega
  have hn1 : 1 ≤ n := by omega
  have hn2 : lo + n = hi + 1 := by omega
  clear bk hk hn
  go_enter Try.func7, Try.ntmps7
  go_wp2
  go_ret
  have h1' : u % n < n := Nat.mod_lt _ hn1
  have h2' : ((u : Int) % (n : Int)) = ((u % n : Nat) : Int) := by simp
  rw [h2']
  exact ⟨lo + u % n, ret_int (by unfold wrap64; omega), by omega, by omega, rfl⟩
def blockB (x : UInt8) : List UInt8 := (List.range 256).map (fun i => x + UInt8.ofNat (i / 64))
theorem blockB_len (x : UInt8) : (blockB x).length = 256 := by simp [blockB]
set_option maxRecDepth 20000 in
theorem block_any (x : UInt8) (w : World) : Calls Try.prog 10 #[.int .u8 (x.toNat : Int)] w fun e w' => ∃ nb, e = .returned (.slice (some ⟨nb, 0, none⟩) 256 256) ∧ Room w' w.heap.size (some ⟨nb, 0, none⟩) 256 256 (bts (blockB x)) ∧ Chg [] w w' := by
  have hmk : ∀ u : World, (Instr.makeSlice 31 (.int .i64 256) (.int .i64 256)).run Try.prog u = .ok (.slice (some ⟨u.heap.size, 0, none⟩) 256 256) (u.alloc (.cells (madeCells #[.int .u8 0] 256) 5)) := hmk 256 (by decide)
  have hxl := x.toNat_lt
  go_enter Try.func10, Try.ntmps10
  go_wp2_with fail
  have hr0 := made_room w 5 (.int .u8 0) 256 (by decide)
  have hg0 : Chg [] w (w.alloc (.cells (madeCells #[.int .u8 0] 256) 5)) := Chg.alloc [] w _
  generalize w.alloc (.cells (madeCells #[.int .u8 0] 256) 5) = w0 at hr0 hg0 ⊢
  obtain ⟨nb, hnb⟩ : ∃ nb, nb = w.heap.size := ⟨_, rfl⟩
  have Hnb := mkHid hnb
  have hr0' : Room w0 w.heap.size (some ⟨nb, 0, none⟩) 256 256 (List.replicate 256 (.int .u8 0)) := by rw [hnb]; exact hr0
  simp only [← hnb]
  clear hr0 hnb
  go_loopw [4] (fun i wr => ∃ (j : Nat) (xs : List Value), i = .int .i64 j ∧ j ≤ 256 ∧ Room wr w.heap.size (some ⟨nb, 0, none⟩) 256 256 xs ∧ xs.take j = bts ((blockB x).take j) ∧ Chg [] w wr) (fun i _ => 256 - (Go.RowKit.intOf i).toNat)
  case atStart => exact ⟨0, _, rfl, by omega, hr0', rfl, hg0⟩
  case round =>
    obtain ⟨j, xs, rfl, hj, hr, hx, hc⟩ := hrel
    by_cases hlt : j < 256
    · have f1 := hr.cell j hlt
      obtain ⟨b', o', e, _, hs, _⟩ := hr.at_ (by omega)
      cases e
      obtain ⟨u, hu⟩ := Option.isSome_iff_exists.1 (hs j hlt).1
      rw [Nat.zero_add] at hu f1
      have HX := mkHid hx
      clear hx hs
      go_wp2
      have hxl' := hr.len
      have hv : (((x.toNat : Int) + (j : Int) / 64) % 256) = ((x + UInt8.ofNat (j / 64)).toNat : Int) := by
        rw [UInt8.toNat_add, UInt8.toNat_ofNat']
        omega
      have hbj : (blockB x)[j]'(by rw [blockB_len]; exact hlt) = x + UInt8.ofNat (j / 64) := by simp [blockB]
      have hs1 := hr.set j hlt (.int .u8 (((x.toNat : Int) + (j : Int) / 64) % 256))
      rw [Nat.zero_add] at hs1
      refine ⟨⟨j + 1, _, by first | rfl | go_num, by omega, hs1, ?_, hc.trans (Chg.setCell wr ⟨nb, j, none⟩ _) (by simp) (fun k hk hlt => by simp at hk; have := Hnb.out; omega)⟩, by simp [Go.RowKit.intOf]; omega⟩
      rw [List.take_succ_eq_append_getElem (by rw [List.length_set]; omega), List.getElem_set_self, List.take_set, List.set_eq_of_length_le (by simp; omega), HX.out, List.take_succ_eq_append_getElem (by rw [blockB_len]; exact hlt), bts_append, hbj, hv]
      rfl
    · have hjj : j = 256 := by omega
      subst hjj
      rw [List.take_of_length_le (by rw [hr.len]; omega), List.take_of_length_le (by rw [blockB_len]; omega)] at hx
      subst hx
      go_wp2_with fail
      go_ret
      exact ⟨nb, rfl, hr, hc⟩
def natV (n : Nat) : Value := .int .i64 (n : Int)
set_option maxRecDepth 20000 in
theorem same_any (Xs Zs : List Nat) (ao bo : Option Addr) (c c' : Nat) (w : World) (hx : Reads w ao (Xs.map natV)) (hz : Reads w bo (Zs.map natV)) (hl : Xs.length ≤ 100000) (hl2 : Zs.length ≤ 100000) :
    Calls Try.prog 22 #[.slice ao Xs.length c, .slice bo Zs.length c'] w fun e w' => e = .returned (.bool (decide (Xs = Zs))) ∧ Chg [] w w' := by
  by_cases hn : Xs.length = Zs.length
  · have hne : ((Xs.length : Int) != (Zs.length : Int)) = false := by simp; omega
    have hne2 : (Xs.length != Zs.length) = false := by simp; omega
    have HN := mkHid hn
    clear hn
    go_enter Try.func22, Try.ntmps22
    go_wp2
    go_loopw [5] (fun i wr => ∃ k : Nat, i = .int .i64 k ∧ k ≤ Xs.length ∧ Xs.take k = Zs.take k ∧ Chg [] w wr) (fun i _ => Xs.length - (Go.RowKit.intOf i).toNat)
    case atStart => exact ⟨0, rfl, Nat.zero_le _, rfl, Chg.refl _ _⟩
    case round =>
      obtain ⟨k, rfl, hk, heq, hc⟩ := hrel
      by_cases hlt : k < Xs.length
      · have hlz : k < Zs.length := by have := HN.out; omega
        obtain ⟨b, o, rfl, hcx⟩ := (hx.keep hc) (by simp; omega)
        obtain ⟨b2, o2, rfl, hcz⟩ := (hz.keep hc) (by simp; omega)
        have ck := hcx k (natV Xs[k]) (by simp [hlt])
        have cz := hcz k (natV Zs[k]) (by simp [hlz])
        unfold natV at ck cz
        have HE := mkHid heq
        clear heq hcx hcz
        by_cases hv : Xs[k] = Zs[k]
        · have hv1 : ((Xs[k] : Int) != (Zs[k] : Int)) = false := by simp; omega
          have hv2 : (Xs[k] != Zs[k]) = false := by simp; omega
          have HV := mkHid hv
          clear hv
          go_wp2
          go_quiet (fail)
          go_wp2
          exact ⟨⟨k + 1, by first | rfl | go_num, by omega, by rw [List.take_succ_eq_append_getElem hlt, List.take_succ_eq_append_getElem hlz, HE.out, HV.out], hc.then (Chg.drewN _ _)⟩, by simp [Go.RowKit.intOf]; omega⟩
        · have hv1 : ((Xs[k] : Int) != (Zs[k] : Int)) = true := by simp; omega
          have hv2 : (Xs[k] != Zs[k]) = true := by simp; omega
          have HV := mkHid hv
          clear hv
          go_wp2
          go_quiet (fail)
          go_wp2
          go_ret
          have hno : decide (Xs = Zs) = false := decide_eq_false (fun e => HV.out (by simp [e]))
          rw [hno]
          exact ⟨rfl, hc.then (Chg.drewN _ _)⟩
      · have HE := mkHid heq
        have hd1 : decide (k < Xs.length) = false := decide_eq_false hlt
        have hd2 : decide ((k : Int) < (Xs.length : Int)) = false := decide_eq_false (by omega)
        clear heq
        go_wp2
        go_ret
        have hyes : decide (Xs = Zs) = true := decide_eq_true (by
          have h1 := HE.out
          rw [List.take_of_length_le (by omega), List.take_of_length_le (by have := HN.out; omega)] at h1
          exact h1)
        rw [hyes]
        exact ⟨rfl, hc⟩
  · have hne : ((Xs.length : Int) != (Zs.length : Int)) = true := by simp; omega
    have hne2 : (Xs.length != Zs.length) = true := by simp; omega
    have HN := mkHid hn
    clear hn
    go_enter Try.func22, Try.ntmps22
    go_wp2
    go_ret
    have hno : decide (Xs = Zs) = false := decide_eq_false (fun e => HN.out (by rw [e]))
    rw [hno]
    exact ⟨rfl, Chg.refl _ _⟩
end Go.Proofs.Ytdmhcbbakgljoaa
