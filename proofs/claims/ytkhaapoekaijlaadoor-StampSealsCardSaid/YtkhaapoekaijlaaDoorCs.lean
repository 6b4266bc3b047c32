/- The contracts of package crc's sums, and of the reference's. -/
import Derived.Test.YtkhaapoekaijlaaDoorCb
namespace Go.Proofs.YtkhaapoekaijlaaDoor
open Go.RowKit
set_option linter.unusedVariables false
set_option linter.unusedSimpArgs false

theorem raw_succ (s : BitVec 32) (l : List UInt8) (k : Nat) (h : k < l.length) : raw s (l.take (k + 1)) = stp (raw s (l.take k)) l[k] := by
  rw [List.take_succ_eq_append_getElem h, raw_append]
  rfl
theorem more_any (S : BitVec 32) (s : Int) (hs : s = v32 S) (ao : Option Addr) (n c : Nat) (l : List UInt8) (w : World) (hT : Tab w) (g : Reads w ao (bts l)) (gn : l.length = n) (hn : n ≤ maxLen) :
    Calls Tryd.prog 24 #[.int .u32 s, .slice ao n c] w fun e w' => e = .returned (.int .u32 (v32 (more S l))) ∧ Chg [] w w' := by
  subst hs
  unfold maxLen at hn
  go_enter Tryd.func24, Tryd.ntmps24
  go_wp2_with (first | (go_at_call 26; refine (byteStep_any _).mono ?_; rintro e w1 ⟨rfl, hg1⟩) | (refine wpList_alloc_arr rfl 46 36 rfl arrT ?_; intro w2 hr2 hg2 hs2; have hlt2 := hr2.lt) | (refine wpList_store_arr rfl 46 36 (.tmp 5) (.tmp 9) rfl arrT _ _ _ hr2 rfl rfl ?_; intro w3 hr3 hg3))
  have hpos : tabG < w1.heap.size := block_lt_of_cell ((hT.then hg1) 0 (by decide))
  have hT3 := ((hT.then hg1).then hg2).chg hg3 (by simp; omega)
  have hc3 : Chg [] w w3 := (hg1.then hg2).trans hg3 (fun _ h _ => h) (by have := hg1.size; simp; omega)
  have hnew : w.heap.size ≤ w1.heap.size := hg1.size
  generalize hb : w1.heap.size = b at *
  simp only [n32m]
  clear hs2 hlt2 hr2 hg2 hg3 hg1
  go_loopw [6, 8, 14] (fun v _ i wr => ∃ (k : Nat), i = .int .i64 k ∧ k ≤ n ∧ v = .int .u32 (v32 (raw (~~~ S) (l.take k))) ∧ Row wr b 46 (fun j => it 8 (tp j)) ∧ Tab wr ∧ Chg [] w wr) (fun _ _ i _ => n - (intOf i).toNat)
  case atStart => exact ⟨0, rfl, by omega, rfl, hr3, hT3, hc3⟩
  case round =>
    obtain ⟨k, rfl, hk, rfl, hr, ht, hc⟩ := hrel
    by_cases hlt : k < n
    · obtain ⟨b1, o1, rfl, hcell⟩ := (g.keep hc) (by rw [bts_length]; omega)
      have hck := hcell k _ (bts_get l k (by omega))
      clear hcell
      obtain ⟨x, hx⟩ : ∃ x, x = l[k]'(by omega) := ⟨_, rfl⟩
      rw [← hx, conv32] at hck
      obtain ⟨R, hR⟩ : ∃ R, R = raw (~~~ S) (l.take k) := ⟨_, rfl⟩
      rw [← hR]
      have hstep := raw_succ (~~~ S) l k (by omega)
      rw [← hx, ← hR] at hstep
      have Hstep := mkHid hstep
      clear hstep hx hR
      obtain ⟨X, hX⟩ : ∃ X, X = BitVec.ofNat 32 x.toNat := ⟨_, rfl⟩
      rw [← hX] at hck
      have h1 := x32 R X
      have h2 := and255 (R ^^^ X)
      have h3 := shr32 (R ^^^ X) 8 256 rfl
      have h4 := x32 ((R ^^^ X) >>> 8) (it 8 ((R ^^^ X) &&& 255#32))
      have hv := mod32 X
      have HX := mkHid hX
      clear hX
      go_wp2_with (first | (refine wpList_load_arr rfl 46 36 (.tmp 5) rfl arrT b _ hr rfl ?_) | (go_at_call 27; refine (of_any (it 8) (Lin.it 8) _ (fun _ _ => rfl) ((R ^^^ X) &&& 255#32) _ ht).mono ?_; rintro e w4 ⟨rfl, hc4⟩; have hr4 := hr.chg hc4 (by simp)))
      refine ⟨⟨k + 1, by go_num, by omega, ?_, hr4, ht.then hc4, hc.then hc4⟩, by simp [intOf]; omega⟩
      rw [Hstep.out, ← it_byte, HX.out]
      rfl
    · have : k = n := by omega
      subst this
      rw [List.take_of_length_le (by omega)]
      go_wp2_with fail
      go_ret
      exact ⟨ret_u32 (n32m _), hc⟩

theorem sum_any (ao : Option Addr) (n c : Nat) (l : List UInt8) (w : World) (hT : Tab w) (g : Reads w ao (bts l)) (gn : l.length = n) (hn : n ≤ maxLen) :
    Calls Tryd.prog 20 #[.slice ao n c] w fun e w' => e = .returned (.int .u32 (v32 (csum l))) ∧ Chg [] w w' := by
  go_enter Tryd.func20, Tryd.ntmps20
  go_wp2_with (first | (go_at_call 24; refine (more_any 0#32 0 rfl ao n c l w hT g gn hn).mono ?_; rintro e w1 ⟨rfl, hg1⟩))
  go_ret
  exact ⟨rfl, hg1⟩

theorem sum_as (ao : Option Addr) (n c : Nat) (l : List UInt8) (S : BitVec 32) (hS : csum l = S) (w : World) (hT : Tab w) (g : Reads w ao (bts l)) (gn : l.length = n) (hn : n ≤ maxLen) :
    Calls Tryd.prog 20 #[.slice ao n c] w fun e w' => e = .returned (.int .u32 (v32 S)) ∧ Chg [] w w' := by
  subst hS
  exact sum_any ao n c l w hT g gn hn
theorem more_as (S : BitVec 32) (s : Int) (hs : s = v32 S) (ao : Option Addr) (n c : Nat) (l : List UInt8) (R : BitVec 32) (hR : more S l = R) (w : World) (hT : Tab w) (g : Reads w ao (bts l)) (gn : l.length = n) (hn : n ≤ maxLen) :
    Calls Tryd.prog 24 #[.int .u32 s, .slice ao n c] w fun e w' => e = .returned (.int .u32 (v32 R)) ∧ Chg [] w w' := by
  subst hR
  exact more_any S s hs ao n c l w hT g gn hn
end Go.Proofs.YtkhaapoekaijlaaDoor
