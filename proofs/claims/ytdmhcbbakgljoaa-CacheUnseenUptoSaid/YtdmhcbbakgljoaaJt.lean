/- slices.DeleteFunc over the places that a cache holds, by whether each is dirty. -/
import Derived.Test.YtdmhcbbakgljoaaJr
namespace Go.Proofs.Ytdmhcbbakgljoaa
open Go.RowKit Go.Maps
set_option linter.unusedVariables false
set_option linter.unusedSimpArgs false
attribute [local go_sem ↓] Go.wp_at_zero Go.wp_at_succ

def plV (e : Ent) : Value := .int .i64 (e.pl : Int)
/-- Whether the block at a place is not dirty. -/
theorem cclean_any (y : Ent) (bx B cb mb : Nat) (la : Option Addr) (cl : Nat) (E L : List Ent) (most uses db : Nat) (w : World) (h : CacheAt w B cb mb la cl E L most uses db) (hb : w.cell? ⟨bx, 0, none⟩ = some (.pointer (some ⟨cb, 0, none⟩))) (hy : y ∈ L) :
    Calls Try.prog 32 #[.int .i64 (y.pl : Int), .pointer (some ⟨bx, 0, none⟩)] w fun e w' => e = .returned (.bool (!y.dirty)) ∧ w = w' := by
  have c2 := h.c2
  obtain ⟨D, hD⟩ := h.hd
  have hyE := h.pm.mem_iff.2 hy
  have hyp := h.pl y hy
  obtain ⟨i, hbk⟩ := h.blk hy
  have u1 := hbk.cell 257 _ (entV_dirty (h.mem hy).2)
  go_enter Try.func32, Try.ntmps32
  go_wp2_with (at_lookup; refine wpList_lookup_bare w rfl (.tmp 7) (.tmp 8) rfl hD rfl hyE hyp rfl ?_)
  go_ret
  exact ⟨rfl, rfl⟩
theorem cindex_any (Ys : List Ent) (ao : Option Addr) (c bx B cb mb : Nat) (la : Option Addr) (cl : Nat) (E L : List Ent) (most uses db : Nat) (w : World) (h : CacheAt w B cb mb la cl E L most uses db) (hb : w.cell? ⟨bx, 0, none⟩ = some (.pointer (some ⟨cb, 0, none⟩))) (hY : ∀ y ∈ Ys, y ∈ L) (hr : Reads w ao (Ys.map plV)) (hc : Ys.length ≤ 100000) :
    Calls Try.prog 51 #[.slice ao Ys.length c, .func (.func 32) #[] #[.pointer (some ⟨bx, 0, none⟩)]] w fun e w' => ∃ r : Int, e = .returned (.int .i64 r) ∧ w = w' ∧ ((r = -1 ∧ ∀ y ∈ Ys, y.dirty = true) ∨ ∃ k, ∃ hk : k < Ys.length, r = (k : Int) ∧ Ys[k].dirty = false ∧ ∀ y ∈ Ys.take k, y.dirty = true) := by
  go_enter Try.func51, Try.ntmps51
  go_wp2
  go_loop [8] (fun i => ∃ k : Nat, i = .int .i64 k ∧ k ≤ Ys.length ∧ ∀ y ∈ Ys.take k, y.dirty = true) (fun i => Ys.length - (Go.RowKit.intOf i).toNat)
  case atStart => exact ⟨0, rfl, Nat.zero_le _, by simp⟩
  case round =>
    obtain ⟨k, rfl, hk, hall⟩ := hrel
    by_cases hlt : k < Ys.length
    · obtain ⟨b, o, rfl, hcell⟩ := hr (by simp; omega)
      have ck := hcell k (plV Ys[k]) (by simp [hlt])
      unfold plV at ck
      have cC := cclean_any Ys[k] bx B cb mb la cl E L most uses db w h hb (hY _ (List.getElem_mem hlt))
      have HA := mkHid hall
      clear hall hcell hr
      cases hd : Ys[k].dirty
      · rw [hd] at cC
        have HD := mkHid hd
        clear hd
        go_wp2_with (first | (go_at_call 32; refine cC.mono ?_; rintro e w' ⟨rfl, rfl⟩))
        go_ret
        exact ⟨k, rfl, rfl, Or.inr ⟨k, hlt, rfl, HD.out, HA.out⟩⟩
      · rw [hd] at cC
        have HD := mkHid hd
        clear hd
        go_wp2_with (first | (go_at_call 32; refine cC.mono ?_; rintro e w' ⟨rfl, rfl⟩))
        go_round
        case rel =>
          refine ⟨k + 1, by first | rfl | go_num, by omega, fun y hy => ?_⟩
          rw [List.take_succ_eq_append_getElem hlt] at hy
          rcases List.mem_append.1 hy with hy | hy
          · exact HA.out y hy
          · simp at hy; rw [hy]; exact HD.out
        case measure => simp [Go.RowKit.intOf]; omega
    · have HA := mkHid hall
      clear hall
      have hd : decide (k < Ys.length) = false := decide_eq_false hlt
      have hd2 : decide ((k : Int) < (Ys.length : Int)) = false := decide_eq_false (by omega)
      go_wp2
      go_ret
      refine ⟨-1, rfl, rfl, Or.inl ⟨rfl, fun y hy => HA.out y ?_⟩⟩
      rw [List.take_of_length_le (by omega)]
      exact hy
end Go.Proofs.Ytdmhcbbakgljoaa
