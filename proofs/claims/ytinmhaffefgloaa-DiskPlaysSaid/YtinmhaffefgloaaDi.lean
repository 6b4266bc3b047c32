/- The law's own helpers: bytes.Repeat of one byte, bytes.Equal, blocks. -/
import Derived.Test.YtinmhaffefgloaaDh
import Derived.Lib.MakeNoZero
import Derived.Laws.MathBits
import Derived.Laws.Externs
namespace Go.Proofs.Ytinmhaffefgloaa
open Go.RowKit
set_option linter.unusedVariables false
set_option linter.unusedSimpArgs false
attribute [local go_sem ↓] Go.wp_at_zero Go.wp_at_succ

theorem ret_bool' {a b : Bool} (h : a = b) : Ending.returned (Value.bool a) = .returned (.bool b) := by rw [h]
theorem equal_any (ao : Option Addr) (n c : Nat) (l : List UInt8) (bo : Option Addr) (m d : Nat) (k : List UInt8) (w : World) (h1 : Reads w ao (bts l)) (hn : l.length = n) (h2 : Reads w bo (bts k)) (hm : k.length = m) :
    Calls Try.prog 16 #[.slice ao n c, .slice bo m d] w fun e w' => e = .returned (.bool (decide (l = k))) ∧ w = w' := by
  have r1 := run_convert_k (P := Try.prog) w 32 5 9 Try.underlying32 Try.underlying5 Try.underlying9 ao n c l h1 hn
  have r2 := run_convert_k (P := Try.prog) w 32 5 9 Try.underlying32 Try.underlying5 Try.underlying9 bo m d k h2 hm
  go_enter Try.func16, Try.ntmps16
  go_wp2
  go_ret
  exact ⟨ret_bool' (by rw [Bool.eq_iff_iff]; simp), rfl⟩
theorem mul_64 (w : World) : Calls Try.prog 50 #[.int .u64 1, .int .u64 64] w fun e w' => e = .returned (.tuple #[.int .u64 0, .int .u64 64]) ∧ w = w' := by
  go_enter Try.func50, Try.ntmps50
  go_wp2
  go_ret2
  exact ⟨by kernel_rfl, rfl⟩
theorem mul_128 (w : World) : Calls Try.prog 50 #[.int .u64 1, .int .u64 128] w fun e w' => e = .returned (.tuple #[.int .u64 0, .int .u64 128]) ∧ w = w' := by
  go_enter Try.func50, Try.ntmps50
  go_wp2
  go_ret2
  exact ⟨by kernel_rfl, rfl⟩
theorem mul_256 (w : World) : Calls Try.prog 50 #[.int .u64 1, .int .u64 256] w fun e w' => e = .returned (.tuple #[.int .u64 0, .int .u64 256]) ∧ w = w' := by
  go_enter Try.func50, Try.ntmps50
  go_wp2
  go_ret2
  exact ⟨by kernel_rfl, rfl⟩
theorem Chg.drewN (w : World) (n : Nat) : Chg [] w (w.drewN n) := ⟨rfl, rfl, rfl, Nat.le_refl _, fun _ _ _ => rfl⟩
/-- One byte, n times. -/
theorem repeat_one (x : UInt8) (n : Nat) (h1 : 1 ≤ n) (h2 : n ≤ 8192) (hmul : ∀ w, Calls Try.prog 50 #[.int .u64 1, .int .u64 (n : Int)] w fun e w' => e = .returned (.tuple #[.int .u64 0, .int .u64 (n : Int)]) ∧ w = w')
    (b0 c0 : Nat) (w : World) (g : w.cell? ⟨b0, 0, none⟩ = some (.int .u8 (x.toNat : Int))) :
    Calls Try.prog 30 #[.slice (some ⟨b0, 0, none⟩) 1 c0, .int .i64 (n : Int)] w fun e w' => ∃ ao, e = .returned (.slice ao n n) ∧ Room w' w.heap.size ao n n (bts (List.replicate n x)) ∧ Chg [] w w' := by
  obtain ⟨cs, hrunM, hle, _⟩ := Lib.run_makeNoZero (P := Try.prog) w #[3] 32 5 Try.underlying32 n (by omega)
  have hcall : (callFunc 51 #[.int .i64 (n : Int)]).run Try.prog w = .ok (.value (.slice (some ⟨w.heap.size, 0, none⟩) n cs.size)) ((w.alloc (.cells cs 5)).drewN 2) := by
    rw [run_callFunc_extern Try.func51 (by kernel_rfl) (by kernel_rfl) (by kernel_rfl) (e := Extern.BytealgMakeNoZero.makeNoZero #[3] #[32]) (by kernel_rfl), hrunM]
    rfl
  clear hrunM
  have i0 : (0 : Int) ≤ (n : Int) := by omega
  have i1 : (n : Int) ≤ (cs.size : Int) := by omega
  have hB : Blk ((w.alloc (.cells cs 5)).drewN 2) w.heap.size 5 cs.toList := heap_alloc_last w _
  have hg : Chg [] w ((w.alloc (.cells cs 5)).drewN 2) := (Chg.alloc [] w (.cells cs 5)).then (Chg.drewN _ 2)
  have f0 : ((n : Int) == 0) = false := beq_eq_false_iff_ne.2 (by omega)
  have f1 : decide ((n : Int) < 0) = false := decide_eq_false (by omega)
  have f2 : decide ((9223372036854775807 : Int) < (n : Int)) = false := decide_eq_false (by omega)
  have f3 : decide ((8192 : Int) < (n : Int)) = false := decide_eq_false (by omega)
  have f4 : IntKind.u64.wrap (n : Int) = (n : Int) := by rw [IntKind.wrap_u64]; omega
  have hrx : Reads ((w.alloc (.cells cs 5)).drewN 2) (some ⟨b0, 0, none⟩) (bts ([x])) := fun _ => ⟨b0, 0, rfl, fun j u hu => by
    have hj := (List.getElem?_eq_some_iff.1 hu).1
    simp [bts] at hj
    subst hj
    simp [bts] at hu
    rw [← hu]
    exact hg.cellv g (by simp)⟩
  have hth0 := hB.there 0 n (by simp; omega)
  have hth1 := hB.there 0 1 (by simp; omega)
  have hgc := hg.trans (Chg.setCells w.heap.size (bts ([x])) 0 ((w.alloc (.cells cs 5)).drewN 2)) (U := []) (by simp) (fun k hk hlt => by simp at hk; omega)
  have hr0 := World.rangeAt_setCells_same ((w.alloc (.cells cs 5)).drewN 2) w.heap.size 0 (bts ([x])) hth1
  have ht0 := World.there_setCells hth0 w.heap.size 0 (bts ([x]))
  have hlt0 : w.heap.size < (((w.alloc (.cells cs 5)).drewN 2).setCells w.heap.size 0 (bts ([x]))).heap.size := by rw [size_setCells]; exact hB.lt
  go_enter Try.func30, Try.ntmps30
  go_wp2_with (first | (go_at_call 50; refine (hmul w).mono ?_; rintro e w' ⟨rfl, rfl⟩) | (refine wpList_copy_k rfl (.tmp 58) (.tmp 59) 32 32 5 rfl Try.underlying32 oneB w.heap.size 0 n n (some ⟨b0, 0, none⟩) 1 c0 (bts ([x])) rfl rfl hrx (Nat.min_eq_left h1).symm hth1 (bts_one _) ?_))
  generalize ((w.alloc (.cells cs 5)).drewN 2).setCells w.heap.size 0 (bts ([x])) = w0 at hgc hr0 ht0 hlt0 ⊢
  clear hrx hth0 hth1 hg hB hcall g
  obtain ⟨nb, hnb⟩ : ∃ nb, nb = w.heap.size := ⟨_, rfl⟩
  have Hnb := mkHid hnb
  rw [← hnb] at hr0 ht0 hlt0
  simp only [← hnb]
  clear hnb
  have elen : (bts ([x])).length = 1 := rfl
  try simp only [elen]
  go_loopw [10] (fun i wr => ∃ (k : Nat), i = .int .i64 k ∧ 1 ≤ k ∧ k ≤ n ∧ wr.rangeAt nb 0 (bts (List.replicate k x)) ∧ wr.there nb 0 n ∧ nb < wr.heap.size ∧ Chg [] w wr) (fun i _ => n - (intOf i).toNat)
  case atStart => exact ⟨1, rfl, Nat.le_refl _, h1, hr0, ht0, hlt0, hgc⟩
  case round =>
    obtain ⟨k, rfl, hk1, hkn, hr, ht, hlt, hc⟩ := hrel
    by_cases hlk : k < n
    · have d1 : decide ((k : Int) < (n : Int)) = true := decide_eq_true (by omega)
      have d2 : decide ((n : Int) < (k : Int)) = false := decide_eq_false (by omega)
      obtain ⟨m, hm⟩ : ∃ m, m = min k (n - k) := ⟨_, rfl⟩
      have hm1 : 1 ≤ m := by omega
      have hmk : m ≤ k := by omega
      have hmn : k + m ≤ n := by omega
      have hsl1 : ∀ W : World, (Instr.slice 32 (.slice (some ⟨nb, 0, none⟩) n n) (some (.int .i64 (k : Int))) none none).run Try.prog W = .ok (.slice (some ⟨nb, k, none⟩) (n - k) (n - k)) W := fun W => by
        have := run_from_k (P := Try.prog) (some ⟨nb, 0, none⟩) n n k Try.underlying32 oneB (by omega) W
        rw [this]
        unfold cut
        rw [if_neg (by omega), Option.map_some, Addr.add_lit, Nat.zero_add]
      have hsl2 := run_take_k (P := Try.prog) (some ⟨nb, 0, none⟩) n n k Try.underlying32 oneB (by omega)
      have hcl : (bts (List.replicate m x)).length = m := by rw [bts_length, List.length_replicate]
      have hrr : Reads wr (some ⟨nb, 0, none⟩) (bts (List.replicate m x)) := fun _ => ⟨nb, 0, rfl, fun j u hu => hr j u (by
        have hj : j < m := by have := (List.getElem?_eq_some_iff.1 hu).1; rwa [hcl] at this
        rw [← hu]
        simp [bts, hj, (by omega : j < k)])⟩
      have htk : wr.there nb k m := fun j hj => by have := ht (k + j) (by omega); rwa [Nat.zero_add] at this
      have Hcl := mkHid hcl
      have Hm := mkHid hm
      clear hcl hm hr0 ht0
      go_wp2_with fail
      go_region_held3 (fun w' => Chg [nb] wr w') (first | exact Chg.drew _ _ | exact Chg.trans (by assumption) (Chg.setCells nb _ _ _) (fun _ h _ => h) (fun _ h _ => h))
        (first | (refine step_copy_k rfl (.tmp 70) (.tmp 73) 32 32 5 rfl Try.underlying32 oneB nb k (n - k) (n - k) (some ⟨nb, 0, none⟩) k n (bts (List.replicate m x)) rfl rfl (hrr.keep (Chg.drew [] wr)) (Hcl.out.trans Hm.out) (by rw [Hcl.out]; exact (World.there_drew _ _ _ _).2 htk) (bts_one _) ?_))
      have hc2 := (hc.then (Chg.drew [] wr)).trans (Chg.setCells nb (bts (List.replicate m x)) k wr.drew) (U := []) (by simp) (fun j hj hlt => by simp at hj; have := Hnb.out; omega)
      have ht2 := World.there_setCells ((World.there_drew wr nb 0 n).2 ht) nb k (bts (List.replicate m x))
      have hlt2 : nb < (wr.drew.setCells nb k (bts (List.replicate m x))).heap.size := by rw [size_setCells]; exact hlt
      have ha := World.rangeAt_setCells_apart ((World.rangeAt_drew wr nb 0 _).2 hr) nb k (bts (List.replicate m x)) (Or.inr (Or.inl (by rw [bts_length, List.length_replicate]; omega)))
      have hb := World.rangeAt_setCells_same wr.drew nb k (bts (List.replicate m x)) (by rw [Hcl.out]; exact (World.there_drew _ _ _ _).2 htk)
      have hab : (wr.drew.setCells nb k (bts (List.replicate m x))).rangeAt nb 0 (bts (List.replicate (k + m) x)) := fun j v hv => by
        rw [← List.replicate_append_replicate, bts_append] at hv
        by_cases hj : j < k
        · rw [List.getElem?_append_left (by rw [bts_length, List.length_replicate]; exact hj)] at hv
          exact ha j v hv
        · rw [List.getElem?_append_right (by rw [bts_length, List.length_replicate]; omega), bts_length, List.length_replicate] at hv
          have := hb (j - k) v hv
          rw [← this]
          congr 2
          omega
      rw [Hcl.out]
      clear ha hb hr ht hlt hrr htk
      generalize wr.drew.setCells nb k (bts (List.replicate m x)) = w9 at hc2 ht2 hlt2 hab ⊢
      go_wp2_with fail
      have ew : IntKind.i64.wrap ((k : Int) + (m : Int)) = ((k + m : Nat) : Int) := by rw [IntKind.wrap_i64]; omega
      exact ⟨⟨k + m, by first | rfl | rw [ew] | (congr 1; omega), by omega, by omega, hab, ht2, hlt2, hc2⟩, by simp [intOf]; omega⟩
    · have : k = n := by omega
      subst this
      have d1 : decide ((k : Int) < (k : Int)) = false := decide_eq_false (by omega)
      go_wp2_with fail
      go_ret
      refine ⟨_, rfl, ⟨by rw [bts_length, List.length_replicate], Nat.le_refl _, by unfold maxLen; omega, fun _ => ⟨nb, 0, rfl, by have := Hnb.out; omega, ht, hr⟩⟩, hc⟩
end Go.Proofs.Ytinmhaffefgloaa
