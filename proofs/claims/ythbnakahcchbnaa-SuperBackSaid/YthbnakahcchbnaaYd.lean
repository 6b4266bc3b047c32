/- The program's Put. -/
import Derived.Test.YthbnakahcchbnaaYc
namespace Go.Proofs.Ythbnakahcchbnaa
open Go.RowKit
set_option linter.unusedVariables false
set_option linter.unusedSimpArgs false
attribute [local go_sem ↓] Go.wp_at_zero Go.wp_at_succ

theorem room_of_blk {w : World} {b B : Nat} {t : TypeId} {l : List UInt8} (h : Blk w b t (bts l)) (hB : B ≤ b) (hl : l.length ≤ 1000) : Room w B (some ⟨b, 0, none⟩) l.length l.length (bts l) := by
  refine ⟨bts_length l, Nat.le_refl _, by unfold maxLen; omega, fun _ => ⟨b, 0, rfl, hB, fun j hj => ?_, fun j u hu => ?_⟩⟩
  · refine ⟨?_, h.frozen _⟩
    rw [Nat.zero_add, h.cell j (.int .u8 (v8 l[j])) (bts_get8 l j hj)]
    rfl
  · rw [Nat.zero_add]
    exact h.cell j u hu
set_option maxRecDepth 20000 in
set_option maxHeartbeats 2000000 in
theorem put_sup (s : SB) (w : World) (hs : s.Fits) : Calls Try.prog 9 #[s.v] w (PPut w s) := by
  obtain ⟨c0, c1, c2, c3⟩ := sup_laid w s
  have g0 := Chg.alloc [] w (supObj s)
  have hmay := may_any s
  have hform := form_any s
  have hfl := SB.form_length s
  cases hm : s.may with
  | false =>
    rw [hm] at hmay
    unfold PPut
    rw [hm]
    unfold SB.v supObj at *
    clear hform hm hs
    go_enter Try.func9, Try.ntmps9
    go_wp2_with fail
    generalize w.alloc _ = w1 at *
    refine (hmay w1).mono ?_
    rintro e w2 ⟨rfl, g2⟩
    go_wp2_with fail
    go_ret2
    exact ⟨g0.then g2, .inr ⟨trivial, rfl⟩⟩
  | true =>
    rw [hm] at hmay
    replace hform := hform hm
    unfold PPut
    rw [hm]
    obtain ⟨G, B, D, X⟩ := s
    unfold SB.v supObj at *
    dsimp only at *
    generalize SB.form ⟨G, B, D, X⟩ = F at *
    have HFL := mkHid hfl
    clear hm hs hfl
    go_enter Try.func9, Try.ntmps9
    go_wp2_with fail
    generalize w.alloc _ = w1 at *
    generalize hnb : w.heap.size = nb at *
    have HNB := mkHid hnb
    clear hnb
    refine (hmay w1).mono ?_
    rintro e w2 ⟨rfl, g2⟩
    replace c0 := g2.cellv c0 (by simp)
    replace c1 := g2.cellv c1 (by simp)
    replace c2 := g2.cellv c2 (by simp)
    replace c3 := g2.cellv c3 (by simp)
    go_wp2_with fail
    refine (hform w2).mono ?_
    rintro e w3 ⟨rfl, g3⟩
    have hl64 : (bts F).length = 64 := by rw [bts_length]; exact HFL.out
    have hone := bts_one F
    have HZ := mkHid hl64
    have G3 := (g0.then g2).then g3
    clear hl64 hmay hform g0 g2 g3 c0 c1 c2 c3
    go_wp2_with (first
      | (refine wpList_alloc_w rfl 48 rfl (bts (List.replicate 64 0)) wt64 ?_; intro w4 hb4 g4 hz4; clear hz4)
      | (refine wpList_store_w rfl 48 (.tmp 4) (.tmp 9) rfl _ wt64 w3.heap.size (bts (List.replicate 64 0)) (bts F) hb4 rfl HZ.out hone rfl rfl ?_; intro w5 hb5 g5 hz5; clear hz5))
    go_ret2
    have hr := room_of_blk hb5 G3.size (by rw [HFL.out]; decide)
    rw [HFL.out] at hr
    exact ⟨(G3.then g4).trans g5 (fun _ h _ => h) (fun q hq hlt => by simp at hq; have := G3.size; omega), .inl ⟨trivial, w3.heap.size, 0, 64, rfl, hr⟩⟩
end Go.Proofs.Ythbnakahcchbnaa
