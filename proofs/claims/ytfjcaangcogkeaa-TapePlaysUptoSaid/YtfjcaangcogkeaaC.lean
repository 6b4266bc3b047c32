/- Numbers of a tape. -/
import Derived.Test.YtfjcaangcogkeaaB
namespace Go.Proofs.Ytfjcaangcogkeaa
open Go.RowKit
set_option linter.unusedVariables false

theorem vals_take (zs : List Int) (l : List UInt8) (S : Nat) (hok : allOk zs) (hS : sumI zs ≤ S) : vals zs (l.take S) = vals zs l := by
  induction zs generalizing l S with
  | nil => rfl
  | cons z r ih =>
    have h1 := hok z (by simp)
    have h2 := sumI_nonneg r (fun y hy => hok y (by simp [hy]))
    simp only [sumI] at hS
    rw [vals, vals, List.take_take, Nat.min_eq_left (by omega), List.drop_take, ih _ _ (fun y hy => hok y (by simp [hy])) (by omega)]


def NumbersPeekPost (w : World) (B tb : Nat) (ao : Option Addr) (n c sn : Nat) (zs : List Int) (l : List UInt8) (e : Ending) (w' : World) : Prop :=
  ∃ lo lc, e = .returned (.tuple #[.slice lo sn lc, .bool true]) ∧ Room w' w.heap.size lo sn lc (u64s (vals zs l)) ∧ Chg [] w w'
set_option maxHeartbeats 1000000 in
theorem numbers_peek (B tb : Nat) (ao : Option Addr) (n c : Nat) (l : List UInt8) (so : Option Addr) (sn sc : Nat) (zs : List Int) (w : World) (h : TapeAt w B tb ao n c l) (hle : n ≤ 140737488355000)
    (hx : Reads w so (ints zs)) (hn : zs.length = sn) (hsn : sn ≤ 140737488355) (hok : allOk zs) (hsum : sumI zs ≤ n) (hap : 0 < sn → tb ∉ blk so) :
    Calls Try.prog 30 #[.pointer (some ⟨tb, 0, none⟩), .func (.func 19) #[] #[], .slice so sn sc] w (NumbersPeekPost w B tb ao n c sn zs l) := by
  have hs0 := sumI_nonneg zs hok
  obtain ⟨S, hS⟩ := Int.eq_ofNat_of_zero_le hs0
  have HS := mkHid hS
  have hSn : S ≤ n := by omega
  clear hS hs0 hsum
  have hln := h.len
  have Hlt : (l.take S).length = S := by simp; omega
  have HLT := mkHid Hlt
  clear Hlt
  go_enter Try.func30, Try.ntmps30
  go_wp2_with (first | (go_at_call 26; refine (len_any B tb ao n c l _ h).mono ?_; rintro e w' ⟨rfl, rfl⟩) | (go_at_call 32; refine (sum_yes so sn sc zs n _ hx hn (by unfold maxLen; omega) hle hok (by rw [HS.out]; omega)).mono ?_; rintro e w' ⟨he, rfl⟩; rw [HS.out] at he; subst he) | (go_at_call 19; refine (peek_yes B tb ao n c l S _ h hSn hle).mono ?_; rintro e w1 ⟨ro, rc, rfl, hr, hg⟩) | (at_make; refine wpList_make_k _ rfl _ _ 46 rfl 23 8 eltN w1.heap.size .i64 .i64 _ sn rfl rfl (by simp) (by omega) (by unfold maxLen; omega) (Nat.le_refl _) ?_; intro w2 hr2 hc2))
  have hrlt : ∀ x, x ∈ fp ro rc → x < w1.heap.size := fun x hx => (hr.lt x hx).2
  have hx1 : Reads w1 so (ints zs) := hx.chg hg (by simp)
  have hr' := hr.chg hc2 (by simp)
  go_loopw [10, 11, 39] (fun b v i wr => ∃ (k bn : Nat) (bo : Option Addr) (bc : Nat) (lo : Option Addr) (lc : Nat), k ≤ sn ∧ i = .int .i64 k ∧ b = .slice bo bn bc ∧ v = .slice lo k lc ∧ Room wr w.heap.size bo bn bc (bts ((l.take S).drop (sumI (zs.take k)).toNat)) ∧ Room wr w1.heap.size lo k lc (u64s (vals (zs.take k) (l.take S))) ∧ (∀ x, x ∈ fp bo bc → x < w1.heap.size) ∧ Chg [] w1 wr) (fun _ _ i _ => sn - (intOf i).toNat)
  case atStart => exact ⟨0, S, ro, rc, _, sn, Nat.zero_le _, rfl, rfl, rfl, by simpa [sumI] using hr', by simpa [u64s, vals] using hr2, hrlt, hc2⟩
  case round =>
    obtain ⟨k, bn, bo, bc, lo, lc, hk, rfl, rfl, rfl, hrb, hrl, hblt, hcr⟩ := hrel
    by_cases hlt : k < sn
    · obtain ⟨q, o, rfl, hc⟩ := (hx1.chg hcr (by simp)) (by simp [ints_length]; omega)
      have hcell := hc k _ (ints_get zs k (by omega))
      clear hc
      have hz := hok zs[k] (List.getElem_mem _)
      have h1 := sumI_take_succ zs k (by omega)
      have h2 := sumI_split zs (k + 1)
      have h3 := sumI_nonneg _ (allOk_drop zs (k + 1) hok)
      have h0 := sumI_nonneg _ (allOk_take zs k hok)
      have hbn : ((l.take S).drop (sumI (zs.take k)).toNat).length = bn := by have := hrb.len; rwa [bts_length] at this
      have hbn2 := hbn
      rw [List.length_drop, HLT.out] at hbn2
      have hS := HS.out
      obtain ⟨Z, hZ⟩ := Int.eq_ofNat_of_zero_le (show 0 ≤ zs[k] by omega)
      have hZ1 : 1 ≤ Z ∧ Z ≤ 8 := by omega
      have hZb : Z ≤ bn := by omega
      have Hd : Hid ((sumI (zs.take (k + 1))).toNat = (sumI (zs.take k)).toNat + Z) := mkHid (by omega)
      have HZ := mkHid hZ
      rw [hZ] at hcell
      have hcap := hrb.le
      have hmax := hrb.max
      unfold maxLen at hmax
      have Hbn := mkHid hbn
      clear h1 h2 h3 h0 hbn hbn2 hS hZ hz
      have hsl := run_from_k (P := Try.prog) bo bn bc Z Try.underlying22 (by kernel_rfl) hZb
      go_wp2_with (first | (go_at_call 14; refine (get_yes bo bn bc _ Z _ hrb.reads Hbn.out hcap (by unfold maxLen; omega) hZ1.1 hZ1.2 hZb).mono ?_; rintro e w' ⟨rfl, rfl⟩) | (at_builtin; refine wpList_append_1 wr rfl (.tmp 49) (.tmp 51) 46 rfl 23 8 eltN w1.heap.size lo k lc _ rfl hrl hcr.size _ 1 rfl rfl (by unfold maxLen; omega) (by omega) ?_; intro ao4 c4 w4 hr4 hc4 hf4))
      go_roundw
      case rel =>
        have hfr : ∀ x, x ∈ fp bo bc → x ∉ fp lo lc := fun x hx hx' => by have := hblt x hx; have := (hrl.lt x hx').1; omega
        refine ⟨k + 1, bn - Z, cut bo bc Z, bc - Z, ao4, c4, by omega, by go_num, rfl, rfl, ?_, ?_, fun x hx => hblt x (fp_cut _ _ _ x hx), hcr.own hc4 hrl⟩
        · rw [Hd.out, ← List.drop_drop, ← bts_drop]
          exact (hrb.chg hc4 hfr).cut Z hZb
        · rw [List.take_succ_eq_append_getElem (by omega), vals_snoc _ _ _ (allOk_take zs k hok), u64s_append, HZ.out]
          exact hr4
      case measure => simp [intOf]; omega
    · have : k = sn := by omega
      subst this
      go_wp2_with fail
      go_ret2
      rw [List.take_of_length_le (by omega), vals_take zs l S hok (by rw [HS.out]; omega)] at hrl
      exact ⟨lo, lc, rfl, hrl.mono hg.size, hg.then hcr⟩
theorem numbers_peek_no (B tb : Nat) (ao : Option Addr) (n c : Nat) (l : List UInt8) (so : Option Addr) (sn sc : Nat) (zs : List Int) (w : World) (h : TapeAt w B tb ao n c l) (hle : n ≤ 140737488355000)
    (hx : Reads w so (ints zs)) (hn : zs.length = sn) (hsn : sn ≤ 140737488355) (hbad : ¬ (allOk zs ∧ sumI zs ≤ n)) :
    Calls Try.prog 30 #[.pointer (some ⟨tb, 0, none⟩), .func (.func 19) #[] #[], .slice so sn sc] w (NonePost w) := by
  go_enter Try.func30, Try.ntmps30
  go_wp2_with (first | (go_at_call 26; refine (len_any B tb ao n c l _ h).mono ?_; rintro e w' ⟨rfl, rfl⟩) | (go_at_call 32; refine (sum_no so sn sc zs n _ hx hn (by unfold maxLen; omega) hle hbad).mono ?_; rintro e w' ⟨rfl, rfl⟩))
  go_ret2
  exact ⟨rfl, rfl⟩

def NumbersTakePost (w : World) (B tb : Nat) (ao : Option Addr) (n c sn : Nat) (zs : List Int) (l : List UInt8) (e : Ending) (w' : World) : Prop :=
  ∃ lo lc ao' c', e = .returned (.tuple #[.slice lo sn lc, .bool true]) ∧ Room w' w.heap.size lo sn lc (u64s (vals zs l)) ∧ TapeAt w' B tb ao' (n - (sumI zs).toNat) c' (l.drop (sumI zs).toNat) ∧ Chg [tb] w w' ∧ (∀ b, b ∈ fp ao' c' → b ∈ fp ao c)
set_option maxHeartbeats 1000000 in
theorem numbers_take (B tb : Nat) (ao : Option Addr) (n c : Nat) (l : List UInt8) (so : Option Addr) (sn sc : Nat) (zs : List Int) (w : World) (h : TapeAt w B tb ao n c l) (hle : n ≤ 140737488355000)
    (hx : Reads w so (ints zs)) (hn : zs.length = sn) (hsn : sn ≤ 140737488355) (hok : allOk zs) (hsum : sumI zs ≤ n) (hap : 0 < sn → tb ∉ blk so) :
    Calls Try.prog 30 #[.pointer (some ⟨tb, 0, none⟩), .func (.func 21) #[] #[], .slice so sn sc] w (NumbersTakePost w B tb ao n c sn zs l) := by
  have hs0 := sumI_nonneg zs hok
  obtain ⟨S, hS⟩ := Int.eq_ofNat_of_zero_le hs0
  have HS := mkHid hS
  have hSn : S ≤ n := by omega
  clear hS hs0 hsum
  have hln := h.len
  have Hlt : (l.take S).length = S := by simp; omega
  have HLT := mkHid Hlt
  clear Hlt
  go_enter Try.func30, Try.ntmps30
  go_wp2_with (first | (go_at_call 26; refine (len_any B tb ao n c l _ h).mono ?_; rintro e w' ⟨rfl, rfl⟩) | (go_at_call 32; refine (sum_yes so sn sc zs n _ hx hn (by unfold maxLen; omega) hle hok (by rw [HS.out]; omega)).mono ?_; rintro e w' ⟨he, rfl⟩; rw [HS.out] at he; subst he) | (go_at_call 21; refine (take_yes B tb ao n c l S _ h hSn hle).mono ?_; rintro e w1 ⟨ro, rc, ao1, c1, rfl, hr, ht1, hg, hfp1⟩) | (at_make; refine wpList_make_k _ rfl _ _ 46 rfl 23 8 eltN w1.heap.size .i64 .i64 _ sn rfl rfl (by simp) (by omega) (by unfold maxLen; omega) (Nat.le_refl _) ?_; intro w2 hr2 hc2))
  have hrlt : ∀ x, x ∈ fp ro rc → x < w1.heap.size := fun x hx => (hr.lt x hx).2
  have hx1 : Reads w1 so (ints zs) := hx.chg0 hg (fun h0 b hb hb' => by rw [ints_length, hn] at h0; simp at hb'; subst hb'; exact hap h0 hb)
  have hr' := hr.chg hc2 (by simp)
  go_loopw [10, 11, 39] (fun b v i wr => ∃ (k bn : Nat) (bo : Option Addr) (bc : Nat) (lo : Option Addr) (lc : Nat), k ≤ sn ∧ i = .int .i64 k ∧ b = .slice bo bn bc ∧ v = .slice lo k lc ∧ Room wr w.heap.size bo bn bc (bts ((l.take S).drop (sumI (zs.take k)).toNat)) ∧ Room wr w1.heap.size lo k lc (u64s (vals (zs.take k) (l.take S))) ∧ (∀ x, x ∈ fp bo bc → x < w1.heap.size) ∧ Chg [] w1 wr) (fun _ _ i _ => sn - (intOf i).toNat)
  case atStart => exact ⟨0, S, ro, rc, _, sn, Nat.zero_le _, rfl, rfl, rfl, by simpa [sumI] using hr', by simpa [u64s, vals] using hr2, hrlt, hc2⟩
  case round =>
    obtain ⟨k, bn, bo, bc, lo, lc, hk, rfl, rfl, rfl, hrb, hrl, hblt, hcr⟩ := hrel
    by_cases hlt : k < sn
    · obtain ⟨q, o, rfl, hc⟩ := (hx1.chg hcr (by simp)) (by simp [ints_length]; omega)
      have hcell := hc k _ (ints_get zs k (by omega))
      clear hc
      have hz := hok zs[k] (List.getElem_mem _)
      have h1 := sumI_take_succ zs k (by omega)
      have h2 := sumI_split zs (k + 1)
      have h3 := sumI_nonneg _ (allOk_drop zs (k + 1) hok)
      have h0 := sumI_nonneg _ (allOk_take zs k hok)
      have hbn : ((l.take S).drop (sumI (zs.take k)).toNat).length = bn := by have := hrb.len; rwa [bts_length] at this
      have hbn2 := hbn
      rw [List.length_drop, HLT.out] at hbn2
      have hS := HS.out
      obtain ⟨Z, hZ⟩ := Int.eq_ofNat_of_zero_le (show 0 ≤ zs[k] by omega)
      have hZ1 : 1 ≤ Z ∧ Z ≤ 8 := by omega
      have hZb : Z ≤ bn := by omega
      have Hd : Hid ((sumI (zs.take (k + 1))).toNat = (sumI (zs.take k)).toNat + Z) := mkHid (by omega)
      have HZ := mkHid hZ
      rw [hZ] at hcell
      have hcap := hrb.le
      have hmax := hrb.max
      unfold maxLen at hmax
      have Hbn := mkHid hbn
      clear h1 h2 h3 h0 hbn hbn2 hS hZ hz
      have hsl := run_from_k (P := Try.prog) bo bn bc Z Try.underlying22 (by kernel_rfl) hZb
      go_wp2_with (first | (go_at_call 14; refine (get_yes bo bn bc _ Z _ hrb.reads Hbn.out hcap (by unfold maxLen; omega) hZ1.1 hZ1.2 hZb).mono ?_; rintro e w' ⟨rfl, rfl⟩) | (at_builtin; refine wpList_append_1 wr rfl (.tmp 49) (.tmp 51) 46 rfl 23 8 eltN w1.heap.size lo k lc _ rfl hrl hcr.size _ 1 rfl rfl (by unfold maxLen; omega) (by omega) ?_; intro ao4 c4 w4 hr4 hc4 hf4))
      go_roundw
      case rel =>
        have hfr : ∀ x, x ∈ fp bo bc → x ∉ fp lo lc := fun x hx hx' => by have := hblt x hx; have := (hrl.lt x hx').1; omega
        refine ⟨k + 1, bn - Z, cut bo bc Z, bc - Z, ao4, c4, by omega, by go_num, rfl, rfl, ?_, ?_, fun x hx => hblt x (fp_cut _ _ _ x hx), hcr.own hc4 hrl⟩
        · rw [Hd.out, ← List.drop_drop, ← bts_drop]
          exact (hrb.chg hc4 hfr).cut Z hZb
        · rw [List.take_succ_eq_append_getElem (by omega), vals_snoc _ _ _ (allOk_take zs k hok), u64s_append, HZ.out]
          exact hr4
      case measure => simp [intOf]; omega
    · have : k = sn := by omega
      subst this
      go_wp2_with fail
      go_ret2
      rw [List.take_of_length_le (by omega), vals_take zs l S hok (by rw [HS.out]; omega)] at hrl
      have hT : (sumI zs).toNat = S := by rw [HS.out]; simp
      exact ⟨lo, lc, ao1, c1, rfl, hrl.mono hg.size, by rw [hT]; exact ht1.chg hcr (by simp), hg.then hcr, hfp1⟩
theorem numbers_take_no (B tb : Nat) (ao : Option Addr) (n c : Nat) (l : List UInt8) (so : Option Addr) (sn sc : Nat) (zs : List Int) (w : World) (h : TapeAt w B tb ao n c l) (hle : n ≤ 140737488355000)
    (hx : Reads w so (ints zs)) (hn : zs.length = sn) (hsn : sn ≤ 140737488355) (hbad : ¬ (allOk zs ∧ sumI zs ≤ n)) :
    Calls Try.prog 30 #[.pointer (some ⟨tb, 0, none⟩), .func (.func 21) #[] #[], .slice so sn sc] w (NonePost w) := by
  go_enter Try.func30, Try.ntmps30
  go_wp2_with (first | (go_at_call 26; refine (len_any B tb ao n c l _ h).mono ?_; rintro e w' ⟨rfl, rfl⟩) | (go_at_call 32; refine (sum_no so sn sc zs n _ hx hn (by unfold maxLen; omega) hle hbad).mono ?_; rintro e w' ⟨rfl, rfl⟩))
  go_ret2
  exact ⟨rfl, rfl⟩

/-! ### Numbers -/
theorem nums_take (B tb : Nat) (ao : Option Addr) (n c : Nat) (l : List UInt8) (so : Option Addr) (sn sc : Nat) (zs : List Int) (w : World) (h : TapeAt w B tb ao n c l) (hle : n ≤ 140737488355000)
    (hx : Reads w so (ints zs)) (hn : zs.length = sn) (hsn : sn ≤ 140737488355) (hok : allOk zs) (hsum : sumI zs ≤ n) (hap : 0 < sn → tb ∉ blk so) :
    Calls Try.prog 23 #[.pointer (some ⟨tb, 0, none⟩), .bool true, .slice so sn sc] w (NumbersTakePost w B tb ao n c sn zs l) := by
  go_enter Try.func23, Try.ntmps23
  go_wp2_with (first | (go_at_call 30; refine (numbers_take B tb ao n c l so sn sc zs _ h hle hx hn hsn hok hsum hap).mono ?_; rintro e w' ⟨lo, lc, ao1, c1, rfl, h1, h2, h3, h4⟩))
  go_ret2
  exact ⟨lo, lc, ao1, c1, rfl, h1, h2, h3, h4⟩
theorem nums_peek (B tb : Nat) (ao : Option Addr) (n c : Nat) (l : List UInt8) (so : Option Addr) (sn sc : Nat) (zs : List Int) (w : World) (h : TapeAt w B tb ao n c l) (hle : n ≤ 140737488355000)
    (hx : Reads w so (ints zs)) (hn : zs.length = sn) (hsn : sn ≤ 140737488355) (hok : allOk zs) (hsum : sumI zs ≤ n) (hap : 0 < sn → tb ∉ blk so) :
    Calls Try.prog 23 #[.pointer (some ⟨tb, 0, none⟩), .bool false, .slice so sn sc] w (NumbersPeekPost w B tb ao n c sn zs l) := by
  go_enter Try.func23, Try.ntmps23
  go_wp2_with (first | (go_at_call 30; refine (numbers_peek B tb ao n c l so sn sc zs _ h hle hx hn hsn hok hsum hap).mono ?_; rintro e w' ⟨lo, lc, rfl, h1, h2⟩))
  go_ret2
  exact ⟨lo, lc, rfl, h1, h2⟩
theorem nums_no (take : Bool) (B tb : Nat) (ao : Option Addr) (n c : Nat) (l : List UInt8) (so : Option Addr) (sn sc : Nat) (zs : List Int) (w : World) (h : TapeAt w B tb ao n c l) (hle : n ≤ 140737488355000)
    (hx : Reads w so (ints zs)) (hn : zs.length = sn) (hsn : sn ≤ 140737488355) (hbad : ¬ (allOk zs ∧ sumI zs ≤ n)) :
    Calls Try.prog 23 #[.pointer (some ⟨tb, 0, none⟩), .bool take, .slice so sn sc] w (NonePost w) := by
  cases take
  · go_enter Try.func23, Try.ntmps23
    go_wp2_with (first | (go_at_call 30; refine (numbers_peek_no B tb ao n c l so sn sc zs _ h hle hx hn hsn hbad).mono ?_; rintro e w' ⟨rfl, rfl⟩))
    go_ret2
    exact ⟨rfl, rfl⟩
  · go_enter Try.func23, Try.ntmps23
    go_wp2_with (first | (go_at_call 30; refine (numbers_take_no B tb ao n c l so sn sc zs _ h hle hx hn hsn hbad).mono ?_; rintro e w' ⟨rfl, rfl⟩))
    go_ret2
    exact ⟨rfl, rfl⟩
end Go.Proofs.Ytfjcaangcogkeaa
