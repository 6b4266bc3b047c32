/- Numbers of the document's own tape. -/
import Derived.Test.YtfjcaangcogkeaaH
import Derived.Deep.QuietTactic
import Derived.BigQuiet
namespace Go.Proofs.Ytfjcaangcogkeaa
open Go.RowKit
set_option linter.unusedVariables false

theorem Reads.drewN {w : World} {ao : Option Addr} {xs : List Value} (h : Reads w ao xs) (n : Nat) : Reads (w.drewN n) ao xs := h.old (Chg.drewN w n) (by simp)
theorem refget_quiet (ao : Option Addr) (n c : Nat) (l : List UInt8) (size : Nat) (w : World) (q : Nat) (hx : Reads w ao (bts l)) (hn : l.length = n) (hc : n ≤ c) (hle : c ≤ maxLen) (h1 : 1 ≤ size) (h8 : size ≤ 8) (hl : size ≤ n) :
    Calls Try.prog 15 #[.slice ao n c, .int .i64 size] (w.drewN q) fun e w' => e = .returned (.tuple #[.int .u64 (val (l.take size)), .int .i64 0]) ∧ w' = w.drewN q :=
  (refget_yes ao n c l size (w.drewN q) (hx.drewN q) hn hc hle h1 h8 hl).mono fun _ _ h => ⟨h.1, h.2.symm⟩
theorem len_le {S : List Nat} {w w' : World} (h : Chg S w w') {k : Nat} (hk : k ≤ w.heap.size) : k ≤ w'.heap.size := Nat.le_trans hk h.size
theorem sumI_le (zs : List Int) (h : allOk zs) : sumI zs ≤ 8 * zs.length := by
  induction zs with
  | nil => simp [sumI]
  | cons z r ih => have h1 := h z (by simp); have := ih (fun y hy => h y (by simp [hy])); simp [sumI]; omega
def RefNums (w : World) (B tb : Nat) (ao : Option Addr) (n c sn : Nat) (zs : List Int) (l : List UInt8) (take : Bool) (e : Ending) (w' : World) : Prop :=
  ∃ lo lc ao' c', e = .returned (.tuple #[.slice lo sn lc, .bool true]) ∧ Room w' w.heap.size lo sn lc (u64s (vals zs l)) ∧ TapeAt w' B tb ao' (n - if take then (sumI zs).toNat else 0) c' (l.drop (if take then (sumI zs).toNat else 0)) ∧ Chg [tb] w w' ∧ (∀ b, b ∈ fp ao' c' → b ∈ fp ao c ∨ w.heap.size ≤ b) ∧ (∀ b, b ∈ fp ao' c' → b ∉ fp lo lc)
set_option maxRecDepth 100000 in
set_option maxHeartbeats 1000000 in
theorem refnums_yes (take : Bool) (B tb : Nat) (ao : Option Addr) (n c : Nat) (l : List UInt8) (so : Option Addr) (sn sc : Nat) (zs : List Int) (w : World) (hB : B ≤ w.heap.size) (h : TapeAt w B tb ao n c l) (hle : n ≤ 140737488355000)
    (hx : Reads w so (ints zs)) (hn : zs.length = sn) (hsn : sn ≤ 1408074883) (hok : allOk zs) (hsum : sumI zs ≤ n) (hap : 0 < sn → tb ∉ blk so) :
    Calls Try.prog 24 #[.pointer (some ⟨tb, 0, none⟩), .bool take, .slice so sn sc] w (RefNums w B tb ao n c sn zs l take) := by
  have hs0 := sumI_nonneg zs hok
  obtain ⟨S, hS⟩ := Int.eq_ofNat_of_zero_le hs0
  have HS := mkHid hS
  have hSn : S ≤ n := by omega
  clear hS hs0 hsum
  have hc := h.cell
  have hcap := h.room.le
  have hmax := h.room.max
  have hln := h.len
  unfold maxLen at hmax
  go_enter Try.func24, Try.ntmps24
  go_wp2_with fail
  go_loop [8, 9] (fun v i => ∃ (k q : Nat), k ≤ sn ∧ i = .int .i64 k ∧ v = .int .i64 q ∧ Hid (sumI (zs.take k) = q) ∧ q ≤ 8 * k) (fun _ i => sn - (intOf i).toNat)
  case atStart => exact ⟨0, 0, Nat.zero_le _, rfl, rfl, mkHid rfl, by omega⟩
  case round =>
    obtain ⟨k, q, hk, rfl, rfl, hq, hq8⟩ := hrel
    by_cases hlt : k < sn
    · obtain ⟨b, o, rfl, hc1⟩ := hx (by simp [ints_length]; omega)
      have hcell := hc1 k _ (ints_get zs k (by omega))
      have hz := hok zs[k] (List.getElem_mem _)
      obtain ⟨Z, hZ⟩ := Int.eq_ofNat_of_zero_le (show 0 ≤ zs[k] by omega)
      have hZ1 : 1 ≤ Z ∧ Z ≤ 8 := by omega
      have Hq' : Hid (sumI (zs.take (k + 1)) = ((q + Z : Nat) : Int)) := mkHid (by rw [sumI_take_succ zs k (by omega), hq.out, hZ]; simp)
      rw [hZ] at hcell
      have hd1 : decide ((Z : Int) < 1) = false := by simp; omega
      have hd2 : decide ((8 : Int) < (Z : Int)) = false := by simp; omega
      have hki : (k : Int) < (sn : Int) := by omega
      clear hc1 hz hZ
      go_wp2_with fail
      go_round
      case rel => exact ⟨k + 1, q + Z, by omega, by go_num, by go_num, Hq', by omega⟩
      case measure => simp [intOf]; omega
    · have : k = sn := by omega
      subst this
      have hqS : q = S := by
        have h1 := hq.out
        rw [List.take_of_length_le (by omega), HS.out] at h1
        omega
      subst hqS
      have hd : decide (n < q) = false := by simp; omega
      go_wp2_with fail
      go_loopw [10, 11, 12] (fun v at_ i wr => ∃ (j p : Nat) (lo : Option Addr) (lc : Nat), j ≤ k ∧ i = .int .i64 j ∧ at_ = .int .i64 p ∧ Hid (sumI (zs.take j) = p) ∧ p ≤ q ∧ v = .slice lo j lc ∧ Room wr w.heap.size lo j lc (u64s (vals (zs.take j) l)) ∧ Chg [] w wr) (fun _ _ i _ => k - (intOf i).toNat)
      case atStart => exact ⟨0, 0, none, 0, Nat.zero_le _, rfl, rfl, mkHid rfl, Nat.zero_le _, rfl, Room.nil _ _ _, Chg.refl _ _⟩
      case round =>
        obtain ⟨j, p, lo, lc, hj, rfl, rfl, hp, hpq, rfl, hlo, hgr⟩ := hrel
        have ht' := h.chg hgr (by simp)
        have hc' := ht'.cell
        by_cases hlt2 : j < k
        · obtain ⟨b, o, rfl, hc1⟩ := (hx.old hgr (by simp)) (by simp [ints_length]; omega)
          have hcell := hc1 j _ (ints_get zs j (by omega))
          have hz := hok zs[j] (List.getElem_mem _)
          obtain ⟨Z, hZ⟩ := Int.eq_ofNat_of_zero_le (show 0 ≤ zs[j] by omega)
          have hZ1 : 1 ≤ Z ∧ Z ≤ 8 := by omega
          have hs1 := sumI_take_succ zs j (by omega)
          have hs2 := sumI_split zs (j + 1)
          have hs3 := sumI_nonneg _ (allOk_drop zs (j + 1) hok)
          have hp1 := hp.out
          have hS1 := HS.out
          have hpZ : p + Z ≤ q := by omega
          have Hp' : Hid (sumI (zs.take (j + 1)) = ((p + Z : Nat) : Int)) := mkHid (by rw [hs1, hp1, hZ]; simp)
          have HZ := mkHid hZ
          rw [hZ] at hcell
          have hki : (j : Int) < (k : Int) := by omega
          have hsl := run_from_k (P := Try.prog) ao n c p Try.underlying22 (by kernel_rfl) (by omega)
          have hrd : Reads wr (cut ao c p) (bts (l.drop p)) := by rw [← bts_drop]; exact ht'.room.reads.cut c p (by rw [bts_length]; omega)
          have hlp : (l.drop p).length = n - p := by simp; omega
          have Hlp := mkHid hlp
          clear hc1 hz hZ hs1 hs2 hs3 hp1 hS1 hlp
          go_wp2_with fail
          have hml : c - p ≤ maxLen := by unfold maxLen; omega
          have hZn : Z ≤ n - p := by omega
          have hnc : n - p ≤ c - p := by omega
          go_quiet ((go_at_call 15; go_loud (exact Calls.quiet_of_same (refget_quiet _ (n - p) (c - p) (l.drop p) Z wr _ hrd Hlp.out hnc hml hZ1.1 hZ1.2 hZn))))
          generalize hwq : wr.drewN nq = wq
          have hgq : Chg [] wr wq := by subst hwq; exact Chg.drewN _ _
          clear hwq
          have hcellq := hgq.cellv hcell (by simp)
          have hloq := hlo.chg hgq (by simp)
          have hgrq := hgr.then hgq
          go_wp2_with (first | (at_builtin; refine wpList_append_1 wq rfl (.tmp 66) (.tmp 68) 46 rfl 23 8 eltN w.heap.size lo j lc _ rfl hloq hgrq.size _ 1 rfl rfl (by unfold maxLen; omega) (by omega) ?_; intro lo4 lc4 w4 hlo4 hg4 hf4; have hcell4 := (hx.old (hgrq.own hg4 hloq) (by simp)).cell j _ (ints_get zs j (by omega)); rw [HZ.out] at hcell4))
          go_roundw
          case rel =>
            refine ⟨j + 1, p + Z, lo4, lc4, by omega, by go_num, by go_num, Hp', hpZ, rfl, ?_, hgrq.own hg4 hloq⟩
            rw [List.take_succ_eq_append_getElem (by omega), vals_snoc _ _ _ (allOk_take zs j hok), u64s_append, HZ.out, hp.out]
            simpa [u64s] using hlo4
          case measure => simp [intOf]; omega
        · have : j = k := by omega
          subst this
          rw [List.take_of_length_le (by omega)] at hlo
          have hlt := h.lt
          cases take with
          | false =>
            go_wp2_with fail
            go_ret2
            refine ⟨lo, lc, ao, c, rfl, hlo, by simpa using ht', hgr.mono (by simp), fun b hb => Or.inl hb, fun b hb hb' => ?_⟩
            have h1 := (h.room.lt b hb).2
            have h2 := (hlo.lt b hb').1
            omega
          | true =>
            go_wp2_with (first | (go_at_call 22; refine (reftake_yes B tb ao n c l q _ (len_le hgr hB) ht' hSn hle).mono ?_; rintro e w5 ⟨ro, rc, ao5, c5, rfl, hr5, ht5, hg5, hf5, hf6⟩))
            go_ret2
            have hT : (sumI zs).toNat = q := by rw [HS.out]; simp
            have hs5 := hgr.size
            refine ⟨lo, lc, ao5, c5, rfl, hlo.chg hg5 (fun b hb hb' => ?_), by rw [if_pos rfl, hT]; exact ht5, hgr.trans hg5 (by simp) (fun b hb _ => hb), fun b hb => Or.inr (by have := hf5 b hb; omega), fun b hb hb' => ?_⟩
            · simp at hb'; subst hb'; have := (hlo.lt _ hb).1; omega
            · have h1 := hf5 b hb; have h2 := (hlo.lt b hb').2; omega

def NumsAll (w : World) (B tb : Nat) (ao : Option Addr) (n c sn : Nat) (zs : List Int) (l : List UInt8) (take : Bool) (e : Ending) (w' : World) : Prop :=
  ∃ lo lc ao' c', e = .returned (.tuple #[.slice lo sn lc, .bool true]) ∧ Room w' w.heap.size lo sn lc (u64s (vals zs l)) ∧ TapeAt w' B tb ao' (n - if take then (sumI zs).toNat else 0) c' (l.drop (if take then (sumI zs).toNat else 0)) ∧ Chg [tb] w w' ∧ (∀ b, b ∈ fp ao' c' → b ∈ fp ao c)
theorem nums_all (take : Bool) (B tb : Nat) (ao : Option Addr) (n c : Nat) (l : List UInt8) (so : Option Addr) (sn sc : Nat) (zs : List Int) (w : World) (h : TapeAt w B tb ao n c l) (hle : n ≤ 140737488355000)
    (hx : Reads w so (ints zs)) (hn : zs.length = sn) (hsn : sn ≤ 140737488355) (hok : allOk zs) (hsum : sumI zs ≤ n) (hap : 0 < sn → tb ∉ blk so) :
    Calls Try.prog 23 #[.pointer (some ⟨tb, 0, none⟩), .bool take, .slice so sn sc] w (NumsAll w B tb ao n c sn zs l take) := by
  cases take with
  | true => exact (nums_take B tb ao n c l so sn sc zs w h hle hx hn hsn hok hsum hap).mono fun e w' ⟨lo, lc, ao', c', h1, h2, h3, h4, h5⟩ => ⟨lo, lc, ao', c', h1, h2, h3, h4, h5⟩
  | false => exact (nums_peek B tb ao n c l so sn sc zs w h hle hx hn hsn hok hsum hap).mono fun e w' ⟨lo, lc, h1, h2, h3⟩ => ⟨lo, lc, ao, c, h1, h2, by simpa using h.chg h3 (by simp), h3.mono (by simp), fun _ h => h⟩
set_option maxHeartbeats 1000000 in
theorem refnums_no (take : Bool) (B tb : Nat) (ao : Option Addr) (n c : Nat) (l : List UInt8) (so : Option Addr) (sn sc : Nat) (zs : List Int) (w : World) (h : TapeAt w B tb ao n c l) (hle : n ≤ 140737488355000)
    (hx : Reads w so (ints zs)) (hn : zs.length = sn) (hsn : sn ≤ 1408074883) (hbad : ¬ (allOk zs ∧ sumI zs ≤ n)) :
    Calls Try.prog 24 #[.pointer (some ⟨tb, 0, none⟩), .bool take, .slice so sn sc] w (NonePost w) := by
  have Hbad := mkHid hbad
  clear hbad
  have hc := h.cell
  go_enter Try.func24, Try.ntmps24
  go_wp2_with fail
  go_loop [8, 9] (fun v i => ∃ (k q : Nat), k ≤ sn ∧ i = .int .i64 k ∧ v = .int .i64 q ∧ Hid (sumI (zs.take k) = q) ∧ Hid (allOk (zs.take k)) ∧ q ≤ 8 * k) (fun _ i => sn - (intOf i).toNat)
  case atStart => exact ⟨0, 0, Nat.zero_le _, rfl, rfl, mkHid rfl, mkHid (by simp [allOk]), by omega⟩
  case round =>
    obtain ⟨k, q, hk, rfl, rfl, hq, hak, hq8⟩ := hrel
    by_cases hlt : k < sn
    · obtain ⟨b, o, rfl, hc1⟩ := hx (by simp [ints_length]; omega)
      have hcell := hc1 k _ (ints_get zs k (by omega))
      have hki : (k : Int) < (sn : Int) := by omega
      by_cases hz : 1 ≤ zs[k] ∧ zs[k] ≤ 8
      · obtain ⟨Z, hZ⟩ := Int.eq_ofNat_of_zero_le (show 0 ≤ zs[k] by omega)
        have hZ1 : 1 ≤ Z ∧ Z ≤ 8 := by omega
        have Hq' : Hid (sumI (zs.take (k + 1)) = ((q + Z : Nat) : Int)) := mkHid (by rw [sumI_take_succ zs k (by omega), hq.out, hZ]; simp)
        have Ha' : Hid (allOk (zs.take (k + 1))) := mkHid (allOk_take_succ zs k (by omega) hak.out hz)
        rw [hZ] at hcell
        have hd1 : decide ((Z : Int) < 1) = false := by simp; omega
        have hd2 : decide ((8 : Int) < (Z : Int)) = false := by simp; omega
        clear hc1 hz hZ
        go_wp2_with fail
        go_round
        case rel => exact ⟨k + 1, q + Z, by omega, by go_num, by go_num, Hq', Ha', by omega⟩
        case measure => simp [intOf]; omega
      · have hd : decide (zs[k] < 1) = true ∨ decide (zs[k] < 1) = false ∧ decide (8 < zs[k]) = true := by simp; omega
        clear hc1 hz
        generalize zs[k] = z at hcell hd
        rcases hd with hd | ⟨hd, hd2⟩
        all_goals
          go_wp2_with fail
          go_ret2
          exact ⟨rfl, rfl⟩
    · have : k = sn := by omega
      subst this
      have hgt : n < q := by
        have h1 := hq.out
        have h2 := hak.out
        rw [List.take_of_length_le (by omega)] at h1 h2
        rcases Nat.lt_or_ge n q with h | h
        · exact h
        · exact absurd ⟨h2, by omega⟩ Hbad.out
      have hd : decide (n < q) = true := by simpa using hgt
      go_wp2_with fail
      go_ret2
      exact ⟨rfl, rfl⟩
end Go.Proofs.Ytfjcaangcogkeaa
