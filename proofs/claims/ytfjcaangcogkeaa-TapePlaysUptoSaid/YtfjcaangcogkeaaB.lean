/- The tape: contracts of its calls. -/
import Derived.Test.YtfjcaangcogkeaaA

namespace Go.Proofs.Ytfjcaangcogkeaa
open Go.RowKit
set_option linter.unusedVariables false

theorem mkHid {p : Prop} (h : p) : Hid p := h
theorem ret_two {k : IntKind} {a b : Int} {v : Value} (h : a = b) : Ending.returned (.tuple #[.int k a, v]) = .returned (.tuple #[.int k b, v]) := by rw [h]
/-- A tape at block tb, whose bytes are l; its slice is (ao, n, c). -/
structure TapeAt (w : World) (B tb : Nat) (ao : Option Addr) (n c : Nat) (l : List UInt8) : Prop where
  cell : w.cell? ⟨tb, 0, none⟩ = some (.slice ao n c)
  free : w.frozen? ⟨tb, 0, none⟩ = false
  low : B ≤ tb
  room : Room w B ao n c (bts l)
  apart : tb ∉ fp ao c

theorem TapeAt.lt {w : World} {B tb : Nat} {ao : Option Addr} {n c : Nat} {l : List UInt8} (h : TapeAt w B tb ao n c l) : tb < w.heap.size := block_lt_of_cell h.cell
theorem TapeAt.len {w : World} {B tb : Nat} {ao : Option Addr} {n c : Nat} {l : List UInt8} (h : TapeAt w B tb ao n c l) : l.length = n := by have := h.room.len; rwa [bts_length] at this
theorem TapeAt.chg {S : List Nat} {w w' : World} {B tb : Nat} {ao : Option Addr} {n c : Nat} {l : List UInt8} (h : TapeAt w B tb ao n c l) (g : Chg S w w') (hn : ∀ k, k ∈ tb :: fp ao c → k ∉ S) : TapeAt w' B tb ao n c l :=
  ⟨g.cellv h.cell (hn tb (by simp)), (g.frozen h.lt (hn tb (by simp))).trans h.free, h.low, h.room.chg g (fun k hk => hn k (by simp [hk])), h.apart⟩

theorem len_any (B tb : Nat) (ao : Option Addr) (n c : Nat) (l : List UInt8) (w : World) (h : TapeAt w B tb ao n c l) :
    Calls Try.prog 26 #[.pointer (some ⟨tb, 0, none⟩)] w fun e w' => e = .returned (.int .i64 (n : Int)) ∧ w = w' := by
  have hc := h.cell
  go_enter Try.func26, Try.ntmps26
  go_wp2
  go_ret
  exact ⟨rfl, rfl⟩
theorem len_nil (w : World) : Calls Try.prog 26 #[.pointer none] w fun e w' => e = .returned (.int .i64 0) ∧ w = w' := by
  go_enter Try.func26, Try.ntmps26
  go_wp2
  go_ret
  exact ⟨rfl, rfl⟩

def PushPost (w : World) (B tb : Nat) (ao : Option Addr) (c : Nat) (l : List UInt8) (e : Ending) (w' : World) : Prop :=
  e = .returned (.tuple #[]) ∧ ∃ ao' c', TapeAt w' B tb ao' l.length c' l ∧ Chg (tb :: fp ao c) w w' ∧ (fp ao' c' = fp ao c ∨ fp ao' c' = [w.heap.size])
set_option maxHeartbeats 400000 in
theorem push_any (B tb : Nat) (ao : Option Addr) (n c : Nat) (l : List UInt8) (bo : Option Addr) (m d : Nat) (k : List UInt8) (w : World) (h : TapeAt w B tb ao n c l) (hB : B ≤ w.heap.size) (hx : Reads w bo (bts k)) (hm : k.length = m) (hle : n + m ≤ 140737488355000) :
    Calls Try.prog 17 #[.pointer (some ⟨tb, 0, none⟩), .slice bo m d] w (PushPost w B tb ao c (l ++ k)) := by
  have hc := h.cell
  have hf := h.free
  go_enter Try.func17, Try.ntmps17
  go_wp2_with (first | (at_builtin; refine wpList_append_k _ rfl (.tmp 10) (.tmp 11) 22 rfl 5 1 eltB B ao n c (bts l) rfl h.room hB bo m d (bts k) rfl hx (by rw [bts_length]; exact hm) (bts_one k) (by unfold maxLen; omega) (by omega) ?_; intro ao2 c2 w2 hr2 hc2 hf2; have hc' := hc2.cellv hc h.apart; have hf' := (hc2.frozen h.lt h.apart).trans hf))
  go_end0
  have hsame : (w2.setCell ⟨tb, 0, none⟩ (.slice ao2 (n + m) c2)).cell? ⟨tb, 0, none⟩ = some (.slice ao2 (n + m) c2) := World.cell?_setCell_same _ _ _ hc'
  have hap : tb ∉ fp ao2 c2 := by
    rcases hf2 with e | e
    · rw [e]; exact h.apart
    · rw [e]; have := h.lt; simp; omega
  have hl : (l ++ k).length = n + m := by rw [List.length_append, h.len, hm]
  refine ⟨rfl, ao2, c2, ⟨by rw [hl]; exact hsame, by rw [World.frozen?_setCell]; exact hf', h.low, ?_, hap⟩, hc2.trans (Chg.setCell _ _ _) (fun b hb _ => by simp [hb]) (fun b hb _ => by simp at hb; simp [hb]), hf2⟩
  rw [hl, bts_append]
  exact hr2.chg (Chg.setCell _ _ _) (fun b hb hb' => by simp at hb'; subst hb'; exact hap hb)

def BytesPost (w : World) (ys : List UInt8) (e : Ending) (w' : World) : Prop :=
  ∃ ao c, e = .returned (.slice ao ys.length c) ∧ Room w' w.heap.size ao ys.length c (bts ys) ∧ Chg [] w w'
theorem clone_any (ao : Option Addr) (n c : Nat) (l : List UInt8) (w : World) (hx : Reads w ao (bts l)) (hn : l.length = n) (hle : n ≤ 140737488355000) :
    Calls Try.prog 29 #[.slice ao n c] w (BytesPost w l) := by
  cases ao with
  | none =>
    have : l = [] := by
      cases hl : l with
      | nil => rfl
      | cons u r => obtain ⟨b, o, e, _⟩ := hx (by rw [hl]; simp [bts]); cases e
    subst this
    have hn0 : n = 0 := by simpa using hn.symm
    subst hn0
    have he := fun w' => Lib.run_eql_slice_nil (P := Try.prog) w' 22 5 none 0 c 0 0 Try.underlying22
    go_enter Try.func29, Try.ntmps29
    go_wp2
    go_ret
    exact ⟨none, 0, rfl, Room.nil _ _ _, Chg.refl _ _⟩
  | some ad =>
    have he := fun w' => Lib.run_eql_slice_nil (P := Try.prog) w' 22 5 (some ad) n c 0 0 Try.underlying22
    go_enter Try.func29, Try.ntmps29
    go_wp2_with (first | (at_builtin; refine wpList_append_k _ rfl (.tmp 5) (.tmp 6) 22 rfl 5 1 eltB w.heap.size _ 0 0 [] rfl (Room.nil _ _ _) (by simp) (some ad) n c (bts l) rfl (hx.chg (Chg.alloc [] _ _) (by simp)) (by rw [bts_length]; exact hn) (bts_one l) (by unfold maxLen; omega) (by omega) ?_; intro ao2 c2 w2 hr2 hc2 hf2))
    go_ret
    simp only [Nat.zero_add, List.nil_append] at hr2
    exact ⟨ao2, c2, by rw [hn]; rfl, by rw [hn]; exact hr2, (Chg.alloc [] _ _).then hc2⟩

def PeekPost (w : World) (k : Nat) (ys : List UInt8) (e : Ending) (w' : World) : Prop :=
  ∃ ao c, e = .returned (.tuple #[.slice ao k c, .bool true]) ∧ Room w' w.heap.size ao k c (bts ys) ∧ Chg [] w w'
def NonePost (w : World) (e : Ending) (w' : World) : Prop := e = .returned (.tuple #[.slice none 0 0, .bool false]) ∧ w = w'
set_option maxHeartbeats 400000 in
theorem peek_yes (B tb : Nat) (ao : Option Addr) (n c : Nat) (l : List UInt8) (k : Nat) (w : World) (h : TapeAt w B tb ao n c l) (hk : k ≤ n) (hle : n ≤ 140737488355000) :
    Calls Try.prog 19 #[.pointer (some ⟨tb, 0, none⟩), .int .i64 k] w (PeekPost w k (l.take k)) := by
  have hc := h.cell
  have hl := h.len
  have hlen : (l.take k).length = k := by simp; omega
  have hcap := h.room.le
  have hmax := h.room.max
  have hq : decide (n < k) = false := by simp; omega
  have hq0 : decide ((k : Int) < 0) = false := by simp
  unfold maxLen at hmax
  go_enter Try.func19, Try.ntmps19
  go_wp2_with (first | (go_at_call 29; refine (clone_any _ _ _ (l.take k) _ (by rw [← bts_take]; exact h.room.reads.take k) hlen (by omega)).mono ?_; rintro e w' ⟨ro, rc, rfl, hr, hg⟩))
  go_ret2
  rw [hlen] at hr
  exact ⟨ro, rc, rfl, hr, hg⟩
theorem peek_no (B tb : Nat) (ao : Option Addr) (n c : Nat) (l : List UInt8) (k : Int) (w : World) (h : TapeAt w B tb ao n c l) (hk : k < 0 ∨ (n : Int) < k) :
    Calls Try.prog 19 #[.pointer (some ⟨tb, 0, none⟩), .int .i64 k] w (NonePost w) := by
  have hc := h.cell
  have hb : decide (k < 0) = true ∨ decide (k < 0) = false ∧ decide ((n : Int) < k) = true := by simp; omega
  clear hk
  rcases hb with hb | ⟨hb, hb2⟩
  all_goals
    go_enter Try.func19, Try.ntmps19
    go_wp2
    go_ret2
    exact ⟨rfl, rfl⟩
theorem peek_nil (k : Int) (w : World) : Calls Try.prog 19 #[.pointer none, .int .i64 k] w (NonePost w) := by
  go_enter Try.func19, Try.ntmps19
  go_wp2
  go_ret2
  exact ⟨rfl, rfl⟩

def TakePost (w : World) (B tb : Nat) (ao : Option Addr) (n c k : Nat) (l : List UInt8) (e : Ending) (w' : World) : Prop :=
  ∃ ro rc ao' c', e = .returned (.tuple #[.slice ro k rc, .bool true]) ∧ Room w' w.heap.size ro k rc (bts (l.take k)) ∧ TapeAt w' B tb ao' (n - k) c' (l.drop k) ∧ Chg [tb] w w' ∧ (∀ b, b ∈ fp ao' c' → b ∈ fp ao c)
theorem take_end {w w' : World} {B tb : Nat} {ao : Option Addr} {n c k : Nat} {l : List UInt8} (h : TapeAt w B tb ao n c l) (hk : k ≤ n) {ro : Option Addr} {rc : Nat}
    (hr : Room w' w.heap.size ro k rc (bts (l.take k))) (hg : Chg [] w w') (aK : Option Addr) (cK : Nat) (ha : aK = cut ao c k) (hc : cK = c - k) :
    TakePost w B tb ao n c k l (.returned (.tuple #[.slice ro k rc, .bool true])) (w'.setCell ⟨tb, 0, none⟩ (.slice aK (n - k) cK)) := by
  subst ha hc
  have h' := h.chg hg (by simp)
  have hap : tb ∉ fp (cut ao c k) (c - k) := fun hm => h.apart (fp_cut _ _ _ _ hm)
  have hg2 := Chg.setCell w' ⟨tb, 0, none⟩ (.slice (cut ao c k) (n - k) (c - k))
  refine ⟨ro, rc, cut ao c k, c - k, rfl, hr.chg hg2 (fun b hb hb' => ?_), ⟨World.cell?_setCell_same _ _ _ h'.cell, by rw [World.frozen?_setCell]; exact h'.free, h.low, ?_, hap⟩, hg.trans hg2 (by simp) (fun b hb _ => hb), fp_cut _ _ _⟩
  · simp at hb'
    subst hb'
    have := (hr.lt _ hb).1
    have := h.lt
    omega
  · rw [← bts_drop]
    exact (h'.room.cut k hk).chg hg2 (fun b hb hb' => by simp at hb'; subst hb'; exact hap hb)
set_option maxHeartbeats 400000 in
theorem take_yes (B tb : Nat) (ao : Option Addr) (n c : Nat) (l : List UInt8) (k : Nat) (w : World) (h : TapeAt w B tb ao n c l) (hk : k ≤ n) (hle : n ≤ 140737488355000) :
    Calls Try.prog 21 #[.pointer (some ⟨tb, 0, none⟩), .int .i64 k] w (TakePost w B tb ao n c k l) := by
  have hcap := h.room.le
  have hmax := h.room.max
  unfold maxLen at hmax
  by_cases hck : c = k
  all_goals
    go_enter Try.func21, Try.ntmps21
    go_wp2_with (first | (go_at_call 19; refine (peek_yes B tb ao n c l k _ h hk hle).mono ?_; rintro e w' ⟨ro, rc, rfl, hr, hg⟩; have hc := (h.chg hg (by simp)).cell; have hf := (h.chg hg (by simp)).free))
    go_ret2
    refine take_end h hk hr hg _ _ ?_ ?_
    all_goals simp [cut, hck]
theorem take_no (B tb : Nat) (ao : Option Addr) (n c : Nat) (l : List UInt8) (k : Int) (w : World) (h : TapeAt w B tb ao n c l) (hk : k < 0 ∨ (n : Int) < k) :
    Calls Try.prog 21 #[.pointer (some ⟨tb, 0, none⟩), .int .i64 k] w (NonePost w) := by
  go_enter Try.func21, Try.ntmps21
  go_wp2_with (first | (go_at_call 19; refine (peek_no B tb ao n c l k _ h hk).mono ?_; rintro e w' ⟨rfl, rfl⟩))
  go_ret2
  exact ⟨rfl, rfl⟩
theorem take_nil (k : Int) (w : World) : Calls Try.prog 21 #[.pointer none, .int .i64 k] w (NonePost w) := by
  go_enter Try.func21, Try.ntmps21
  go_wp2_with (first | (go_at_call 19; refine (peek_nil k _).mono ?_; rintro e w' ⟨rfl, rfl⟩))
  go_ret2
  exact ⟨rfl, rfl⟩

/-! ### the sum of sizes -/
def ints (zs : List Int) : List Value := zs.map (Value.int .i64)
theorem ints_length (zs : List Int) : (ints zs).length = zs.length := by simp [ints]
theorem ints_get (zs : List Int) (i : Nat) (h : i < zs.length) : (ints zs)[i]? = some (.int .i64 zs[i]) := by simp [ints, h]
theorem ints_one (zs : List Int) : ∀ u ∈ ints zs, u.oneCell' = true := ints_oneCell .i64 zs
def sumI : List Int → Int
  | [] => 0
  | z :: r => z + sumI r
theorem sumI_append (a b : List Int) : sumI (a ++ b) = sumI a + sumI b := by induction a <;> simp [sumI, *]; omega
theorem sumI_take_succ (zs : List Int) (k : Nat) (h : k < zs.length) : sumI (zs.take (k + 1)) = sumI (zs.take k) + zs[k] := by
  rw [List.take_succ_eq_append_getElem h, sumI_append]; simp [sumI]
def allOk (zs : List Int) : Prop := ∀ z ∈ zs, 1 ≤ z ∧ z ≤ 8
theorem okB_true (z : Int) : okB z = true ↔ 1 ≤ z ∧ z ≤ 8 := by simp [okB]
theorem okB_false (z : Int) : okB z = false ↔ ¬ (1 ≤ z ∧ z ≤ 8) := by rw [← okB_true]; simp
theorem sumI_nonneg (zs : List Int) (h : allOk zs) : 0 ≤ sumI zs := by
  induction zs with
  | nil => simp [sumI]
  | cons z r ih => have h1 := h z (by simp); have := ih (fun y hy => h y (by simp [hy])); simp [sumI]; omega
theorem allOk_take (zs : List Int) (k : Nat) (h : allOk zs) : allOk (zs.take k) := fun z hz => h z (List.mem_of_mem_take hz)
theorem allOk_drop (zs : List Int) (k : Nat) (h : allOk zs) : allOk (zs.drop k) := fun z hz => h z (List.mem_of_mem_drop hz)
theorem allOk_take_succ (zs : List Int) (k : Nat) (hk : k < zs.length) (h : allOk (zs.take k)) (h2 : 1 ≤ zs[k] ∧ zs[k] ≤ 8) : allOk (zs.take (k + 1)) := by
  intro z hz
  rw [List.take_succ_eq_append_getElem hk, List.mem_append, List.mem_singleton] at hz
  rcases hz with hz | hz
  · exact h z hz
  · rw [hz]; exact h2
theorem sumI_split (zs : List Int) (k : Nat) : sumI zs = sumI (zs.take k) + sumI (zs.drop k) := by rw [← sumI_append, List.take_append_drop]
def SumYes (w : World) (zs : List Int) (e : Ending) (w' : World) : Prop := e = .returned (.tuple #[.int .i64 (sumI zs), .bool true]) ∧ w = w'
set_option maxHeartbeats 400000 in
theorem sum_yes (so : Option Addr) (sn sc : Nat) (zs : List Int) (there : Nat) (w : World) (hx : Reads w so (ints zs)) (hn : zs.length = sn) (hsn : sn ≤ maxLen) (hth : there ≤ 140737488355000) (hok : allOk zs) (hsum : sumI zs ≤ there) :
    Calls Try.prog 32 #[.slice so sn sc, .int .i64 there] w (SumYes w zs) := by
  unfold maxLen at hsn
  have hs0 := sumI_nonneg zs hok
  go_enter Try.func32, Try.ntmps32
  go_wp2_with fail
  go_loop [6, 12] (fun v i => ∃ (k : Nat) (q : Int), k ≤ sn ∧ i = .int .i64 k ∧ v = .int .i64 q ∧ Hid (q = there - sumI (zs.take k))) (fun _ i => sn - (intOf i).toNat)
  case atStart => exact ⟨0, there, Nat.zero_le _, rfl, rfl, (by simp [sumI] : (there : Int) = there - sumI (zs.take 0))⟩
  case round =>
    obtain ⟨k, q, hk, rfl, rfl, hq⟩ := hrel
    by_cases hlt : k < sn
    · obtain ⟨b, o, rfl, hc⟩ := hx (by simp [ints_length]; omega)
      have hcell := hc k _ (ints_get zs k (by omega))
      have hz := hok zs[k] (List.getElem_mem _)
      have h1 := sumI_take_succ zs k (by omega)
      have h2 := sumI_split zs (k + 1)
      have h3 := sumI_nonneg _ (allOk_drop zs (k + 1) hok)
      have h0 := sumI_nonneg _ (allOk_take zs k hok)
      have hq' := hq.out
      have g1 : zs[k] ≤ q := by omega
      have g2 : q ≤ there := by omega
      have Hq' : Hid (q - zs[k] = there - sumI (zs.take (k + 1))) := (by omega : q - zs[k] = there - sumI (zs.take (k + 1)))
      have hokk : okB zs[k] = true := (okB_true _).2 hz
      clear hc h1 h2 h3 h0 hq'
      go_wp2_with (first | (go_at_call 28; refine (sized_any _ _).mono ?_; rintro e w' ⟨rfl, rfl⟩))
      go_round
      case rel => exact ⟨k + 1, q - zs[k], by omega, by go_num, rfl, Hq'⟩
      case measure => simp [intOf]; omega
    · have : k = sn := by omega
      subst this
      have hq' := hq.out
      rw [List.take_of_length_le (by omega)] at hq'
      have g2 : q ≤ there := by omega
      have g3 : (0 : Int) ≤ q := by omega
      have Hq' := mkHid hq'
      clear hq' hq
      go_wp2_with fail
      go_ret2
      have hq' := Hq'.out
      exact ⟨ret_two (by omega), rfl⟩

set_option maxHeartbeats 400000 in
theorem sum_no (so : Option Addr) (sn sc : Nat) (zs : List Int) (there : Nat) (w : World) (hx : Reads w so (ints zs)) (hn : zs.length = sn) (hsn : sn ≤ maxLen) (hth : there ≤ 140737488355000) (hbad : ¬ (allOk zs ∧ sumI zs ≤ there)) :
    Calls Try.prog 32 #[.slice so sn sc, .int .i64 there] w fun e w' => e = .returned (.tuple #[.int .i64 0, .bool false]) ∧ w = w' := by
  unfold maxLen at hsn
  have Hbad := mkHid hbad
  clear hbad
  go_enter Try.func32, Try.ntmps32
  go_wp2_with fail
  go_loop [6, 12] (fun v i => ∃ (k : Nat) (q : Int), k ≤ sn ∧ i = .int .i64 k ∧ v = .int .i64 q ∧ Hid (q = there - sumI (zs.take k)) ∧ 0 ≤ q ∧ q ≤ there ∧ Hid (allOk (zs.take k))) (fun _ i => sn - (intOf i).toNat)
  case atStart => exact ⟨0, there, Nat.zero_le _, rfl, rfl, (by simp [sumI] : (there : Int) = there - sumI (zs.take 0)), by omega, by omega, (by simp [allOk] : allOk (zs.take 0))⟩
  case round =>
    obtain ⟨k, q, hk, rfl, rfl, hq, hq0, hq1, hak⟩ := hrel
    by_cases hlt : k < sn
    · obtain ⟨b, o, rfl, hc⟩ := hx (by simp [ints_length]; omega)
      have hcell := hc k _ (ints_get zs k (by omega))
      by_cases hz : 1 ≤ zs[k] ∧ zs[k] ≤ 8
      · have hokk : okB zs[k] = true := (okB_true _).2 hz
        by_cases hle : zs[k] ≤ q
        · have h1 := sumI_take_succ zs k (by omega)
          have hq' := hq.out
          have Hq' : Hid (q - zs[k] = there - sumI (zs.take (k + 1))) := (by omega : q - zs[k] = there - sumI (zs.take (k + 1)))
          have Ha' : Hid (allOk (zs.take (k + 1))) := allOk_take_succ zs k (by omega) hak.out hz
          clear hc h1 hq'
          go_wp2_with (first | (go_at_call 28; refine (sized_any _ _).mono ?_; rintro e w' ⟨rfl, rfl⟩))
          go_round
          case rel => exact ⟨k + 1, q - zs[k], by omega, by go_num, rfl, Hq', by omega, by omega, Ha'⟩
          case measure => simp [intOf]; omega
        · have hgt : decide (q < zs[k]) = true := by simp; omega
          clear hc
          go_wp2_with (first | (go_at_call 28; refine (sized_any _ _).mono ?_; rintro e w' ⟨rfl, rfl⟩))
          go_ret2
          exact ⟨rfl, rfl⟩
      · have hokk : okB zs[k] = false := (okB_false _).2 hz
        clear hc
        go_wp2_with (first | (go_at_call 28; refine (sized_any _ _).mono ?_; rintro e w' ⟨rfl, rfl⟩))
        go_ret2
        exact ⟨rfl, rfl⟩
    · exfalso
      have hq' := hq.out
      have ha' := hak.out
      rw [List.take_of_length_le (by omega)] at hq' ha'
      exact Hbad.out ⟨ha', by omega⟩

/-! ### numbers -/
/-- The numbers of these sizes that stand first. -/
def vals : List Int → List UInt8 → List Nat
  | [], _ => []
  | z :: r, l => val (l.take z.toNat) :: vals r (l.drop z.toNat)
theorem vals_length (zs : List Int) (l : List UInt8) : (vals zs l).length = zs.length := by induction zs generalizing l <;> simp [vals, *]
theorem vals_snoc (zs : List Int) (z : Int) (l : List UInt8) (h : allOk zs) : vals (zs ++ [z]) l = vals zs l ++ [val ((l.drop (sumI zs).toNat).take z.toNat)] := by
  induction zs generalizing l with
  | nil => simp [vals, sumI]
  | cons y r ih =>
    have h1 := h y (by simp)
    have h2 := sumI_nonneg r (fun y hy => h y (by simp [hy]))
    rw [List.cons_append, vals, ih _ (fun y hy => h y (by simp [hy])), vals, List.drop_drop, sumI, Int.toNat_add (by omega) h2]
    rfl
def u64s (l : List Nat) : List Value := l.map fun (x : Nat) => .int .u64 (x : Int)
theorem u64s_append (l m : List Nat) : u64s (l ++ m) = u64s l ++ u64s m := by simp [u64s]
theorem u64s_length (l : List Nat) : (u64s l).length = l.length := by simp [u64s]
theorem u64s_one (l : List Nat) : ∀ u ∈ u64s l, u.oneCell' = true := by
  intro u hu
  obtain ⟨_, _, rfl⟩ := List.mem_map.1 hu
  rfl
theorem eltN : Elt Try.prog 46 23 8 := Elt.mk (z := .int .u64 0) Try.underlying46 (by kernel_rfl) rfl
end Go.Proofs.Ytfjcaangcogkeaa
