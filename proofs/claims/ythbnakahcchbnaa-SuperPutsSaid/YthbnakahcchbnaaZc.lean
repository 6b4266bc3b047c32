/- The reference: lay, number. -/
import Derived.Test.YthbnakahcchbnaaZb
namespace Go.Proofs.Ythbnakahcchbnaa
open Go.RowKit
set_option linter.unusedVariables false
set_option linter.unusedSimpArgs false
attribute [local go_sem ↓] Go.wp_at_zero Go.wp_at_succ

theorem bts_rep (n : Nat) : bts (List.replicate n 0) = List.replicate n (.int .u8 0) := by simp [bts]
/-- New memory of n bytes that holds l, its block b; nothing old has turned. -/
structure Own (w0 w : World) (b n : Nat) (l : List UInt8) : Prop where
  r : Room w w0.heap.size (some ⟨b, 0, none⟩) n n (bts l)
  g : Chg [] w0 w
theorem Own.len {w0 w : World} {b n : Nat} {l : List UInt8} (h : Own w0 w b n l) : l.length = n := by have := h.r.len; rwa [bts_length] at this
theorem Own.keep {w0 w w' : World} {b n : Nat} {l : List UInt8} (h : Own w0 w b n l) (g : Chg [] w w') : Own w0 w' b n l := ⟨h.r.chg g (by simp), h.g.then g⟩
theorem Own.there {w0 w : World} {b n : Nat} {l : List UInt8} (h : Own w0 w b n l) (i m : Nat) (hi : i + m ≤ n) : w.there b i m := by
  have := h.r.there i m hi
  rwa [Nat.zero_add] at this
theorem own_made (n : Nat) (hn : n ≤ 1000) (w : World) : Own w (w.alloc (.cells (madeCells #[.int .u8 0] n) 5)) w.heap.size n (List.replicate n 0) :=
  ⟨by rw [bts_rep]; exact made_room w 5 (.int .u8 0) n (by unfold maxLen; omega), Chg.alloc [] w _⟩
theorem Own.in {w0 w : World} {b n : Nat} {l : List UInt8} (h : Own w0 w b n l) (hn : 0 < n) : w0.heap.size ≤ b ∧ b < w.heap.size := h.r.lt b (by rw [fp_some _ _ _ hn]; simp)
theorem Own.chg {w0 w w' : World} {b n : Nat} {l : List UInt8} (h : Own w0 w b n l) (g : Chg [b] w w') (hn : 0 < n) : Chg [] w0 w' :=
  h.g.trans g (fun _ h _ => h) (fun k hk hlt => by simp at hk; have := (h.in hn).1; omega)
theorem Own.set {w0 w : World} {b n : Nat} {l : List UInt8} (h : Own w0 w b n l) (i : Nat) (hi : i < n) (x : UInt8) (v : Int) (hv : v = (x.toNat : Int)) (l' : List UInt8) (hl' : l.set i x = l') : Own w0 (w.setCell ⟨b, i, none⟩ (.int .u8 v)) b n l' := by
  subst hl' hv
  have := h.r.set i hi (.int .u8 (x.toNat : Int))
  have e : (bts l).set i (.int .u8 (x.toNat : Int)) = bts (l.set i x) := by simp [bts]
  rw [Nat.zero_add, e] at this
  exact ⟨this, h.chg (Chg.setCell w ⟨b, i, none⟩ _) (by omega)⟩
theorem Own.cell {w0 w : World} {b n : Nat} {l : List UInt8} (h : Own w0 w b n l) (i : Nat) (hi : i < n) : (∃ v, w.cell? ⟨b, i, none⟩ = some v) ∧ w.frozen? ⟨b, i, none⟩ = false := by
  have := h.there i 1 (by omega) 0 (by decide)
  exact ⟨Option.isSome_iff_exists.1 this.1, this.2⟩
theorem rest_byte (N : Nat) : ((N : Int) % 256) = ((UInt8.ofNat N).toNat : Int) := by rw [ofNat_toNat]; rfl
/-- Bytes with others laid over them at a place. -/
def over (xs : List UInt8) (p : Nat) (ys : List UInt8) : List UInt8 := xs.take p ++ (ys ++ xs.drop (p + ys.length))
theorem over_nil (xs : List UInt8) (p : Nat) : over xs p [] = xs := by simp [over]
theorem over_length (xs : List UInt8) (p : Nat) (ys : List UInt8) (h : p + ys.length ≤ xs.length) : (over xs p ys).length = xs.length := by simp [over]; omega
theorem over_set (xs : List UInt8) (p : Nat) (ys : List UInt8) (x : UInt8) (h : p + 1 + ys.length ≤ xs.length) : (over xs (p + 1) ys).set p x = over xs p (x :: ys) := by
  have e : xs.take (p + 1) = xs.take p ++ [xs[p]'(by omega)] := List.take_succ_eq_append_getElem (by omega)
  unfold over
  rw [e, List.append_assoc, List.set_append_right _ _ (by rw [List.length_take]; omega), List.length_take, Nat.min_eq_left (by omega), Nat.sub_self]
  simp only [List.nil_append, List.singleton_append, List.set_cons_zero, List.length_cons, List.cons_append, show p + (ys.length + 1) = p + 1 + ys.length by omega]
def prev (k : Nat) : Int := (k : Int) - 1
theorem prev_zero : prev 0 = -1 := rfl
theorem prev_succ (j : Nat) : prev (j + 1) = j := by simp [prev]
set_option maxRecDepth 20000 in
set_option maxHeartbeats 1000000 in
theorem rlay_any (b n : Nat) (xs : List UInt8) (p N : Nat) (P M : Int) (hP : P = p) (hM : M = N) (w0 w : World) (h : Own w0 w b n xs) (hp : p + 8 ≤ n) (hn : n ≤ 1000) (hN : N < 2 ^ 64) :
    Calls Try.prog 21 #[.slice (some ⟨b, 0, none⟩) n n, .int .i64 P, .int .u64 M] w fun e w' => e = .returned (.tuple #[]) ∧ Own w0 w' b n (over xs p (be N 8)) ∧ Chg [b] w w' := by
  subst hP hM
  go_enter Try.func21, Try.ntmps21
  go_wp2_with fail
  go_loopw [2, 6] (fun nv iv wr => ∃ j : Nat, j ≤ 8 ∧ iv = .int .i64 (prev j) ∧ nv = .int .u64 ((N / 256 ^ (8 - j) : Nat) : Int) ∧ Own w0 wr b n (over xs (p + j) (be N (8 - j))) ∧ Chg [b] w wr) (fun _ iv _ => (intOf iv + 1).toNat)
  case atStart => exact ⟨8, Nat.le_refl _, rfl, by simp, by simpa [be, over_nil] using h, Chg.refl _ _⟩
  case round =>
    have hxl := h.len
    clear h
    obtain ⟨j, hj, rfl, rfl, hR, hgr⟩ := hrel
    cases j with
    | zero =>
      rw [prev_zero]
      rw [Nat.add_zero, Nat.sub_zero] at hR
      go_wp2_with fail
      go_end0
      exact ⟨rfl, hR, hgr⟩
    | succ h =>
      rw [prev_succ]
      obtain ⟨M, hM⟩ : ∃ M : Nat, N / 256 ^ (8 - (h + 1)) = M := ⟨_, rfl⟩
      rw [hM]
      have hMN : M ≤ N := by rw [← hM]; exact Nat.div_le_self _ _
      obtain ⟨q, hq⟩ : ∃ q : Nat, p + h = q := ⟨_, rfl⟩
      have hqi : (p : Int) + (h : Int) = (q : Int) := by omega
      have hset := hR.set q (by omega) (UInt8.ofNat M) _ (rest_byte M) (over xs (p + h) (be N (8 - h))) (by
        rw [← hq, show 8 - h = (8 - (h + 1)) + 1 by omega, be, hM, ← Nat.add_assoc]
        exact over_set xs (p + h) _ _ (by rw [be_length]; omega))
      obtain ⟨⟨v, hv⟩, hfz⟩ := hR.cell q (by omega)
      have gs := Chg.setCell wr ⟨b, q, none⟩ (.int .u8 ((M : Int) % 256))
      have hpw : N / 256 ^ (8 - h) = M / 256 := by
        rw [← hM, Nat.div_div_eq_div_mul, show 8 - h = (8 - (h + 1)) + 1 by omega, Nat.pow_succ]
      have HH := mkHid (And.intro hset (And.intro gs hpw))
      clear hset gs hpw hR hM hq
      go_wp2_with fail
      obtain ⟨s1, s2, s4⟩ := HH.out
      exact ⟨⟨h, by omega, rfl, by rw [s4]; simp, s1, hgr.trans s2 (fun _ h _ => h) (fun _ h _ => h)⟩, by simp [intOf, prev]⟩
theorem num_step (l : List UInt8) (p k : Nat) (h : p + k < l.length) : val ((l.drop p).take (k + 1)) = val ((l.drop p).take k) * 256 + (l[p + k]).toNat := by
  rw [val_take_succ (l.drop p) k (by simp; omega)]
  congr 2
  simp
theorem rnumber_any (ao : Option Addr) (n c : Nat) (l : List UInt8) (p : Nat) (P : Int) (hP : P = p) (w : World) (hx : Reads w ao (bts l)) (hn : l.length = n) (h8 : p + 8 ≤ n) (hp : p ≤ 1000) : Calls Try.prog 25 #[.slice ao n c, .int .i64 P] w fun e w' => e = .returned (.int .u64 (num l p)) ∧ w = w' := by
  subst hP
  go_enter Try.func25, Try.ntmps25
  go_wp2_with fail
  go_loop [5, 6] (fun v i => ∃ k : Nat, k ≤ 8 ∧ i = .int .i64 k ∧ v = .int .u64 (val ((l.drop p).take k))) (fun _ i => 8 - (intOf i).toNat)
  case atStart => exact ⟨0, Nat.zero_le _, rfl, rfl⟩
  case round =>
    obtain ⟨k, hk, rfl, rfl⟩ := hrel
    by_cases hlt : k < 8
    · have hd : decide ((k : Int) < 8) = true := decide_eq_true (by omega)
      have hd2 : decide (k < 8) = true := decide_eq_true hlt
      obtain ⟨b, o, rfl, hc⟩ := hx (by simp [bts_length]; omega)
      have hpk : p + k < l.length := by omega
      obtain ⟨q, hq⟩ : ∃ q : Nat, p + k = q := ⟨_, rfl⟩
      have hqi : (p : Int) + (k : Int) = (q : Int) := by omega
      have hql : q < l.length := by omega
      have hcell := hc q _ (bts_get l q hql)
      have hb : (q : Int) < (n : Int) := by omega
      have hs := num_step l p k hpk
      have hlt56 : val ((l.drop p).take k) < 2 ^ 56 := val_take_lt (l.drop p) k (by omega)
      have HH := mkHid (And.intro hs (And.intro hlt56 hq))
      clear hc hs hlt56 hq
      go_wp2
      go_round
      case rel =>
        obtain ⟨s1, s2, s3⟩ := HH.out
        refine ⟨k + 1, by omega, by go_num, ?_⟩
        subst s3
        rw [s1, add_byte _ _ s2]
      case measure => simp [intOf]; omega
    · have : k = 8 := by omega
      subst this
      go_wp2
      go_ret
      exact ⟨rfl, rfl⟩
end Go.Proofs.Ythbnakahcchbnaa
