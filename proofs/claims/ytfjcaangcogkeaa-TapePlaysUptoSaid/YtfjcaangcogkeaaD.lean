/- The document's examples: awake. -/
import Derived.Test.YtfjcaangcogkeaaC
namespace Go.Proofs.Ytfjcaangcogkeaa
open Go.RowKit
set_option linter.unusedVariables false

def NewPost (w : World) (e : Ending) (w' : World) : Prop :=
  ∃ tb, e = .returned (.pointer (some ⟨tb, 0, none⟩)) ∧ TapeAt w' w.heap.size tb none 0 0 [] ∧ Chg [] w w' ∧ tb < w'.heap.size
theorem new_tape (w : World) : Calls Try.prog 16 #[] w (NewPost w) := by
  refine (new_any w).mono ?_
  rintro e w' ⟨rfl, rfl⟩
  exact ⟨w.heap.size, rfl, ⟨by simp, by simp, Nat.le_refl _, Room.nil _ _ _, by simp [fp_zero]⟩, Chg.alloc [] _ _, by simp⟩

theorem Chg.step {S : List Nat} {w0 a b : World} (h : Chg [] w0 a) (g : Chg S a b) (hS : ∀ k, k ∈ S → w0.heap.size ≤ k) : Chg [] w0 b :=
  h.trans g (by simp) (fun k hk hlt => by have := hS k hk; omega)
theorem TapeAt.ge {w : World} {B tb : Nat} {ao : Option Addr} {n c : Nat} {l : List UInt8} (h : TapeAt w B tb ao n c l) : ∀ k, k ∈ tb :: fp ao c → B ≤ k := by
  intro k hk
  simp at hk
  rcases hk with rfl | hk
  · exact h.low
  · exact (h.room.lt k hk).1
def TruePost (w : World) (e : Ending) (w' : World) : Prop := e = .returned (.bool true) ∧ Chg [] w w'
def PutExample (w : World) (e : Ending) (w' : World) : Prop :=
  ∃ ao c, e = .returned (.slice ao 3 c) ∧ Room w' w.heap.size ao 3 c (bts [9, 1, 2]) ∧ Chg [] w w'
theorem put_example (w : World) (k : Nat) (hk : k = w.heap.size) : Calls Try.prog 10 #[.slice (some ⟨k, 0, none⟩) 1 1, .int .u64 258, .int .i64 2] (w.alloc (.cells #[.int .u8 9] 5)) (PutExample (w.alloc (.cells #[.int .u8 9] 5))) :=
  hk ▸ (put_any _ 1 1 (bts [9]) 258 2 _ (Reads.new w #[.int .u8 9] 5) rfl (bts_one _) (by omega) (by omega) (by omega) (by decide)).mono (by
    rintro e w' ⟨ao, c, rfl, h1, h2⟩
    exact ⟨ao, c, rfl, h1, h2⟩)
set_option maxHeartbeats 1000000 in
theorem awake_any (w : World) : Calls Try.prog 13 #[] w (TruePost w) := by
  go_enter Try.func13, Try.ntmps13
  go_wp2_with fail
  refine (new_tape _).mono ?_
  rintro e w1 ⟨tb, rfl, ht1, hg1, hlt1⟩
  go_wp2_with fail
  refine (push_any w.heap.size tb none 0 0 [] _ 2 2 [1, 2] _ (ht1.chg (Chg.alloc [] _ _) (by simp)) (by simp; have := hg1.size; omega) (Reads.new w1 #[.int .u8 1, .int .u8 2] 5) rfl (by omega)).mono ?_
  rintro e w2 ⟨rfl, ao2, c2, ht2, hg2, hf2⟩
  have hg2' : Chg [] w w2 := (hg1.then (Chg.alloc [] _ _)).step hg2 ht1.ge
  go_wp2_with fail
  refine (push_any w.heap.size tb ao2 2 c2 [1, 2] _ 1 1 [3] _ (ht2.chg (Chg.alloc [] _ _) (by simp)) (by simp; have := hg2'.size; omega) (Reads.new w2 #[.int .u8 3] 5) rfl (by omega)).mono ?_
  rintro e w3 ⟨rfl, ao3, c3, ht3, hg3, hf3⟩
  have hg3' : Chg [] w w3 := (hg2'.then (Chg.alloc [] _ _)).step hg3 ht2.ge
  go_wp2_with fail
  refine (nums_take w.heap.size tb ao3 3 c3 [1, 2, 3] _ 2 2 [2, 1] _ (ht3.chg (Chg.alloc [] _ _) (by simp)) (by omega) (Reads.new w3 #[.int .i64 2, .int .i64 1] 3) rfl (by omega) (by simp [allOk]) (by simp [sumI]) (fun _ => by simp [blk]; have := ht3.lt; omega)).mono ?_
  rintro e w4 ⟨lo, lc, ao4, c4, rfl, hr4, ht4, hg4, hf4⟩
  have hg4' : Chg [] w w4 := (hg3'.then (Chg.alloc [] _ _)).step hg4 (by simpa using ht3.low)
  obtain ⟨b, o, rfl, hc⟩ := hr4.reads (by simp [u64s_length, vals_length])
  have hc0 : w4.cell? ⟨b, o, none⟩ = some (.int .u64 258) := hc 0 (.int .u64 258) rfl
  have hc1 := hc 1 (.int .u64 3) rfl
  have hb : b < w4.heap.size := block_lt_of_cell hc0
  clear hc
  go_wp2_with fail
  refine (get_yes _ 3 3 [1, 2, 3] 2 _ (Reads.new w4 #[.int .u8 1, .int .u8 2, .int .u8 3] 5) rfl (by omega) (by decide) (by omega) (by omega) (by omega)).mono ?_
  rintro e w5 ⟨rfl, rfl⟩
  have hv : val [1, 2] = 258 := by decide
  go_wp2_with fail
  refine (len_any w.heap.size tb ao4 0 c4 [] _ (ht4.chg (Chg.alloc [] _ _) (by simp))).mono ?_
  rintro e w5 ⟨rfl, rfl⟩
  go_wp2_with fail
  refine (put_example _ _ (by simp)).mono ?_
  rintro e w6 ⟨po, pc, rfl, hr6, hg6⟩
  have hcv := run_convert_k (P := Try.prog) w6 22 5 9 Try.underlying22 Try.underlying5 Try.underlying9 po 3 pc [9, 1, 2] hr6.reads rfl
  go_wp2_with fail
  go_ret
  exact ⟨rfl, ((hg4'.then (Chg.alloc [] _ _)).then (Chg.alloc [] _ _)).then hg6⟩

/-! ### Put and the document's Put, at any size -/
def putB (l : List UInt8) (N : Nat) (size : Int) : List UInt8 := if okB size then l ++ be N size.toNat else l
def PutAll (w : World) (ys : List UInt8) (e : Ending) (w' : World) : Prop :=
  ∃ ao m c, e = .returned (.slice ao m c) ∧ Room w' w.heap.size ao m c (bts ys) ∧ Chg [] w w'
theorem PutPost.all {w : World} {ys : List UInt8} {e : Ending} {w' : World} (h : PutPost w (bts ys) e w') : PutAll w ys e w' := by
  obtain ⟨ao, c, h1, h2, h3⟩ := h
  exact ⟨ao, _, c, h1, h2, h3⟩
theorem put_all (ao : Option Addr) (n c : Nat) (l : List UInt8) (N : Nat) (size : Int) (w : World) (hx : Reads w ao (bts l)) (hn : l.length = n) (hle : n ≤ 140737488355000) (hN : N < 2 ^ 64) :
    Calls Try.prog 10 #[.slice ao n c, .int .u64 N, .int .i64 size] w (PutAll w (putB l N size)) := by
  unfold putB
  by_cases h : okB size = true
  · rw [if_pos h]
    have hz := (okB_true size).1 h
    obtain ⟨s, rfl⟩ := Int.eq_ofNat_of_zero_le (show 0 ≤ size by omega)
    refine (put_any ao n c (bts l) N s w hx (by rw [bts_length]; exact hn) (bts_one l) hle (by omega) (by omega) hN).mono fun e w' h => ?_
    rw [← bts_append] at h
    exact h.all
  · rw [if_neg h]
    exact (put_no ao n c (bts l) N size w hx (by rw [bts_length]; exact hn) (bts_one l) hle (by simpa using h)).mono fun e w' h => h.all
theorem refput_all (ao : Option Addr) (n c : Nat) (l : List UInt8) (N : Nat) (size : Int) (w : World) (hx : Reads w ao (bts l)) (hn : l.length = n) (hle : n ≤ 140737488355000) (hN : N < 2 ^ 64) :
    Calls Try.prog 12 #[.slice ao n c, .int .u64 N, .int .i64 size] w (PutAll w (putB l N size)) := by
  unfold putB
  by_cases h : okB size = true
  · rw [if_pos h]
    have hz := (okB_true size).1 h
    obtain ⟨s, rfl⟩ := Int.eq_ofNat_of_zero_le (show 0 ≤ size by omega)
    refine (refput_yes ao n c (bts l) N s w hx (by rw [bts_length]; exact hn) (bts_one l) hle (by omega) (by omega) hN).mono fun e w' h => ?_
    rw [← bts_append] at h
    exact h.all
  · rw [if_neg h]
    exact (refput_no ao n c (bts l) N size w hx (by rw [bts_length]; exact hn) (bts_one l) hle (by have := (okB_false size).1 (by simpa using h); omega)).mono fun e w' h => h.all

theorem Reads.old {S : List Nat} {w w' : World} {ao : Option Addr} {xs : List Value} (h : Reads w ao xs) (g : Chg S w w') (hS : ∀ k, k ∈ S → w.heap.size ≤ k) : Reads w' ao xs := by
  intro hx
  obtain ⟨b, o, rfl, hc⟩ := h hx
  refine ⟨b, o, rfl, fun j u hu => g.cellv (hc j u hu) (fun hb => ?_)⟩
  have h1 := hS b hb
  have h2 : b < w.heap.size := block_lt_of_cell (hc j u hu)
  omega

/-! ### a store into a slice -/
theorem Room.set {w : World} {B b o n c : Nat} {xs : List Value} (h : Room w B (some ⟨b, o, none⟩) n c xs) (i : Nat) (hi : i < n) (u : Value) : Room (w.setCell ⟨b, o + i, none⟩ u) B (some ⟨b, o, none⟩) n c (xs.set i u) := by
  refine ⟨by rw [List.length_set]; exact h.len, h.le, h.max, fun hc => ?_⟩
  obtain ⟨b', o', e, hB, hs, hv⟩ := h.at_ hc
  cases e
  have hle := h.le
  refine ⟨b, o, rfl, hB, fun j hj => ?_, fun j v hj => ?_⟩
  · refine ⟨?_, by rw [World.frozen?_setCell]; exact (hs j hj).2⟩
    by_cases hji : j = i
    · subst hji
      obtain ⟨v, hv⟩ := Option.isSome_iff_exists.1 (hs j hj).1
      rw [World.cell?_setCell_same _ _ _ hv]; rfl
    · rw [World.cell?_setCell_other _ _ _ _ (by simp)]
      exact (hs j hj).1
  · by_cases hji : j = i
    · subst hji
      obtain ⟨v', hv'⟩ := Option.isSome_iff_exists.1 (hs j (by omega)).1
      rw [World.cell?_setCell_same _ _ _ hv']
      have hl := h.len
      rw [List.getElem?_set_self (by omega)] at hj
      exact hj
    · rw [World.cell?_setCell_other _ _ _ _ (by simp)]
      rw [List.getElem?_set_ne (by omega)] at hj
      exact hv j v hj
theorem Room.cell {w : World} {B b o n c : Nat} {xs : List Value} (h : Room w B (some ⟨b, o, none⟩) n c xs) (i : Nat) (hi : i < n) : w.frozen? ⟨b, o + i, none⟩ = false := by
  obtain ⟨b', o', e, hB, hs, hv⟩ := h.at_ (by have := h.le; omega)
  cases e
  exact (hs i (by have := h.le; omega)).2
def u8s (zs : List Int) : List Value := zs.map (Value.int .u8)
theorem bts_u8s (l : List UInt8) : bts l = u8s (l.map fun b => (b.toNat : Int)) := by simp [bts, u8s]
theorem u8s_get (zs : List Int) (i : Nat) (h : i < zs.length) : (u8s zs)[i]? = some (.int .u8 zs[i]) := by simp [u8s, h]
theorem u8s_set (zs : List Int) (i : Nat) (z : Int) : (u8s zs).set i (.int .u8 z) = u8s (zs.set i z) := by simp [u8s]
theorem u8s_length (zs : List Int) : (u8s zs).length = zs.length := by simp [u8s]
theorem Room.set8 {w : World} {B b o n c : Nat} {zs : List Int} (h : Room w B (some ⟨b, o, none⟩) n c (u8s zs)) (i : Nat) (hi : i < n) (v : Int) : ∃ zs', Room (w.setCell ⟨b, o + i, none⟩ (.int .u8 v)) B (some ⟨b, o, none⟩) n c (u8s zs') :=
  ⟨zs.set i v, by rw [← u8s_set]; exact h.set i hi _⟩
/-- s[l:l+m], in one value. -/
theorem run_range_k {P : Program} {t e : TypeId} (ao : Option Addr) (n c l m : Nat) (H : Int) (hH : H = (l : Int) + (m : Int)) (ht : P.underlying t = some (.slice e)) (hs : (P.info? e).map (·.size) = some 1) (hc : l + m ≤ c) (w : World) :
    (Instr.slice t (.slice ao n c) (some (.int .i64 (l : Int))) (some (.int .i64 H)) none).run P w = .ok (.slice (cut ao c l) m (c - l)) w := by
  subst hH
  have he : P.elem t = e := by simp [Program.elem, ht]
  rw [run_slice_lh w t ao n c (by rw [he]; exact ht) .i64 .i64 (l : Int) ((l : Int) + (m : Int)) (by omega) (by omega) (by omega), he]
  obtain ⟨i, hi, hi1⟩ := Option.map_eq_some_iff.1 hs
  have e1 : ((l : Int) + (m : Int)).toNat = l + m := by omega
  simp [sizeOf, typeInfo, hi, hi1, sliced, cut, e1]
theorem TapeAt.renum {w : World} {B tb : Nat} {ao : Option Addr} {n c : Nat} {l : List UInt8} (h : TapeAt w B tb ao n c l) {m : Nat} {k : List UInt8} (hk : l = k) (hm : k.length = m) : TapeAt w B tb ao m c k := by
  have := h.len
  subst hk
  have e : n = m := by omega
  subst e
  exact h
end Go.Proofs.Ytfjcaangcogkeaa
