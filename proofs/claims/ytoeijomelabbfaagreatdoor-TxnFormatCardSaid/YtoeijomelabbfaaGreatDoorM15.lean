/- Texts Kd, Kg, Kj, Za, Nj, Sa of the library, joined. -/
import Derived.Test.YtoeijomelabbfaaGreatDoorM02
import Derived.Test.YtoeijomelabbfaaGreatDoorM07
import Derived.Test.YtoeijomelabbfaaGreatDoorM03
import Derived.Test.YtoeijomelabbfaaGreatDoorM14
import Derived.WalkKit
import Derived.WalkSpells
import Derived.BigQuiet
import Derived.Deep.QuietTactic
/- What a disk reads behind a block's write; the blocks that a cache of clean ones holds. -/

namespace Go.Proofs.YtoeijomelabbfaaGreatDoor
set_option maxRecDepth 200000
open Go.RowKit Go.Maps
set_option linter.unusedVariables false
set_option linter.unusedSimpArgs false

theorem flies_four (A : Nat) (b : List UInt8) : flies A b 4 = [(4 * A + 0, secOf b 0), (4 * A + 1, secOf b 1), (4 * A + 2, secOf b 2), (4 * A + 3, secOf b 3)] := rfl
theorem lastOf_flies (s A : Nat) (b x : List UInt8) : lastOf s x (flies A b 4) = if s < 4 * A ∨ 4 * A + 4 ≤ s then x else secOf b (s - 4 * A) := by
  rw [flies_four]
  unfold lastOf
  simp only [List.foldl_cons, List.foldl_nil]
  by_cases h : s < 4 * A ∨ 4 * A + 4 ≤ s
  · rw [if_pos h, if_neg (by omega), if_neg (by omega), if_neg (by omega), if_neg (by omega)]
  · rw [if_neg h]
    have : s = 4 * A ∨ s = 4 * A + 1 ∨ s = 4 * A + 2 ∨ s = 4 * A + 3 := by omega
    rcases this with rfl | rfl | rfl | rfl
    · simp
    · simp
    · simp
    · simp
theorem lastOf_append (s : Nat) (x : List UInt8) (L M : List (Nat × List UInt8)) : lastOf s x (L ++ M) = lastOf s (lastOf s x L) M := by
  unfold lastOf
  rw [List.foldl_append]
theorem cur_written (st : RS) (A : Nat) (b : List UInt8) (s : Nat) : cur { st with L := st.L ++ flies A b 4 } s = if s < 4 * A ∨ 4 * A + 4 ≤ s then cur st s else secOf b (s - 4 * A) := by
  unfold cur
  rw [lastOf_append, lastOf_flies]
theorem reads_four (st : RS) (a : Nat) : reads st a 4 = cur st (4 * a + 0) ++ (cur st (4 * a + 1) ++ (cur st (4 * a + 2) ++ (cur st (4 * a + 3) ++ []))) := rfl
theorem sec_four (b : List UInt8) (h : b.length = 256) : secOf b 0 ++ (secOf b 1 ++ (secOf b 2 ++ (secOf b 3 ++ []))) = b := by
  have e : ∀ j k : Nat, j + 64 = k → b.drop j = (b.drop j).take 64 ++ b.drop k := fun j k e => by
    have := (List.take_append_drop 64 (b.drop j)).symm
    rwa [List.drop_drop, e] at this
  have e3 : (b.drop 192).take 64 = b.drop 192 := List.take_of_length_le (by rw [List.length_drop]; omega)
  unfold secOf
  show (b.drop 0).take 64 ++ ((b.drop 64).take 64 ++ ((b.drop 128).take 64 ++ ((b.drop 192).take 64 ++ []))) = b
  rw [List.append_nil, e3, ← e 128 192 rfl, ← e 64 128 rfl, ← e 0 64 rfl, List.drop_zero]
theorem reads_written (st : RS) (A a : Nat) (b : List UInt8) (h : b.length = 256) : reads { st with L := st.L ++ flies A b 4 } a 4 = if a = A then b else reads st a 4 := by
  rw [reads_four, cur_written, cur_written, cur_written, cur_written]
  by_cases e : a = A
  · rw [if_pos e, e, if_neg (by omega), if_neg (by omega), if_neg (by omega), if_neg (by omega), Nat.add_sub_cancel_left, Nat.add_sub_cancel_left, Nat.add_sub_cancel_left, Nat.add_sub_cancel_left]
    exact sec_four b h
  · rw [if_neg e, if_pos (by omega), if_pos (by omega), if_pos (by omega), if_pos (by omega), reads_four]
def hnext (n : Nat) (HL : List Nat) (a : Nat) : List Nat := if n < (HL.filter (fun x => x != a) ++ [a]).length then (HL.filter (fun x => x != a) ++ [a]).drop 1 else HL.filter (fun x => x != a) ++ [a]
end Go.Proofs.YtoeijomelabbfaaGreatDoor

/- What a cache holds, by its blocks: gets, puts, room, flush; what they leave as it was. -/
namespace Go.Proofs.YtoeijomelabbfaaGreatDoor
set_option maxRecDepth 200000
open Go.RowKit Go.Maps
set_option linter.unusedVariables false
set_option linter.unusedSimpArgs false

def kset (K : List KE) (e : KE) : List KE := kdrop K e.pl ++ [e]
theorem kfind_drop (K : List KE) (p a : Nat) : kfind (kdrop K p) a = if a = p then none else kfind K a := by
  unfold kfind kdrop
  induction K with
  | nil => simp
  | cons x r ih =>
    rw [List.filter_cons]
    by_cases h : x.pl = p
    · have h1 : (x.pl != p) = false := by simp [h]
      rw [h1, if_neg (by decide), ih]
      by_cases h2 : a = p
      · rw [if_pos h2, if_pos h2]
      · have h3 : (x.pl == a) = false := by rw [h]; simpa using fun e => h2 e.symm
        rw [if_neg h2, if_neg h2, List.find?_cons, h3]
    · have h1 : (x.pl != p) = true := by simp [h]
      rw [h1, if_pos rfl, List.find?_cons, ih, List.find?_cons]
      by_cases h3 : x.pl = a
      · have h4 : (x.pl == a) = true := by simp [h3]
        rw [h4]
        show some x = if a = p then none else some x
        rw [if_neg (by rw [← h3]; exact h)]
      · have h4 : (x.pl == a) = false := by simp [h3]
        rw [h4]
theorem kfind_append (K M : List KE) (a : Nat) : kfind (K ++ M) a = (kfind K a).or (kfind M a) := by
  unfold kfind
  rw [List.find?_append]
theorem kfind_one (e : KE) (a : Nat) : kfind [e] a = if a = e.pl then some e else none := by
  unfold kfind
  by_cases h : a = e.pl
  · rw [if_pos h]; simp [h]
  · have : (e.pl == a) = false := by simpa using fun x => h x.symm
    rw [if_neg h, List.find?_cons, this]
    rfl
theorem kfind_set (K : List KE) (e : KE) (a : Nat) : kfind (kset K e) a = if a = e.pl then some e else kfind K a := by
  unfold kset
  rw [kfind_append, kfind_drop, kfind_one]
  by_cases h : a = e.pl
  · rw [if_pos h, if_pos h, if_pos h]; rfl
  · rw [if_neg h, if_neg h, if_neg h, Option.or_none]
theorem kdrop_none {K : List KE} {a : Nat} (h : kfind K a = none) : kdrop K a = K := List.filter_eq_self.2 (fun x hx => by simpa using kfind_none h x hx)
theorem kfind_mem {K : List KE} (hn : (K.map KE.pl).Nodup) {e : KE} (he : e ∈ K) : kfind K e.pl = some e := by
  unfold kfind
  induction K with
  | nil => cases he
  | cons x r ih =>
    rw [List.map_cons, List.nodup_cons] at hn
    rw [List.find?_cons]
    rcases List.mem_cons.1 he with rfl | h
    · simp
    · have : (x.pl == e.pl) = false := by
        simp only [beq_eq_false_iff_ne, ne_eq]
        intro e1
        exact hn.1 (by rw [e1]; exact List.mem_map.2 ⟨e, h, rfl⟩)
      rw [this]
      exact ih hn.2 h
theorem kdrop_sub (K : List KE) (a : Nat) {e : KE} (h : e ∈ kdrop K a) : e ∈ K ∧ e.pl ≠ a := by
  have := List.mem_filter.1 h
  exact ⟨this.1, by simpa using this.2⟩
theorem kset_mem (K : List KE) (x : KE) {e : KE} (h : e ∈ kset K x) : e ∈ K ∧ e.pl ≠ x.pl ∨ e = x := by
  rcases List.mem_append.1 h with h | h
  · exact Or.inl (kdrop_sub K _ h)
  · exact Or.inr (by simpa using h)
theorem kset_nodup {K : List KE} (x : KE) (h : (K.map KE.pl).Nodup) : ((kset K x).map KE.pl).Nodup := by
  unfold kset
  rw [List.map_append, List.nodup_append]
  refine ⟨(List.Sublist.map _ List.filter_sublist).nodup h, by simp, ?_⟩
  intro a ha b hb e
  obtain ⟨y, hy, rfl⟩ := List.mem_map.1 ha
  simp at hb
  exact (kdrop_sub K _ hy).2 (e.trans hb)
theorem kdrop_len {K : List KE} {a : Nat} {h : KE} (hf : kfind K a = some h) : (kdrop K a).length < K.length := by
  obtain ⟨h1, h2⟩ := kfind_some hf
  rcases Nat.lt_or_ge (kdrop K a).length K.length with h3 | h3
  · exact h3
  · unfold kdrop at h3
    have h4 := List.length_filter_le (fun e => e.pl != a) K
    have h5 := (List.length_filter_eq_length_iff.1 (Nat.le_antisymm h4 h3)) h h1
    simp [h2] at h5
theorem kset_len {K : List KE} {x h : KE} (hf : kfind K x.pl = some h) : (kset K x).length ≤ K.length := by
  have := kdrop_len hf
  unfold kset
  rw [List.length_append, List.length_singleton]
  omega
/-! ### flush -/
def kall (K : List KE) : List KE := K.map (fun e => ⟨e.pl, e.bs, false⟩)
def laidL (r : List KE) : List (Nat × List UInt8) := r.flatMap (fun e => flies e.pl e.bs 4)
theorem laidL_len (r : List KE) : (laidL r).length = 4 * r.length := by
  unfold laidL
  induction r with
  | nil => rfl
  | cons x r ih => rw [List.flatMap_cons, List.length_append, ih, flies_len, List.length_cons]; omega
theorem kflushL_calm : ∀ (r K : List KE) (st : RS), st.gone = false → st.left = 0 → (∀ e ∈ r, e.pl < st.count ∧ e.bs.length = 256) →
    kflushL r K st = (0, K.map (fun e => if e.pl ∈ r.map KE.pl then ⟨e.pl, e.bs, false⟩ else e), { st with L := st.L ++ laidL r }) := by
  intro r
  induction r with
  | nil =>
    intro K st _ _ _
    unfold kflushL
    simp [laidL]
  | cons x r ih =>
    intro K st hg hl hr
    have hx := hr x (by simp)
    have hw := write_plain st x.pl x.bs hg hl hx.1 hx.2
    unfold kflushL
    rw [if_pos (by rw [hw]), hw]
    show kflushL r (kclean K x.pl) { st with L := st.L ++ flies x.pl x.bs 4 } = _
    rw [ih (kclean K x.pl) { st with L := st.L ++ flies x.pl x.bs 4 } hg hl (fun e he => hr e (by simp [he]))]
    congr 2
    · unfold kclean
      rw [List.map_map]
      refine List.map_congr_left fun e _ => ?_
      obtain ⟨y, hy⟩ : ∃ y, y = (if e.pl = x.pl then (⟨e.pl, e.bs, false⟩ : KE) else e) := ⟨_, rfl⟩
      show (if (if e.pl = x.pl then (⟨e.pl, e.bs, false⟩ : KE) else e).pl ∈ r.map KE.pl then (⟨(if e.pl = x.pl then (⟨e.pl, e.bs, false⟩ : KE) else e).pl, (if e.pl = x.pl then (⟨e.pl, e.bs, false⟩ : KE) else e).bs, false⟩ : KE) else (if e.pl = x.pl then (⟨e.pl, e.bs, false⟩ : KE) else e)) = _
      rw [← hy]
      by_cases h : e.pl = x.pl
      · rw [if_pos h] at hy
        rw [if_pos (show e.pl ∈ (x :: r).map KE.pl by rw [h]; simp), hy]
        split <;> rfl
      · rw [if_neg h] at hy
        have : (e.pl ∈ (x :: r).map KE.pl) ↔ (e.pl ∈ r.map KE.pl) := by simp [h]
        rw [hy]
        by_cases h2 : e.pl ∈ r.map KE.pl
        · rw [if_pos h2, if_pos (this.2 h2)]
        · rw [if_neg h2, if_neg (fun h3 => h2 (this.1 h3))]
    · have hL : (st.L ++ flies x.pl x.bs 4) ++ laidL r = st.L ++ laidL (x :: r) := by
        unfold laidL
        rw [List.flatMap_cons, List.append_assoc]
      rw [← hL]
theorem kdirty_mem {K : List KE} {e : KE} : e ∈ kdirty K ↔ e ∈ K ∧ e.dirty = true := by
  unfold kdirty krising
  rw [List.mem_filter, (List.mergeSort_perm _ _).mem_iff]
theorem kflush_calm (K : List KE) (st : RS) (hg : st.gone = false) (hl : st.left = 0) (hr : ∀ e ∈ K, e.pl < st.count ∧ e.bs.length = 256) : kflush K st = (0, kall K, { st with L := st.L ++ laidL (kdirty K) }) := by
  unfold kflush
  rw [if_neg (by simp [hg]), kflushL_calm (kdirty K) K st hg hl (fun e he => hr e (kdirty_mem.1 he).1)]
  congr 1
  congr 1
  unfold kall
  refine List.map_congr_left fun e he => ?_
  by_cases h : e.pl ∈ (kdirty K).map KE.pl
  · rw [if_pos h]
  · rw [if_neg h]
    have : e.dirty = false := by
      cases hd : e.dirty
      · rfl
      · exact absurd (List.mem_map.2 ⟨e, kdirty_mem.2 ⟨he, hd⟩, rfl⟩) h
    rw [← this]
theorem kall_find (K : List KE) (a : Nat) : kfind (kall K) a = (kfind K a).map (fun e => ⟨e.pl, e.bs, false⟩) := by
  unfold kfind kall
  rw [List.find?_map]
  rfl
theorem kall_pl (K : List KE) : (kall K).map KE.pl = K.map KE.pl := by
  unfold kall
  rw [List.map_map]
  rfl
theorem kplaces_rising (K : List KE) (hn : (K.map KE.pl).Nodup) : (kplaces K).Pairwise (· < ·) := by
  have hs : (krising K).Pairwise (fun x y => decide (x.pl ≤ y.pl) = true) := by
    unfold krising
    exact List.pairwise_mergeSort (by intro a b c h1 h2; simp at *; omega) (by intro a b; simp; omega) _
  have hd : ((krising K).map KE.pl).Nodup := ((List.mergeSort_perm K _).map _).nodup_iff.2 hn
  have h1 : ((krising K).map KE.pl).Pairwise (· < ·) := by
    rw [List.pairwise_map]
    rw [List.Nodup, List.pairwise_map] at hd
    refine (hs.and hd).imp ?_
    intro a b ⟨h1, h2⟩
    simp at h1
    omega
  unfold kplaces kdirty
  exact h1.sublist (List.Sublist.map _ List.filter_sublist)
end Go.Proofs.YtoeijomelabbfaaGreatDoor

/- What is got is what was put last, or what the disk had: a cache and its disk, as one. -/

namespace Go.Proofs.YtoeijomelabbfaaGreatDoor
set_option maxRecDepth 200000
open Go.RowKit Go.Maps
set_option linter.unusedVariables false
set_option linter.unusedSimpArgs false

def zeroB : List UInt8 := List.replicate 256 0
theorem laid_all (S : List (List UInt8)) (s : Nat) (l : List UInt8) (hl : l.length = 64) (hS : (S.getD s []).length ≤ 64) : laid S s l 64 = S.set s l := by
  unfold laid
  rw [List.take_of_length_le (by omega), List.drop_of_length_le (by omega), List.append_nil]
/-- The bytes of a block, wherever they are. -/
def kval (K : List KE) (st : RS) (a : Nat) : List UInt8 := match kfind K a with | some e => e.bs | none => reads st a 4
theorem kval_some {K : List KE} {st : RS} {a : Nat} {e : KE} (h : kfind K a = some e) : kval K st a = e.bs := by unfold kval; rw [h]
theorem kval_none {K : List KE} {st : RS} {a : Nat} (h : kfind K a = none) : kval K st a = reads st a 4 := by unfold kval; rw [h]
structure Good (n : Nat) (K : List KE) (st : RS) : Prop where
  nd : (K.map KE.pl).Nodup
  lt : ∀ e ∈ K, e.pl < n
  len : ∀ e ∈ K, e.bs.length = 256
  cl : ∀ e ∈ K, e.dirty = false → e.bs = reads st e.pl 4
  g : st.gone = false
  l : st.left = 0
  c : st.count = n
theorem Good.why {n : Nat} {K : List KE} {st : RS} (h : Good n K st) {a : Nat} (ha : a < n) : whyN st (a : Int) = 0 := by
  unfold whyN
  rw [h.g, h.c, if_neg (by decide), if_neg (by omega)]
theorem kfind_cons (x : KE) (K : List KE) (a : Nat) : kfind (x :: K) a = if a = x.pl then some x else kfind K a := by
  unfold kfind
  rw [List.find?_cons]
  by_cases h : a = x.pl
  · rw [if_pos h]; simp [h]
  · have : (x.pl == a) = false := by simpa using fun e => h e.symm
    rw [if_neg h, this]
theorem kfind_not {K : List KE} {a : Nat} (h : a ∉ K.map KE.pl) : kfind K a = none := by
  cases hf : kfind K a with
  | none => rfl
  | some e =>
    obtain ⟨h1, h2⟩ := kfind_some hf
    exact absurd (List.mem_map.2 ⟨e, h1, h2⟩) h
/-- Room is made. -/
theorem Good.room {n : Nat} {K : List KE} {st : RS} (h : Good n K st) (most : Nat) (hm : 1 ≤ most) (hl : K.length ≤ most) :
    ∃ K' st', kroom most K st = (0, K', st') ∧ Good n K' st' ∧ K'.length < most ∧ (∀ a, kval K' st' a = kval K st a) ∧ (∀ a, kfind K a = none → kfind K' a = none ∧ reads st' a 4 = reads st a 4) ∧ st'.L.length ≤ st.L.length + 4 := by
  by_cases hlt : K.length < most
  · exact ⟨K, st, kroom_room hlt, h, hlt, fun _ => rfl, fun a hf => ⟨hf, rfl⟩, Nat.le_add_right _ _⟩
  · cases K with
    | nil => simp at hlt; omega
    | cons x T =>
      have hx := h.lt x (by simp)
      have hxl := h.len x (by simp)
      have hnd := h.nd
      rw [List.map_cons, List.nodup_cons] at hnd
      have hT : kfind T x.pl = none := kfind_not hnd.1
      have hlen : T.length < most := by simp at hl; omega
      have key : ∀ st', st'.gone = false → st'.left = 0 → st'.count = n → (∀ a, reads st' a 4 = if a = x.pl then x.bs else reads st a 4) → Good n T st' ∧ (∀ a, kval T st' a = kval (x :: T) st a) ∧ (∀ a, kfind (x :: T) a = none → kfind T a = none ∧ reads st' a 4 = reads st a 4) := by
        intro st' g1 g2 g3 hr
        refine ⟨⟨hnd.2, fun e he => h.lt e (by simp [he]), fun e he => h.len e (by simp [he]), fun e he hd => ?_, g1, g2, g3⟩, fun a => ?_, fun a hf => ?_⟩
        · rw [hr, if_neg (fun e1 => hnd.1 (by rw [← e1]; exact List.mem_map.2 ⟨e, he, rfl⟩))]
          exact h.cl e (by simp [he]) hd
        · by_cases e1 : a = x.pl
          · subst e1
            rw [kval_none hT, hr, if_pos rfl, kval_some (e := x) (by rw [kfind_cons, if_pos rfl])]
          · unfold kval
            rw [kfind_cons, if_neg e1]
            cases kfind T a with
            | some e => rfl
            | none => simp only; rw [hr, if_neg e1]
        · rw [kfind_cons] at hf
          by_cases e1 : a = x.pl
          · rw [if_pos e1] at hf; cases hf
          · rw [if_neg e1] at hf
            exact ⟨hf, by rw [hr, if_neg e1]⟩
      cases hd : x.dirty with
      | false =>
        have hw : kwrote x st = (0, st) := by unfold kwrote; rw [hd]; rfl
        obtain ⟨k1, k2, k3⟩ := key st h.g h.l h.c (fun a => by
          by_cases e1 : a = x.pl
          · rw [if_pos e1, e1]; exact (h.cl x (by simp) hd).symm
          · rw [if_neg e1])
        exact ⟨T, st, by rw [kroom_ok (by simpa using hlt) (by rw [hw]), hw], k1, hlen, k2, k3, Nat.le_add_right _ _⟩
      | true =>
        have hw : kwrote x st = (0, { st with L := st.L ++ flies x.pl x.bs 4 }) := by
          unfold kwrote
          rw [hd, if_pos rfl, write_plain st x.pl x.bs h.g h.l (by rw [h.c]; exact hx) hxl]
        obtain ⟨k1, k2, k3⟩ := key { st with L := st.L ++ flies x.pl x.bs 4 } h.g h.l h.c (fun a => reads_written st x.pl a x.bs hxl)
        exact ⟨T, _, by rw [kroom_ok (by simpa using hlt) (by rw [hw]), hw], k1, hlen, k2, k3, by show (st.L ++ flies x.pl x.bs 4).length ≤ _; rw [List.length_append, flies_len]; exact Nat.le_refl _⟩
theorem kset_none {K : List KE} {x : KE} (h : kfind K x.pl = none) : kset K x = K ++ [x] := by unfold kset; rw [kdrop_none h]
theorem kval_set (K : List KE) (st : RS) (x : KE) (a : Nat) : kval (kset K x) st a = if a = x.pl then x.bs else kval K st a := by
  unfold kval
  rw [kfind_set]
  by_cases h : a = x.pl
  · rw [if_pos h, if_pos h]
  · rw [if_neg h, if_neg h]
theorem Good.set {n : Nat} {K : List KE} {st : RS} (h : Good n K st) (x : KE) (hx : x.pl < n) (hl : x.bs.length = 256) (hc : x.dirty = false → x.bs = reads st x.pl 4) : Good n (kset K x) st := by
  refine ⟨kset_nodup _ h.nd, fun e he => ?_, fun e he => ?_, fun e he hd => ?_, h.g, h.l, h.c⟩
  · rcases kset_mem K _ he with h1 | rfl
    · exact h.lt e h1.1
    · exact hx
  · rcases kset_mem K _ he with h1 | rfl
    · exact h.len e h1.1
    · exact hl
  · rcases kset_mem K _ he with h1 | rfl
    · exact h.cl e h1.1 hd
    · exact hc hd
theorem Good.put {n : Nat} {K : List KE} {st : RS} (h : Good n K st) (most : Nat) (hm : 1 ≤ most) (hl : K.length ≤ most) {a : Nat} (ha : a < n) {b : List UInt8} (hb : b.length = 256) :
    ∃ K' st', kput most K st (a : Int) b = (0, K', st') ∧ Good n K' st' ∧ K'.length ≤ most ∧ (∀ x, kval K' st' x = if x = a then b else kval K st x) ∧ st'.L.length ≤ st.L.length + 4 := by
  unfold kput
  rw [if_neg (by simp [h.why ha]), if_neg (by simp [hb]), Int.toNat_natCast]
  cases hf : kfind K a with
  | some y => exact ⟨kset K ⟨a, b, true⟩, st, rfl, h.set _ ha hb (fun h => by cases h), Nat.le_trans (kset_len (x := ⟨a, b, true⟩) hf) hl, fun x => kval_set K st ⟨a, b, true⟩ x, Nat.le_add_right _ _⟩
  | none =>
    obtain ⟨K1, st1, e1, g1, l1, v1, f1, b1⟩ := h.room most hm hl
    simp only
    rw [e1, if_pos rfl]
    have hf1 := (f1 a hf).1
    refine ⟨kset K1 ⟨a, b, true⟩, st1, by rw [kset_none (x := ⟨a, b, true⟩) hf1], g1.set _ ha hb (fun h => by cases h), ?_, fun x => ?_, b1⟩
    · rw [kset_none (x := ⟨a, b, true⟩) hf1, List.length_append, List.length_singleton]; omega
    · rw [kval_set, v1]
theorem Good.get {n : Nat} {K : List KE} {st : RS} (h : Good n K st) (most : Nat) (hm : 1 ≤ most) (hl : K.length ≤ most) {a : Nat} (ha : a < n) (hr : (reads st a 4).length = 256) :
    ∃ K' st', kget most K st (a : Int) = (0, kval K st a, K', st') ∧ Good n K' st' ∧ K'.length ≤ most ∧ (∀ x, kval K' st' x = kval K st x) ∧ st'.L.length ≤ st.L.length + 4 := by
  unfold kget
  rw [if_neg (by simp [h.why ha]), Int.toNat_natCast]
  cases hf : kfind K a with
  | some y =>
    obtain ⟨h1, h2⟩ := kfind_some hf
    refine ⟨kset K y, st, ?_, h.set y (h.lt y h1) (h.len y h1) (fun hd => h.cl y h1 hd), Nat.le_trans (kset_len (x := y) (by rw [h2]; exact hf)) hl, fun x => ?_, Nat.le_add_right _ _⟩
    · simp only
      rw [kval_some hf]
      unfold kset
      rw [h2]
    · rw [kval_set]
      by_cases e : x = y.pl
      · rw [if_pos e, e, h2, kval_some hf]
      · rw [if_neg e]
  | none =>
    obtain ⟨K1, st1, e1, g1, l1, v1, f1, b1⟩ := h.room most hm hl
    simp only
    rw [e1, if_pos rfl]
    obtain ⟨hf1, hr1⟩ := f1 a hf
    refine ⟨kset K1 ⟨a, reads st a 4, false⟩, st1, by rw [kset_none (x := ⟨a, reads st a 4, false⟩) hf1, kval_none hf], g1.set _ ha hr (fun _ => hr1.symm), ?_, fun x => ?_, b1⟩
    · rw [kset_none (x := ⟨a, reads st a 4, false⟩) hf1, List.length_append, List.length_singleton]; omega
    · rw [kval_set]
      show (if x = a then _ else _) = _
      by_cases e : x = a
      · rw [if_pos e, e, kval_none hf]
      · rw [if_neg e, v1]
/-! ### flush -/
theorem reads_laid : ∀ (r : List KE) (st : RS), (r.map KE.pl).Nodup → (∀ e ∈ r, e.bs.length = 256) → ∀ a, reads { st with L := st.L ++ laidL r } a 4 = match kfind r a with | some e => e.bs | none => reads st a 4 := by
  intro r
  induction r with
  | nil =>
    intro st _ _ a
    show reads { st with L := st.L ++ [] } a 4 = reads st a 4
    rw [List.append_nil]
  | cons x r ih =>
    intro st hn hl a
    rw [List.map_cons, List.nodup_cons] at hn
    have h1 := ih { st with L := st.L ++ flies x.pl x.bs 4 } hn.2 (fun e he => hl e (by simp [he])) a
    have h2 : ({ st with L := st.L ++ laidL (x :: r) } : RS) = { st with L := (st.L ++ flies x.pl x.bs 4) ++ laidL r } := by
      unfold laidL
      rw [List.flatMap_cons, List.append_assoc]
    rw [h2]
    refine h1.trans ?_
    rw [kfind_cons]
    by_cases e : a = x.pl
    · rw [if_pos e, e, kfind_not hn.1]
      show reads { st with L := st.L ++ flies x.pl x.bs 4 } x.pl 4 = x.bs
      rw [reads_written _ _ _ _ (hl x (by simp)), if_pos rfl]
    · rw [if_neg e]
      cases kfind r a with
      | some y => rfl
      | none =>
        show reads { st with L := st.L ++ flies x.pl x.bs 4 } a 4 = reads st a 4
        rw [reads_written _ _ _ _ (hl x (by simp)), if_neg e]
theorem kdirty_nodup {K : List KE} (h : (K.map KE.pl).Nodup) : ((kdirty K).map KE.pl).Nodup := (kplaces_rising K h).imp (fun h => Nat.ne_of_lt h)
theorem kdirty_find {K : List KE} (h : (K.map KE.pl).Nodup) (a : Nat) : kfind (kdirty K) a = (kfind K a).bind (fun e => if e.dirty then some e else none) := by
  cases hf : kfind K a with
  | none =>
    show _ = none
    exact kfind_not (fun hm => by
      obtain ⟨e, he, rfl⟩ := List.mem_map.1 hm
      rw [kfind_mem h (kdirty_mem.1 he).1] at hf
      cases hf)
  | some e =>
    obtain ⟨h1, rfl⟩ := kfind_some hf
    show _ = if e.dirty then some e else none
    by_cases hd : e.dirty = true
    · rw [if_pos hd]
      exact kfind_mem (kdirty_nodup h) (kdirty_mem.2 ⟨h1, hd⟩)
    · rw [if_neg hd]
      refine kfind_not (fun hm => ?_)
      obtain ⟨y, hy, e1⟩ := List.mem_map.1 hm
      obtain ⟨hy1, hy2⟩ := kdirty_mem.1 hy
      have := kfind_mem h hy1
      rw [e1, hf] at this
      cases this
      exact hd hy2
theorem Good.flush {n : Nat} {K : List KE} {st : RS} (h : Good n K st) :
    ∃ st', kflush K st = (0, kall K, st') ∧ Good n (kall K) st' ∧ (∀ x, kval (kall K) st' x = kval K st x) ∧ st'.L.length ≤ st.L.length + 4 * K.length := by
  have hr : ∀ a, reads { st with L := st.L ++ laidL (kdirty K) } a 4 = match kfind (kdirty K) a with | some e => e.bs | none => reads st a 4 := reads_laid (kdirty K) st (kdirty_nodup h.nd) (fun e he => h.len e (kdirty_mem.1 he).1)
  refine ⟨{ st with L := st.L ++ laidL (kdirty K) }, kflush_calm K st h.g h.l (fun e he => ⟨by rw [h.c]; exact h.lt e he, h.len e he⟩), ⟨by rw [kall_pl]; exact h.nd, fun e he => ?_, fun e he => ?_, fun e he _ => ?_, h.g, h.l, h.c⟩, fun x => ?_, ?_⟩
  · obtain ⟨y, hy, rfl⟩ := List.mem_map.1 he
    exact h.lt y hy
  · obtain ⟨y, hy, rfl⟩ := List.mem_map.1 he
    exact h.len y hy
  · obtain ⟨y, hy, rfl⟩ := List.mem_map.1 he
    show y.bs = _
    rw [hr, kdirty_find h.nd, kfind_mem h.nd hy]
    cases hd : y.dirty with
    | true => simp [hd]
    | false => simp [hd]; exact h.cl y hy hd
  · unfold kval
    rw [kall_find]
    cases hf : kfind K x with
    | some e => rfl
    | none =>
      show reads _ x 4 = reads st x 4
      rw [hr, kdirty_find h.nd, hf]
      rfl
  · show (st.L ++ laidL (kdirty K)).length ≤ _
    rw [List.length_append, laidL_len]
    have : (kdirty K).length ≤ K.length := by
      unfold kdirty krising
      exact Nat.le_trans (List.length_filter_le _ _) (Nat.le_of_eq (List.length_mergeSort K))
    omega
theorem Good.drop {n : Nat} {K : List KE} {st : RS} (h : Good n K st) : Good n [] st := ⟨by simp, by simp, by simp, by simp, h.g, h.l, h.c⟩
/-- Behind a flush all is on the disk. -/
theorem Good.all {n : Nat} {K : List KE} {st : RS} (h : Good n (kall K) st) (a : Nat) : kval (kall K) st a = reads st a 4 := by
  unfold kval
  cases hf : kfind (kall K) a with
  | none => rfl
  | some e =>
    obtain ⟨h1, rfl⟩ := kfind_some hf
    refine h.cl e h1 ?_
    obtain ⟨y, _, rfl⟩ := List.mem_map.1 h1
    rfl
/-! ### the barrier -/
theorem settle_get : ∀ (L : List (Nat × List UInt8)) (S : List (List UInt8)), (∀ l ∈ S, l.length = 64) → (∀ f ∈ L, f.2.length = 64 ∧ f.1 < S.length) → ∀ s, s < S.length → (settle S L).getD s [] = lastOf s (S.getD s []) L := by
  intro L
  induction L with
  | nil => intro S _ _ s _; rfl
  | cons f L ih =>
    intro S hS hL s hs
    have hf := hL f (by simp)
    have hg : (S.getD f.1 []).length = 64 := by
      rw [List.getD_eq_getElem?_getD, List.getElem?_eq_getElem hf.2]
      exact hS _ (List.getElem_mem hf.2)
    have e1 : settle S (f :: L) = settle (S.set f.1 f.2) L := by
      show settle (laid S f.1 f.2 64) L = _
      rw [laid_all S f.1 f.2 hf.1 (Nat.le_of_eq hg)]
    have e2 : lastOf s (S.getD s []) (f :: L) = lastOf s (if f.1 = s then f.2 else S.getD s []) L := rfl
    rw [e1, e2, ih (S.set f.1 f.2) (fun l hl => by
      rcases List.mem_or_eq_of_mem_set hl with h | h
      · exact hS l h
      · rw [h]; exact hf.1) (fun x hx => by rw [List.length_set]; exact hL x (by simp [hx])) s (by rw [List.length_set]; exact hs)]
    congr 1
    rw [List.getD_eq_getElem?_getD]
    by_cases h : f.1 = s
    · rw [if_pos h, h, List.getElem?_set_self hs]
      rfl
    · rw [if_neg h, List.getElem?_set_ne h, ← List.getD_eq_getElem?_getD]
theorem reads_settled (st : RS) (hS : ∀ l ∈ st.S, l.length = 64) (hL : ∀ f ∈ st.L, f.2.length = 64 ∧ f.1 < st.S.length) (a : Nat) (ha : 4 * a + 4 ≤ st.S.length) : reads { st with S := settle st.S st.L, L := [] } a 4 = reads st a 4 := by
  have e : ∀ s, s < st.S.length → cur { st with S := settle st.S st.L, L := [] } s = cur st s := fun s hs => by
    rw [cur_calm _ rfl]
    exact settle_get st.L st.S hS hL s hs
  rw [reads_four, reads_four, e _ (by omega), e _ (by omega), e _ (by omega), e _ (by omega)]
end Go.Proofs.YtoeijomelabbfaaGreatDoor

/- Superblocks: which may be, their forms, what bytes say, which of two slots is chosen. No walk here. -/
namespace Go.Proofs.YtoeijomelabbfaaGreatDoor
set_option maxRecDepth 200000
open Go.RowKit
set_option linter.unusedVariables false
set_option linter.unusedSimpArgs false

/-- A superblock, as numbers. -/
structure SB where
  G : Nat
  B : Int
  D : Nat
  X : Nat
deriving DecidableEq
def SB.none : SB := ⟨0, 0, 0, 0⟩
def SB.v (s : SB) : Value := .agg #[.int .u64 s.G, .int .i64 s.B, .int .u64 s.D, .int .u64 s.X]
def SB.may (s : SB) : Bool := decide (1 ≤ s.G ∧ s.G < 4611686018427387904 ∧ 1 ≤ s.X ∧ s.X < 4611686018427387904 ∧ 16 ≤ s.B ∧ s.B ≤ 1024 ∧ (s.D : Int) < s.B)
/-- Its numbers are such as the program's. -/
structure SB.Wide (s : SB) : Prop where
  g : s.G < 2 ^ 64
  d : s.D < 2 ^ 64
  x : s.X < 2 ^ 64
theorem SB.may_iff (s : SB) : s.may = true ↔ 1 ≤ s.G ∧ s.G < 4611686018427387904 ∧ 1 ≤ s.X ∧ s.X < 4611686018427387904 ∧ 16 ≤ s.B ∧ s.B ≤ 1024 ∧ (s.D : Int) < s.B := by simp [SB.may]
def SB.form (s : SB) : List UInt8 := [99, 105, 115, 116] ++ (be s.G 8 ++ (be s.B.toNat 8 ++ (be s.D 8 ++ (be s.X 8 ++ (List.replicate 20 0 ++ be s.G 8)))))
theorem SB.form_length (s : SB) : s.form.length = 64 := by simp [SB.form, be_length]
/-- The number in eight bytes at a place. -/
def num (l : List UInt8) (i : Nat) : Nat := val ((l.drop i).take 8)
theorem num_lt (l : List UInt8) (i : Nat) : num l i < 2 ^ 64 := by
  have h := val_lt ((l.drop i).take 8)
  have h2 : (256 : Nat) ^ ((l.drop i).take 8).length ≤ 256 ^ 8 := Nat.pow_le_pow_right (by decide) (by simp; omega)
  unfold num
  omega
/-- The superblock that bytes say. -/
def readS (l : List UInt8) : SB := ⟨num l 4, num l 12, num l 20, num l 28⟩
theorem num_at (A C : List UInt8) (N i : Nat) (hi : A.length = i) (h : N < 2 ^ 64) : num (A ++ (be N 8 ++ C)) i = N := by
  subst hi
  unfold num
  rw [List.drop_left, List.take_left' (be_length N 8), val_be]
  omega
theorem read_form (s : SB) (h : s.may = true) : readS s.form = s := by
  rw [SB.may_iff] at h
  obtain ⟨G, B, D, X⟩ := s
  obtain ⟨h1, h2, h3, h4, h5, h6, h7⟩ := h
  dsimp only at h1 h2 h3 h4 h5 h6 h7
  have e1 : num (SB.form ⟨G, B, D, X⟩) 4 = G := num_at [99, 105, 115, 116] _ G 4 rfl (by omega)
  have e2 : num (SB.form ⟨G, B, D, X⟩) 12 = B.toNat := by
    have := num_at ([99, 105, 115, 116] ++ be G 8) (be D 8 ++ (be X 8 ++ (List.replicate 20 0 ++ be G 8))) B.toNat 12 (by simp [be_length]) (by omega)
    rwa [List.append_assoc] at this
  have e3 : num (SB.form ⟨G, B, D, X⟩) 20 = D := by
    have := num_at ([99, 105, 115, 116] ++ (be G 8 ++ be B.toNat 8)) (be X 8 ++ (List.replicate 20 0 ++ be G 8)) D 20 (by simp [be_length]) (by omega)
    rwa [List.append_assoc, List.append_assoc] at this
  have e4 : num (SB.form ⟨G, B, D, X⟩) 28 = X := by
    have := num_at ([99, 105, 115, 116] ++ (be G 8 ++ (be B.toNat 8 ++ be D 8))) (List.replicate 20 0 ++ be G 8) X 28 (by simp [be_length]) (by omega)
    rwa [List.append_assoc, List.append_assoc, List.append_assoc] at this
  unfold readS
  rw [e1, e2, e3, e4]
  simp
  omega
/-- Which error, and which superblock. -/
def takeS (l : List UInt8) : Nat × SB :=
  if l.length < 64 then (4, SB.none) else if 64 < l.length then (3, SB.none)
  else if (readS l).may = true ∧ (readS l).form = l then (0, readS l) else (23, SB.none)
theorem take_form (s : SB) (h : s.may = true) : takeS s.form = (0, s) := by
  unfold takeS
  rw [if_neg (by rw [s.form_length]; omega), if_neg (by rw [s.form_length]; omega), read_form s h, if_pos ⟨h, rfl⟩]
theorem take_cases (l : List UInt8) : ((takeS l).1 = 0 ∧ (takeS l).2.may = true ∧ (takeS l).2.form = l) ∨ ((takeS l).1 ≠ 0 ∧ (takeS l).2 = SB.none ∧ (l.length = 64 → (takeS l).1 = 23)) := by
  unfold takeS
  split
  · exact .inr ⟨by decide, rfl, fun h => by omega⟩
  · split
    · exact .inr ⟨by decide, rfl, fun h => by omega⟩
    · split
      · rename_i h
        exact .inl ⟨rfl, h.1, h.2⟩
      · exact .inr ⟨by decide, rfl, fun _ => rfl⟩
theorem SB.wide_of_may {s : SB} (h : s.may = true) : s.Wide := by
  rw [SB.may_iff] at h
  exact ⟨by omega, by omega, by omega⟩
/-- Whether a slot's bytes stand in their slot. -/
def inSlot (x : Nat × SB) (k : Nat) : Bool := decide (x.1 = 0) && decide (x.2.G % 2 = k)
def chooseS (a b : List UInt8) : SB × Nat × Nat :=
  if inSlot (takeS a) 0 = true ∧ (inSlot (takeS b) 1 = false ∨ (takeS b).2.G < (takeS a).2.G) then ((takeS a).2, 0, 0)
  else if inSlot (takeS b) 1 = true then ((takeS b).2, 1, 0) else (SB.none, 0, 23)

end Go.Proofs.YtoeijomelabbfaaGreatDoor

/- Package order: Put and Get. -/


namespace Go.Proofs.YtoeijomelabbfaaGreatDoor
set_option maxRecDepth 200000
open Go.RowKit
set_option linter.unusedVariables false

def okB (n : Int) : Bool := decide (1 ≤ n) && decide (n ≤ 8)
theorem sized_any (n : Int) (w : World) :
    Calls Tryz.prog 217 #[.int .i64 n] w fun e w' => e = .returned (.bool (okB n)) ∧ w = w' := by
  by_cases h1 : 1 ≤ n
  · by_cases h2 : n ≤ 8
    · have : okB n = true := by simp [okB, h1, h2]
      rw [this]; clear this
      go_enter Tryz.func217, Tryz.ntmps217
      go_wp2
      go_ret
      exact ⟨rfl, rfl⟩
    · have : okB n = false := by simp [okB, h2]
      rw [this]; clear this
      have h3 : decide (n ≤ 8) = false := by simpa using h2
      go_enter Tryz.func217, Tryz.ntmps217
      go_wp2
      go_ret
      exact ⟨rfl, rfl⟩
  · have : okB n = false := by simp [okB, h1]
    rw [this]; clear this
    have h3 : decide (1 ≤ n) = false := by simpa using h1
    go_enter Tryz.func217, Tryz.ntmps217
    go_wp2
    go_ret
    exact ⟨rfl, rfl⟩
/-! ### Put -/
def PutPost (w : World) (ys : List Value) (e : Ending) (w' : World) : Prop :=
  ∃ ao c, e = .returned (.slice ao ys.length c) ∧ Room w' w.heap.size ao ys.length c ys ∧ Chg [] w w'

set_option maxHeartbeats 400000 in
theorem put_any (ao : Option Addr) (n c : Nat) (xs : List Value) (N : Nat) (size : Nat) (w : World) (hx : Reads w ao xs) (hn : xs.length = n) (hone : ∀ u ∈ xs, u.oneCell' = true) (hle : n ≤ 140737488355000) (h1 : 1 ≤ size) (h8 : size ≤ 8) (hN : N < 2 ^ 64) :
    Calls Tryz.prog 203 #[.slice ao n c, .int .u64 N, .int .i64 size] w (PutPost w (xs ++ bts (be N size))) := by
  have hok : okB size = true := by simp [okB]; omega
  go_enter Tryz.func203, Tryz.ntmps203
  go_wp2_with (first | (go_at_call 217; refine (sized_any _ _).mono ?_; rintro e w' ⟨rfl, rfl⟩) | (at_make; refine wpList_make_k _ rfl _ _ 41 rfl 5 1 eltB w.heap.size .i64 .i64 _ (n + size) rfl rfl (by simp) (by omega) (by unfold maxLen; omega) (Nat.le_refl _) ?_; intro w1 hr1 hc1) | (at_builtin; refine wpList_append_k _ rfl (.tmp 17) (.tmp 18) 41 rfl 5 1 eltB w.heap.size _ 0 (n + size) [] rfl hr1 hc1.size ao n c xs rfl (hx.chg hc1 (by simp)) hn hone (by unfold maxLen; omega) (by omega) ?_; intro ao2 c2 w2 hr2 hc2 hf2))
  go_loopw [7, 8] (fun v i wr => ∃ k ao3 c3, k ≤ size ∧ i = .int .i64 (prev k) ∧ v = .slice ao3 (n + (size - k)) c3 ∧ Room wr w.heap.size ao3 (n + (size - k)) c3 (xs ++ bts (be (N / 256 ^ k) (size - k))) ∧ Chg [] w wr) (fun _ i _ => (Go.RowKit.intOf i + 1).toNat)
  case atStart => exact ⟨size, ao2, c2, Nat.le_refl _, rfl, by simp, by simpa [be, bts] using hr2, hc1.own hc2 hr1⟩
  case round =>
    obtain ⟨k, ao3, c3, hk, rfl, rfl, hr3, hc3⟩ := hrel
    cases k with
    | zero =>
      simp only [prev_zero]
      go_wp2
      go_ret
      simp only [Nat.sub_zero, Nat.pow_zero, Nat.div_one] at hr3 ⊢
      have hl : (xs ++ bts (be N size)).length = n + size := by simp [bts_length, be_length, hn]
      exact ⟨ao3, c3, by rw [hl]; rfl, by rw [hl]; exact hr3, hc3⟩
    | succ j =>
      simp only [prev_succ]
      go_wp2_with (first | (at_builtin; refine wpList_append_1 wr rfl (.tmp 26) (.tmp 32) 41 rfl 5 1 eltB w.heap.size ao3 (n + (size - (j + 1))) c3 _ rfl hr3 hc3.size (.int .u8 ((N : Int) / 2 ^ (8 * j) % 256)) 1 rfl rfl (by unfold maxLen; omega) (by omega) ?_; intro ao4 c4 w4 hr4 hc4 hf4))
      go_roundw
      case rel =>
        refine ⟨j, ao4, c4, by omega, rfl, by rw [show size - j = size - (j + 1) + 1 by omega]; rfl, ?_, hc3.own hc4 hr3⟩
        have e : be (N / 256 ^ j) (size - j) = be (N / 256 ^ (j + 1)) (size - (j + 1)) ++ [UInt8.ofNat (N / 256 ^ j)] := by
          rw [show size - j = size - (j + 1) + 1 by omega, be_snoc, Nat.div_div_eq_div_mul, Nat.pow_succ]
        rw [show size - j = size - (j + 1) + 1 by omega] at e ⊢
        rw [e]
        have e2 := shr_byte N j
        rw [e2] at hr4
        simpa [bts, List.append_assoc, Nat.add_assoc] using hr4
      case measure => simp [Go.RowKit.intOf]

/-! ### Get -/
def GetPost (w : World) (l : List UInt8) (size : Nat) (e : Ending) (w' : World) : Prop :=
  e = .returned (.tuple #[.int .u64 (val (l.take size)), .int .i64 0]) ∧ w = w'
set_option maxHeartbeats 400000 in
theorem get_yes (ao : Option Addr) (n c : Nat) (l : List UInt8) (size : Nat) (w : World) (hx : Reads w ao (bts l)) (hn : l.length = n) (hc : n ≤ c) (hle : c ≤ maxLen) (h1 : 1 ≤ size) (h8 : size ≤ 8) (hl : size ≤ n) :
    Calls Tryz.prog 205 #[.slice ao n c, .int .i64 size] w (GetPost w l size) := by
  have hok : okB size = true := by simp [okB]; omega
  unfold maxLen at hle
  go_enter Tryz.func205, Tryz.ntmps205
  go_wp2_with (first | (go_at_call 217; refine (sized_any _ _).mono ?_; rintro e w' ⟨rfl, rfl⟩))
  go_loop [6, 20] (fun v i => ∃ k : Nat, k ≤ size ∧ i = .int .i64 k ∧ v = .int .u64 (val (l.take k))) (fun _ i => size - (Go.RowKit.intOf i).toNat)
  case atStart => exact ⟨0, Nat.zero_le _, rfl, rfl⟩
  case round =>
    obtain ⟨k, hk, rfl, rfl⟩ := hrel
    by_cases hlt : k < size
    · obtain ⟨b, o, rfl, hc⟩ := hx (by simp [bts_length]; omega)
      have hcell := hc k _ (bts_get l k (by omega))
      clear hc
      go_wp2
      go_round
      case rel =>
        refine ⟨k + 1, by omega, by go_num, ?_⟩
        rw [val_take_succ l k (by omega), or_byte _ _ (val_take_lt l k (by omega))]
      case measure => simp [Go.RowKit.intOf]; omega
    · have : k = size := by omega
      subst this
      go_wp2
      go_ret2
      exact ⟨rfl, rfl⟩

end Go.Proofs.YtoeijomelabbfaaGreatDoor

/- The contracts of package stamp's own calls: parts, numbers laid and told. -/




namespace Go.Proofs.YtoeijomelabbfaaGreatDoor
set_option maxRecDepth 200000
open Go.RowKit
set_option linter.unusedVariables false
set_option linter.unusedSimpArgs false

theorem part_any (b o n c f m : Nat) (F H : Int) (hF : F = (f : Int)) (hH : H = ((f + m : Nat) : Int)) (hm : 0 < m) (hc : f + m ≤ c) (w : World) :
    Calls Tryz.prog 188 #[.slice (some ⟨b, o, none⟩) n c, .int .i64 F, .int .i64 H] w fun e w' => e = .returned (.slice (some ⟨b, o + f, none⟩) m m) ∧ w = w' := by
  have hr : ∀ u : World, (Instr.slice 41 (.slice (some ⟨b, o, none⟩) n c) (some (.int .i64 F)) (some (.int .i64 H)) (some (.int .i64 H))).run Tryz.prog u = .ok (.slice (some ⟨b, o + f, none⟩) m m) u := by
    intro u
    have hs : (Tryz.prog.info? 5).map (·.size) = some 1 := by kernel_rfl
    obtain ⟨i, hi, hi1⟩ := Option.map_eq_some_iff.1 hs
    have he : Tryz.prog.elem 41 = 5 := by simp [Program.elem, Tryz.underlying41]
    rw [run_slice_lhm u 41 _ n c (by rw [he]; exact Tryz.underlying41) .i64 .i64 .i64 F H H (by omega) (by omega) (by omega) (by omega), he]
    have e1 : H.toNat = f + m := by omega
    have e0 : F.toNat = f := by omega
    have e2 : ¬ f + m = f := by omega
    have e3 : ¬ m = 0 := by omega
    simp [sizeOf, typeInfo, hi, hi1, sliced, e0, e1, e2, e3, Addr.add_lit]
  clear hF hH
  go_enter Tryz.func188, Tryz.ntmps188
  go_wp2_with fail
  go_ret
  exact ⟨rfl, rfl⟩

/-- The number by which a place is told. -/
def pn (k : Int) : Nat := (k % 18446744073709551616).toNat
theorem pn_lt (k : Int) : pn k < 2 ^ 64 := by unfold pn; omega
theorem pn_eq (k : Int) : IntKind.u64.wrap k = (pn k : Int) := by rw [IntKind.wrap_u64]; unfold pn; omega
theorem place_any (k : Int) (w : World) : Calls Tryz.prog 189 #[.int .i64 k] w fun e w' => e = .returned (.int .u64 (pn k)) ∧ w = w' := by
  have h := pn_eq k
  go_enter Tryz.func189, Tryz.ntmps189
  go_wp2_with fail
  go_ret
  exact ⟨rfl, rfl⟩

theorem told_any (b o k : Nat) (l : List UInt8) (hl : l.length = k) (h1 : 1 ≤ k) (h8 : k ≤ 8) (w : World) (g : Reads w (some ⟨b, o, none⟩) (bts l)) :
    Calls Tryz.prog 194 #[.slice (some ⟨b, o, none⟩) k k] w fun e w' => e = .returned (.int .u64 (val l)) ∧ w = w' := by
  go_enter Tryz.func194, Tryz.ntmps194
  go_wp2_with (first | (go_at_call 205; refine (get_yes _ k k l k _ g hl (Nat.le_refl _) (by unfold maxLen; omega) h1 h8 (Nat.le_refl _)).mono ?_; rintro e w' ⟨rfl, rfl⟩))
  go_ret
  rw [List.take_of_length_le (by omega)]
  exact ⟨rfl, rfl⟩

theorem lay_any (b o k N : Nat) (h1 : 1 ≤ k) (h8 : k ≤ 8) (hN : N < 2 ^ 64) (w : World) (hth : w.there b o k) :
    Calls Tryz.prog 187 #[.slice (some ⟨b, o, none⟩) k k, .int .u64 N] w fun e w' => e = .returned (.tuple #[]) ∧ ∃ w1, Chg [] w w1 ∧ w' = w1.setCells b o (bts (be N k)) := by
  go_enter Tryz.func187, Tryz.ntmps187
  go_wp2_with (first | (go_at_call 203; refine (put_any none 0 0 [] N k _ (Reads.nil _ _) rfl (by simp) (by decide) h1 h8 hN).mono ?_; rintro e w1 ⟨a1, c1, rfl, hr1, hg1⟩; simp only [List.nil_append] at hr1; have hlen : (bts (be N k)).length = k := by rw [bts_length, be_length]) | (refine wpList_copy_k rfl (.tmp 4) (.tmp 8) 41 41 5 rfl Tryz.underlying41 oneB b o k k a1 _ c1 (bts (be N k)) rfl rfl hr1.reads (by rw [hlen]; exact (Nat.min_self _).symm) (by rw [hlen]; exact there_chg hth hg1 (by simp)) (bts_one _) ?_))
  go_end0
  exact ⟨rfl, _, hg1, rfl⟩

theorem sumOf_any (b o n c : Nat) (l : List UInt8) (hl : 252 ≤ l.length) (hc : l.length ≤ c) (w : World) (hT : Tab w) (g : Reads w (some ⟨b, o, none⟩) (bts l)) :
    Calls Tryz.prog 190 #[.slice (some ⟨b, o, none⟩) n c] w fun e w' => e = .returned (.int .u64 ((csum (l.take 252)).toNat)) ∧ Chg [] w w' := by
  have hS : ((csum (l.take 252)).toNat : Int) = v32 (csum (l.take 252)) := rfl
  rw [hS]
  have h0 := v32_lt (csum (l.take 252))
  have hg : Reads w (some ⟨b, o, none⟩) (bts (l.take 252)) := by rw [← bts_take]; exact g.take 252
  go_enter Tryz.func190, Tryz.ntmps190
  go_wp2_with (first | (go_at_call 188; refine (part_any b o n c 0 252 0 252 rfl rfl (by decide) (by omega) _).mono ?_; rintro e w' ⟨rfl, rfl⟩) | (go_at_call 204; refine (sum_any _ 252 252 (l.take 252) _ hT hg (by simp; omega) (by decide)).mono ?_; rintro e w1 ⟨rfl, hg1⟩))
  go_ret
  exact ⟨rfl, hg1⟩
theorem sumOf_as (b o n c : Nat) (l : List UInt8) (X : Nat) (hX : (csum (l.take 252)).toNat = X) (hl : 252 ≤ l.length) (hc : l.length ≤ c) (w : World) (hT : Tab w) (g : Reads w (some ⟨b, o, none⟩) (bts l)) :
    Calls Tryz.prog 190 #[.slice (some ⟨b, o, none⟩) n c] w fun e w' => e = .returned (.int .u64 X) ∧ Chg [] w w' := by
  subst hX
  exact sumOf_any b o n c l hl hc w hT g
end Go.Proofs.YtoeijomelabbfaaGreatDoor
