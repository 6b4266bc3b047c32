/- What is got is what was put last, or what the disk had: a cache and its disk, as one. -/
import Derived.Test.YtdmhcbbakgljoaaKh
namespace Go.Proofs.Ytdmhcbbakgljoaa
open Go.RowKit Go.Maps
set_option linter.unusedVariables false
set_option linter.unusedSimpArgs false

/-- The bytes of a block, wherever they are. -/
def kval (K : List KE) (st : RS) (a : Nat) : List UInt8 := match kfind K a with | some e => e.bs | none => reads st a 4
theorem kval_some {K : List KE} {st : RS} {a : Nat} {e : KE} (h : kfind K a = some e) : kval K st a = e.bs := by unfold kval; rw [h]
theorem kval_none {K : List KE} {st : RS} {a : Nat} (h : kfind K a = none) : kval K st a = reads st a 4 := by unfold kval; rw [h]
structure Good (n : Nat) (K : List KE) (st : RS) : Prop where
  nd : (K.map KE.pl).Nodup
  lt : ∀ e ∈ K, e.pl < n
  len : ∀ e ∈ K, e.bs.length = 256
  cl : ∀ e ∈ K, e.dirty = false → e.bs = reads st e.pl 4
  g : st.gone = false
  l : st.left = 0
  c : st.count = n
theorem Good.why {n : Nat} {K : List KE} {st : RS} (h : Good n K st) {a : Nat} (ha : a < n) : whyN st (a : Int) = 0 := by
  unfold whyN
  rw [h.g, h.c, if_neg (by decide), if_neg (by omega)]
theorem kfind_cons (x : KE) (K : List KE) (a : Nat) : kfind (x :: K) a = if a = x.pl then some x else kfind K a := by
  unfold kfind
  rw [List.find?_cons]
  by_cases h : a = x.pl
  · rw [if_pos h]; simp [h]
  · have : (x.pl == a) = false := by simpa using fun e => h e.symm
    rw [if_neg h, this]
theorem kfind_not {K : List KE} {a : Nat} (h : a ∉ K.map KE.pl) : kfind K a = none := by
  cases hf : kfind K a with
  | none => rfl
  | some e =>
    obtain ⟨h1, h2⟩ := kfind_some hf
    exact absurd (List.mem_map.2 ⟨e, h1, h2⟩) h
/-- Room is made. -/
theorem Good.room {n : Nat} {K : List KE} {st : RS} (h : Good n K st) (most : Nat) (hm : 1 ≤ most) (hl : K.length ≤ most) :
    ∃ K' st', kroom most K st = (0, K', st') ∧ Good n K' st' ∧ K'.length < most ∧ (∀ a, kval K' st' a = kval K st a) ∧ (∀ a, kfind K a = none → kfind K' a = none ∧ reads st' a 4 = reads st a 4) ∧ st'.L.length ≤ st.L.length + 4 := by
  by_cases hlt : K.length < most
  · exact ⟨K, st, kroom_room hlt, h, hlt, fun _ => rfl, fun a hf => ⟨hf, rfl⟩, Nat.le_add_right _ _⟩
  · cases K with
    | nil => simp at hlt; omega
    | cons x T =>
      have hx := h.lt x (by simp)
      have hxl := h.len x (by simp)
      have hnd := h.nd
      rw [List.map_cons, List.nodup_cons] at hnd
      have hT : kfind T x.pl = none := kfind_not hnd.1
      have hlen : T.length < most := by simp at hl; omega
      have key : ∀ st', st'.gone = false → st'.left = 0 → st'.count = n → (∀ a, reads st' a 4 = if a = x.pl then x.bs else reads st a 4) → Good n T st' ∧ (∀ a, kval T st' a = kval (x :: T) st a) ∧ (∀ a, kfind (x :: T) a = none → kfind T a = none ∧ reads st' a 4 = reads st a 4) := by
        intro st' g1 g2 g3 hr
        refine ⟨⟨hnd.2, fun e he => h.lt e (by simp [he]), fun e he => h.len e (by simp [he]), fun e he hd => ?_, g1, g2, g3⟩, fun a => ?_, fun a hf => ?_⟩
        · rw [hr, if_neg (fun e1 => hnd.1 (by rw [← e1]; exact List.mem_map.2 ⟨e, he, rfl⟩))]
          exact h.cl e (by simp [he]) hd
        · by_cases e1 : a = x.pl
          · subst e1
            rw [kval_none hT, hr, if_pos rfl, kval_some (e := x) (by rw [kfind_cons, if_pos rfl])]
          · unfold kval
            rw [kfind_cons, if_neg e1]
            cases kfind T a with
            | some e => rfl
            | none => simp only; rw [hr, if_neg e1]
        · rw [kfind_cons] at hf
          by_cases e1 : a = x.pl
          · rw [if_pos e1] at hf; cases hf
          · rw [if_neg e1] at hf
            exact ⟨hf, by rw [hr, if_neg e1]⟩
      cases hd : x.dirty with
      | false =>
        have hw : kwrote x st = (0, st) := by unfold kwrote; rw [hd]; rfl
        obtain ⟨k1, k2, k3⟩ := key st h.g h.l h.c (fun a => by
          by_cases e1 : a = x.pl
          · rw [if_pos e1, e1]; exact (h.cl x (by simp) hd).symm
          · rw [if_neg e1])
        exact ⟨T, st, by rw [kroom_ok (by simpa using hlt) (by rw [hw]), hw], k1, hlen, k2, k3, Nat.le_add_right _ _⟩
      | true =>
        have hw : kwrote x st = (0, { st with L := st.L ++ flies x.pl x.bs 4 }) := by
          unfold kwrote
          rw [hd, if_pos rfl, write_plain st x.pl x.bs h.g h.l (by rw [h.c]; exact hx) hxl]
        obtain ⟨k1, k2, k3⟩ := key { st with L := st.L ++ flies x.pl x.bs 4 } h.g h.l h.c (fun a => reads_written st x.pl a x.bs hxl)
        exact ⟨T, _, by rw [kroom_ok (by simpa using hlt) (by rw [hw]), hw], k1, hlen, k2, k3, by show (st.L ++ flies x.pl x.bs 4).length ≤ _; rw [List.length_append, flies_len]; exact Nat.le_refl _⟩
theorem kset_none {K : List KE} {x : KE} (h : kfind K x.pl = none) : kset K x = K ++ [x] := by unfold kset; rw [kdrop_none h]
theorem kval_set (K : List KE) (st : RS) (x : KE) (a : Nat) : kval (kset K x) st a = if a = x.pl then x.bs else kval K st a := by
  unfold kval
  rw [kfind_set]
  by_cases h : a = x.pl
  · rw [if_pos h, if_pos h]
  · rw [if_neg h, if_neg h]
theorem Good.set {n : Nat} {K : List KE} {st : RS} (h : Good n K st) (x : KE) (hx : x.pl < n) (hl : x.bs.length = 256) (hc : x.dirty = false → x.bs = reads st x.pl 4) : Good n (kset K x) st := by
  refine ⟨kset_nodup _ h.nd, fun e he => ?_, fun e he => ?_, fun e he hd => ?_, h.g, h.l, h.c⟩
  · rcases kset_mem K _ he with h1 | rfl
    · exact h.lt e h1.1
    · exact hx
  · rcases kset_mem K _ he with h1 | rfl
    · exact h.len e h1.1
    · exact hl
  · rcases kset_mem K _ he with h1 | rfl
    · exact h.cl e h1.1 hd
    · exact hc hd
theorem Good.put {n : Nat} {K : List KE} {st : RS} (h : Good n K st) (most : Nat) (hm : 1 ≤ most) (hl : K.length ≤ most) {a : Nat} (ha : a < n) {b : List UInt8} (hb : b.length = 256) :
    ∃ K' st', kput most K st (a : Int) b = (0, K', st') ∧ Good n K' st' ∧ K'.length ≤ most ∧ (∀ x, kval K' st' x = if x = a then b else kval K st x) ∧ st'.L.length ≤ st.L.length + 4 := by
  unfold kput
  rw [if_neg (by simp [h.why ha]), if_neg (by simp [hb]), Int.toNat_natCast]
  cases hf : kfind K a with
  | some y => exact ⟨kset K ⟨a, b, true⟩, st, rfl, h.set _ ha hb (fun h => by cases h), Nat.le_trans (kset_len (x := ⟨a, b, true⟩) hf) hl, fun x => kval_set K st ⟨a, b, true⟩ x, Nat.le_add_right _ _⟩
  | none =>
    obtain ⟨K1, st1, e1, g1, l1, v1, f1, b1⟩ := h.room most hm hl
    simp only
    rw [e1, if_pos rfl]
    have hf1 := (f1 a hf).1
    refine ⟨kset K1 ⟨a, b, true⟩, st1, by rw [kset_none (x := ⟨a, b, true⟩) hf1], g1.set _ ha hb (fun h => by cases h), ?_, fun x => ?_, b1⟩
    · rw [kset_none (x := ⟨a, b, true⟩) hf1, List.length_append, List.length_singleton]; omega
    · rw [kval_set, v1]
theorem Good.get {n : Nat} {K : List KE} {st : RS} (h : Good n K st) (most : Nat) (hm : 1 ≤ most) (hl : K.length ≤ most) {a : Nat} (ha : a < n) (hr : (reads st a 4).length = 256) :
    ∃ K' st', kget most K st (a : Int) = (0, kval K st a, K', st') ∧ Good n K' st' ∧ K'.length ≤ most ∧ (∀ x, kval K' st' x = kval K st x) ∧ st'.L.length ≤ st.L.length + 4 := by
  unfold kget
  rw [if_neg (by simp [h.why ha]), Int.toNat_natCast]
  cases hf : kfind K a with
  | some y =>
    obtain ⟨h1, h2⟩ := kfind_some hf
    refine ⟨kset K y, st, ?_, h.set y (h.lt y h1) (h.len y h1) (fun hd => h.cl y h1 hd), Nat.le_trans (kset_len (x := y) (by rw [h2]; exact hf)) hl, fun x => ?_, Nat.le_add_right _ _⟩
    · simp only
      rw [kval_some hf]
      unfold kset
      rw [h2]
    · rw [kval_set]
      by_cases e : x = y.pl
      · rw [if_pos e, e, h2, kval_some hf]
      · rw [if_neg e]
  | none =>
    obtain ⟨K1, st1, e1, g1, l1, v1, f1, b1⟩ := h.room most hm hl
    simp only
    rw [e1, if_pos rfl]
    obtain ⟨hf1, hr1⟩ := f1 a hf
    refine ⟨kset K1 ⟨a, reads st a 4, false⟩, st1, by rw [kset_none (x := ⟨a, reads st a 4, false⟩) hf1, kval_none hf], g1.set _ ha hr (fun _ => hr1.symm), ?_, fun x => ?_, b1⟩
    · rw [kset_none (x := ⟨a, reads st a 4, false⟩) hf1, List.length_append, List.length_singleton]; omega
    · rw [kval_set]
      show (if x = a then _ else _) = _
      by_cases e : x = a
      · rw [if_pos e, e, kval_none hf]
      · rw [if_neg e, v1]
/-! ### flush -/
theorem reads_laid : ∀ (r : List KE) (st : RS), (r.map KE.pl).Nodup → (∀ e ∈ r, e.bs.length = 256) → ∀ a, reads { st with L := st.L ++ laidL r } a 4 = match kfind r a with | some e => e.bs | none => reads st a 4 := by
  intro r
  induction r with
  | nil =>
    intro st _ _ a
    show reads { st with L := st.L ++ [] } a 4 = reads st a 4
    rw [List.append_nil]
  | cons x r ih =>
    intro st hn hl a
    rw [List.map_cons, List.nodup_cons] at hn
    have h1 := ih { st with L := st.L ++ flies x.pl x.bs 4 } hn.2 (fun e he => hl e (by simp [he])) a
    have h2 : ({ st with L := st.L ++ laidL (x :: r) } : RS) = { st with L := (st.L ++ flies x.pl x.bs 4) ++ laidL r } := by
      unfold laidL
      rw [List.flatMap_cons, List.append_assoc]
    rw [h2]
    refine h1.trans ?_
    rw [kfind_cons]
    by_cases e : a = x.pl
    · rw [if_pos e, e, kfind_not hn.1]
      show reads { st with L := st.L ++ flies x.pl x.bs 4 } x.pl 4 = x.bs
      rw [reads_written _ _ _ _ (hl x (by simp)), if_pos rfl]
    · rw [if_neg e]
      cases kfind r a with
      | some y => rfl
      | none =>
        show reads { st with L := st.L ++ flies x.pl x.bs 4 } a 4 = reads st a 4
        rw [reads_written _ _ _ _ (hl x (by simp)), if_neg e]
theorem kdirty_nodup {K : List KE} (h : (K.map KE.pl).Nodup) : ((kdirty K).map KE.pl).Nodup := (kplaces_rising K h).imp (fun h => Nat.ne_of_lt h)
theorem kdirty_find {K : List KE} (h : (K.map KE.pl).Nodup) (a : Nat) : kfind (kdirty K) a = (kfind K a).bind (fun e => if e.dirty then some e else none) := by
  cases hf : kfind K a with
  | none =>
    show _ = none
    exact kfind_not (fun hm => by
      obtain ⟨e, he, rfl⟩ := List.mem_map.1 hm
      rw [kfind_mem h (kdirty_mem.1 he).1] at hf
      cases hf)
  | some e =>
    obtain ⟨h1, rfl⟩ := kfind_some hf
    show _ = if e.dirty then some e else none
    by_cases hd : e.dirty = true
    · rw [if_pos hd]
      exact kfind_mem (kdirty_nodup h) (kdirty_mem.2 ⟨h1, hd⟩)
    · rw [if_neg hd]
      refine kfind_not (fun hm => ?_)
      obtain ⟨y, hy, e1⟩ := List.mem_map.1 hm
      obtain ⟨hy1, hy2⟩ := kdirty_mem.1 hy
      have := kfind_mem h hy1
      rw [e1, hf] at this
      cases this
      exact hd hy2
theorem Good.flush {n : Nat} {K : List KE} {st : RS} (h : Good n K st) :
    ∃ st', kflush K st = (0, kall K, st') ∧ Good n (kall K) st' ∧ (∀ x, kval (kall K) st' x = kval K st x) ∧ st'.L.length ≤ st.L.length + 4 * K.length := by
  have hr : ∀ a, reads { st with L := st.L ++ laidL (kdirty K) } a 4 = match kfind (kdirty K) a with | some e => e.bs | none => reads st a 4 := reads_laid (kdirty K) st (kdirty_nodup h.nd) (fun e he => h.len e (kdirty_mem.1 he).1)
  refine ⟨{ st with L := st.L ++ laidL (kdirty K) }, kflush_calm K st h.g h.l (fun e he => ⟨by rw [h.c]; exact h.lt e he, h.len e he⟩), ⟨by rw [kall_pl]; exact h.nd, fun e he => ?_, fun e he => ?_, fun e he _ => ?_, h.g, h.l, h.c⟩, fun x => ?_, ?_⟩
  · obtain ⟨y, hy, rfl⟩ := List.mem_map.1 he
    exact h.lt y hy
  · obtain ⟨y, hy, rfl⟩ := List.mem_map.1 he
    exact h.len y hy
  · obtain ⟨y, hy, rfl⟩ := List.mem_map.1 he
    show y.bs = _
    rw [hr, kdirty_find h.nd, kfind_mem h.nd hy]
    cases hd : y.dirty with
    | true => simp [hd]
    | false => simp [hd]; exact h.cl y hy hd
  · unfold kval
    rw [kall_find]
    cases hf : kfind K x with
    | some e => rfl
    | none =>
      show reads _ x 4 = reads st x 4
      rw [hr, kdirty_find h.nd, hf]
      rfl
  · show (st.L ++ laidL (kdirty K)).length ≤ _
    rw [List.length_append, laidL_len]
    have : (kdirty K).length ≤ K.length := by
      unfold kdirty krising
      exact Nat.le_trans (List.length_filter_le _ _) (Nat.le_of_eq (List.length_mergeSort K))
    omega
theorem Good.drop {n : Nat} {K : List KE} {st : RS} (h : Good n K st) : Good n [] st := ⟨by simp, by simp, by simp, by simp, h.g, h.l, h.c⟩
theorem kplaces_len (K : List KE) : (kplaces K).length ≤ K.length := by
  unfold kplaces kdirty krising
  rw [List.length_map]
  exact Nat.le_trans (List.length_filter_le _ _) (Nat.le_of_eq (List.length_mergeSort K))
theorem kall_places (K : List KE) : kplaces (kall K) = [] := by unfold kplaces; rw [kall_dirty]; rfl
/-- Behind a flush all is on the disk. -/
theorem Good.all {n : Nat} {K : List KE} {st : RS} (h : Good n (kall K) st) (a : Nat) : kval (kall K) st a = reads st a 4 := by
  unfold kval
  cases hf : kfind (kall K) a with
  | none => rfl
  | some e =>
    obtain ⟨h1, rfl⟩ := kfind_some hf
    refine h.cl e h1 ?_
    obtain ⟨y, _, rfl⟩ := List.mem_map.1 h1
    rfl
/-! ### the barrier -/
theorem settle_get : ∀ (L : List (Nat × List UInt8)) (S : List (List UInt8)), (∀ l ∈ S, l.length = 64) → (∀ f ∈ L, f.2.length = 64 ∧ f.1 < S.length) → ∀ s, s < S.length → (settle S L).getD s [] = lastOf s (S.getD s []) L := by
  intro L
  induction L with
  | nil => intro S _ _ s _; rfl
  | cons f L ih =>
    intro S hS hL s hs
    have hf := hL f (by simp)
    have hg : (S.getD f.1 []).length = 64 := by
      rw [List.getD_eq_getElem?_getD, List.getElem?_eq_getElem hf.2]
      exact hS _ (List.getElem_mem hf.2)
    have e1 : settle S (f :: L) = settle (S.set f.1 f.2) L := by
      show settle (laid S f.1 f.2 64) L = _
      rw [laid_all S f.1 f.2 hf.1 (Nat.le_of_eq hg)]
    have e2 : lastOf s (S.getD s []) (f :: L) = lastOf s (if f.1 = s then f.2 else S.getD s []) L := rfl
    rw [e1, e2, ih (S.set f.1 f.2) (fun l hl => by
      rcases List.mem_or_eq_of_mem_set hl with h | h
      · exact hS l h
      · rw [h]; exact hf.1) (fun x hx => by rw [List.length_set]; exact hL x (by simp [hx])) s (by rw [List.length_set]; exact hs)]
    congr 1
    rw [List.getD_eq_getElem?_getD]
    by_cases h : f.1 = s
    · rw [if_pos h, h, List.getElem?_set_self hs]
      rfl
    · rw [if_neg h, List.getElem?_set_ne h, ← List.getD_eq_getElem?_getD]
theorem reads_settled (st : RS) (hS : ∀ l ∈ st.S, l.length = 64) (hL : ∀ f ∈ st.L, f.2.length = 64 ∧ f.1 < st.S.length) (a : Nat) (ha : 4 * a + 4 ≤ st.S.length) : reads { st with S := settle st.S st.L, L := [] } a 4 = reads st a 4 := by
  have e : ∀ s, s < st.S.length → cur { st with S := settle st.S st.L, L := [] } s = cur st s := fun s hs => by
    rw [cur_calm _ rfl]
    exact settle_get st.L st.S hS hL s hs
  rw [reads_four, reads_four, e _ (by omega), e _ (by omega), e _ (by omega), e _ (by omega)]
theorem reads_crashed (st : RS) (hL : st.L = []) (a : Nat) : reads (crash st []) a 4 = reads st a 4 := by
  have e : ∀ s, cur (crash st []) s = cur st s := fun s => by
    rw [cur_calm _ rfl, cur_calm _ hL]
    show (torn st.S (st.L.zip [])).getD s [] = _
    rw [hL]
    rfl
  rw [reads_four, reads_four, e, e, e, e]
end Go.Proofs.Ytdmhcbbakgljoaa
