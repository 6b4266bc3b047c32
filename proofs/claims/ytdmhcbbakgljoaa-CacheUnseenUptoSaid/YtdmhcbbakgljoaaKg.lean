/- What a cache holds, by its blocks: gets, puts, room, flush; what they leave as it was. -/
import Derived.Test.YtdmhcbbakgljoaaKd
namespace Go.Proofs.Ytdmhcbbakgljoaa
open Go.RowKit Go.Maps
set_option linter.unusedVariables false
set_option linter.unusedSimpArgs false

def kset (K : List KE) (e : KE) : List KE := kdrop K e.pl ++ [e]
theorem kfind_drop (K : List KE) (p a : Nat) : kfind (kdrop K p) a = if a = p then none else kfind K a := by
  unfold kfind kdrop
  induction K with
  | nil => simp
  | cons x r ih =>
    rw [List.filter_cons]
    by_cases h : x.pl = p
    · have h1 : (x.pl != p) = false := by simp [h]
      rw [h1, if_neg (by decide), ih]
      by_cases h2 : a = p
      · rw [if_pos h2, if_pos h2]
      · have h3 : (x.pl == a) = false := by rw [h]; simpa using fun e => h2 e.symm
        rw [if_neg h2, if_neg h2, List.find?_cons, h3]
    · have h1 : (x.pl != p) = true := by simp [h]
      rw [h1, if_pos rfl, List.find?_cons, ih, List.find?_cons]
      by_cases h3 : x.pl = a
      · have h4 : (x.pl == a) = true := by simp [h3]
        rw [h4]
        show some x = if a = p then none else some x
        rw [if_neg (by rw [← h3]; exact h)]
      · have h4 : (x.pl == a) = false := by simp [h3]
        rw [h4]
theorem kfind_append (K M : List KE) (a : Nat) : kfind (K ++ M) a = (kfind K a).or (kfind M a) := by
  unfold kfind
  rw [List.find?_append]
theorem kfind_one (e : KE) (a : Nat) : kfind [e] a = if a = e.pl then some e else none := by
  unfold kfind
  by_cases h : a = e.pl
  · rw [if_pos h]; simp [h]
  · have : (e.pl == a) = false := by simpa using fun x => h x.symm
    rw [if_neg h, List.find?_cons, this]
    rfl
theorem kfind_set (K : List KE) (e : KE) (a : Nat) : kfind (kset K e) a = if a = e.pl then some e else kfind K a := by
  unfold kset
  rw [kfind_append, kfind_drop, kfind_one]
  by_cases h : a = e.pl
  · rw [if_pos h, if_pos h, if_pos h]; rfl
  · rw [if_neg h, if_neg h, if_neg h, Option.or_none]
theorem kdrop_none {K : List KE} {a : Nat} (h : kfind K a = none) : kdrop K a = K := List.filter_eq_self.2 (fun x hx => by simpa using kfind_none h x hx)
theorem kfind_mem {K : List KE} (hn : (K.map KE.pl).Nodup) {e : KE} (he : e ∈ K) : kfind K e.pl = some e := by
  unfold kfind
  induction K with
  | nil => cases he
  | cons x r ih =>
    rw [List.map_cons, List.nodup_cons] at hn
    rw [List.find?_cons]
    rcases List.mem_cons.1 he with rfl | h
    · simp
    · have : (x.pl == e.pl) = false := by
        simp only [beq_eq_false_iff_ne, ne_eq]
        intro e1
        exact hn.1 (by rw [e1]; exact List.mem_map.2 ⟨e, h, rfl⟩)
      rw [this]
      exact ih hn.2 h
theorem kdrop_sub (K : List KE) (a : Nat) {e : KE} (h : e ∈ kdrop K a) : e ∈ K ∧ e.pl ≠ a := by
  have := List.mem_filter.1 h
  exact ⟨this.1, by simpa using this.2⟩
theorem kset_mem (K : List KE) (x : KE) {e : KE} (h : e ∈ kset K x) : e ∈ K ∧ e.pl ≠ x.pl ∨ e = x := by
  rcases List.mem_append.1 h with h | h
  · exact Or.inl (kdrop_sub K _ h)
  · exact Or.inr (by simpa using h)
theorem kset_nodup {K : List KE} (x : KE) (h : (K.map KE.pl).Nodup) : ((kset K x).map KE.pl).Nodup := by
  unfold kset
  rw [List.map_append, List.nodup_append]
  refine ⟨(List.Sublist.map _ List.filter_sublist).nodup h, by simp, ?_⟩
  intro a ha b hb e
  obtain ⟨y, hy, rfl⟩ := List.mem_map.1 ha
  simp at hb
  exact (kdrop_sub K _ hy).2 (e.trans hb)
theorem len_sub : ∀ (l m : List Nat), l.Nodup → (∀ x ∈ l, x ∈ m) → l.length ≤ m.length := by
  intro l
  induction l with
  | nil => intro m _ _; exact Nat.zero_le _
  | cons x r ih =>
    intro m hn hs
    rw [List.nodup_cons] at hn
    have hx := hs x (by simp)
    have h1 := ih (m.erase x) hn.2 (fun y hy => (List.mem_erase_of_ne (fun e => hn.1 (by rw [← e]; exact hy))).2 (hs y (by simp [hy])))
    rw [List.length_erase_of_mem hx] at h1
    have := List.length_pos_of_mem hx
    rw [List.length_cons]
    omega
theorem pigeon {K : List KE} {n a : Nat} (hn : (K.map KE.pl).Nodup) (hl : ∀ e ∈ K, e.pl < n) (ha : a < n) (hf : kfind K a = none) : K.length < n := by
  have h1 : (a :: K.map KE.pl).Nodup := List.nodup_cons.2 ⟨fun hm => by
    obtain ⟨e, he, rfl⟩ := List.mem_map.1 hm
    exact kfind_none hf e he rfl, hn⟩
  have h2 := len_sub (a :: K.map KE.pl) (List.range n) h1 (fun x hx => by
    rw [List.mem_range]
    rcases List.mem_cons.1 hx with rfl | hx
    · exact ha
    · obtain ⟨e, he, rfl⟩ := List.mem_map.1 hx
      exact hl e he)
  rw [List.length_cons, List.length_map, List.length_range] at h2
  omega
theorem kdrop_len {K : List KE} {a : Nat} {h : KE} (hf : kfind K a = some h) : (kdrop K a).length < K.length := by
  obtain ⟨h1, h2⟩ := kfind_some hf
  rcases Nat.lt_or_ge (kdrop K a).length K.length with h3 | h3
  · exact h3
  · unfold kdrop at h3
    have h4 := List.length_filter_le (fun e => e.pl != a) K
    have h5 := (List.length_filter_eq_length_iff.1 (Nat.le_antisymm h4 h3)) h h1
    simp [h2] at h5
theorem kset_len {K : List KE} {x h : KE} (hf : kfind K x.pl = some h) : (kset K x).length ≤ K.length := by
  have := kdrop_len hf
  unfold kset
  rw [List.length_append, List.length_singleton]
  omega
/-! ### flush -/
def kall (K : List KE) : List KE := K.map (fun e => ⟨e.pl, e.bs, false⟩)
def laidL (r : List KE) : List (Nat × List UInt8) := r.flatMap (fun e => flies e.pl e.bs 4)
theorem laidL_len (r : List KE) : (laidL r).length = 4 * r.length := by
  unfold laidL
  induction r with
  | nil => rfl
  | cons x r ih => rw [List.flatMap_cons, List.length_append, ih, flies_len, List.length_cons]; omega
theorem kflushL_calm : ∀ (r K : List KE) (st : RS), st.gone = false → st.left = 0 → (∀ e ∈ r, e.pl < st.count ∧ e.bs.length = 256) →
    kflushL r K st = (0, K.map (fun e => if e.pl ∈ r.map KE.pl then ⟨e.pl, e.bs, false⟩ else e), { st with L := st.L ++ laidL r }) := by
  intro r
  induction r with
  | nil =>
    intro K st _ _ _
    unfold kflushL
    simp [laidL]
  | cons x r ih =>
    intro K st hg hl hr
    have hx := hr x (by simp)
    have hw := write_plain st x.pl x.bs hg hl hx.1 hx.2
    unfold kflushL
    rw [if_pos (by rw [hw]), hw]
    show kflushL r (kclean K x.pl) { st with L := st.L ++ flies x.pl x.bs 4 } = _
    rw [ih (kclean K x.pl) { st with L := st.L ++ flies x.pl x.bs 4 } hg hl (fun e he => hr e (by simp [he]))]
    congr 2
    · unfold kclean
      rw [List.map_map]
      refine List.map_congr_left fun e _ => ?_
      obtain ⟨y, hy⟩ : ∃ y, y = (if e.pl = x.pl then (⟨e.pl, e.bs, false⟩ : KE) else e) := ⟨_, rfl⟩
      show (if (if e.pl = x.pl then (⟨e.pl, e.bs, false⟩ : KE) else e).pl ∈ r.map KE.pl then (⟨(if e.pl = x.pl then (⟨e.pl, e.bs, false⟩ : KE) else e).pl, (if e.pl = x.pl then (⟨e.pl, e.bs, false⟩ : KE) else e).bs, false⟩ : KE) else (if e.pl = x.pl then (⟨e.pl, e.bs, false⟩ : KE) else e)) = _
      rw [← hy]
      by_cases h : e.pl = x.pl
      · rw [if_pos h] at hy
        rw [if_pos (show e.pl ∈ (x :: r).map KE.pl by rw [h]; simp), hy]
        split <;> rfl
      · rw [if_neg h] at hy
        have : (e.pl ∈ (x :: r).map KE.pl) ↔ (e.pl ∈ r.map KE.pl) := by simp [h]
        rw [hy]
        by_cases h2 : e.pl ∈ r.map KE.pl
        · rw [if_pos h2, if_pos (this.2 h2)]
        · rw [if_neg h2, if_neg (fun h3 => h2 (this.1 h3))]
    · have hL : (st.L ++ flies x.pl x.bs 4) ++ laidL r = st.L ++ laidL (x :: r) := by
        unfold laidL
        rw [List.flatMap_cons, List.append_assoc]
      rw [← hL]
theorem kdirty_mem {K : List KE} {e : KE} : e ∈ kdirty K ↔ e ∈ K ∧ e.dirty = true := by
  unfold kdirty krising
  rw [List.mem_filter, (List.mergeSort_perm _ _).mem_iff]
theorem kflush_calm (K : List KE) (st : RS) (hg : st.gone = false) (hl : st.left = 0) (hr : ∀ e ∈ K, e.pl < st.count ∧ e.bs.length = 256) : kflush K st = (0, kall K, { st with L := st.L ++ laidL (kdirty K) }) := by
  unfold kflush
  rw [if_neg (by simp [hg]), kflushL_calm (kdirty K) K st hg hl (fun e he => hr e (kdirty_mem.1 he).1)]
  congr 1
  congr 1
  unfold kall
  refine List.map_congr_left fun e he => ?_
  by_cases h : e.pl ∈ (kdirty K).map KE.pl
  · rw [if_pos h]
  · rw [if_neg h]
    have : e.dirty = false := by
      cases hd : e.dirty
      · rfl
      · exact absurd (List.mem_map.2 ⟨e, kdirty_mem.2 ⟨he, hd⟩, rfl⟩) h
    rw [← this]
theorem kall_dirty (K : List KE) : kdirty (kall K) = [] := by
  rw [List.eq_nil_iff_forall_not_mem]
  intro e he
  obtain ⟨h1, h2⟩ := kdirty_mem.1 he
  obtain ⟨x, _, rfl⟩ := List.mem_map.1 h1
  cases h2
theorem kall_find (K : List KE) (a : Nat) : kfind (kall K) a = (kfind K a).map (fun e => ⟨e.pl, e.bs, false⟩) := by
  unfold kfind kall
  rw [List.find?_map]
  rfl
theorem kall_pl (K : List KE) : (kall K).map KE.pl = K.map KE.pl := by
  unfold kall
  rw [List.map_map]
  rfl
/-! ### the places of the dirty blocks, rising -/
theorem rising_eq : ∀ (l m : List Nat), l.Pairwise (· < ·) → m.Pairwise (· < ·) → (∀ x, x ∈ l ↔ x ∈ m) → l = m := by
  intro l
  induction l with
  | nil =>
    intro m _ _ h
    cases m with
    | nil => rfl
    | cons y s => exact absurd ((h y).2 (by simp)) (by simp)
  | cons x r ih =>
    intro m hl hm h
    cases m with
    | nil => exact absurd ((h x).1 (by simp)) (by simp)
    | cons y s =>
      rw [List.pairwise_cons] at hl hm
      have e : x = y := by
        have h1 := (h x).1 (by simp)
        have h2 := (h y).2 (by simp)
        rcases List.mem_cons.1 h1 with e | e1
        · exact e
        · rcases List.mem_cons.1 h2 with e | e2
          · exact e.symm
          · have := hl.1 y e2
            have := hm.1 x e1
            omega
      subst e
      congr 1
      refine ih s hl.2 hm.2 (fun z => ?_)
      constructor
      · intro hz
        have := hl.1 z hz
        exact (List.mem_cons.1 ((h z).1 (by simp [hz]))).resolve_left (by omega)
      · intro hz
        have := hm.1 z hz
        exact (List.mem_cons.1 ((h z).2 (by simp [hz]))).resolve_left (by omega)
theorem kplaces_rising (K : List KE) (hn : (K.map KE.pl).Nodup) : (kplaces K).Pairwise (· < ·) := by
  have hs : (krising K).Pairwise (fun x y => decide (x.pl ≤ y.pl) = true) := by
    unfold krising
    exact List.pairwise_mergeSort (by intro a b c h1 h2; simp at *; omega) (by intro a b; simp; omega) _
  have hd : ((krising K).map KE.pl).Nodup := ((List.mergeSort_perm K _).map _).nodup_iff.2 hn
  have h1 : ((krising K).map KE.pl).Pairwise (· < ·) := by
    rw [List.pairwise_map]
    rw [List.Nodup, List.pairwise_map] at hd
    refine (hs.and hd).imp ?_
    intro a b ⟨h1, h2⟩
    simp at h1
    omega
  unfold kplaces kdirty
  exact h1.sublist (List.Sublist.map _ List.filter_sublist)
theorem kplaces_mem {K : List KE} (hn : (K.map KE.pl).Nodup) {a : Nat} : a ∈ kplaces K ↔ ∃ e, kfind K a = some e ∧ e.dirty = true := by
  unfold kplaces
  rw [List.mem_map]
  constructor
  · rintro ⟨e, he, rfl⟩
    obtain ⟨h1, h2⟩ := kdirty_mem.1 he
    exact ⟨e, kfind_mem hn h1, h2⟩
  · rintro ⟨e, he, hd⟩
    obtain ⟨h1, h2⟩ := kfind_some he
    exact ⟨e, kdirty_mem.2 ⟨h1, hd⟩, h2⟩
theorem kplaces_range (K : List KE) (hn : (K.map KE.pl).Nodup) (n : Nat) (hl : ∀ e ∈ K, e.pl < n) (D : Nat → Bool) (hD : ∀ a, a < n → (D a = true ↔ ∃ e, kfind K a = some e ∧ e.dirty = true)) : kplaces K = (List.range n).filter D := by
  refine rising_eq _ _ (kplaces_rising K hn) (List.pairwise_lt_range.sublist List.filter_sublist) (fun x => ?_)
  rw [kplaces_mem hn, List.mem_filter, List.mem_range]
  constructor
  · rintro ⟨e, he, hd⟩
    obtain ⟨h1, h2⟩ := kfind_some he
    have hx : x < n := by rw [← h2]; exact hl e h1
    exact ⟨hx, (hD x hx).2 ⟨e, he, hd⟩⟩
  · rintro ⟨hx, hd⟩
    exact (hD x hx).1 hd
end Go.Proofs.Ytdmhcbbakgljoaa
