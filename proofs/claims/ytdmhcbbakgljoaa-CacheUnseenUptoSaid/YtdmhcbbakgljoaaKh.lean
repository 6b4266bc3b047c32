/- CacheWrites: what its cache and its disk hold. -/
import Derived.Test.YtdmhcbbakgljoaaKg
namespace Go.Proofs.Ytdmhcbbakgljoaa
open Go.RowKit Go.Maps
set_option linter.unusedVariables false
set_option linter.unusedSimpArgs false

theorem zeroB_len : zeroB.length = 256 := List.length_replicate
/-- No more blocks than it holds; nothing was written. -/
structure WInv (n : Nat) (K : List KE) (D : Nat → Bool) : Prop where
  nd : (K.map KE.pl).Nodup
  lt : ∀ e ∈ K, e.pl < n
  len : ∀ e ∈ K, e.bs.length = 256
  dt : ∀ a, a < n → (D a = true ↔ ∃ e, kfind K a = some e ∧ e.dirty = true)
theorem why_new (n a : Nat) (h : a < n) : whyN (RS.new n) (a : Int) = 0 := by
  unfold whyN
  rw [if_neg (by show ¬ (false = true); decide), if_neg (by show ¬ ((a : Int) < 0 ∨ ((n : Nat) : Int) ≤ (a : Int)); omega)]
theorem WInv.put {n : Nat} {K : List KE} {D : Nat → Bool} (h : WInv n K D) {a : Nat} (ha : a < n) {b : List UInt8} (hb : b.length = 256) :
    kput n K (RS.new n) (a : Int) b = (0, kset K ⟨a, b, true⟩, RS.new n) ∧ WInv n (kset K ⟨a, b, true⟩) (fun x => if x = a then true else D x) := by
  refine ⟨?_, kset_nodup _ h.nd, fun e he => ?_, fun e he => ?_, fun x hx => ?_⟩
  · unfold kput
    rw [if_neg (by simp [why_new n a ha]), if_neg (by simp [hb]), Int.toNat_natCast]
    cases hf : kfind K a with
    | some y => rfl
    | none =>
      simp only
      rw [kroom_room (pigeon h.nd h.lt ha hf), if_pos rfl]
      unfold kset
      rw [kdrop_none hf]
  · rcases kset_mem K _ he with h1 | rfl
    · exact h.lt e h1.1
    · exact ha
  · rcases kset_mem K _ he with h1 | rfl
    · exact h.len e h1.1
    · exact hb
  · rw [kfind_set]
    by_cases e : x = a
    · rw [if_pos e, if_pos e]
      simp
    · rw [if_neg e, if_neg e]
      exact h.dt x hx
theorem WInv.get {n : Nat} {K : List KE} {D : Nat → Bool} (h : WInv n K D) {a : Nat} (ha : a < n) :
    ∃ b K', kget n K (RS.new n) (a : Int) = (0, b, K', RS.new n) ∧ b.length = 256 ∧ WInv n K' D := by
  have key : ∀ e : KE, e.pl = a → e.bs.length = 256 → (∀ x, kfind K a = some x → x = e) → (kfind K a = none → e.dirty = false) → WInv n (kset K e) D := by
    intro e hp hl h1 h2
    refine ⟨kset_nodup _ h.nd, fun y hy => ?_, fun y hy => ?_, fun x hx => ?_⟩
    · rcases kset_mem K _ hy with h3 | rfl
      · exact h.lt y h3.1
      · rw [hp]; exact ha
    · rcases kset_mem K _ hy with h3 | rfl
      · exact h.len y h3.1
      · exact hl
    · rw [kfind_set, hp]
      by_cases e1 : x = a
      · rw [if_pos e1, e1, h.dt a ha]
        cases hf : kfind K a with
        | some y => rw [h1 y hf]
        | none => simp [h2 hf]
      · rw [if_neg e1]
        exact h.dt x hx
  unfold kget
  rw [if_neg (by simp [why_new n a ha]), Int.toNat_natCast]
  cases hf : kfind K a with
  | some y =>
    obtain ⟨h1, h2⟩ := kfind_some hf
    refine ⟨y.bs, kset K y, ?_, h.len y h1, key y h2 (h.len y h1) (fun x hx => by rw [hf] at hx; exact (Option.some.inj hx).symm) (fun h9 => by rw [hf] at h9; cases h9)⟩
    simp only
    unfold kset
    rw [h2]
  | none =>
    refine ⟨zeroB, kset K ⟨a, zeroB, false⟩, ?_, zeroB_len, key ⟨a, zeroB, false⟩ rfl zeroB_len (fun x hx => by rw [hf] at hx; cases hx) (fun _ => rfl)⟩
    simp only
    rw [kroom_room (pigeon h.nd h.lt ha hf), if_pos rfl, new_reads n a ha]
    unfold kset
    rw [kdrop_none hf]
/-- The disk behind Flush; behind the crash. -/
def wFl (n : Nat) (K : List KE) : RS := { RS.new n with L := laidL (kdirty K) }
def wCr (n : Nat) (K : List KE) : RS := crash (wFl n K) [1, 1]
theorem places_len (K : List KE) : (kplaces K).length = (kdirty K).length := by unfold kplaces; rw [List.length_map]
theorem wFl_len (n : Nat) (K : List KE) : (wFl n K).L.length = 4 * (kplaces K).length := by rw [places_len]; exact laidL_len _
theorem WInv.flush {n : Nat} {K : List KE} {D : Nat → Bool} (h : WInv n K D) : kflush K (RS.new n) = (0, kall K, wFl n K) :=
  kflush_calm K (RS.new n) rfl rfl (fun e he => ⟨h.lt e he, h.len e he⟩)
theorem kall_all (K : List KE) : kall (kall K) = kall K := by
  unfold kall
  rw [List.map_map]
  rfl
theorem WInv.flush2 {n : Nat} {K : List KE} {D : Nat → Bool} (h : WInv n K D) : kflush (kall K) (wFl n K) = (0, kall K, wFl n K) := by
  rw [kflush_calm (kall K) (wFl n K) rfl rfl (fun e he => by
    obtain ⟨x, hx, rfl⟩ := List.mem_map.1 he
    exact ⟨h.lt x hx, h.len x hx⟩), kall_all, kall_dirty]
  congr 2
  show ({ wFl n K with L := (wFl n K).L ++ [] } : RS) = wFl n K
  rw [List.append_nil]
theorem laid_all (S : List (List UInt8)) (s : Nat) (l : List UInt8) (hl : l.length = 64) (hS : (S.getD s []).length ≤ 64) : laid S s l 64 = S.set s l := by
  unfold laid
  rw [List.take_of_length_le (by omega), List.drop_of_length_le (by omega), List.append_nil]
theorem zero_get (n s : Nat) (hs : s < 4 * n) : (RS.new n).S.getD s [] = zero64 := by
  show (List.replicate (4 * n) zero64).getD s [] = zero64
  simp [List.getD, hs]
theorem secOf_len (b : List UInt8) (h : b.length = 256) (k : Nat) (hk : k < 4) : (secOf b k).length = 64 := by
  unfold secOf
  rw [List.length_take, List.length_drop]
  omega
theorem WInv.torn {n : Nat} {K : List KE} {D : Nat → Bool} (h : WInv n K D) (e : KE) (r : List KE) (hK : kdirty K = e :: r) (a : Nat) (ha : a < n) :
    reads (wCr n K) a 4 = if a = e.pl then secOf e.bs 0 ++ (secOf e.bs 1 ++ (zero64 ++ (zero64 ++ []))) else zeroB := by
  have he := (kdirty_mem.1 (by rw [hK]; simp : e ∈ kdirty K)).1
  have hp := h.lt e he
  have hl := h.len e he
  have z64 : zero64.length = 64 := rfl
  have hz : (wFl n K).L.zip ([1, 1] : List UInt8) = [((4 * e.pl + 0, secOf e.bs 0), 1), ((4 * e.pl + 1, secOf e.bs 1), 1)] := by
    show (laidL (kdirty K)).zip ([1, 1] : List UInt8) = _
    rw [hK]
    unfold laidL
    rw [List.flatMap_cons, flies_four]
    rfl
  have hS : (wCr n K).S = ((RS.new n).S.set (4 * e.pl + 0) (secOf e.bs 0)).set (4 * e.pl + 1) (secOf e.bs 1) := by
    show Go.Proofs.Ytdmhcbbakgljoaa.torn (RS.new n).S ((wFl n K).L.zip [1, 1]) = _
    rw [hz]
    unfold Go.Proofs.Ytdmhcbbakgljoaa.torn
    simp only [List.foldl_cons, List.foldl_nil]
    unfold tear
    have o1 : (1 : UInt8).toNat = 1 := rfl
    simp only [o1, if_true, Nat.one_ne_zero, if_false]
    rw [laid_all _ (4 * e.pl + 0) _ (secOf_len _ hl 0 (by decide)) (by rw [zero_get n _ (by omega)]; exact Nat.le_of_eq z64), laid_all _ (4 * e.pl + 1) _ (secOf_len _ hl 1 (by decide)) ?_]
    rw [List.getD_eq_getElem?_getD, List.getElem?_set_ne (by omega), ← List.getD_eq_getElem?_getD, zero_get n _ (by omega)]
    exact Nat.le_of_eq z64
  have hc : ∀ s, s < 4 * n → cur (wCr n K) s = if s = 4 * e.pl + 0 then secOf e.bs 0 else if s = 4 * e.pl + 1 then secOf e.bs 1 else zero64 := by
    intro s hs
    rw [cur_calm _ rfl, hS, List.getD_eq_getElem?_getD]
    have hlen : (RS.new n).S.length = 4 * n := List.length_replicate
    by_cases h1 : s = 4 * e.pl + 1
    · subst h1
      rw [if_neg (by omega), if_pos rfl, List.getElem?_set_self (by rw [List.length_set]; omega)]
      rfl
    · rw [List.getElem?_set_ne (by omega)]
      by_cases h0 : s = 4 * e.pl + 0
      · subst h0
        rw [if_pos rfl, List.getElem?_set_self (by omega)]
        rfl
      · rw [if_neg h0, if_neg h1, List.getElem?_set_ne (by omega), ← List.getD_eq_getElem?_getD, zero_get n s hs]
  rw [reads_four, hc _ (by omega), hc _ (by omega), hc _ (by omega), hc _ (by omega)]
  by_cases h1 : a = e.pl
  · subst h1
    rw [if_pos rfl, if_pos rfl, if_neg (by omega), if_pos rfl, if_neg (by omega), if_neg (by omega), if_neg (by omega), if_neg (by omega)]
  · rw [if_neg h1, if_neg (by omega), if_neg (by omega), if_neg (by omega), if_neg (by omega), if_neg (by omega), if_neg (by omega), if_neg (by omega), if_neg (by omega)]
    decide +kernel
theorem two_secs (b x : List UInt8) (h : b.length = 256) : (secOf b 0 ++ (secOf b 1 ++ x)).take 128 = b.take 128 := by
  have e : b.take 128 = secOf b 0 ++ secOf b 1 := by
    unfold secOf
    show b.take 128 = (b.drop 0).take 64 ++ (b.drop 64).take 64
    rw [List.drop_zero]
    exact List.take_add (i := 64) (j := 64)
  rw [← List.append_assoc, List.take_append_of_le_length (by rw [List.length_append, secOf_len b h 0 (by decide), secOf_len b h 1 (by decide)]; omega), e]
  exact List.take_of_length_le (by rw [List.length_append, secOf_len b h 0 (by decide), secOf_len b h 1 (by decide)]; omega)
theorem wCr_why (n : Nat) (K : List KE) (a : Nat) (h : a < n) : whyN (wCr n K) (a : Int) = 0 := by
  unfold whyN
  rw [if_neg (by show ¬ (false = true); decide), if_neg (by show ¬ ((a : Int) < 0 ∨ ((n : Nat) : Int) ≤ (a : Int)); omega)]
/-- What the last loop reads. -/
theorem WInv.last {n : Nat} {K : List KE} {D : Nat → Bool} (h : WInv n K D) (Kj : List KE) (hj : ∀ a, kfind Kj a = kfind (kall K) a) (i : Nat) (hi : i < (kplaces K).length) :
    (kplaces K)[i] < n ∧ ∃ b Kn, kget n Kj (wCr n K) ((kplaces K)[i] : Nat) = (0, b, Kn, wCr n K) ∧ b.length = 256 ∧ (∀ a, kfind Kn a = kfind (kall K) a) ∧ (i = 0 → (reads (wCr n K) (kplaces K)[i] 4).take 128 = b.take 128) ∧ (0 < i → reads (wCr n K) (kplaces K)[i] 4 = zeroB) := by
  have hd : i < (kdirty K).length := by rw [← places_len]; exact hi
  have hP : (kplaces K)[i] = ((kdirty K)[i]).pl := by simp [kplaces]
  obtain ⟨e, he⟩ : ∃ e, e = (kdirty K)[i] := ⟨_, rfl⟩
  rw [← he] at hP
  have hm : e ∈ K := (kdirty_mem.1 (by rw [he]; exact List.getElem_mem hd)).1
  have hf := kfind_mem h.nd hm
  have hfa : kfind (kall K) e.pl = some ⟨e.pl, e.bs, false⟩ := by rw [kall_find, hf]; rfl
  have hlt := h.lt e hm
  rw [hP]
  refine ⟨hlt, e.bs, kset Kj ⟨e.pl, e.bs, false⟩, get_held n e.pl Kj (wCr n K) (wCr_why n K _ hlt) ⟨e.pl, e.bs, false⟩ ((hj _).trans hfa), h.len e hm, fun a => ?_, fun h0 => ?_, fun h0 => ?_⟩
  · rw [kfind_set]
    show (if a = e.pl then _ else _) = _
    by_cases h1 : a = e.pl
    · rw [if_pos h1, h1, hfa]
    · rw [if_neg h1, hj]
  · subst h0
    have hc : kdirty K = e :: (kdirty K).drop 1 := by
      rw [he]
      have := List.drop_eq_getElem_cons hd
      rwa [List.drop_zero] at this
    rw [h.torn e _ hc e.pl hlt, if_pos rfl]
    exact two_secs e.bs _ (h.len e hm)
  · obtain ⟨f, hf0⟩ : ∃ f, f = (kdirty K)[0] := ⟨_, rfl⟩
    have hc : kdirty K = f :: (kdirty K).drop 1 := by
      rw [hf0]
      have := List.drop_eq_getElem_cons (show 0 < (kdirty K).length by omega)
      rwa [List.drop_zero] at this
    rw [h.torn f _ hc e.pl hlt, if_neg]
    have hr := kplaces_rising K h.nd
    have h2 := (List.pairwise_iff_getElem.1 hr) 0 i (by omega) hi h0
    rw [hP] at h2
    have h3 : (kplaces K)[0] = ((kdirty K)[0]).pl := by simp [kplaces]
    rw [h3, ← hf0] at h2
    omega
end Go.Proofs.Ytdmhcbbakgljoaa
