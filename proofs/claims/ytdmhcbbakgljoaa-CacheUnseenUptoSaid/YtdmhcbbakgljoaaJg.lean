/- The cache beside its disk: a block is written. -/
import Derived.Test.YtdmhcbbakgljoaaJf
import Derived.Test.YtdmhcbbakgljoaaDf
namespace Go.Proofs.Ytdmhcbbakgljoaa
open Go.RowKit Go.Maps
set_option linter.unusedVariables false
set_option linter.unusedSimpArgs false
attribute [local go_sem ↓] Go.wp_at_zero Go.wp_at_succ

/-- One block of a list is told anew. -/
def updL (L : List Ent) (x : Ent) : List Ent := L.map (fun e => if e.b = x.b then x else e)
theorem updL_map {β : Type} (f : Ent → β) {L : List Ent} {x y : Ent} (hnd : (L.map Ent.b).Nodup) (hy : y ∈ L) (hb : x.b = y.b) (hf : f x = f y) : (updL L x).map f = L.map f := by
  unfold updL
  rw [List.map_map]
  refine List.map_congr_left fun e he => ?_
  show f (if e.b = x.b then x else e) = f e
  split
  · rename_i h
    rw [b_inj hnd he hy (h.trans hb), hf]
  · rfl
theorem set_updL {E : List Ent} (hnd : (E.map Ent.b).Nodup) {i : Nat} (hi : i < E.length) {x : Ent} (hb : x.b = E[i].b) : E.set i x = updL E x := by
  apply List.ext_getElem
  · simp [updL]
  · intro k h1 h2
    rw [List.length_set] at h1
    rw [List.getElem_set]
    simp only [updL, List.getElem_map]
    by_cases h : i = k
    · subst h
      rw [if_pos rfl, if_pos hb.symm]
    · rw [if_neg h, if_neg (fun e => h ((bs_inj hnd hi h1).2 (hb.symm.trans e.symm)))]
theorem CacheAt.upd {w w' : World} {B cb mb : Nat} {la : Option Addr} {cl : Nat} {E L : List Ent} {most uses db : Nat} (h : CacheAt w B cb mb la cl E L most uses db) {i : Nat} (hi : i < E.length) {x : Ent}
    (hb : x.b = E[i].b) (hp : x.pl = E[i].pl) (hu : x.used = E[i].used) (hl : x.bs.length = 256) (c : Chg [E[i].b] w w') (hx : Blk w' E[i].b 68 (entV x i)) :
    CacheAt w' B cb mb la cl (E.set i x) (updL L x) most uses db := by
  have hm := List.getElem_mem hi
  have hmL := h.pm.mem_iff.1 hm
  have hnL : (L.map Ent.b).Nodup := (h.pm.map _).nodup_iff.1 h.ln.nd
  have hcb : cb ∉ [E[i].b] := by simpa using fun e => h.ln.nc _ hm e.symm
  have hmb : mb ∉ [E[i].b] := by
    simp
    intro e
    exact h.mF (by simp only [LF, List.mem_cons, List.mem_append, List.mem_map]; exact Or.inr (Or.inr ⟨_, hm, e.symm⟩))
  obtain ⟨D, hD⟩ := h.hd
  have mu := updL_map Ent.used hnL hmL hb hu
  have mp := updL_map Ent.pl hnL hmL hb hp
  refine ⟨c.cellv h.c0 hcb, c.cellv h.c1 hcb, c.cellv h.c2 hcb, c.cellv h.c4 hcb, (c.frozen (p := ⟨cb, 4, none⟩) (block_lt_of_cell h.c4) hcb).trans h.f4, h.ln.upd hi hb hl c hx, ?_, ⟨D, (hD.chg c hmb).alike (set_alike hi (fun e => (e.pl, e.b)) (by simp [hb, hp]))⟩, by rw [set_updL h.ln.nd hi hb]; exact h.pm.map _, ?_, ?_, by rw [mp]; exact h.np, ?_, by simp [updL]; exact h.le, h.mo, fun hk => h.mF (LF_alike (by rw [set_alike hi Ent.b hb]) _ hk), h.mB⟩
  · intro k k0 kn
    rw [List.length_set] at kn
    rw [key_set hi x _ (by omega), key_set hi x _ kn]
    have hk : ∀ k, k < E.length → (if k = i then x.used else key E k) = key E k := fun k hk => by
      split
      · rename_i e
        subst e
        rw [hu, key_lt hk]
      · rfl
    rw [hk _ (by omega), hk _ kn]
    exact h.hp k k0 kn
  · have : ((updL L x).map Ent.used).Pairwise (· < ·) := by rw [mu]; exact List.pairwise_map.2 h.so
    exact List.pairwise_map.1 this
  · intro e he
    have : e.used ∈ L.map Ent.used := by rw [← mu]; exact List.mem_map.2 ⟨e, he, rfl⟩
    obtain ⟨e2, he2, heq⟩ := List.mem_map.1 this
    rw [← heq]
    exact h.us e2 he2
  · intro e he
    have : e.pl ∈ L.map Ent.pl := by rw [← mp]; exact List.mem_map.2 ⟨e, he, rfl⟩
    obtain ⟨e2, he2, heq⟩ := List.mem_map.1 this
    rw [← heq]
    exact h.pl e2 he2
def Ent.clean (e : Ent) : Ent := ⟨e.b, e.pl, e.bs, false, e.used⟩
/-- A block is written, if it is dirty: what is told, the disk behind it. -/
def wrote (e : Ent) (st : RS) : Int × RS := if e.dirty then write st e.pl e.bs else (0, st)
theorem cwrite_clean (i : Nat) (B cb mb : Nat) (la : Option Addr) (cl : Nat) (E L : List Ent) (most uses db : Nat) (w : World) (h : CacheAt w B cb mb la cl E L most uses db) (hi : i < E.length) (hd : E[i].dirty = false) :
    Calls Try.prog 30 #[.pointer (some ⟨cb, 0, none⟩), .pointer (some ⟨E[i].b, 0, none⟩)] w fun e w' => e = .returned (.int .i64 0) ∧ w = w' := by
  have u1 := (h.ln.e i hi).cell 257 _ (entV_dirty (h.ln.bl _ (List.getElem_mem hi)))
  rw [hd] at u1
  go_enter Try.func30, Try.ntmps30
  go_wp2
  go_ret
  exact ⟨rfl, rfl⟩
theorem DF_later {w : World} {db : Nat} {g : DG} {fa fa' : Option Addr} {cf cf' : Nat} (l : Later w fa cf fa' cf') : ∀ k, k ∈ DF db g fa' cf' → k ∈ DF db g fa cf ∨ w.heap.size ≤ k := by
  intro k hk
  simp only [DF, List.mem_cons] at hk ⊢
  rcases hk with hk | hk | hk | hk
  · exact Or.inl (Or.inl hk)
  · exact Or.inl (Or.inr (Or.inl hk))
  · exact Or.inl (Or.inr (Or.inr (Or.inl hk)))
  · exact (l k hk).imp (fun h => Or.inr (Or.inr (Or.inr h))) id
theorem cwrite_dirty (i : Nat) (B cb mb : Nat) (la : Option Addr) (cl : Nat) (E L : List Ent) (most uses db : Nat) (w : World) (h : CacheAt w B cb mb la cl E L most uses db) (hi : i < E.length) (hd : E[i].dirty = true)
    (g : DG) (fa : Option Addr) (cf : Nat) (st : RS) (hD : DevAt w B db g fa cf st) (hW : Whole st) (hB : B ≤ w.heap.size) (hLb : st.L.length ≤ 1000000000) (hx : ∀ k, k ∈ CF cb mb la cl E → k ∉ DF db g fa cf) :
    Calls Try.prog 30 #[.pointer (some ⟨cb, 0, none⟩), .pointer (some ⟨E[i].b, 0, none⟩)] w fun e w' => e = .returned (.int .i64 (write st E[i].pl E[i].bs).1) ∧ ∃ fa' cf', DevAt w' B db g fa' cf' (write st E[i].pl E[i].bs).2 ∧ Later w fa cf fa' cf' ∧
      Chg (E[i].b :: DF db g fa cf) w w' ∧ ((write st E[i].pl E[i].bs).1 ≠ 0 → CacheAt w' B cb mb la cl E L most uses db) ∧ ((write st E[i].pl E[i].bs).1 = 0 → CacheAt w' B cb mb la cl (E.set i E[i].clean) (updL L E[i].clean) most uses db) := by
  have hm := List.getElem_mem hi
  have hl := h.ln.bl _ hm
  have he := h.ln.e i hi
  have u1 := he.cell 257 _ (entV_dirty hl)
  have u0 := he.cell 0 _ (entV_pl _ _)
  rw [hd] at u1
  have c0 := h.c0
  have hbF : E[i].b ∉ DF db g fa cf := hx _ (by simp only [CF, LF, List.mem_cons, List.mem_append, List.mem_map]; exact Or.inr (Or.inr (Or.inr ⟨_, hm, rfl⟩)))
  have cW : ∀ u : World, Chg [] w u → Calls Try.prog 23 #[.pointer (some ⟨db, 0, none⟩), .int .i64 E[i].pl, .slice (some ⟨E[i].b, 1, none⟩) 256 256] u fun e w' => e = .returned (.int .i64 (write st E[i].pl E[i].bs).1) ∧ ∃ fa' cf', DevAt w' B db g fa' cf' (write st E[i].pl E[i].bs).2 ∧ Chg (DF db g fa cf) w w' ∧ Later w fa cf fa' cf' := by
    intro u hu
    have hrd : Reads u (some ⟨E[i].b, 1, none⟩) (bts E[i].bs) := fun _ => ⟨E[i].b, 1, rfl, fun j v hv => hu.cellv (he.cell (1 + j) v (entV_bs hl j v hv)) (by simp)⟩
    refine (dwrite_any E[i].pl B db g fa cf st u (hD.keep hu) hW (Nat.le_trans hB hu.size) hLb (some ⟨E[i].b, 1, none⟩) 256 256 E[i].bs hrd hl (Nat.le_refl _) (by decide) (fun k hk => by simp [blk] at hk; rw [hk]; exact ⟨hbF, Nat.lt_of_lt_of_le he.lt hu.size⟩)).mono ?_
    rintro e w' ⟨he, fa', cf', h3, g3, l3⟩
    exact ⟨he, fa', cf', h3, hu.trans g3 (by simp) (fun _ h _ => h), fun k hk => (l3 k hk).imp id (fun h9 => Nat.le_trans hu.size h9)⟩
  have hcl : ∀ w3 : World, Chg (DF db g fa cf) w w3 → Chg (E[i].b :: DF db g fa cf) w w3 := fun w3 g3 => g3.mono (fun k hk _ => List.mem_cons_of_mem _ hk)
  by_cases hv : (write st E[i].pl E[i].bs).1 = 0
  · rw [hv] at cW
    have CW := mkHid cW
    clear cW
    go_enter Try.func30, Try.ntmps30
    go_wp2
    go_region_with (first | (go_at_call 23; refine (CW.out _ (by first | exact Chg.refl _ _ | exact Chg.drew _ _ | exact Chg.drewN _ _)).mono ?_; rintro e w3 ⟨rfl, fa', cf', h3, g3, l3⟩))
    all_goals
      have k3 := h.chg g3 hx
      have he3 := he.chg g3 hbF
      have u3 := he3.cell 257 _ (entV_dirty hl)
      have f3 := he3.frozen 257
      go_wp2
      go_ret
      have g4 : Chg [E[i].b] w3 (w3.setCell ⟨E[i].b, 257, none⟩ (.bool false)) := Chg.setCell w3 ⟨E[i].b, 257, none⟩ _
      have hx4 := he3.set1 257 (.bool false)
      rw [entV_setDirty hl] at hx4
      exact ⟨by rw [hv]; rfl, fa', cf', h3.chg g4 (fun k hk => by
          simp
          rintro rfl
          have := DF_later l3 _ hk
          rcases this with h9 | h9
          · exact hbF h9
          · have := he.lt; omega), l3, g3.trans g4 (fun k hk _ => List.mem_cons_of_mem _ hk) (fun k hk _ => by simp at hk; simp [hk]), fun h9 => absurd hv h9, fun _ => k3.upd hi rfl rfl rfl hl g4 hx4⟩
  · have hv2 : ((write st E[i].pl E[i].bs).1 != 0) = true := by simpa using hv
    have HV := mkHid hv
    have CW := mkHid cW
    clear cW hv
    go_enter Try.func30, Try.ntmps30
    go_wp2
    go_region_with (first | (go_at_call 23; refine (CW.out _ (by first | exact Chg.refl _ _ | exact Chg.drew _ _ | exact Chg.drewN _ _)).mono ?_; rintro e w3 ⟨rfl, fa', cf', h3, g3, l3⟩))
    all_goals
      have k3 := h.chg g3 hx
      go_wp2
      go_ret
      exact ⟨rfl, fa', cf', h3, l3, hcl _ g3, fun _ => k3, fun h9 => absurd h9 HV.out⟩
end Go.Proofs.Ytdmhcbbakgljoaa
