/- The cache: what a call is told first; how many blocks are held; a use. -/
import Derived.Test.YtdmhcbbakgljoaaJe
import Derived.Test.YtdmhcbbakgljoaaDb
namespace Go.Proofs.Ytdmhcbbakgljoaa
open Go.RowKit Go.Maps
set_option linter.unusedVariables false
set_option linter.unusedSimpArgs false
attribute [local go_sem ↓] Go.wp_at_zero Go.wp_at_succ

section
variable (cb db : Nat) (B : Nat) (g : DG) (fa : Option Addr) (cf : Nat) (st : RS) (w : World) (h : DevAt w B db g fa cf st) (c0 : w.cell? ⟨cb, 0, none⟩ = some (.pointer (some ⟨db, 0, none⟩)))
include h c0
theorem cpowered_any : Calls Try.prog 29 #[.pointer (some ⟨cb, 0, none⟩)] w fun e w' => e = .returned (.int .i64 (if st.gone then 9 else 0)) ∧ w = w' := by
  cases hg : st.gone
  all_goals
    go_enter Try.func29, Try.ntmps29
    go_wp2_with (first | (go_at_call 31; refine (cmade_yes cb db w c0).mono ?_; rintro e w' ⟨rfl, rfl⟩) | (go_at_call 50; refine (off_any B db g fa cf st w h).mono ?_; rw [hg]; rintro e w' ⟨rfl, rfl⟩))
    go_ret
    exact ⟨rfl, rfl⟩
theorem casked_any (z : Int) (hW : Whole st) : Calls Try.prog 26 #[.pointer (some ⟨cb, 0, none⟩), .int .i64 z] w fun e w' => e = .returned (.int .i64 (whyN st z)) ∧ w = w' := by
  unfold whyN
  cases hg : st.gone
  · simp only [Bool.false_eq_true, if_false]
    by_cases h1 : z < 0
    · rw [if_pos (Or.inl h1)]
      have h1' : decide (z < 0) = true := decide_eq_true h1
      go_enter Try.func26, Try.ntmps26
      go_wp2_with (first | (go_at_call 29; refine (cpowered_any cb db B g fa cf st w h c0).mono ?_; rw [hg]; rintro e w' ⟨rfl, rfl⟩) | (go_at_call 25; refine (blocks_any B db g fa cf st w h hW).mono ?_; rintro e w' ⟨rfl, rfl⟩))
      go_ret
      exact ⟨rfl, rfl⟩
    · have h1' : decide (z < 0) = false := decide_eq_false h1
      by_cases h2 : (st.count : Int) ≤ z
      · rw [if_pos (Or.inr h2)]
        have h2' : decide ((st.count : Int) ≤ z) = true := decide_eq_true h2
        go_enter Try.func26, Try.ntmps26
        go_wp2_with (first | (go_at_call 29; refine (cpowered_any cb db B g fa cf st w h c0).mono ?_; rw [hg]; rintro e w' ⟨rfl, rfl⟩) | (go_at_call 25; refine (blocks_any B db g fa cf st w h hW).mono ?_; rintro e w' ⟨rfl, rfl⟩))
        go_ret
        exact ⟨rfl, rfl⟩
      · rw [if_neg (by omega)]
        have h2' : decide ((st.count : Int) ≤ z) = false := decide_eq_false h2
        go_enter Try.func26, Try.ntmps26
        go_wp2_with (first | (go_at_call 29; refine (cpowered_any cb db B g fa cf st w h c0).mono ?_; rw [hg]; rintro e w' ⟨rfl, rfl⟩) | (go_at_call 25; refine (blocks_any B db g fa cf st w h hW).mono ?_; rintro e w' ⟨rfl, rfl⟩))
        go_ret
        exact ⟨rfl, rfl⟩
  · simp only [if_true]
    go_enter Try.func26, Try.ntmps26
    go_wp2_with (first | (go_at_call 29; refine (cpowered_any cb db B g fa cf st w h c0).mono ?_; rw [hg]; rintro e w' ⟨rfl, rfl⟩))
    go_ret
    exact ⟨rfl, rfl⟩
end
section
variable (B cb mb : Nat) (la : Option Addr) (cl : Nat) (E L : List Ent) (most uses db : Nat) (w : World) (h : CacheAt w B cb mb la cl E L most uses db)
include h
theorem cheld_any : Calls Try.prog 17 #[.pointer (some ⟨cb, 0, none⟩)] w fun e w' => e = .returned (.int .i64 L.length) ∧ w = w' := by
  have c0 := h.c0
  have c2 := h.c2
  obtain ⟨D, hD⟩ := h.hd
  have hs : Maps.size D = L.length := hD.s.trans h.pm.length_eq
  have hl := fun ty => hD.o.len Try.underlying54 ty
  rw [hs] at hl
  go_enter Try.func17, Try.ntmps17
  go_wp2_with (first | (go_at_call 31; refine (cmade_yes cb db w c0).mono ?_; rintro e w' ⟨rfl, rfl⟩))
  go_ret
  exact ⟨rfl, rfl⟩
end
theorem LineAt.cb {w w' : World} {B cb : Nat} {la : Option Addr} {cl : Nat} {E : List Ent} (h : LineAt w B cb la cl E) (c : Chg [cb] w w') (e3 : w'.cell? ⟨cb, 3, none⟩ = w.cell? ⟨cb, 3, none⟩) (e4 : w'.frozen? ⟨cb, 3, none⟩ = w.frozen? ⟨cb, 3, none⟩) : LineAt w' B cb la cl E :=
  ⟨e3.trans h.c3, e4.trans h.f3, h.r.chg c (fun k hk => by simp; rintro rfl; exact h.cr hk), fun i hi => (h.e i hi).chg c (by simpa using h.nc _ (List.getElem_mem hi)), h.bl, h.nd, h.nc, h.nr, h.cr, h.eB, h.cB, h.sm⟩
theorem set_alike {E : List Ent} {i : Nat} (hi : i < E.length) {x : Ent} {β : Type} (f : Ent → β) (hx : f x = f E[i]) : (E.set i x).map f = E.map f := by
  rw [List.map_set, hx]
  have : f E[i] = (E.map f)[i]'(by simpa using hi) := by simp
  rw [this, List.set_getElem_self]
theorem LineAt.upd {w w' : World} {B cb : Nat} {la : Option Addr} {cl : Nat} {E : List Ent} (h : LineAt w B cb la cl E) {i : Nat} (hi : i < E.length) {x : Ent} (hb : x.b = E[i].b) (hl : x.bs.length = 256) (c : Chg [E[i].b] w w') (hx : Blk w' E[i].b 68 (entV x i)) : LineAt w' B cb la cl (E.set i x) := by
  have hm := List.getElem_mem hi
  have mem : ∀ e ∈ E.set i x, e ∈ E ∨ e = x := fun e he => List.mem_or_eq_of_mem_set he
  refine ⟨by rw [List.length_set]; exact c.cellv h.c3 (by simpa using fun e => h.nc _ hm e.symm), (c.frozen (p := ⟨cb, 3, none⟩) (block_lt_of_cell h.c3) (by simpa using fun e => h.nc _ hm e.symm)).trans h.f3, ?_, ?_, ?_, by rw [set_alike hi Ent.b hb]; exact h.nd, ?_, ?_, h.cr, ?_, h.cB, by rw [List.length_set]; exact h.sm⟩
  · rw [List.length_set, set_alike hi ptrV (by simp [ptrV, hb])]
    exact h.r.chg c (fun k hk => by simp; rintro rfl; exact h.nr _ hm hk)
  · intro k hk
    rw [List.length_set] at hk
    rw [List.getElem_set]
    split
    · rename_i hik
      subst hik
      rw [hb]; exact hx
    · rename_i hik
      exact (h.e k hk).chg c (by simp; exact fun e => hik ((bs_inj h.nd hi hk).2 e.symm))
  · intro e he
    rcases mem e he with he | rfl
    · exact h.bl e he
    · exact hl
  · intro e he
    rcases mem e he with he | rfl
    · exact h.nc e he
    · rw [hb]; exact h.nc _ hm
  · intro e he
    rcases mem e he with he | rfl
    · exact h.nr e he
    · rw [hb]; exact h.nr _ hm
  · intro e he
    rcases mem e he with he | rfl
    · exact h.eB e he
    · rw [hb]; exact h.eB _ hm
theorem key_set {E : List Ent} {i : Nat} (hi : i < E.length) (x : Ent) (k : Nat) (hk : k < E.length) : key (E.set i x) k = if k = i then x.used else key E k := by
  rw [key_lt (by rw [List.length_set]; exact hk), List.getElem_set, key_lt hk]
  by_cases h : i = k
  · rw [if_pos h, if_pos h.symm]
  · rw [if_neg h, if_neg (fun e => h e.symm)]
theorem down_set {E : List Ent} {i : Nat} (hi : i < E.length) (x : Ent) (h : Heap E E.length) : DownOk (E.set i x) i E.length := by
  refine ⟨fun k k0 kn ki kp => ?_, fun k k0 kn kp i0 => ?_⟩
  · rw [key_set hi x _ (by omega), key_set hi x _ kn, if_neg ki, if_neg kp]
    exact h k k0 kn
  · rw [key_set hi x _ (by omega), key_set hi x _ kn, if_neg (by omega), if_neg (by omega)]
    have h1 := h k k0 kn
    rw [kp] at h1
    exact Nat.le_trans (h i i0 hi) h1
/-- A block, used as the u-th. -/
def Ent.now (e : Ent) (u : Nat) : Ent := ⟨e.b, e.pl, e.bs, e.dirty, u⟩
/-- A block as it is used now: behind all others. -/
def used (L : List Ent) (x : Ent) (u : Nat) : List Ent := L.filter (fun e => e.b != x.b) ++ [x.now u]
theorem nodup_of_b {E : List Ent} (h : (E.map Ent.b).Nodup) : E.Nodup := by
  have := List.pairwise_map.1 h
  exact this.imp fun hne e => hne (by rw [e])
theorem b_inj {E : List Ent} (h : (E.map Ent.b).Nodup) {x y : Ent} (hx : x ∈ E) (hy : y ∈ E) (e : x.b = y.b) : x = y := by
  obtain ⟨i, hi, rfl⟩ := List.getElem_of_mem hx
  obtain ⟨j, hj, rfl⟩ := List.getElem_of_mem hy
  obtain rfl := (bs_inj h hi hj).2 e
  rfl
theorem set_used {E L : List Ent} (hnd : (E.map Ent.b).Nodup) (p : E.Perm L) {i : Nat} (hi : i < E.length) (u : Nat) : (E.set i (E[i].now u)).Perm (used L E[i] u) := by
  have hndL : (L.map Ent.b).Nodup := (p.map _).nodup_iff.1 hnd
  have n1 : (E.set i (E[i].now u)).Nodup := nodup_of_b (by rw [set_alike hi (x := E[i].now u) Ent.b rfl]; exact hnd)
  have n2 : (used L E[i] u).Nodup := by
    refine List.nodup_append.2 ⟨(nodup_of_b hndL).filter _, by simp, fun a ha b hb => ?_⟩
    simp at hb
    have := (List.mem_filter.1 ha).2
    simp at this
    rintro rfl
    rw [hb] at this
    exact this rfl
  refine (List.perm_ext_iff_of_nodup n1 n2).2 fun e => ?_
  unfold used
  rw [List.mem_append, List.mem_filter, List.mem_singleton]
  constructor
  · intro he
    obtain ⟨k, hk, rfl⟩ := List.getElem_of_mem he
    rw [List.length_set] at hk
    rw [List.getElem_set]
    split
    · exact Or.inr rfl
    · rename_i hik
      exact Or.inl ⟨p.mem_iff.1 (List.getElem_mem hk), by simp; exact fun e => hik ((bs_inj hnd hi hk).2 e.symm)⟩
  · rintro (⟨he, hb⟩ | rfl)
    · simp at hb
      obtain ⟨k, hk, rfl⟩ := List.getElem_of_mem (p.mem_iff.2 he)
      have hki : i ≠ k := fun e => hb (by subst e; rfl)
      have : (E.set i (E[i].now u))[k]'(by rw [List.length_set]; exact hk) = E[k] := by rw [List.getElem_set, if_neg hki]
      rw [← this]
      exact List.getElem_mem (show k < (E.set i (E[i].now u)).length by rw [List.length_set]; exact hk)
    · exact List.mem_set hi _
theorem LF_alike {cb : Nat} {la : Option Addr} {cl : Nat} {E E' : List Ent} (h : (E'.map Ent.b).Perm (E.map Ent.b)) : ∀ k, k ∈ LF cb la cl E' → k ∈ LF cb la cl E := by
  intro k hk
  simp only [LF, List.mem_cons, List.mem_append] at hk ⊢
  exact hk.imp id (Or.imp id h.mem_iff.1)
theorem cuse_any (i : Nat) (B cb mb : Nat) (la : Option Addr) (cl : Nat) (E L : List Ent) (most uses db : Nat) (w : World) (h : CacheAt w B cb mb la cl E L most uses db) (hi : i < E.length) (hu : uses < 9223372036854775807) :
    Calls Try.prog 28 #[.pointer (some ⟨cb, 0, none⟩), .pointer (some ⟨E[i].b, 0, none⟩)] w fun e w' => e = .returned (.tuple #[]) ∧ ∃ E', CacheAt w' B cb mb la cl E' (used L E[i] (uses + 1)) most (uses + 1) db ∧ Chg (LF cb la cl E) w w' := by
  have c4 := h.c4
  have f4 := h.f4
  have he := h.ln.e i hi
  have hm := List.getElem_mem hi
  have hl := h.ln.bl _ hm
  have u1 := he.cell 258 _ (entV_used hl)
  have u2 := he.frozen 258
  have hbc := h.ln.nc _ hm
  have g1 : Chg [cb] w (w.setCell ⟨cb, 4, none⟩ (.int .u64 ((uses : Int) + 1))) := Chg.setCell w ⟨cb, 4, none⟩ _
  have g2 : Chg [E[i].b] (w.setCell ⟨cb, 4, none⟩ (.int .u64 ((uses : Int) + 1))) ((w.setCell ⟨cb, 4, none⟩ (.int .u64 ((uses : Int) + 1))).setCell ⟨E[i].b, 258, none⟩ (.int .u64 ((uses : Int) + 1))) := Chg.setCell _ ⟨E[i].b, 258, none⟩ _
  have hln1 := h.ln.cb g1 (by rw [World.cell?_setCell_other _ _ _ _ (by simp)]) (by rw [World.frozen?_setCell])
  have hx2 : Blk ((w.setCell ⟨cb, 4, none⟩ (.int .u64 ((uses : Int) + 1))).setCell ⟨E[i].b, 258, none⟩ (.int .u64 ((uses : Int) + 1))) E[i].b 68 (entV (E[i].now (uses + 1)) i) := by
    have := (hln1.e i hi).set1 258 (.int .u64 ((uses + 1 : Nat) : Int))
    rw [entV_setUsed hl] at this
    exact this
  have hln2 := hln1.upd hi (x := (E[i].now (uses + 1))) rfl hl g2 hx2
  have s2 := hx2.cell 259 _ (entV_spot (e := (E[i].now (uses + 1))) hl)
  go_enter Try.func28, Try.ntmps28
  go_wp2
  generalize hW : (w.setCell ⟨cb, 4, none⟩ (.int .u64 ((uses : Int) + 1))).setCell ⟨E[i].b, 258, none⟩ (.int .u64 ((uses : Int) + 1)) = w2 at *
  have HW := mkHid hW
  clear hW u1 u2 c4 f4 hx2
  go_region_with (first | (go_at_call 49; refine (hfix_any i B cb la cl (E.set i (E[i].now (uses + 1))) _ (hln2.keep (by first | exact Chg.refl _ _ | exact Chg.drew _ _)) (by rw [List.length_set]; exact hi) (by rw [List.length_set]; exact down_set hi _ h.hp)).mono ?_; rintro e w3 ⟨rfl, E', h3, p3, H3, g3⟩))
  go_end0
  have hset := set_alike hi (x := (E[i].now (uses + 1))) Ent.b rfl
  have hpE : (E'.map Ent.b).Perm (E.map Ent.b) := by rw [← hset]; exact p3.map _
  have hP : E'.Perm (used L E[i] (uses + 1)) := p3.trans (set_used h.ln.nd h.pm hi (uses + 1))
  have g13 : Chg (SF la cl E) (w.setCell ⟨cb, 4, none⟩ (.int .u64 ((uses : Int) + 1))) w3 := g2.trans ((Chg.drew [] w2).trans g3 (fun _ h _ => by simp at h) (fun _ h _ => h)) (fun k hk _ => by
    simp at hk
    simp only [SF, List.mem_append, List.mem_map]
    exact Or.inr ⟨_, hm, hk.symm⟩) (fun k hk _ => by simp only [SF, List.mem_append] at hk ⊢; rw [hset] at hk; exact hk)
  have hcbS : cb ∉ SF la cl E := fun hk => by
    simp only [SF, List.mem_append, List.mem_map] at hk
    rcases hk with hk | ⟨e, he, e2⟩
    · exact h.ln.cr hk
    · exact h.ln.nc e he e2
  have hmbS : mb ∉ SF la cl E := fun hk => h.mF (LF_of_SF _ hk)
  have hmc : mb ≠ cb := fun e => h.mF (by simp [LF, e])
  have hcell : ∀ j v, j ≠ 4 → w.cell? ⟨cb, j, none⟩ = some v → w3.cell? ⟨cb, j, none⟩ = some v := fun j v hj hv => g13.cellv (set_other' hv hj) hcbS
  have hlen : (used L E[i] (uses + 1)).length = L.length := by rw [← hP.length_eq, p3.length_eq, List.length_set, h.pm.length_eq]
  have hmem : ∀ e ∈ used L E[i] (uses + 1), e ∈ L ∨ e = (E[i].now (uses + 1)) := fun e he => by
    unfold used at he
    rw [List.mem_append, List.mem_filter, List.mem_singleton] at he
    exact he.imp And.left id
  obtain ⟨D, hD⟩ := h.hd
  have hD3 := (hD.chg g1 (by simpa using hmc)).chg g13 hmbS
  refine ⟨rfl, E', ⟨hcell 0 _ (by decide) h.c0, hcell 1 _ (by decide) h.c1, hcell 2 _ (by decide) h.c2, ?_, ?_, h3, H3, ⟨D, (hD3.alike (set_alike hi (x := E[i].now (uses + 1)) (fun e => (e.pl, e.b)) rfl)).perm p3⟩, hP, ?_, ?_, ?_, ?_, by rw [hlen]; exact h.le, h.mo, fun hk => h.mF (LF_alike hpE _ hk), h.mB⟩, ?_⟩
  · exact g13.cellv (World.cell?_setCell_same _ _ _ h.c4) hcbS
  · exact (g13.frozen (p := ⟨cb, 4, none⟩) (by rw [show (w.setCell ⟨cb, 4, none⟩ (.int .u64 ((uses : Int) + 1))).heap.size = w.heap.size by simp]; exact block_lt_of_cell h.c4) hcbS).trans (by rw [World.frozen?_setCell]; exact h.f4)
  · unfold used
    refine List.pairwise_append.2 ⟨h.so.filter _, by simp, fun a ha b hb => ?_⟩
    simp at hb
    have := h.us a (List.mem_filter.1 ha).1
    rw [hb]
    show a.used < uses + 1
    omega
  · intro e he
    rcases hmem e he with he | rfl
    · have := h.us e he; omega
    · exact Nat.le_refl _
  · have : ((used L E[i] (uses + 1)).map Ent.pl).Perm (L.map Ent.pl) := by
      refine (hP.symm.map _).trans ?_
      refine (p3.map _).trans ?_
      rw [set_alike hi (x := E[i].now (uses + 1)) Ent.pl rfl]
      exact h.pm.map _
    exact this.nodup_iff.2 h.np
  · intro e he
    rcases hmem e he with he | rfl
    · exact h.pl e he
    · exact h.pl E[i] (h.pm.mem_iff.1 hm)
  · exact g1.trans g13 (fun k hk _ => by simp at hk; simp [LF, hk]) (fun k hk _ => LF_of_SF k hk)
end Go.Proofs.Ytdmhcbbakgljoaa
