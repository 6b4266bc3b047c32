/- Texts Jj, Jk, Jl, Jm, Jn of the library, joined. -/
import Derived.Test.YtoeijomelabbfaaGreatDoorM11
import Derived.Deep.DeepCutAuto
/- The cache beside its disk: room is made, a block comes. -/
namespace Go.Proofs.YtoeijomelabbfaaGreatDoor
set_option maxRecDepth 200000
open Go.RowKit Go.Maps
set_option linter.unusedVariables false
set_option linter.unusedSimpArgs false
attribute [local go_sem ↓] Go.wp_at_zero Go.wp_at_succ

def zero256 : List UInt8 := List.replicate 256 0
/-- The block that comes. -/
def fresh (b pl : Nat) : Ent := ⟨b, pl, zero256, false, 0⟩
theorem built_block (b pl : Nat) : Tryz.prog.built 139 [(0, .int .i64 (pl : Int))] = some (entV (fresh b pl) 0).toArray := by kernel_rfl
theorem CacheAt.comes {w w3 w4 : World} {B cb mb : Nat} {la la' : Option Addr} {cl cl' : Nat} {E L E' : List Ent} {most uses db : Nat} (h : CacheAt w B cb mb la cl E L most uses db) {nb pl : Nat} (hz : w.heap.size = nb) (g3 : Chg [mb] w w3) {D : DataW Unit} (hD : HeldAt w mb E D)
    (ho : w3.ownsMap Tryz.prog 3 ptrR mb (E.length + 1) (D.put (.int .i64 pl) (.lit (.int .u64 nb)))) (h4 : LineAt w4 B cb la' cl' E') (p4 : E'.Perm (E ++ [fresh nb pl])) (H4 : Heap E' E'.length) (g4 : Chg (nb :: LF cb la cl E) w3 w4) (f4 : ∀ k, k ∈ fp la' cl' → k ∈ fp la cl ∨ w3.heap.size ≤ k) (q4 : Only3 cb w3 w4)
    (hpl : pl < 1024) (hn : ∀ e ∈ L, e.pl ≠ pl) (hu : ∀ e ∈ L, 0 < e.used) (hlt : L.length < most) :
    CacheAt w4 B cb mb la' cl' E' (fresh nb pl :: L) most uses db ∧ Chg (CF cb mb la cl E) w w4 ∧ ∀ k, k ∈ CF cb mb la' cl' E' → k ∈ CF cb mb la cl E ∨ w.heap.size ≤ k := by
  have hcm : cb ∉ [mb] := by
    simp
    intro e
    exact h.mF (by rw [← e]; simp [LF])
  have hmlt := (h.lt mb (by simp [CF])).2
  have hmn : mb ∉ nb :: LF cb la cl E := by
    simp only [List.mem_cons, not_or]
    exact ⟨by omega, h.mF⟩
  have hP : E'.Perm (fresh nb pl :: L) := (p4.trans List.perm_append_comm).trans (h.pm.cons _)
  have hcell : ∀ j v, j ≠ 3 → w.cell? ⟨cb, j, none⟩ = some v → w4.cell? ⟨cb, j, none⟩ = some v := fun j v hj hv => (q4 j hj).1.trans (g3.cellv hv hcm)
  have hCF : ∀ k, k ∈ CF cb mb la' cl' E' → k ∈ CF cb mb la cl E ∨ w.heap.size ≤ k := by
    intro k hk
    simp only [CF, LF, List.mem_cons, List.mem_append, List.mem_map] at hk ⊢
    rcases hk with hk | hk | hk | ⟨e, he, e2⟩
    · exact Or.inl (Or.inl hk)
    · exact Or.inl (Or.inr (Or.inl hk))
    · rcases f4 k hk with h9 | h9
      · exact Or.inl (Or.inr (Or.inr (Or.inl h9)))
      · exact Or.inr (Nat.le_trans g3.size h9)
    · rcases List.mem_append.1 (p4.mem_iff.1 he) with he | he
      · exact Or.inl (Or.inr (Or.inr (Or.inr ⟨e, he, e2⟩)))
      · simp at he
        right
        rw [← e2, he]
        show w.heap.size ≤ nb
        omega
  have hmF : mb ∉ LF cb la' cl' E' := by
    simp only [LF, List.mem_cons, List.mem_append, List.mem_map, not_or]
    refine ⟨by simpa using fun e => hcm (by simp [e]), ?_, ?_⟩
    · intro hk
      rcases f4 mb hk with h9 | h9
      · exact h.mF (by simp [LF, h9])
      · have := g3.size; omega
    · rintro ⟨e, he, e2⟩
      rcases List.mem_append.1 (p4.mem_iff.1 he) with he | he
      · exact h.mF (by simp only [LF, List.mem_cons, List.mem_append, List.mem_map]; exact Or.inr (Or.inr ⟨e, he, e2⟩))
      · simp at he
        rw [he] at e2
        have : nb = mb := e2
        omega
  refine ⟨⟨hcell 0 _ (by decide) h.c0, hcell 1 _ (by decide) h.c1, hcell 2 _ (by decide) h.c2, hcell 4 _ (by decide) h.c4, (q4 4 (by decide)).2.trans ((g3.frozen (p := ⟨cb, 4, none⟩) (show cb < w.heap.size from block_lt_of_cell h.c4) hcm).trans h.f4), h4, H4, ⟨_, (((hD.put (x := fresh nb pl) hpl (fun e he => hn e (h.pm.mem_iff.1 he)) ho).chg g4 hmn).perm p4)⟩, hP, ?_, ?_, ?_, ?_, by simp; omega, h.mo, hmF, h.mB⟩, ?_, hCF⟩
  · exact List.pairwise_cons.2 ⟨fun e he => hu e he, h.so⟩
  · intro e he
    rcases List.mem_cons.1 he with rfl | he
    · exact Nat.zero_le _
    · exact h.us e he
  · rw [List.map_cons, List.nodup_cons]
    refine ⟨fun hm => ?_, h.np⟩
    obtain ⟨e, he, e2⟩ := List.mem_map.1 hm
    exact hn e he e2
  · intro e he
    rcases List.mem_cons.1 he with rfl | he
    · exact hpl
    · exact h.pl e he
  · refine g3.trans g4 (fun k hk _ => by simp at hk; simp [CF, hk]) (fun k hk hlt => ?_)
    rcases List.mem_cons.1 hk with rfl | hk
    · omega
    · simp [CF, hk]
section
variable (B cb mb : Nat) (la : Option Addr) (cl : Nat) (E L : List Ent) (most uses db : Nat) (w : World) (h : CacheAt w B cb mb la cl E L most uses db)
include h
set_option maxRecDepth 20000 in
theorem ctaken_room (pl : Nat) (hpl : pl < 1024) (hn : ∀ e ∈ L, e.pl ≠ pl) (hu : ∀ e ∈ L, 0 < e.used) (hB : B ≤ w.heap.size) (hlt : L.length < most) :
    Calls Tryz.prog 78 #[.pointer (some ⟨cb, 0, none⟩), .int .i64 (pl : Int)] w fun e w' => ∃ nb la' cl' E', e = .returned (.tuple #[.pointer (some ⟨nb, 0, none⟩), .int .i64 0]) ∧ w.heap.size ≤ nb ∧ CacheAt w' B cb mb la' cl' E' (fresh nb pl :: L) most uses db ∧ Chg (CF cb mb la cl E) w w' ∧ ∀ k, k ∈ CF cb mb la' cl' E' → k ∈ CF cb mb la cl E ∨ w.heap.size ≤ k := by
  obtain ⟨D, hD⟩ := h.hd
  have c0 := h.c0
  have c1 := h.c1
  have c2 := h.c2
  have hs : Maps.size D = L.length := hD.s.trans h.pm.length_eq
  have hne : ((Maps.size D : Int) == (most : Int)) = false := beq_eq_false_iff_ne.2 (by omega)
  have hne2 : (Maps.size D == most) = false := beq_eq_false_iff_ne.2 (by omega)
  have hO := hD.o
  clear hs
  go_enter Tryz.func78, Tryz.ntmps78
  go_upto_region 1 with fail
  go_cut [17] (fun v wx => v = .bool false ∧ Chg [] w wx)
  case first =>
    go_region_law (refine step_len rfl (.tmp 11) 130 rfl 3 128 Tryz.underlying130 ptrR mb E.length D rfl (by first | exact hO | exact hO.drew | exact hO.drew.drew) ?_)
    all_goals
      go_wp2_with fail
      go_meet
      exact ⟨rfl, by first | exact Chg.refl _ _ | exact Chg.drew _ _ | exact (Chg.drew _ _).then (Chg.drew _ _)⟩
  case rest =>
    obtain ⟨rfl, gx⟩ := hcut
    have h1 := h.keep gx
    have c12 := h1.c2
    have hle := h.le
    have hmo := h.mo
    have hEl := h.pm.length_eq
    have hF : ∀ (w3 : World) (nb : Nat), wc.heap.size = nb → nb < w3.heap.size → Chg [mb] wc w3 → Blk w3 nb 139 (entV (fresh nb pl) 0) → Calls Tryz.prog 143 #[.iface 191 (.pointer (some ⟨cb, 3, none⟩)), .iface 128 (.pointer (some ⟨nb, 0, none⟩))] w3 fun e w' => e = .returned (.tuple #[]) ∧ ∃ la' cl' E', LineAt w' B cb la' cl' E' ∧ E'.Perm (E ++ [fresh nb pl]) ∧ Heap E' E'.length ∧ Chg (nb :: LF cb la cl E) w3 w' ∧ (∀ k, k ∈ fp la' cl' → k ∈ fp la cl ∨ w3.heap.size ≤ k) ∧ Only3 cb w3 w' := by
      intro w3 nb hz hlt3 g3 hb3
      have hnF : nb ∉ LF cb la cl E := fun hk => by have := (h1.ln.lt nb hk).2; omega
      exact hpush_any (fresh nb pl) 0 B cb la cl E w3 (h1.ln.chg g3 (fun k hk => by simp; rintro rfl; exact h1.mF hk)) (Nat.le_trans hB (Nat.le_trans gx.size g3.size)) hb3 (show zero256.length = 256 from List.length_replicate) hnF (by show B ≤ nb; have := gx.size; omega) (by omega) h1.hp
    have HF := mkHid hF
    clear hF
    go_wp2_with (first
      | (refine wpList_build_w rfl 139 #[(0, .tmp 23)] rfl (entV (fresh 0 pl) 0) (built_block 0 pl) ?_)
      | (refine wpList_box_w rfl 139 (.tmp 24) rfl (entV (fresh 0 pl) 0) rfl ?_; intro w2 hb2 hg2 hs2; have c22 := hg2.cellv c12 (by simp); generalize hz : wc.heap.size = nb at *)
      | (at_mapUpdate; refine wpList_mapUpdate_in _ rfl (.tmp 29) (.tmp 30) (.tmp 31) 130 rfl 3 128 (int_keyed Tryz.underlying3) Tryz.underlying130 ptrR mb E.length D rfl (hD.chg (gx.then hg2) (by simp)).o (by unfold maxLen; omega) _ _ (.int .i64 pl) rfl rfl (keyI pl hpl) (.lit (.int .u64 nb)) [] (ptrR_mk nb) ?_; intro w3 ho3 hm3)
      | (go_at_call 143; refine (HF.out _ _ (by first | exact hz | rfl) (by have := (grown_chg hm3).size; omega) (hg2.trans (grown_chg hm3) (by simp) (fun _ h _ => h)) (hb2.chg (grown_chg hm3) (by simp; intro e9; have := (h1.lt mb (by simp [CF])).2; omega))).mono ?_; rintro e w4 ⟨rfl, la', cl', E', h4, p4, H4, g4, f4, q4⟩))
    go_ret2
    obtain ⟨r1, r2, r3⟩ := h1.comes hz (hg2.trans (grown_chg hm3) (by simp) (fun _ h _ => h)) (hD.chg gx (by simp)) ho3 h4 p4 H4 g4 f4 q4 hpl hn hu hlt
    exact ⟨nb, la', cl', E', rfl, by have := gx.size; omega, r1, gx.trans r2 (by simp) (fun _ h _ => h), fun k hk => (r3 k hk).imp id (fun h9 => Nat.le_trans gx.size h9)⟩
end
end Go.Proofs.YtoeijomelabbfaaGreatDoor

/- The cache beside its disk: room is made where there is none. -/
namespace Go.Proofs.YtoeijomelabbfaaGreatDoor
set_option maxRecDepth 200000
open Go.RowKit Go.Maps
set_option linter.unusedVariables false
set_option linter.unusedSimpArgs false
attribute [local go_sem ↓] Go.wp_at_zero Go.wp_at_succ

theorem CacheAt.push_next {wc : World} {B cb mb : Nat} {la : Option Addr} {cl : Nat} {E L : List Ent} {most uses db : Nat} (h1 : CacheAt wc B cb mb la cl E L most uses db) (hB : B ≤ wc.heap.size) (pl : Nat) :
    ∀ (w3 : World) (nb : Nat), wc.heap.size = nb → nb < w3.heap.size → Chg [mb] wc w3 → Blk w3 nb 139 (entV (fresh nb pl) 0) → Calls Tryz.prog 143 #[.iface 191 (.pointer (some ⟨cb, 3, none⟩)), .iface 128 (.pointer (some ⟨nb, 0, none⟩))] w3 fun e w' => e = .returned (.tuple #[]) ∧ ∃ la' cl' E', LineAt w' B cb la' cl' E' ∧ E'.Perm (E ++ [fresh nb pl]) ∧ Heap E' E'.length ∧ Chg (nb :: LF cb la cl E) w3 w' ∧ (∀ k, k ∈ fp la' cl' → k ∈ fp la cl ∨ w3.heap.size ≤ k) ∧ Only3 cb w3 w' := by
  intro w3 nb hz hlt3 g3 hb3
  have hle := h1.le
  have hmo := h1.mo
  have hEl := h1.pm.length_eq
  have hnF : nb ∉ LF cb la cl E := fun hk => by have := (h1.ln.lt nb hk).2; omega
  exact hpush_any (fresh nb pl) 0 B cb la cl E w3 (h1.ln.chg g3 (fun k hk => by simp; rintro rfl; exact h1.mF hk)) (Nat.le_trans hB g3.size) hb3 (show zero256.length = 256 from List.length_replicate) hnF (by show B ≤ nb; omega) (by omega) h1.hp
section
variable (B cb mb : Nat) (la : Option Addr) (cl : Nat) (E : List Ent) (most uses db : Nat) (w : World) (x : Ent) (T : List Ent) (h : CacheAt w B cb mb la cl E (x :: T) most uses db)
variable (g : DG) (fa : Option Addr) (cf : Nat) (st : RS) (hDv : DevAt w B db g fa cf st) (hW : Whole st) (hB : B ≤ w.heap.size) (hLb : st.L.length ≤ 1000000000) (hx : ∀ k, k ∈ CF cb mb la cl E → k ∉ DF db g fa cf)
include h hDv hW hB hLb hx
theorem cletgo_any :
    Calls Tryz.prog 142 #[.pointer (some ⟨cb, 0, none⟩)] w fun e w' => e = .returned (.int .i64 (wrote x st).1) ∧ ∃ fa' cf', DevAt w' B db g fa' cf' (wrote x st).2 ∧ Later w fa cf fa' cf' ∧ Chg (CF cb mb la cl E ++ DF db g fa cf) w w' ∧
      ((wrote x st).1 ≠ 0 → CacheAt w' B cb mb la cl E (x :: T) most uses db) ∧ ((wrote x st).1 = 0 → ∃ F, CacheAt w' B cb mb la cl F T most uses db ∧ ∀ k, k ∈ LF cb la cl F → k ∈ LF cb la cl E) := by
  unfold wrote
  cases hd : x.dirty
  · simp only [Bool.false_eq_true, if_false]
    refine (cletgo_clean B cb mb la cl E most uses db w x T h hd).mono ?_
    rintro e w' ⟨rfl, F, k, gk, lk⟩
    exact ⟨rfl, fa, cf, hDv.chg gk (fun k hk hm => hx k hm hk), fun k hk => Or.inl hk, gk.mono (fun k hk _ => List.mem_append_left _ hk), fun h9 => absurd rfl h9, fun _ => ⟨F, k, lk⟩⟩
  · simp only [if_true]
    exact cletgo_dirty B cb mb la cl E most uses db w x T h hd g fa cf st hDv hW hB hLb hx
set_option maxRecDepth 20000 in
set_option maxHeartbeats 1000000 in
theorem ctaken_full (pl : Nat) (hpl : pl < 1024) (hn : ∀ e ∈ T, e.pl ≠ pl) (hu : ∀ e ∈ x :: T, 0 < e.used) (hfull : (x :: T).length = most) :
    Calls Tryz.prog 78 #[.pointer (some ⟨cb, 0, none⟩), .int .i64 (pl : Int)] w fun e w' => ∃ v fa' cf' la' cl' E', e = .returned (.tuple #[v, .int .i64 (wrote x st).1]) ∧ DevAt w' B db g fa' cf' (wrote x st).2 ∧ Later w fa cf fa' cf' ∧ Chg (CF cb mb la cl E ++ DF db g fa cf) w w' ∧ (∀ k, k ∈ CF cb mb la' cl' E' → k ∈ CF cb mb la cl E ∨ w.heap.size ≤ k) ∧ (∀ k, k ∈ CF cb mb la' cl' E' → k ∉ DF db g fa' cf') ∧
      ((wrote x st).1 ≠ 0 → CacheAt w' B cb mb la' cl' E' (x :: T) most uses db) ∧ ((wrote x st).1 = 0 → ∃ nb, v = .pointer (some ⟨nb, 0, none⟩) ∧ w.heap.size ≤ nb ∧ CacheAt w' B cb mb la' cl' E' (fresh nb pl :: T) most uses db) := by
  obtain ⟨D, hD⟩ := h.hd
  have c0 := h.c0
  have c1 := h.c1
  have c2 := h.c2
  have hs : Maps.size D = most := (hD.s.trans h.pm.length_eq).trans hfull
  have hO := hD.o
  have HS := mkHid hs
  have hmo := h.mo
  clear hs
  go_enter Tryz.func78, Tryz.ntmps78
  go_upto_region 1 with fail
  go_cut [17] (fun v wx => v = .bool true ∧ Chg [] w wx)
  case first =>
    have hne : ((Maps.size D : Int) == (most : Int)) = true := by rw [HS.out]; simp
    have hne2 : (Maps.size D == most) = true := by rw [HS.out]; simp
    go_region_law (refine step_len rfl (.tmp 11) 130 rfl 3 128 Tryz.underlying130 ptrR mb E.length D rfl (by first | exact hO | exact hO.drew | exact hO.drew.drew) ?_)
    all_goals
      go_wp2_with fail
      go_meet
      exact ⟨rfl, by first | exact Chg.refl _ _ | exact Chg.drew _ _ | exact (Chg.drew _ _).then (Chg.drew _ _)⟩
  case rest =>
    obtain ⟨rfl, gx⟩ := hcut
    have h1 := h.keep gx
    have d1 := hDv.keep gx
    have cG := cletgo_any B cb mb la cl E most uses db wc x T h1 g fa cf st d1 hW (Nat.le_trans hB gx.size) hLb hx
    by_cases hv : (wrote x st).1 = 0
    · rw [hv] at cG
      have HV := mkHid hv
      clear hv
      go_wp2_with (first
        | (go_at_call 142; refine cG.mono ?_; rintro e w1 ⟨rfl, fa', cf', d2, l2, g2, -, k0⟩; obtain ⟨F, kF, lF⟩ := k0 rfl; clear k0; obtain ⟨D1, hD1⟩ := kF.hd; have HF := mkHid (kF.push_next (Nat.le_trans hB (Nat.le_trans gx.size g2.size)) pl); have c12 := kF.c2; have hFl := kF.pm.length_eq; have hFle := kF.le)
        | (refine wpList_build_w rfl 139 #[(0, .tmp 23)] rfl (entV (fresh 0 pl) 0) (built_block 0 pl) ?_)
        | (refine wpList_box_w rfl 139 (.tmp 24) rfl (entV (fresh 0 pl) 0) rfl ?_; intro w2 hb2 hg2 hs2; have c22 := hg2.cellv c12 (by simp); generalize hz : w1.heap.size = nb at *)
        | (at_mapUpdate; refine wpList_mapUpdate_in _ rfl (.tmp 29) (.tmp 30) (.tmp 31) 130 rfl 3 128 (int_keyed Tryz.underlying3) Tryz.underlying130 ptrR mb F.length D1 rfl (hD1.chg hg2 (by simp)).o (by unfold maxLen; omega) _ _ (.int .i64 pl) rfl rfl (keyI pl hpl) (.lit (.int .u64 nb)) [] (ptrR_mk nb) ?_; intro w3 ho3 hm3)
        | (go_at_call 143; refine (HF.out _ _ (by first | exact hz | rfl) (by have := (grown_chg hm3).size; omega) (hg2.trans (grown_chg hm3) (by simp) (fun _ h _ => h)) (hb2.chg (grown_chg hm3) (by simp; intro e9; have := (kF.lt mb (by simp [CF])).2; omega))).mono ?_; rintro e w4 ⟨rfl, la', cl', E', h4, p4, H4, g4, f4, q4⟩))
      go_ret2
      have hTm : T.length < most := by simp at hfull; omega
      obtain ⟨r1, r2, r3⟩ := kF.comes hz (hg2.trans (grown_chg hm3) (by simp) (fun _ h _ => h)) hD1 ho3 h4 p4 H4 g4 f4 q4 hpl hn (fun e he => hu e (List.mem_cons_of_mem _ he)) hTm
      have hCF : ∀ k, k ∈ CF cb mb la cl F → k ∈ CF cb mb la cl E := fun k hk => by
        simp only [CF, List.mem_cons] at hk ⊢
        exact hk.imp id (lF k)
      have hlt1 : w.heap.size ≤ w1.heap.size := Nat.le_trans gx.size g2.size
      have gall : Chg (CF cb mb la cl E ++ DF db g fa cf) w w1 := gx.trans g2 (by simp) (fun _ h _ => h)
      have hno : ∀ k, k ∈ CF cb mb la cl F → k ∉ DF db g fa' cf' := fun k hk hm => by
        rcases DF_later l2 k hm with h9 | h9
        · exact hx k (hCF k hk) h9
        · have := (h1.lt k (hCF k hk)).2; omega
      have d4 : DevAt w4 B db g fa' cf' (wrote x st).2 := d2.chg r2 (fun k hk hm => hno k hm hk)
      refine ⟨_, fa', cf', la', cl', E', by rw [HV.out]; rfl, d4, fun k hk => (l2 k hk).imp id (fun h9 => Nat.le_trans gx.size h9), gall.trans r2 (fun _ h _ => h) (fun k hk _ => List.mem_append_left _ (hCF k hk)), fun k hk => (r3 k hk).imp (hCF k) (fun h9 => Nat.le_trans hlt1 h9), fun k hk hm => ?_, fun h9 => absurd HV.out h9, fun _ => ⟨nb, rfl, by omega, r1⟩⟩
      rcases r3 k hk with h9 | h9
      · exact hno k h9 hm
      · have := (d2.lt k hm).2; omega
    · have hv2 : ((wrote x st).1 != 0) = true := by simpa using hv
      have HV := mkHid hv
      clear hv
      go_wp2_with (first | (go_at_call 142; refine cG.mono ?_; rintro e w1 ⟨rfl, fa', cf', d2, l2, g2, k0, -⟩))
      go_ret2
      refine ⟨.pointer none, fa', cf', la, cl, E, rfl, d2, fun k hk => (l2 k hk).imp id (fun h9 => Nat.le_trans gx.size h9), gx.trans g2 (by simp) (fun _ h _ => h), fun k hk => Or.inl hk, fun k hk hm => ?_, fun h9 => k0 h9, fun h9 => absurd h9 HV.out⟩
      rcases DF_later l2 k hm with h9 | h9
      · exact hx k hk h9
      · have := (h1.lt k hk).2; omega
end
end Go.Proofs.YtoeijomelabbfaaGreatDoor

/- A cache as chapter 5 has it, and what the program's cache in memory is of it. -/
namespace Go.Proofs.YtoeijomelabbfaaGreatDoor
set_option maxRecDepth 200000
open Go.RowKit Go.Maps
set_option linter.unusedVariables false
set_option linter.unusedSimpArgs false
attribute [local go_sem ↓] Go.wp_at_zero Go.wp_at_succ

/-- A block that a cache holds. -/
structure KE where
  pl : Nat
  bs : List UInt8
  dirty : Bool
def absE (e : Ent) : KE := ⟨e.pl, e.bs, e.dirty⟩
def kfind (K : List KE) (a : Nat) : Option KE := K.find? (fun e => e.pl == a)
def kdrop (K : List KE) (a : Nat) : List KE := K.filter (fun e => e.pl != a)
def kwrote (h : KE) (st : RS) : Int × RS := if h.dirty then write st h.pl h.bs else (0, st)
/-- Room for a block that is not held: what is told; the cache, the disk behind it. -/
def kroom (n : Nat) (K : List KE) (st : RS) : Int × List KE × RS :=
  if K.length < n then (0, K, st) else match K with
  | [] => (0, [], st)
  | h :: T => if (kwrote h st).1 = 0 then (0, T, (kwrote h st).2) else ((kwrote h st).1, h :: T, (kwrote h st).2)
theorem kroom_room {n : Nat} {K : List KE} {st : RS} (h : K.length < n) : kroom n K st = (0, K, st) := by unfold kroom; rw [if_pos h]
theorem kroom_ok {n : Nat} {h : KE} {T : List KE} {st : RS} (hf : n ≤ (h :: T).length) (hv : (kwrote h st).1 = 0) : kroom n (h :: T) st = (0, T, (kwrote h st).2) := by unfold kroom; rw [if_neg (by omega)]; simp only [hv, if_true]
theorem kroom_no {n : Nat} {h : KE} {T : List KE} {st : RS} (hf : n ≤ (h :: T).length) (hv : (kwrote h st).1 ≠ 0) : kroom n (h :: T) st = ((kwrote h st).1, h :: T, (kwrote h st).2) := by unfold kroom; rw [if_neg (by omega)]; simp only [hv, if_false]
theorem kfind_none {K : List KE} {a : Nat} (h : kfind K a = none) : ∀ e ∈ K, e.pl ≠ a := fun e he => by
  have := List.find?_eq_none.1 h e he
  simpa using this
theorem kfind_some {K : List KE} {a : Nat} {x : KE} (h : kfind K a = some x) : x ∈ K ∧ x.pl = a := ⟨List.mem_of_find?_eq_some h, by have := List.find?_some h; simpa using this⟩
theorem pl_inj {L : List Ent} (h : (L.map Ent.pl).Nodup) {x y : Ent} (hx : x ∈ L) (hy : y ∈ L) (e : x.pl = y.pl) : x = y := by
  obtain ⟨i, hi, rfl⟩ := List.getElem_of_mem hx
  obtain ⟨j, hj, rfl⟩ := List.getElem_of_mem hy
  have := (List.getElem_inj (xs := L.map Ent.pl) (i := i) (j := j) (h₀ := by simpa using hi) (h₁ := by simpa using hj) h).1 (by simpa using e)
  subst this
  rfl
theorem abs_used {L : List Ent} (hb : (L.map Ent.b).Nodup) (hp : (L.map Ent.pl).Nodup) {x : Ent} (hx : x ∈ L) (u : Nat) : (used L x u).map absE = kdrop (L.map absE) x.pl ++ [absE x] := by
  unfold used kdrop
  rw [List.map_append, List.filter_map]
  congr 2
  refine List.filter_congr fun e he => ?_
  show (e.b != x.b) = (e.pl != x.pl)
  by_cases h : e = x
  · rw [h]; simp
  · have h1 : e.b ≠ x.b := fun h9 => h (b_inj hb he hx h9)
    have h2 : e.pl ≠ x.pl := fun h9 => h (pl_inj hp he hx h9)
    rw [bne_iff_ne.2 h1, bne_iff_ne.2 h2]
theorem abs_find {L : List Ent} {a : Nat} {h : KE} (hf : kfind (L.map absE) a = some h) : ∃ x ∈ L, absE x = h ∧ x.pl = a := by
  obtain ⟨h1, h2⟩ := kfind_some hf
  obtain ⟨x, hx, rfl⟩ := List.mem_map.1 h1
  exact ⟨x, hx, rfl, h2⟩
theorem CacheAt.spot {w : World} {B cb mb : Nat} {la : Option Addr} {cl : Nat} {E L : List Ent} {most uses db : Nat} (h : CacheAt w B cb mb la cl E L most uses db) {x : Ent} (hx : x ∈ L) : ∃ i, ∃ hi : i < E.length, E[i] = x := by
  obtain ⟨i, hi, e⟩ := List.getElem_of_mem (h.pm.mem_iff.2 hx)
  exact ⟨i, hi, e⟩
theorem CacheAt.bnd {w : World} {B cb mb : Nat} {la : Option Addr} {cl : Nat} {E L : List Ent} {most uses db : Nat} (h : CacheAt w B cb mb la cl E L most uses db) : (L.map Ent.b).Nodup := (h.pm.map _).nodup_iff.1 h.ln.nd
theorem CacheAt.mem {w : World} {B cb mb : Nat} {la : Option Addr} {cl : Nat} {E L : List Ent} {most uses db : Nat} (h : CacheAt w B cb mb la cl E L most uses db) {x : Ent} (hx : x ∈ L) : x.b ∈ CF cb mb la cl E ∧ x.bs.length = 256 := by
  have hE := h.pm.mem_iff.2 hx
  refine ⟨?_, h.ln.bl x hE⟩
  simp only [CF, LF, List.mem_cons, List.mem_append, List.mem_map]
  exact Or.inr (Or.inr (Or.inr ⟨x, hE, rfl⟩))

/-- The disk and the cache over it that a law holds, blocks R beside them. -/
structure Pair (w0 w : World) (R : Nat → Prop) (db : Nat) (g : DG) (fa : Option Addr) (cf : Nat) (st : RS) (cb mb : Nat) (la : Option Addr) (cl : Nat) (E L : List Ent) (most uses : Nat) : Prop where
  d : DevAt w w0.heap.size db g fa cf st
  k : CacheAt w w0.heap.size cb mb la cl E L most uses db
  u : ∀ e ∈ L, 0 < e.used
  c : Chg [] w0 w
  W : Whole st
  x : ∀ k, k ∈ CF cb mb la cl E → k ∉ DF db g fa cf
  r : ∀ k, R k → k ∉ CF cb mb la cl E ∧ k ∉ DF db g fa cf ∧ k < w.heap.size
/-- Nothing of R turned. -/
def Off (R : Nat → Prop) (w w' : World) : Prop := ∃ S, Chg S w w' ∧ ∀ k, k ∈ S → ¬ R k
theorem Off.keep {R : Nat → Prop} {w w' : World} (c : Chg [] w w') : Off R w w' := ⟨[], c, by simp⟩
theorem Off.trans {R : Nat → Prop} {a b c : World} (h : Off R a b) (g : Off R b c) : Off R a c := by
  obtain ⟨S, hS, h1⟩ := h
  obtain ⟨T, hT, h2⟩ := g
  exact ⟨S ++ T, hS.trans hT (fun k hk _ => List.mem_append_left _ hk) (fun k hk _ => List.mem_append_right _ hk), fun k hk => (List.mem_append.1 hk).elim (h1 k) (h2 k)⟩
theorem Off.less {R R' : Nat → Prop} {w w' : World} (h : Off R w w') (hR : ∀ k, R' k → R k) : Off R' w w' := by
  obtain ⟨S, hS, h1⟩ := h
  exact ⟨S, hS, fun k hk h9 => h1 k hk (hR k h9)⟩
theorem Pair.off {w0 w w' : World} {R : Nat → Prop} {db : Nat} {g : DG} {fa : Option Addr} {cf : Nat} {st : RS} {cb mb : Nat} {la : Option Addr} {cl : Nat} {E L : List Ent} {most uses : Nat} (h : Pair w0 w R db g fa cf st cb mb la cl E L most uses) (c : Chg (CF cb mb la cl E ++ DF db g fa cf) w w') : Off R w w' :=
  ⟨_, c, fun k hk h9 => (List.mem_append.1 hk).elim (h.r k h9).1 (h.r k h9).2.1⟩
/-- Both have gone on. -/
theorem Pair.go {w0 w w' : World} {R : Nat → Prop} {db : Nat} {g : DG} {fa fa' : Option Addr} {cf cf' : Nat} {st st' : RS} {cb mb : Nat} {la la' : Option Addr} {cl cl' : Nat} {E L E' L' : List Ent} {most uses uses' : Nat} (h : Pair w0 w R db g fa cf st cb mb la cl E L most uses)
    (d : DevAt w' w0.heap.size db g fa' cf' st') (k : CacheAt w' w0.heap.size cb mb la' cl' E' L' most uses' db) (u : ∀ e ∈ L', 0 < e.used) (c : Chg (CF cb mb la cl E ++ DF db g fa cf) w w') (W : Whole st') (x : ∀ k, k ∈ CF cb mb la' cl' E' → k ∉ DF db g fa' cf')
    (lc : ∀ k, k ∈ CF cb mb la' cl' E' → k ∈ CF cb mb la cl E ∨ w.heap.size ≤ k) (ld : ∀ k, k ∈ DF db g fa' cf' → k ∈ DF db g fa cf ∨ w.heap.size ≤ k) : Pair w0 w' R db g fa' cf' st' cb mb la' cl' E' L' most uses' :=
  ⟨d, k, u, h.c.trans c (by simp) (fun q hq hlt => by
    rcases List.mem_append.1 hq with h9 | h9
    · have := (h.k.lt q h9).1; omega
    · have := (h.d.lt q h9).1; omega), W, x, fun q hq => ⟨fun h9 => (lc q h9).elim (h.r q hq).1 (fun h8 => by have := (h.r q hq).2.2; omega), fun h9 => (ld q h9).elim (h.r q hq).2.1 (fun h8 => by have := (h.r q hq).2.2; omega), Nat.lt_of_lt_of_le (h.r q hq).2.2 c.size⟩⟩
theorem Pair.keep {w0 w w' : World} {R : Nat → Prop} {db : Nat} {g : DG} {fa : Option Addr} {cf : Nat} {st : RS} {cb mb : Nat} {la : Option Addr} {cl : Nat} {E L : List Ent} {most uses : Nat} (h : Pair w0 w R db g fa cf st cb mb la cl E L most uses) (c : Chg [] w w') : Pair w0 w' R db g fa cf st cb mb la cl E L most uses :=
  h.go (h.d.keep c) (h.k.keep c) h.u (c.mono (by simp)) h.W h.x (fun _ h => Or.inl h) (fun _ h => Or.inl h)
theorem Pair.add {w0 w w' : World} {R R' : Nat → Prop} {db : Nat} {g : DG} {fa : Option Addr} {cf : Nat} {st : RS} {cb mb : Nat} {la : Option Addr} {cl : Nat} {E L : List Ent} {most uses : Nat} (h : Pair w0 w R db g fa cf st cb mb la cl E L most uses) (c : Chg [] w w') (hR : ∀ k, R' k → R k ∨ (w.heap.size ≤ k ∧ k < w'.heap.size)) : Pair w0 w' R' db g fa cf st cb mb la cl E L most uses := by
  have h1 := h.keep c
  refine ⟨h1.d, h1.k, h1.u, h1.c, h1.W, h1.x, fun k hk => ?_⟩
  rcases hR k hk with h9 | ⟨h9, h8⟩
  · exact h1.r k h9
  · exact ⟨fun hm => by have := (h.k.lt k hm).2; omega, fun hm => by have := (h.d.lt k hm).2; omega, h8⟩
theorem Pair.less {w0 w : World} {R R' : Nat → Prop} {db : Nat} {g : DG} {fa : Option Addr} {cf : Nat} {st : RS} {cb mb : Nat} {la : Option Addr} {cl : Nat} {E L : List Ent} {most uses : Nat} (h : Pair w0 w R db g fa cf st cb mb la cl E L most uses) (hR : ∀ k, R' k → R k) : Pair w0 w R' db g fa cf st cb mb la cl E L most uses :=
  ⟨h.d, h.k, h.u, h.c, h.W, h.x, fun k hk => h.r k (hR k hk)⟩
/-- What a law writes beside them. -/
theorem Pair.chg {w0 w w' : World} {R : Nat → Prop} {db : Nat} {g : DG} {fa : Option Addr} {cf : Nat} {st : RS} {cb mb : Nat} {la : Option Addr} {cl : Nat} {E L : List Ent} {most uses : Nat} {S : List Nat} (h : Pair w0 w R db g fa cf st cb mb la cl E L most uses) (c : Chg S w w') (hS : ∀ k, k ∈ S → R k ∧ w0.heap.size ≤ k) : Pair w0 w' R db g fa cf st cb mb la cl E L most uses :=
  ⟨h.d.chg c (fun k hk hm => (h.r k (hS k hm).1).2.1 hk), h.k.chg c (fun k hk hm => (h.r k (hS k hm).1).1 hk), h.u, h.c.trans c (by simp) (fun k hk hlt => by have := (hS k hk).2; omega), h.W, h.x, fun k hk => ⟨(h.r k hk).1, (h.r k hk).2.1, Nat.lt_of_lt_of_le (h.r k hk).2.2 c.size⟩⟩
end Go.Proofs.YtoeijomelabbfaaGreatDoor

/- The cache beside its disk: a use, and room for a block, as chapter 5 has them. -/
namespace Go.Proofs.YtoeijomelabbfaaGreatDoor
set_option maxRecDepth 200000
open Go.RowKit Go.Maps
set_option linter.unusedVariables false
set_option linter.unusedSimpArgs false
attribute [local go_sem ↓] Go.wp_at_zero Go.wp_at_succ

section
variable (B cb mb : Nat) (la : Option Addr) (cl : Nat) (E L : List Ent) (most uses db : Nat) (w : World) (h : CacheAt w B cb mb la cl E L most uses db)
include h
theorem cuse_L (x : Ent) (hx : x ∈ L) (hu : uses < 9223372036854775807) :
    Calls Tryz.prog 79 #[.pointer (some ⟨cb, 0, none⟩), .pointer (some ⟨x.b, 0, none⟩)] w fun e w' => e = .returned (.tuple #[]) ∧ ∃ E', CacheAt w' B cb mb la cl E' (used L x (uses + 1)) most (uses + 1) db ∧ Chg (CF cb mb la cl E) w w' ∧ ∀ k, k ∈ CF cb mb la cl E' → k ∈ CF cb mb la cl E := by
  obtain ⟨i, hi, e⟩ := h.spot hx
  have c := cuse_any i B cb mb la cl E L most uses db w h hi hu
  rw [e] at c
  refine c.mono ?_
  rintro e w' ⟨he, E', k, g⟩
  refine ⟨he, E', k, g.mono (fun k hk _ => by simp [CF, hk]), fun q hq => ?_⟩
  simp only [CF, LF, List.mem_cons, List.mem_append, List.mem_map] at hq ⊢
  rcases hq with hq | hq | hq | ⟨y, hy, rfl⟩
  · exact Or.inl hq
  · exact Or.inr (Or.inl hq)
  · exact Or.inr (Or.inr (Or.inl hq))
  · refine Or.inr (Or.inr (Or.inr ?_))
    have hy2 := k.pm.mem_iff.1 hy
    unfold used at hy2
    rw [List.mem_append, List.mem_filter, List.mem_singleton] at hy2
    rcases hy2 with ⟨h9, _⟩ | rfl
    · exact ⟨y, h.pm.mem_iff.2 h9, rfl⟩
    · exact ⟨x, h.pm.mem_iff.2 hx, rfl⟩
end
/-- Room for a block, and the block, without its bytes yet. -/
theorem ctaken_any (B cb mb : Nat) (la : Option Addr) (cl : Nat) (E L : List Ent) (most uses db : Nat) (w : World) (h : CacheAt w B cb mb la cl E L most uses db)
    (g : DG) (fa : Option Addr) (cf : Nat) (st : RS) (hDv : DevAt w B db g fa cf st) (hW : Whole st) (hB : B ≤ w.heap.size) (hLb : st.L.length ≤ 1000000000) (hx : ∀ k, k ∈ CF cb mb la cl E → k ∉ DF db g fa cf)
    (pl : Nat) (hpl : pl < 1024) (hn : ∀ e ∈ L, e.pl ≠ pl) (hu : ∀ e ∈ L, 0 < e.used) :
    Calls Tryz.prog 78 #[.pointer (some ⟨cb, 0, none⟩), .int .i64 (pl : Int)] w fun e w' => ∃ v fa' cf' la' cl' E', e = .returned (.tuple #[v, .int .i64 (kroom most (L.map absE) st).1]) ∧ DevAt w' B db g fa' cf' (kroom most (L.map absE) st).2.2 ∧ Later w fa cf fa' cf' ∧ Chg (CF cb mb la cl E ++ DF db g fa cf) w w' ∧ (∀ k, k ∈ CF cb mb la' cl' E' → k ∈ CF cb mb la cl E ∨ w.heap.size ≤ k) ∧ (∀ k, k ∈ CF cb mb la' cl' E' → k ∉ DF db g fa' cf') ∧
      ((kroom most (L.map absE) st).1 ≠ 0 → CacheAt w' B cb mb la' cl' E' L most uses db ∧ (kroom most (L.map absE) st).2.1 = L.map absE) ∧
      ((kroom most (L.map absE) st).1 = 0 → ∃ nb L1, v = .pointer (some ⟨nb, 0, none⟩) ∧ w.heap.size ≤ nb ∧ CacheAt w' B cb mb la' cl' E' (fresh nb pl :: L1) most uses db ∧ L1.map absE = (kroom most (L.map absE) st).2.1 ∧ ∀ e ∈ L1, e ∈ L) := by
  by_cases hlt : L.length < most
  · rw [kroom_room (by simpa using hlt)]
    refine (ctaken_room B cb mb la cl E L most uses db w h pl hpl hn hu hB hlt).mono ?_
    rintro e w' ⟨nb, la', cl', E', he, hnb, k, gk, lk⟩
    refine ⟨_, fa, cf, la', cl', E', he, hDv.chg gk (fun q hq hm => hx q hm hq), fun q hq => Or.inl hq, gk.mono (fun q hq _ => List.mem_append_left _ hq), lk, fun q hq hm => ?_, fun h9 => absurd rfl h9, fun _ => ⟨nb, L, rfl, hnb, k, rfl, fun e he => he⟩⟩
    rcases lk q hq with h9 | h9
    · exact hx q h9 hm
    · have := (hDv.lt q hm).2; omega
  · have hle := h.le
    have hmo := h.mo
    cases L with
    | nil => simp at hlt; omega
    | cons x T =>
      have hf : (x :: T).length = most := by omega
      have hkw : ∀ st, kwrote (absE x) st = wrote x st := fun st => rfl
      have c := ctaken_full B cb mb la cl E most uses db w x T h g fa cf st hDv hW hB hLb hx pl hpl (fun e he => hn e (List.mem_cons_of_mem _ he)) hu hf
      by_cases hv : (wrote x st).1 = 0
      · rw [List.map_cons, kroom_ok (by simp at hf ⊢; omega) (by rw [hkw]; exact hv), hkw]
        refine c.mono ?_
        rintro e w' ⟨v, fa', cf', la', cl', E', he, d, l, gg, lk, xk, k0, k1⟩
        rw [hv] at he
        obtain ⟨nb, hv2, hnb, k⟩ := k1 hv
        exact ⟨v, fa', cf', la', cl', E', he, d, l, gg, lk, xk, fun h9 => absurd rfl h9, fun _ => ⟨nb, T, hv2, hnb, k, rfl, fun e he => List.mem_cons_of_mem _ he⟩⟩
      · rw [List.map_cons, kroom_no (by simp at hf ⊢; omega) (by rw [hkw]; exact hv), hkw]
        refine c.mono ?_
        rintro e w' ⟨v, fa', cf', la', cl', E', he, d, l, gg, lk, xk, k0, k1⟩
        exact ⟨v, fa', cf', la', cl', E', he, d, l, gg, lk, xk, fun h9 => ⟨k0 h9, rfl⟩, fun h9 => absurd h9 hv⟩
/-- The bytes of a block are written. -/
theorem CacheAt.bytes {w : World} {B cb mb : Nat} {la : Option Addr} {cl : Nat} {E L : List Ent} {most uses db : Nat} (h : CacheAt w B cb mb la cl E L most uses db) {x : Ent} (hx : x ∈ L) (bs : List UInt8) (hl : bs.length = 256) :
    ∃ E', CacheAt (w.setCells x.b 1 (bts bs)) B cb mb la cl E' (updL L ⟨x.b, x.pl, bs, x.dirty, x.used⟩) most uses db ∧ ∀ k, k ∈ CF cb mb la cl E' → k ∈ CF cb mb la cl E := by
  obtain ⟨i, hi, e⟩ := h.spot hx
  have hbl := (h.mem hx).2
  have hb := h.ln.e i hi
  rw [e] at hb
  have h1 := Blk.sets (bts bs) 1 w _ hb (by rw [bts_length, hl, entV_len hbl]; omega)
  have h2 : (entV x i).take 1 ++ (bts bs ++ (entV x i).drop (1 + (bts bs).length)) = entV ⟨x.b, x.pl, bs, x.dirty, x.used⟩ i := by
    unfold entV
    rw [bts_length, hl, show 1 + 256 = 256 + 1 from rfl, List.drop_succ_cons, List.drop_left' (by rw [bts_length, hbl])]
    rfl
  rw [h2] at h1
  refine ⟨_, h.upd hi (x := ⟨x.b, x.pl, bs, x.dirty, x.used⟩) (by rw [e]) (by rw [e]) (by rw [e]) hl (by rw [e]; exact Chg.setCells x.b _ 1 w) (by rw [e]; exact h1), fun k hk => ?_⟩
  simp only [CF, List.mem_cons] at hk ⊢
  exact hk.imp id (LF_alike (by rw [set_alike hi Ent.b (by rw [e])]) k)
/-- A block is dirty from now on. -/
theorem CacheAt.dirties {w : World} {B cb mb : Nat} {la : Option Addr} {cl : Nat} {E L : List Ent} {most uses db : Nat} (h : CacheAt w B cb mb la cl E L most uses db) {x : Ent} (hx : x ∈ L) (t : Bool) :
    ∃ E', CacheAt (w.setCell ⟨x.b, 257, none⟩ (.bool t)) B cb mb la cl E' (updL L ⟨x.b, x.pl, x.bs, t, x.used⟩) most uses db ∧ ∀ k, k ∈ CF cb mb la cl E' → k ∈ CF cb mb la cl E := by
  obtain ⟨i, hi, e⟩ := h.spot hx
  have hbl := (h.mem hx).2
  have hb := h.ln.e i hi
  rw [e] at hb
  have h1 := hb.set1 257 (.bool t)
  rw [entV_setDirty hbl] at h1
  refine ⟨_, h.upd hi (x := ⟨x.b, x.pl, x.bs, t, x.used⟩) (by rw [e]) (by rw [e]) (by rw [e]) hbl (by rw [e]; exact Chg.setCell w ⟨x.b, 257, none⟩ _) (by rw [e]; exact h1), fun k hk => ?_⟩
  simp only [CF, List.mem_cons] at hk ⊢
  exact hk.imp id (LF_alike (by rw [set_alike hi Ent.b (by rw [e])]) k)
theorem CacheAt.blk {w : World} {B cb mb : Nat} {la : Option Addr} {cl : Nat} {E L : List Ent} {most uses db : Nat} (h : CacheAt w B cb mb la cl E L most uses db) {x : Ent} (hx : x ∈ L) : ∃ i : Nat, Blk w x.b 139 (entV x i) := by
  obtain ⟨i, hi, e⟩ := h.spot hx
  have hb := h.ln.e i hi
  rw [e] at hb
  exact ⟨i, hb⟩
theorem updL_mem {L : List Ent} {x y : Ent} (hx : x ∈ L) (hb : y.b = x.b) : y ∈ updL L y := by
  unfold updL
  exact List.mem_map.2 ⟨x, hx, by rw [if_pos hb.symm]⟩
theorem updL_used {L : List Ent} {x y : Ent} (u : Nat) (hb : y.b = x.b) : (used (updL L y) y u).map absE = (L.filter (fun e => e.b != x.b)).map absE ++ [absE y] := by
  unfold used updL
  rw [List.map_append, List.filter_map]
  congr 1
  induction L with
  | nil => rfl
  | cons e L ih =>
    have hc : ((fun e => e.b != y.b) ∘ fun e => if e.b = y.b then y else e) e = (e.b != x.b) := by
      show ((if e.b = y.b then y else e).b != y.b) = (e.b != x.b)
      by_cases h : e.b = y.b
      · rw [if_pos h, h, hb]
      · rw [if_neg h, hb]
    rw [List.filter_cons, List.filter_cons, hc]
    split
    · rename_i h
      rw [List.map_cons, List.map_cons, List.map_cons, ih, if_neg (by rw [hb]; simpa using h)]
    · exact ih
end Go.Proofs.YtoeijomelabbfaaGreatDoor

/- The cache beside its disk: Get. -/
namespace Go.Proofs.YtoeijomelabbfaaGreatDoor
set_option maxRecDepth 200000
open Go.RowKit Go.Maps
set_option linter.unusedVariables false
set_option linter.unusedSimpArgs false
attribute [local go_sem ↓] Go.wp_at_zero Go.wp_at_succ

theorem zeroP (w : World) : (zeroValue 128).run Tryz.prog w = .ok (.pointer none) w := by kernel_rfl
section
variable (w : World) {ops : Array Oper} {rest : List Oper} {o : Oper} {a : Act} {Q : Exit → Act → World → Prop}
theorem wpList_lookup_held (hg : o.guard = none) (m x : Operand) (hop : o.op = Op.lookup 130 m x true) {mb : Nat} {E : List Ent} {D : DataW Unit} (hD : HeldAt w mb E D) (hm : a.eval m = .map (some mb)) {y : Ent} (hy : y ∈ E) (hpl : y.pl < 1024) (hx : a.eval x = .int .i64 (y.pl : Int))
    (hK : wpList Tryz.prog ops Q rest (a.put o.dst (.tuple #[.pointer (some ⟨y.b, 0, none⟩), .bool true])) w) : wpList Tryz.prog ops Q (o :: rest) a w := by
  refine wpList_lookup_own_ok w hg m x 130 hop 3 128 (int_keyed Tryz.underlying3) Tryz.underlying130 ptrR (zeroP w) .nil [] rfl mb E.length D hm hD.o _ (.int .i64 y.pl) hx (keyI y.pl hpl) ?_
  intro v ps hv
  obtain ⟨h1, h2⟩ := hD.y y hy
  rw [h2] at hv
  rw [ptrR_inv hv, h1]
  exact hK
theorem wpList_lookup_none (hg : o.guard = none) (m x : Operand) (hop : o.op = Op.lookup 130 m x true) {mb : Nat} {E : List Ent} {D : DataW Unit} (hD : HeldAt w mb E D) (hm : a.eval m = .map (some mb)) {pl : Nat} (hn : ∀ e ∈ E, e.pl ≠ pl) (hpl : pl < 1024) (hx : a.eval x = .int .i64 (pl : Int))
    (hK : wpList Tryz.prog ops Q rest (a.put o.dst (.tuple #[.pointer none, .bool false])) w) : wpList Tryz.prog ops Q (o :: rest) a w := by
  refine wpList_plain hg fun K' hK' => ?_
  have hhas := hD.n pl (fun e he h9 => hn e he (by omega))
  obtain ⟨v, ps, hrun, hv⟩ := hD.o.look_ok (int_keyed Tryz.underlying3) Tryz.underlying130 (zeroP w) (zd := .nil) (zp := []) rfl (keyI pl hpl)
  rw [atKey_of_not_has hhas] at hv
  have hv2 : v = .pointer none := by
    unfold ptrR at hv
    split at hv
    · simp at hv
    · rfl
    · cases hv
  rw [hv2, hhas] at hrun
  unfold Oper.wp
  simp [execOp, hop, hm, hx, hrun, Result.andThen]
  exact hK' _ _ hK
theorem wpList_lookup_bare (hg : o.guard = none) (m x : Operand) (hop : o.op = Op.lookup 130 m x false) {mb : Nat} {E : List Ent} {D : DataW Unit} (hD : HeldAt w mb E D) (hm : a.eval m = .map (some mb)) {y : Ent} (hy : y ∈ E) (hpl : y.pl < 1024) (hx : a.eval x = .int .i64 (y.pl : Int))
    (hK : wpList Tryz.prog ops Q rest (a.put o.dst (.pointer (some ⟨y.b, 0, none⟩))) w) : wpList Tryz.prog ops Q (o :: rest) a w := by
  refine wpList_plain hg fun K' hK' => ?_
  obtain ⟨v, ps, hrun, hv⟩ := hD.o.lookup (int_keyed Tryz.underlying3) Tryz.underlying130 (zeroP w) (zd := .nil) (zp := []) rfl (keyI y.pl hpl)
  obtain ⟨h1, h2⟩ := hD.y y hy
  rw [h2] at hv
  rw [ptrR_inv hv] at hrun
  unfold Oper.wp
  simp [execOp, hop, hm, hx, hrun, Result.andThen]
  exact hK' _ _ hK
end
theorem why_at {st : RS} {z : Int} (hW : Whole st) (hw : whyN st z = 0) : ∃ a : Nat, z = a ∧ a < st.count ∧ a < 1024 := by
  have hc := hW.2
  unfold whyN at hw
  split at hw
  · omega
  · split at hw
    · omega
    · exact ⟨z.toNat, by omega, by omega, by omega⟩
end Go.Proofs.YtoeijomelabbfaaGreatDoor
