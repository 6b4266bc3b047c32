/- The cache beside its disk: room is made, a block comes. -/
import Derived.Test.YtdmhcbbakgljoaaJi
import Derived.Deep.DeepCutAuto
namespace Go.Proofs.Ytdmhcbbakgljoaa
open Go.RowKit Go.Maps
set_option linter.unusedVariables false
set_option linter.unusedSimpArgs false
attribute [local go_sem ↓] Go.wp_at_zero Go.wp_at_succ

def zero256 : List UInt8 := List.replicate 256 0
/-- The block that comes. -/
def fresh (b pl : Nat) : Ent := ⟨b, pl, zero256, false, 0⟩
theorem wideB : WideT Try.prog 68 (entV (fresh 0 0) 0) := ⟨⟨_, Try.underlying68, rfl⟩, by kernel_rfl⟩
theorem built_block (b pl : Nat) : Try.prog.built 68 [(0, .int .i64 (pl : Int))] = some (entV (fresh b pl) 0).toArray := by kernel_rfl
theorem CacheAt.comes {w w3 w4 : World} {B cb mb : Nat} {la la' : Option Addr} {cl cl' : Nat} {E L E' : List Ent} {most uses db : Nat} (h : CacheAt w B cb mb la cl E L most uses db) {nb pl : Nat} (hz : w.heap.size = nb) (g3 : Chg [mb] w w3) {D : DataW Unit} (hD : HeldAt w mb E D)
    (ho : w3.ownsMap Try.prog 3 ptrR mb (E.length + 1) (D.put (.int .i64 pl) (.lit (.int .u64 nb)))) (h4 : LineAt w4 B cb la' cl' E') (p4 : E'.Perm (E ++ [fresh nb pl])) (H4 : Heap E' E'.length) (g4 : Chg (nb :: LF cb la cl E) w3 w4) (f4 : ∀ k, k ∈ fp la' cl' → k ∈ fp la cl ∨ w3.heap.size ≤ k) (q4 : Only3 cb w3 w4)
    (hpl : pl < 1024) (hn : ∀ e ∈ L, e.pl ≠ pl) (hu : ∀ e ∈ L, 0 < e.used) (hlt : L.length < most) :
    CacheAt w4 B cb mb la' cl' E' (fresh nb pl :: L) most uses db ∧ Chg (CF cb mb la cl E) w w4 ∧ ∀ k, k ∈ CF cb mb la' cl' E' → k ∈ CF cb mb la cl E ∨ w.heap.size ≤ k := by
  have hcm : cb ∉ [mb] := by
    simp
    intro e
    exact h.mF (by rw [← e]; simp [LF])
  have hmlt := (h.lt mb (by simp [CF])).2
  have hmn : mb ∉ nb :: LF cb la cl E := by
    simp only [List.mem_cons, not_or]
    exact ⟨by omega, h.mF⟩
  have hP : E'.Perm (fresh nb pl :: L) := (p4.trans List.perm_append_comm).trans (h.pm.cons _)
  have hcell : ∀ j v, j ≠ 3 → w.cell? ⟨cb, j, none⟩ = some v → w4.cell? ⟨cb, j, none⟩ = some v := fun j v hj hv => (q4 j hj).1.trans (g3.cellv hv hcm)
  have hCF : ∀ k, k ∈ CF cb mb la' cl' E' → k ∈ CF cb mb la cl E ∨ w.heap.size ≤ k := by
    intro k hk
    simp only [CF, LF, List.mem_cons, List.mem_append, List.mem_map] at hk ⊢
    rcases hk with hk | hk | hk | ⟨e, he, e2⟩
    · exact Or.inl (Or.inl hk)
    · exact Or.inl (Or.inr (Or.inl hk))
    · rcases f4 k hk with h9 | h9
      · exact Or.inl (Or.inr (Or.inr (Or.inl h9)))
      · exact Or.inr (Nat.le_trans g3.size h9)
    · rcases List.mem_append.1 (p4.mem_iff.1 he) with he | he
      · exact Or.inl (Or.inr (Or.inr (Or.inr ⟨e, he, e2⟩)))
      · simp at he
        right
        rw [← e2, he]
        show w.heap.size ≤ nb
        omega
  have hmF : mb ∉ LF cb la' cl' E' := by
    simp only [LF, List.mem_cons, List.mem_append, List.mem_map, not_or]
    refine ⟨by simpa using fun e => hcm (by simp [e]), ?_, ?_⟩
    · intro hk
      rcases f4 mb hk with h9 | h9
      · exact h.mF (by simp [LF, h9])
      · have := g3.size; omega
    · rintro ⟨e, he, e2⟩
      rcases List.mem_append.1 (p4.mem_iff.1 he) with he | he
      · exact h.mF (by simp only [LF, List.mem_cons, List.mem_append, List.mem_map]; exact Or.inr (Or.inr ⟨e, he, e2⟩))
      · simp at he
        rw [he] at e2
        have : nb = mb := e2
        omega
  refine ⟨⟨hcell 0 _ (by decide) h.c0, hcell 1 _ (by decide) h.c1, hcell 2 _ (by decide) h.c2, hcell 4 _ (by decide) h.c4, (q4 4 (by decide)).2.trans ((g3.frozen (p := ⟨cb, 4, none⟩) (show cb < w.heap.size from block_lt_of_cell h.c4) hcm).trans h.f4), h4, H4, ⟨_, (((hD.put (x := fresh nb pl) hpl (fun e he => hn e (h.pm.mem_iff.1 he)) ho).chg g4 hmn).perm p4)⟩, hP, ?_, ?_, ?_, ?_, by simp; omega, h.mo, hmF, h.mB⟩, ?_, hCF⟩
  · exact List.pairwise_cons.2 ⟨fun e he => hu e he, h.so⟩
  · intro e he
    rcases List.mem_cons.1 he with rfl | he
    · exact Nat.zero_le _
    · exact h.us e he
  · rw [List.map_cons, List.nodup_cons]
    refine ⟨fun hm => ?_, h.np⟩
    obtain ⟨e, he, e2⟩ := List.mem_map.1 hm
    exact hn e he e2
  · intro e he
    rcases List.mem_cons.1 he with rfl | he
    · exact hpl
    · exact h.pl e he
  · refine g3.trans g4 (fun k hk _ => by simp at hk; simp [CF, hk]) (fun k hk hlt => ?_)
    rcases List.mem_cons.1 hk with rfl | hk
    · omega
    · simp [CF, hk]
section
variable (B cb mb : Nat) (la : Option Addr) (cl : Nat) (E L : List Ent) (most uses db : Nat) (w : World) (h : CacheAt w B cb mb la cl E L most uses db)
include h
set_option maxRecDepth 20000 in
theorem ctaken_room (pl : Nat) (hpl : pl < 1024) (hn : ∀ e ∈ L, e.pl ≠ pl) (hu : ∀ e ∈ L, 0 < e.used) (hB : B ≤ w.heap.size) (hlt : L.length < most) :
    Calls Try.prog 27 #[.pointer (some ⟨cb, 0, none⟩), .int .i64 (pl : Int)] w fun e w' => ∃ nb la' cl' E', e = .returned (.tuple #[.pointer (some ⟨nb, 0, none⟩), .int .i64 0]) ∧ w.heap.size ≤ nb ∧ CacheAt w' B cb mb la' cl' E' (fresh nb pl :: L) most uses db ∧ Chg (CF cb mb la cl E) w w' ∧ ∀ k, k ∈ CF cb mb la' cl' E' → k ∈ CF cb mb la cl E ∨ w.heap.size ≤ k := by
  obtain ⟨D, hD⟩ := h.hd
  have c0 := h.c0
  have c1 := h.c1
  have c2 := h.c2
  have hs : Maps.size D = L.length := hD.s.trans h.pm.length_eq
  have hne : ((Maps.size D : Int) == (most : Int)) = false := beq_eq_false_iff_ne.2 (by omega)
  have hne2 : (Maps.size D == most) = false := beq_eq_false_iff_ne.2 (by omega)
  have hO := hD.o
  clear hs
  go_enter Try.func27, Try.ntmps27
  go_upto_region 1 with fail
  go_cut [17] (fun v wx => v = .bool false ∧ Chg [] w wx)
  case first =>
    go_region_law (refine step_len rfl (.tmp 11) 54 rfl 3 62 Try.underlying54 ptrR mb E.length D rfl (by first | exact hO | exact hO.drew | exact hO.drew.drew) ?_)
    all_goals
      go_wp2_with fail
      go_meet
      exact ⟨rfl, by first | exact Chg.refl _ _ | exact Chg.drew _ _ | exact (Chg.drew _ _).then (Chg.drew _ _)⟩
  case rest =>
    obtain ⟨rfl, gx⟩ := hcut
    have h1 := h.keep gx
    have c12 := h1.c2
    have hle := h.le
    have hmo := h.mo
    have hEl := h.pm.length_eq
    have hF : ∀ (w3 : World) (nb : Nat), wc.heap.size = nb → nb < w3.heap.size → Chg [mb] wc w3 → Blk w3 nb 68 (entV (fresh nb pl) 0) → Calls Try.prog 48 #[.iface 88 (.pointer (some ⟨cb, 3, none⟩)), .iface 62 (.pointer (some ⟨nb, 0, none⟩))] w3 fun e w' => e = .returned (.tuple #[]) ∧ ∃ la' cl' E', LineAt w' B cb la' cl' E' ∧ E'.Perm (E ++ [fresh nb pl]) ∧ Heap E' E'.length ∧ Chg (nb :: LF cb la cl E) w3 w' ∧ (∀ k, k ∈ fp la' cl' → k ∈ fp la cl ∨ w3.heap.size ≤ k) ∧ Only3 cb w3 w' := by
      intro w3 nb hz hlt3 g3 hb3
      have hnF : nb ∉ LF cb la cl E := fun hk => by have := (h1.ln.lt nb hk).2; omega
      exact hpush_any (fresh nb pl) 0 B cb la cl E w3 (h1.ln.chg g3 (fun k hk => by simp; rintro rfl; exact h1.mF hk)) (Nat.le_trans hB (Nat.le_trans gx.size g3.size)) hb3 (show zero256.length = 256 from List.length_replicate) hnF (by show B ≤ nb; have := gx.size; omega) (by omega) h1.hp
    have HF := mkHid hF
    clear hF
    go_wp2_with (first
      | (refine wpList_build_w rfl 68 #[(0, .tmp 23)] rfl (entV (fresh 0 pl) 0) (built_block 0 pl) ?_)
      | (refine wpList_box_w rfl 68 (.tmp 24) rfl (entV (fresh 0 pl) 0) rfl ?_; intro w2 hb2 hg2 hs2; have c22 := hg2.cellv c12 (by simp); generalize hz : wc.heap.size = nb at *)
      | (at_mapUpdate; refine wpList_mapUpdate_in _ rfl (.tmp 29) (.tmp 30) (.tmp 31) 54 rfl 3 62 (int_keyed Try.underlying3) Try.underlying54 ptrR mb E.length D rfl (hD.chg (gx.then hg2) (by simp)).o (by unfold maxLen; omega) _ _ (.int .i64 pl) rfl rfl (keyI pl hpl) (.lit (.int .u64 nb)) [] (ptrR_mk nb) ?_; intro w3 ho3 hm3)
      | (go_at_call 48; refine (HF.out _ _ (by first | exact hz | rfl) (by have := (grown_chg hm3).size; omega) (hg2.trans (grown_chg hm3) (by simp) (fun _ h _ => h)) (hb2.chg (grown_chg hm3) (by simp; intro e9; have := (h1.lt mb (by simp [CF])).2; omega))).mono ?_; rintro e w4 ⟨rfl, la', cl', E', h4, p4, H4, g4, f4, q4⟩))
    go_ret2
    obtain ⟨r1, r2, r3⟩ := h1.comes hz (hg2.trans (grown_chg hm3) (by simp) (fun _ h _ => h)) (hD.chg gx (by simp)) ho3 h4 p4 H4 g4 f4 q4 hpl hn hu hlt
    exact ⟨nb, la', cl', E', rfl, by have := gx.size; omega, r1, gx.trans r2 (by simp) (fun _ h _ => h), fun k hk => (r3 k hk).imp id (fun h9 => Nat.le_trans gx.size h9)⟩
end
end Go.Proofs.Ytdmhcbbakgljoaa
