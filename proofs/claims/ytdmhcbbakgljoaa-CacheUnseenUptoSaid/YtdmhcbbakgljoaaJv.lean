/- The cache beside its disk: Dirty. -/
import Derived.Test.YtdmhcbbakgljoaaJu
import Derived.Test.YtdmhcbbakgljoaaJs
namespace Go.Proofs.Ytdmhcbbakgljoaa
open Go.RowKit Go.Maps Go.Sort Go.Shelf
set_option linter.unusedVariables false
set_option linter.unusedSimpArgs false
attribute [local go_sem ↓] Go.wp_at_zero Go.wp_at_succ

/-- Blocks by rising places. -/
def risingE (L : List Ent) : List Ent := L.mergeSort (fun x y => decide (x.pl ≤ y.pl))
theorem rising_mem {L : List Ent} {y : Ent} (h : y ∈ risingE L) : y ∈ L := (List.mergeSort_perm _ _).mem_iff.1 h
theorem rising_len (L : List Ent) : (risingE L).length = L.length := (List.mergeSort_perm _ _).length_eq
def plI (e : Ent) : Int := (e.pl : Int)
theorem rising_ints (L : List Ent) {ss : List Int} (h : ss.Perm (L.map plI)) : (ss.mergeSort (fun x y => decide (x ≤ y))).map encZ = (risingE L).map plV := by
  have h1 : ss.mergeSort leI = (L.map plI).mergeSort leI := mergeSort_of_perm_i h
  have h2 : (risingE L).map plI = (L.map plI).mergeSort leI := by
    unfold risingE
    refine List.map_mergeSort (fun a _ b _ => ?_)
    show decide (a.pl ≤ b.pl) = decide ((a.pl : Int) ≤ (b.pl : Int))
    rw [Bool.eq_iff_iff]
    simp
  show (ss.mergeSort leI).map encZ = _
  rw [h1, ← h2, List.map_map]
  rfl
theorem HeldAt.keys {w : World} {mb : Nat} {E : List Ent} {D : DataW Unit} (h : HeldAt w mb E D) (hnp : (E.map Ent.pl).Nodup) : (E.map plI).Perm (intKeys D) := by
  obtain ⟨es, hD, hpw, _⟩ := h.o.entries (int_keyed Try.underlying3)
  obtain ⟨es', hD', hko⟩ := h.o.keysOf
  obtain rfl : es = es' := by rw [hD] at hD'; simpa using hD'
  have hh := h
  subst hD
  refine perm_intKeys hpw (fun p hp => by obtain ⟨v, hv⟩ := hko p hp; obtain ⟨x, _, hx, _⟩ := Maps.keyOf_i64 Try.underlying3 hv; exact ⟨x, hx⟩) ?_ (fun x => ?_)
  · have : E.map plI = (E.map Ent.pl).map (fun n : Nat => (n : Int)) := by rw [List.map_map]; rfl
    rw [this]
    exact List.pairwise_map.2 (hnp.imp fun hne e => hne (Int.ofNat.inj e))
  · rw [List.mem_map]
    constructor
    · rintro ⟨e, he, rfl⟩
      exact (hh.y e he).1
    · intro hx
      refine Classical.byContradiction fun hno => ?_
      have := hh.n x (fun e he h9 => hno ⟨e, he, h9⟩)
      rw [this] at hx
      cases hx
/-- slices.Sort's two contracts. -/
theorem sorts (m : Nat) : AnyZI.SortsIn Try.prog sortedA_ren Fence.wide m :=
  ⟨fun blk off cap ss W hH hblk hsz => callsIn_wide.2 (AnyM.slices_Sort_int sortA blk off cap ss W hH hblk hsz),
   fun p cap W => callsIn_wide.2 (AnyM.slices_Sort_int_none sortA p cap W)⟩
theorem keys_any (mb : Nat) (W : World) : Calls Try.prog 35 #[.map (some mb)] W fun e w' => e = .returned (.func (.func 54) #[] #[.pointer (some ⟨W.heap.size, 0, none⟩)]) ∧ w' = W.alloc (.cells #[.map (some mb)] 54) :=
  (callsIn_wide (n := 5)).1 (AnyZI.keys_in keysA Fence.wide 5 trivial rfl (some mb) W)
theorem sorted_any (E : List Ent) (mb : Nat) (D : DataW Unit) (w : World) (h : HeldAt w mb E D) (hnp : (E.map Ent.pl).Nodup) (hE : E.length ≤ 100000) :
    Calls Try.prog 34 #[.func (.func 54) #[] #[.pointer (some ⟨w.heap.size, 0, none⟩)]] (w.alloc (.cells #[.map (some mb)] 54)) fun e w' => ∃ ao c, e = .returned (.slice ao E.length c) ∧ Room w' w.heap.size ao E.length c ((risingE E).map plV) ∧ Chg [] w w' ∧ ∀ k, k ∈ fp ao c → w.heap.size < k := by
  have hown := h.o
  have hbl := hown.lt
  have hmax : Maps.size D ≤ maxLen := by rw [h.s]; unfold maxLen; omega
  have hbytes : Maps.size D * 8 ≤ 140737488355328 := by rw [h.s]; omega
  have hseq : SeqGives Fence.wide 2 Try.prog 54 #[.pointer (some ⟨w.heap.size, 0, none⟩)] encZ (fun ss => ss.Perm (intKeys D)) (Maps.size D) (w.alloc (.cells #[.map (some mb)] 54)) :=
    AnyZI.keys_gives (ρ := keysA_ren) { keysA with } Fence.wide _ trivial rfl (by omega) w.heap.size mb E.length D _ (by simp) (by simp) (by
      obtain ⟨es, clock, hb, Ft, hs, hD⟩ := hown
      exact ⟨es, clock, (Below.heap_alloc _ _ mb hbl).trans hb, Ft, hs, hD⟩)
  have cS := AnyZI.sorted_in sortedA Fence.wide 5 trivial trivial trivial trivial rfl (by omega) (sorts _) (enters_of Try.func53 (by kernel_rfl) rfl) 54 #[.pointer (some ⟨w.heap.size, 0, none⟩)] trivial (enters_of Try.func54 (by kernel_rfl) rfl) _ _ hmax hbytes _ hseq
  refine ((callsIn_wide (n := 5)).1 cS).mono ?_
  rintro e w' ⟨v, ss, rfl, hS, hrow, hnil, hb⟩
  have hp : ss.Perm (E.map plI) := hS.trans (h.keys hnp).symm
  have hsl : ss.length = E.length := by rw [hp.length_eq]; simp
  rw [rising_ints E hp, hsl] at hrow
  have hz : (w.alloc (.cells #[.map (some mb)] 54)).heap.size = w.heap.size + 1 := by simp
  rw [hz] at hrow
  have hg : Chg [] w w' := (Chg.alloc [] w _).then (Chg.of_below hb)
  have hr0 := hrow
  rcases hrow.2 with ⟨rfl, h0⟩ | ⟨gb, cap, cur, rfl, hbase, hgb, r1, r2, r3, r4⟩
  · have hE0 : E.length = 0 := h0
    rw [hE0] at hr0 ⊢
    exact ⟨none, 0, rfl, (Room.of_owns hr0).mono (by omega), hg, by simp [fp_zero]⟩
  · refine ⟨some ⟨gb, 0, none⟩, cap, rfl, (Room.of_owns hr0).mono (by omega), hg, fun k hk => ?_⟩
    have := (Room.of_owns hr0).lt k hk
    omega
theorem cdirty_any (w0 w : World) (R : Nat → Prop) (db : Nat) (g : DG) (fa : Option Addr) (cf : Nat) (st : RS) (cb mb : Nat) (la : Option Addr) (cl : Nat) (E L : List Ent) (most uses : Nat) (h : Pair w0 w R db g fa cf st cb mb la cl E L most uses) :
    Calls Try.prog 14 #[.pointer (some ⟨cb, 0, none⟩)] w fun e w' => ∃ ao c, e = .returned (.slice ao (dirtyE (risingE L)).length c) ∧ Room w' w.heap.size ao (dirtyE (risingE L)).length c ((dirtyE (risingE L)).map plV) ∧ Chg [] w w' := by
  have hsE := h.k.ln.sm
  have hsL : L.length ≤ 100000 := by rw [← h.k.pm.length_eq]; exact hsE
  obtain ⟨D, hDE⟩ := h.k.hd
  have hD : HeldAt w mb L D := hDE.perm h.k.pm.symm
  have hcb := block_lt_of_cell h.k.c0
  go_enter Try.func14, Try.ntmps14
  go_wp2_with fail
  have g1 : Chg [] w (w.alloc (.cells #[.pointer (some ⟨cb, 0, none⟩)] 28)) := Chg.alloc [] w _
  have b1 : (w.alloc (.cells #[.pointer (some ⟨cb, 0, none⟩)] 28)).cell? ⟨w.heap.size, 0, none⟩ = some (.pointer (some ⟨cb, 0, none⟩)) := by rw [cell_of_row _ _ _ _ _ _ (heap_alloc_last w _)]; rfl
  have z1 : (w.alloc (.cells #[.pointer (some ⟨cb, 0, none⟩)] 28)).heap.size = w.heap.size + 1 := by simp
  generalize w.alloc (.cells #[.pointer (some ⟨cb, 0, none⟩)] 28) = w1 at *
  generalize hbx : w.heap.size = bx at *
  have p1 := h.keep g1
  have c01 := p1.k.c0
  have c21 := p1.k.c2
  have cS := sorted_any L mb D w1 (hD.chg g1 (by simp)) h.k.np hsL
  have cDel : ∀ ao c w2, Chg [] w1 w2 → Room w2 w1.heap.size ao L.length c ((risingE L).map plV) → (∀ k, k ∈ fp ao c → w1.heap.size < k) → Calls Try.prog 33 #[.slice ao L.length c, .func (.func 32) #[] #[.pointer (some ⟨bx, 0, none⟩)]] w2 fun e w' => e = .returned (.slice ao (dirtyE (risingE L)).length c) ∧ Room w' w1.heap.size ao (dirtyE (risingE L)).length c ((dirtyE (risingE L)).map plV) ∧ Chg (fp ao c) w2 w' := by
    intro ao c w2 g2 r2 f2
    have hl := rising_len L
    have := cdelete_any (risingE L) w1.heap.size ao c bx w0.heap.size cb mb la cl E L most uses db w2 (p1.k.keep g2) (g2.cellv b1 (by simp)) (fun y hy => rising_mem hy) (by rw [hl]; exact r2) (by rw [hl]; exact hsL) (fun k hk => ⟨fun hm => by have := (p1.k.lt k hm).2; have := f2 k hk; omega, fun e => by have := f2 k hk; omega⟩)
    rwa [hl] at this
  have HZ := mkHid z1
  have CD := mkHid cDel
  clear z1 cDel
  go_wp2_with (first
    | (go_at_call 31; refine (cmade_yes cb db w1 c01).mono ?_; rintro e w' ⟨rfl, rfl⟩)
    | (go_at_call 35; refine (keys_any mb w1).mono ?_; rintro e w' ⟨rfl, rfl⟩)
    | (go_at_call 34; refine cS.mono ?_; rintro e w2 ⟨ao, c, rfl, r2, g2, f2⟩)
    | (go_at_call 33; refine (CD.out ao c w2 g2 r2 f2).mono ?_; rintro e w3 ⟨rfl, r3, g3⟩))
  go_ret
  have z := HZ.out
  refine ⟨ao, c, rfl, r3.mono (by omega), g1.then (g2.trans g3 (by simp) (fun k hk hlt => by have := f2 k hk; omega))⟩
end Go.Proofs.Ytdmhcbbakgljoaa
