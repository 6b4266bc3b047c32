/- The cache in memory: its struct, its map, its line. -/
import Derived.Test.YtdmhcbbakgljoaaJd
import Derived.Maps.OwnSet
import Derived.Lib.SlKeysI
import Derived.StillTailTactics
namespace Go.Proofs.Ytdmhcbbakgljoaa
open Go.RowKit Go.Maps
set_option linter.unusedVariables false
set_option linter.unusedSimpArgs false
attribute [local go_sem ↓] Go.wp_at_zero Go.wp_at_succ

def ptrR : Value → Option (DataW Unit × List MemPlace)
  | .pointer (some ⟨b, 0, none⟩) => some (.lit (.int .u64 b), [])
  | .pointer none => some (.nil, [])
  | _ => none
theorem ptrR_mk (b : Nat) : ptrR (.pointer (some ⟨b, 0, none⟩)) = some (.lit (.int .u64 b), []) := rfl
theorem ptrR_inv {v : Value} {ps : List MemPlace} {b : Nat} (h : ptrR v = some (.lit (.int .u64 b), ps)) : v = .pointer (some ⟨b, 0, none⟩) := by
  unfold ptrR at h
  split at h
  · rename_i x
    simp at h
    rw [show x = b by omega]
  · simp at h
  · cases h
/-- The map of a cache: the blocks of E by their places. -/
structure HeldAt (w : World) (mb : Nat) (E : List Ent) (D : DataW Unit) : Prop where
  o : w.ownsMap Try.prog 3 ptrR mb E.length D
  s : Maps.size D = E.length
  y : ∀ e ∈ E, Maps.has D (.int .i64 e.pl) = true ∧ D.atKey (.int .i64 e.pl) .nil = .lit (.int .u64 e.b)
  n : ∀ z : Int, (∀ e ∈ E, (e.pl : Int) ≠ z) → Maps.has D (.int .i64 z) = false
theorem HeldAt.chg {w w' : World} {mb : Nat} {E : List Ent} {D : DataW Unit} {S : List Nat} (h : HeldAt w mb E D) (c : Chg S w w') (hn : mb ∉ S) : HeldAt w' mb E D := by
  refine ⟨?_, h.s, h.y, h.n⟩
  have hlt := h.o.lt
  obtain ⟨es, clock, hb, F, hs, hD⟩ := h.o
  exact ⟨es, clock, (c.block mb hlt hn).trans hb, F, hs, hD⟩
theorem HeldAt.perm {w : World} {mb : Nat} {E E' : List Ent} {D : DataW Unit} (h : HeldAt w mb E D) (p : E'.Perm E) : HeldAt w mb E' D :=
  ⟨by rw [p.length_eq]; exact h.o, by rw [p.length_eq]; exact h.s, fun e he => h.y e (p.mem_iff.1 he), fun z hz => h.n z fun e he => hz e (p.mem_iff.2 he)⟩
/-- What is told by the map: the places and the blocks. -/
theorem HeldAt.alike {w : World} {mb : Nat} {E E' : List Ent} {D : DataW Unit} (h : HeldAt w mb E D) (hl : E'.map (fun e => (e.pl, e.b)) = E.map (fun e => (e.pl, e.b))) : HeldAt w mb E' D := by
  have hlen : E'.length = E.length := by simpa using congrArg List.length hl
  refine ⟨by rw [hlen]; exact h.o, by rw [hlen]; exact h.s, fun e he => ?_, fun z hz => h.n z fun e he => ?_⟩
  · have : (e.pl, e.b) ∈ E.map (fun e => (e.pl, e.b)) := by rw [← hl]; exact List.mem_map.2 ⟨e, he, rfl⟩
    obtain ⟨e2, he2, heq⟩ := List.mem_map.1 this
    simp at heq
    rw [← heq.1, ← heq.2]
    exact h.y e2 he2
  · have : (e.pl, e.b) ∈ E'.map (fun e => (e.pl, e.b)) := by rw [hl]; exact List.mem_map.2 ⟨e, he, rfl⟩
    obtain ⟨e2, he2, heq⟩ := List.mem_map.1 this
    simp at heq
    rw [← heq.1]
    exact hz e2 he2
/-- A cache over the disk in block db: E are its blocks in the heap's order, L in the order of their last uses. -/
structure CacheAt (w : World) (B cb mb : Nat) (la : Option Addr) (cl : Nat) (E L : List Ent) (most uses db : Nat) : Prop where
  c0 : w.cell? ⟨cb, 0, none⟩ = some (.pointer (some ⟨db, 0, none⟩))
  c1 : w.cell? ⟨cb, 1, none⟩ = some (.int .i64 most)
  c2 : w.cell? ⟨cb, 2, none⟩ = some (.map (some mb))
  c4 : w.cell? ⟨cb, 4, none⟩ = some (.int .u64 uses)
  f4 : w.frozen? ⟨cb, 4, none⟩ = false
  ln : LineAt w B cb la cl E
  hp : Heap E E.length
  hd : ∃ D, HeldAt w mb E D
  pm : E.Perm L
  so : L.Pairwise (fun a b => a.used < b.used)
  us : ∀ e ∈ L, e.used ≤ uses
  np : (L.map Ent.pl).Nodup
  pl : ∀ e ∈ L, e.pl < 1024
  le : L.length ≤ most
  mo : 1 ≤ most ∧ most ≤ 1024
  mF : mb ∉ LF cb la cl E
  mB : B ≤ mb
/-- The blocks of a cache. -/
def CF (cb mb : Nat) (la : Option Addr) (cl : Nat) (E : List Ent) : List Nat := mb :: LF cb la cl E
theorem CacheAt.lt {w : World} {B cb mb : Nat} {la : Option Addr} {cl : Nat} {E L : List Ent} {most uses db : Nat} (h : CacheAt w B cb mb la cl E L most uses db) : ∀ k, k ∈ CF cb mb la cl E → B ≤ k ∧ k < w.heap.size := by
  intro k hk
  simp only [CF, List.mem_cons] at hk
  rcases hk with rfl | hk
  · obtain ⟨D, hD⟩ := h.hd
    exact ⟨h.mB, hD.o.lt⟩
  · exact h.ln.lt k hk
theorem CacheAt.chg {w w' : World} {B cb mb : Nat} {la : Option Addr} {cl : Nat} {E L : List Ent} {most uses db : Nat} {S : List Nat} (h : CacheAt w B cb mb la cl E L most uses db) (c : Chg S w w') (hn : ∀ k, k ∈ CF cb mb la cl E → k ∉ S) : CacheAt w' B cb mb la cl E L most uses db := by
  have hcb : cb ∉ S := hn cb (by simp [CF, LF])
  obtain ⟨D, hD⟩ := h.hd
  exact ⟨c.cellv h.c0 hcb, c.cellv h.c1 hcb, c.cellv h.c2 hcb, c.cellv h.c4 hcb, (c.frozen (p := ⟨cb, 4, none⟩) (show cb < w.heap.size from block_lt_of_cell h.c0) hcb).trans h.f4,
    h.ln.chg c (fun k hk => hn k (by simp [CF, hk])), h.hp, ⟨D, hD.chg c (hn mb (by simp [CF]))⟩, h.pm, h.so, h.us, h.np, h.pl, h.le, h.mo, h.mF, h.mB⟩
theorem CacheAt.keep {w w' : World} {B cb mb : Nat} {la : Option Addr} {cl : Nat} {E L : List Ent} {most uses db : Nat} (h : CacheAt w B cb mb la cl E L most uses db) (c : Chg [] w w') : CacheAt w' B cb mb la cl E L most uses db := h.chg c (by simp)

theorem cmade_yes (cb db : Nat) (w : World) (c0 : w.cell? ⟨cb, 0, none⟩ = some (.pointer (some ⟨db, 0, none⟩))) :
    Calls Try.prog 31 #[.pointer (some ⟨cb, 0, none⟩)] w fun e w' => e = .returned (.bool true) ∧ w = w' := by
  go_enter Try.func31, Try.ntmps31
  go_wp2
  go_ret
  exact ⟨rfl, rfl⟩
theorem cmade_nil (w : World) : Calls Try.prog 31 #[.pointer none] w fun e w' => e = .returned (.bool false) ∧ w = w' := by
  go_enter Try.func31, Try.ntmps31
  go_wp2
  go_ret
  exact ⟨rfl, rfl⟩
theorem cmade_zero (cb : Nat) (w : World) (c0 : w.cell? ⟨cb, 0, none⟩ = some (.pointer none)) : Calls Try.prog 31 #[.pointer (some ⟨cb, 0, none⟩)] w fun e w' => e = .returned (.bool false) ∧ w = w' := by
  go_enter Try.func31, Try.ntmps31
  go_wp2
  go_ret
  exact ⟨rfl, rfl⟩
end Go.Proofs.Ytdmhcbbakgljoaa
