/- The document's own tape: contracts of its calls. -/
import Derived.Test.YtfjcaangcogkeaaG
namespace Go.Proofs.Ytfjcaangcogkeaa
open Go.RowKit
set_option linter.unusedVariables false

set_option maxHeartbeats 400000 in
theorem refpush_any (B tb : Nat) (ao : Option Addr) (n c : Nat) (l : List UInt8) (bo : Option Addr) (m d : Nat) (k : List UInt8) (w : World) (h : TapeAt w B tb ao n c l) (hB : B ≤ w.heap.size) (hx : Reads w bo (bts k)) (hm : k.length = m) (hle : n + m ≤ 140737488355000) :
    Calls Try.prog 18 #[.pointer (some ⟨tb, 0, none⟩), .slice bo m d] w (PushPost w B tb ao c (l ++ k)) := by
  have hc := h.cell
  have hf := h.free
  go_enter Try.func18, Try.ntmps18
  go_wp2_with (first | (at_builtin; refine wpList_append_k _ rfl (.tmp 8) (.tmp 9) 22 rfl 5 1 eltB B ao n c (bts l) rfl h.room hB bo m d (bts k) rfl hx (by rw [bts_length]; exact hm) (bts_one k) (by unfold maxLen; omega) (by omega) ?_; intro ao2 c2 w2 hr2 hc2 hf2; have hc' := hc2.cellv hc h.apart; have hf' := (hc2.frozen h.lt h.apart).trans hf))
  go_end0
  have hsame : (w2.setCell ⟨tb, 0, none⟩ (.slice ao2 (n + m) c2)).cell? ⟨tb, 0, none⟩ = some (.slice ao2 (n + m) c2) := World.cell?_setCell_same _ _ _ hc'
  have hap : tb ∉ fp ao2 c2 := by
    rcases hf2 with e | e
    · rw [e]; exact h.apart
    · rw [e]; have := h.lt; simp; omega
  have hl : (l ++ k).length = n + m := by rw [List.length_append, h.len, hm]
  refine ⟨rfl, ao2, c2, ⟨by rw [hl]; exact hsame, by rw [World.frozen?_setCell]; exact hf', h.low, ?_, hap⟩, hc2.trans (Chg.setCell _ _ _) (fun b hb _ => by simp [hb]) (fun b hb _ => by simp at hb; simp [hb]), hf2⟩
  rw [hl, bts_append]
  exact hr2.chg (Chg.setCell _ _ _) (fun b hb hb' => by simp at hb'; subst hb'; exact hap hb)
set_option maxHeartbeats 400000 in
theorem refpeek_yes (B tb : Nat) (ao : Option Addr) (n c : Nat) (l : List UInt8) (k : Nat) (w : World) (h : TapeAt w B tb ao n c l) (hk : k ≤ n) (hle : n ≤ 140737488355000) :
    Calls Try.prog 20 #[.pointer (some ⟨tb, 0, none⟩), .int .i64 k] w (PeekPost w k (l.take k)) := by
  have hc := h.cell
  have hl := h.len
  have hlen : (l.take k).length = k := by simp; omega
  have hcap := h.room.le
  have hmax := h.room.max
  have hq : decide (n < k) = false := by simp; omega
  have hq0 : decide ((k : Int) < 0) = false := by simp
  unfold maxLen at hmax
  go_enter Try.func20, Try.ntmps20
  go_wp2_with (first | (at_builtin; refine wpList_append_k _ rfl (.tmp 18) (.tmp 24) 22 rfl 5 1 eltB w.heap.size _ 0 0 [] rfl (Room.nil _ _ _) (Nat.le_refl _) ao k c (bts (l.take k)) rfl (by rw [← bts_take]; exact h.room.reads.take k) (by rw [bts_length]; exact hlen) (bts_one _) (by unfold maxLen; omega) (by omega) ?_; intro ao2 c2 w2 hr2 hc2 hf2))
  go_ret2
  simp only [Nat.zero_add, List.nil_append] at hr2
  exact ⟨ao2, c2, by simp, hr2, hc2⟩
theorem refpeek_no (B tb : Nat) (ao : Option Addr) (n c : Nat) (l : List UInt8) (k : Int) (w : World) (h : TapeAt w B tb ao n c l) (hk : k < 0 ∨ (n : Int) < k) :
    Calls Try.prog 20 #[.pointer (some ⟨tb, 0, none⟩), .int .i64 k] w (NonePost w) := by
  have hc := h.cell
  have hb : decide (k < 0) = true ∨ decide (k < 0) = false ∧ decide ((n : Int) < k) = true := by simp; omega
  clear hk
  rcases hb with hb | ⟨hb, hb2⟩
  all_goals
    go_enter Try.func20, Try.ntmps20
    go_wp2
    go_ret2
    exact ⟨rfl, rfl⟩
def RefTakePost (w : World) (B tb : Nat) (ao : Option Addr) (n c k : Nat) (l : List UInt8) (e : Ending) (w' : World) : Prop :=
  ∃ ro rc ao' c', e = .returned (.tuple #[.slice ro k rc, .bool true]) ∧ Room w' w.heap.size ro k rc (bts (l.take k)) ∧ TapeAt w' B tb ao' (n - k) c' (l.drop k) ∧ Chg [tb] w w' ∧ (∀ b, b ∈ fp ao' c' → w.heap.size ≤ b) ∧ (∀ b, b ∈ fp ao' c' → b ∉ fp ro rc)
set_option maxHeartbeats 400000 in
theorem reftake_yes (B tb : Nat) (ao : Option Addr) (n c : Nat) (l : List UInt8) (k : Nat) (w : World) (hB : B ≤ w.heap.size) (h : TapeAt w B tb ao n c l) (hk : k ≤ n) (hle : n ≤ 140737488355000) :
    Calls Try.prog 22 #[.pointer (some ⟨tb, 0, none⟩), .int .i64 k] w (RefTakePost w B tb ao n c k l) := by
  have hcap := h.room.le
  have hmax := h.room.max
  have hln := h.len
  unfold maxLen at hmax
  have hlt := h.lt
  have hsl := run_from_k (P := Try.prog) ao n c k Try.underlying22 (by kernel_rfl) hk
  go_enter Try.func22, Try.ntmps22
  go_wp2_with (first | (go_at_call 20; refine (refpeek_yes B tb ao n c l k _ h hk hle).mono ?_; rintro e w1 ⟨ro, rc, rfl, hr, hg⟩; have ht1 := h.chg hg (by simp); have hc := ht1.cell; have hf := ht1.free; have hrc := ht1.room.cut k hk) | (at_builtin; refine wpList_append_k _ rfl (.tmp 17) (.tmp 23) 22 rfl 5 1 eltB w1.heap.size _ 0 0 [] rfl (Room.nil _ _ _) (Nat.le_refl _) (cut ao c k) (n - k) (c - k) _ rfl hrc.reads hrc.len (by rw [bts_drop]; exact bts_one _) (by unfold maxLen; omega) (by omega) ?_; intro ao2 c2 w2 hr2 hc2 hf2; have hc' := hc2.cellv hc (by simp [fp_zero]); have hf' := (hc2.frozen ht1.lt (by simp [fp_zero])).trans hf))
  go_ret2
  simp only [Nat.zero_add, List.nil_append, bts_drop] at hr2
  have hge : ∀ b, b ∈ fp ao2 c2 → w1.heap.size ≤ b := fun b hb => (hr2.lt b hb).1
  have hs1 := hg.size
  have hap : tb ∉ fp ao2 c2 := fun hm => by have := hge tb hm; omega
  refine ⟨ro, rc, ao2, c2, rfl, (hr.chg hc2 (by simp [fp_zero])).chg (Chg.setCell _ _ _) (fun b hb hb' => ?_), ⟨by simpa using World.cell?_setCell_same _ _ _ hc', by rw [World.frozen?_setCell]; exact hf', h.low, ?_, hap⟩, (hg.then hc2).trans (Chg.setCell _ _ _) (by simp) (fun b hb _ => hb), fun b hb => by have := hge b hb; omega, fun b hb hb' => ?_⟩
  · simp at hb'; subst hb'; have := (hr.lt _ hb).1; omega
  · exact (hr2.mono (by omega)).chg (Chg.setCell _ _ _) (fun b hb hb' => by simp at hb'; subst hb'; exact hap hb)
  · have h1 := hge b hb; have h2 := (hr.lt b hb').2; omega
theorem reftake_no (B tb : Nat) (ao : Option Addr) (n c : Nat) (l : List UInt8) (k : Int) (w : World) (h : TapeAt w B tb ao n c l) (hk : k < 0 ∨ (n : Int) < k) :
    Calls Try.prog 22 #[.pointer (some ⟨tb, 0, none⟩), .int .i64 k] w (NonePost w) := by
  go_enter Try.func22, Try.ntmps22
  go_wp2_with (first | (go_at_call 20; refine (refpeek_no B tb ao n c l k _ h hk).mono ?_; rintro e w' ⟨rfl, rfl⟩))
  go_ret2
  exact ⟨rfl, rfl⟩
end Go.Proofs.Ytfjcaangcogkeaa
