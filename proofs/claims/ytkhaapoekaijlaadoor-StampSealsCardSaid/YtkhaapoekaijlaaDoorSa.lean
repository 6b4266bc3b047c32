/- The contracts of package stamp's own calls: parts, numbers laid and told. -/
import Derived.Test.YtkhaapoekaijlaaDoorOa
import Derived.Test.YtkhaapoekaijlaaDoorCt
import Derived.Test.YtkhaapoekaijlaaDoorCg
import Derived.Test.YtkhaapoekaijlaaDoorW
namespace Go.Proofs.YtkhaapoekaijlaaDoor
open Go.RowKit
set_option linter.unusedVariables false
set_option linter.unusedSimpArgs false

theorem part_any (b o n c f m : Nat) (F H : Int) (hF : F = (f : Int)) (hH : H = ((f + m : Nat) : Int)) (hm : 0 < m) (hc : f + m ≤ c) (w : World) :
    Calls Tryd.prog 14 #[.slice (some ⟨b, o, none⟩) n c, .int .i64 F, .int .i64 H] w fun e w' => e = .returned (.slice (some ⟨b, o + f, none⟩) m m) ∧ w = w' := by
  have hr : ∀ u : World, (Instr.slice 22 (.slice (some ⟨b, o, none⟩) n c) (some (.int .i64 F)) (some (.int .i64 H)) (some (.int .i64 H))).run Tryd.prog u = .ok (.slice (some ⟨b, o + f, none⟩) m m) u := by
    intro u
    have hs : (Tryd.prog.info? 5).map (·.size) = some 1 := by kernel_rfl
    obtain ⟨i, hi, hi1⟩ := Option.map_eq_some_iff.1 hs
    have he : Tryd.prog.elem 22 = 5 := by simp [Program.elem, Tryd.underlying22]
    rw [run_slice_lhm u 22 _ n c (by rw [he]; exact Tryd.underlying22) .i64 .i64 .i64 F H H (by omega) (by omega) (by omega) (by omega), he]
    have e1 : H.toNat = f + m := by omega
    have e0 : F.toNat = f := by omega
    have e2 : ¬ f + m = f := by omega
    have e3 : ¬ m = 0 := by omega
    simp [sizeOf, typeInfo, hi, hi1, sliced, e0, e1, e2, e3, Addr.add_lit]
  clear hF hH
  go_enter Tryd.func14, Tryd.ntmps14
  go_wp2_with fail
  go_ret
  exact ⟨rfl, rfl⟩

/-- The number by which a place is told. -/
def pn (k : Int) : Nat := (k % 18446744073709551616).toNat
theorem pn_lt (k : Int) : pn k < 2 ^ 64 := by unfold pn; omega
theorem pn_eq (k : Int) : IntKind.u64.wrap k = (pn k : Int) := by rw [IntKind.wrap_u64]; unfold pn; omega
theorem place_any (k : Int) (w : World) : Calls Tryd.prog 15 #[.int .i64 k] w fun e w' => e = .returned (.int .u64 (pn k)) ∧ w = w' := by
  have h := pn_eq k
  go_enter Tryd.func15, Tryd.ntmps15
  go_wp2_with fail
  go_ret
  exact ⟨rfl, rfl⟩

theorem told_any (b o k : Nat) (l : List UInt8) (hl : l.length = k) (h1 : 1 ≤ k) (h8 : k ≤ 8) (w : World) (g : Reads w (some ⟨b, o, none⟩) (bts l)) :
    Calls Tryd.prog 18 #[.slice (some ⟨b, o, none⟩) k k] w fun e w' => e = .returned (.int .u64 (val l)) ∧ w = w' := by
  go_enter Tryd.func18, Tryd.ntmps18
  go_wp2_with (first | (go_at_call 22; refine (get_yes _ k k l k _ g hl (Nat.le_refl _) (by unfold maxLen; omega) h1 h8 (Nat.le_refl _)).mono ?_; rintro e w' ⟨rfl, rfl⟩))
  go_ret
  rw [List.take_of_length_le (by omega)]
  exact ⟨rfl, rfl⟩

theorem oneB : (Tryd.prog.info? 5).map (·.size) = some 1 := by kernel_rfl
theorem lay_any (b o k N : Nat) (h1 : 1 ≤ k) (h8 : k ≤ 8) (hN : N < 2 ^ 64) (w : World) (hth : w.there b o k) :
    Calls Tryd.prog 13 #[.slice (some ⟨b, o, none⟩) k k, .int .u64 N] w fun e w' => e = .returned (.tuple #[]) ∧ ∃ w1, Chg [] w w1 ∧ w' = w1.setCells b o (bts (be N k)) := by
  go_enter Tryd.func13, Tryd.ntmps13
  go_wp2_with (first | (go_at_call 19; refine (put_any none 0 0 [] N k _ (Reads.nil _ _) rfl (by simp) (by decide) h1 h8 hN).mono ?_; rintro e w1 ⟨a1, c1, rfl, hr1, hg1⟩; simp only [List.nil_append] at hr1; have hlen : (bts (be N k)).length = k := by rw [bts_length, be_length]) | (refine wpList_copy_k rfl (.tmp 4) (.tmp 8) 22 22 5 rfl Tryd.underlying22 oneB b o k k a1 _ c1 (bts (be N k)) rfl rfl hr1.reads (by rw [hlen]; exact (Nat.min_self _).symm) (by rw [hlen]; exact there_chg hth hg1 (by simp)) (bts_one _) ?_))
  go_end0
  exact ⟨rfl, _, hg1, rfl⟩

theorem sumOf_any (b o n c : Nat) (l : List UInt8) (hl : 252 ≤ l.length) (hc : l.length ≤ c) (w : World) (hT : Tab w) (g : Reads w (some ⟨b, o, none⟩) (bts l)) :
    Calls Tryd.prog 16 #[.slice (some ⟨b, o, none⟩) n c] w fun e w' => e = .returned (.int .u64 ((csum (l.take 252)).toNat)) ∧ Chg [] w w' := by
  have hS : ((csum (l.take 252)).toNat : Int) = v32 (csum (l.take 252)) := rfl
  rw [hS]
  have h0 := v32_lt (csum (l.take 252))
  have hg : Reads w (some ⟨b, o, none⟩) (bts (l.take 252)) := by rw [← bts_take]; exact g.take 252
  go_enter Tryd.func16, Tryd.ntmps16
  go_wp2_with (first | (go_at_call 14; refine (part_any b o n c 0 252 0 252 rfl rfl (by decide) (by omega) _).mono ?_; rintro e w' ⟨rfl, rfl⟩) | (go_at_call 20; refine (sum_any _ 252 252 (l.take 252) _ hT hg (by simp; omega) (by decide)).mono ?_; rintro e w1 ⟨rfl, hg1⟩))
  go_ret
  exact ⟨rfl, hg1⟩
theorem sumOf_as (b o n c : Nat) (l : List UInt8) (X : Nat) (hX : (csum (l.take 252)).toNat = X) (hl : 252 ≤ l.length) (hc : l.length ≤ c) (w : World) (hT : Tab w) (g : Reads w (some ⟨b, o, none⟩) (bts l)) :
    Calls Tryd.prog 16 #[.slice (some ⟨b, o, none⟩) n c] w fun e w' => e = .returned (.int .u64 X) ∧ Chg [] w w' := by
  subst hX
  exact sumOf_any b o n c l hl hc w hT g
end Go.Proofs.YtkhaapoekaijlaaDoor
