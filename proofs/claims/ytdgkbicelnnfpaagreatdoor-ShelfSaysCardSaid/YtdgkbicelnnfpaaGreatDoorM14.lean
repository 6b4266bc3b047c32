/- Texts Nb, Nj, Sa, Sb, Sc, Sd, Se of the library, joined. -/
import Derived.Test.YtdgkbicelnnfpaaGreatDoorM06
import Derived.Test.YtdgkbicelnnfpaaGreatDoorM03
import Derived.Test.YtdgkbicelnnfpaaGreatDoorM02
import Derived.Test.YtdgkbicelnnfpaaGreatDoorM13
import Derived.Test.YtdgkbicelnnfpaaGreatDoorRows
import Derived.WalkKit
import Derived.WalkSpells
import Derived.BigQuiet
import Derived.Deep.QuietTactic
import Derived.Deep.RegionHeld3
import Derived.Lib.SlBytesConst
/- The reference: number, eight, May, Same, Own. -/
namespace Go.Proofs.YtdgkbicelnnfpaaGreatDoor
open Go.RowKit
set_option linter.unusedVariables false
set_option linter.unusedSimpArgs false
attribute [local go_sem ↓] Go.wp_at_zero Go.wp_at_succ

def prev (k : Nat) : Int := (k : Int) - 1
theorem prev_zero : prev 0 = -1 := rfl
theorem prev_succ (j : Nat) : prev (j + 1) = j := by simp [prev]
end Go.Proofs.YtdgkbicelnnfpaaGreatDoor

/- Package order: Put and Get. -/
namespace Go.Proofs.YtdgkbicelnnfpaaGreatDoor
open Go.RowKit
set_option linter.unusedVariables false

def okB (n : Int) : Bool := decide (1 ≤ n) && decide (n ≤ 8)
theorem sized_any (n : Int) (w : World) :
    Calls Tryz.prog 135 #[.int .i64 n] w fun e w' => e = .returned (.bool (okB n)) ∧ w = w' := by
  by_cases h1 : 1 ≤ n
  · by_cases h2 : n ≤ 8
    · have : okB n = true := by simp [okB, h1, h2]
      rw [this]; clear this
      go_enter Tryz.func135, Tryz.ntmps135
      go_wp2
      go_ret
      exact ⟨rfl, rfl⟩
    · have : okB n = false := by simp [okB, h2]
      rw [this]; clear this
      have h3 : decide (n ≤ 8) = false := by simpa using h2
      go_enter Tryz.func135, Tryz.ntmps135
      go_wp2
      go_ret
      exact ⟨rfl, rfl⟩
  · have : okB n = false := by simp [okB, h1]
    rw [this]; clear this
    have h3 : decide (1 ≤ n) = false := by simpa using h1
    go_enter Tryz.func135, Tryz.ntmps135
    go_wp2
    go_ret
    exact ⟨rfl, rfl⟩
/-! ### Put -/
def PutPost (w : World) (ys : List Value) (e : Ending) (w' : World) : Prop :=
  ∃ ao c, e = .returned (.slice ao ys.length c) ∧ Room w' w.heap.size ao ys.length c ys ∧ Chg [] w w'

set_option maxHeartbeats 400000 in
theorem put_any (ao : Option Addr) (n c : Nat) (xs : List Value) (N : Nat) (size : Nat) (w : World) (hx : Reads w ao xs) (hn : xs.length = n) (hone : ∀ u ∈ xs, u.oneCell' = true) (hle : n ≤ 140737488355000) (h1 : 1 ≤ size) (h8 : size ≤ 8) (hN : N < 2 ^ 64) :
    Calls Tryz.prog 86 #[.slice ao n c, .int .u64 N, .int .i64 size] w (PutPost w (xs ++ bts (be N size))) := by
  have hok : okB size = true := by simp [okB]; omega
  go_enter Tryz.func86, Tryz.ntmps86
  go_wp2_with (first | (go_at_call 135; refine (sized_any _ _).mono ?_; rintro e w' ⟨rfl, rfl⟩) | (at_make; refine wpList_make_k _ rfl _ _ 27 rfl 5 1 eltB w.heap.size .i64 .i64 _ (n + size) rfl rfl (by simp) (by omega) (by unfold maxLen; omega) (Nat.le_refl _) ?_; intro w1 hr1 hc1) | (at_builtin; refine wpList_append_k _ rfl (.tmp 17) (.tmp 18) 27 rfl 5 1 eltB w.heap.size _ 0 (n + size) [] rfl hr1 hc1.size ao n c xs rfl (hx.chg hc1 (by simp)) hn hone (by unfold maxLen; omega) (by omega) ?_; intro ao2 c2 w2 hr2 hc2 hf2))
  go_loopw [7, 8] (fun v i wr => ∃ k ao3 c3, k ≤ size ∧ i = .int .i64 (prev k) ∧ v = .slice ao3 (n + (size - k)) c3 ∧ Room wr w.heap.size ao3 (n + (size - k)) c3 (xs ++ bts (be (N / 256 ^ k) (size - k))) ∧ Chg [] w wr) (fun _ i _ => (Go.RowKit.intOf i + 1).toNat)
  case atStart => exact ⟨size, ao2, c2, Nat.le_refl _, rfl, by simp, by simpa [be, bts] using hr2, hc1.own hc2 hr1⟩
  case round =>
    obtain ⟨k, ao3, c3, hk, rfl, rfl, hr3, hc3⟩ := hrel
    cases k with
    | zero =>
      simp only [prev_zero]
      go_wp2
      go_ret
      simp only [Nat.sub_zero, Nat.pow_zero, Nat.div_one] at hr3 ⊢
      have hl : (xs ++ bts (be N size)).length = n + size := by simp [bts_length, be_length, hn]
      exact ⟨ao3, c3, by rw [hl]; rfl, by rw [hl]; exact hr3, hc3⟩
    | succ j =>
      simp only [prev_succ]
      go_wp2_with (first | (at_builtin; refine wpList_append_1 wr rfl (.tmp 26) (.tmp 32) 27 rfl 5 1 eltB w.heap.size ao3 (n + (size - (j + 1))) c3 _ rfl hr3 hc3.size (.int .u8 ((N : Int) / 2 ^ (8 * j) % 256)) 1 rfl rfl (by unfold maxLen; omega) (by omega) ?_; intro ao4 c4 w4 hr4 hc4 hf4))
      go_roundw
      case rel =>
        refine ⟨j, ao4, c4, by omega, rfl, by rw [show size - j = size - (j + 1) + 1 by omega]; rfl, ?_, hc3.own hc4 hr3⟩
        have e : be (N / 256 ^ j) (size - j) = be (N / 256 ^ (j + 1)) (size - (j + 1)) ++ [UInt8.ofNat (N / 256 ^ j)] := by
          rw [show size - j = size - (j + 1) + 1 by omega, be_snoc, Nat.div_div_eq_div_mul, Nat.pow_succ]
        rw [show size - j = size - (j + 1) + 1 by omega] at e ⊢
        rw [e]
        have e2 := shr_byte N j
        rw [e2] at hr4
        simpa [bts, List.append_assoc, Nat.add_assoc] using hr4
      case measure => simp [Go.RowKit.intOf]

/-! ### Get -/
def GetPost (w : World) (l : List UInt8) (size : Nat) (e : Ending) (w' : World) : Prop :=
  e = .returned (.tuple #[.int .u64 (val (l.take size)), .int .i64 0]) ∧ w = w'
set_option maxHeartbeats 400000 in
theorem get_yes (ao : Option Addr) (n c : Nat) (l : List UInt8) (size : Nat) (w : World) (hx : Reads w ao (bts l)) (hn : l.length = n) (hc : n ≤ c) (hle : c ≤ maxLen) (h1 : 1 ≤ size) (h8 : size ≤ 8) (hl : size ≤ n) :
    Calls Tryz.prog 144 #[.slice ao n c, .int .i64 size] w (GetPost w l size) := by
  have hok : okB size = true := by simp [okB]; omega
  unfold maxLen at hle
  go_enter Tryz.func144, Tryz.ntmps144
  go_wp2_with (first | (go_at_call 135; refine (sized_any _ _).mono ?_; rintro e w' ⟨rfl, rfl⟩))
  go_loop [6, 20] (fun v i => ∃ k : Nat, k ≤ size ∧ i = .int .i64 k ∧ v = .int .u64 (val (l.take k))) (fun _ i => size - (Go.RowKit.intOf i).toNat)
  case atStart => exact ⟨0, Nat.zero_le _, rfl, rfl⟩
  case round =>
    obtain ⟨k, hk, rfl, rfl⟩ := hrel
    by_cases hlt : k < size
    · obtain ⟨b, o, rfl, hc⟩ := hx (by simp [bts_length]; omega)
      have hcell := hc k _ (bts_get l k (by omega))
      clear hc
      go_wp2
      go_round
      case rel =>
        refine ⟨k + 1, by omega, by go_num, ?_⟩
        rw [val_take_succ l k (by omega), or_byte _ _ (val_take_lt l k (by omega))]
      case measure => simp [Go.RowKit.intOf]; omega
    · have : k = size := by omega
      subst this
      go_wp2
      go_ret2
      exact ⟨rfl, rfl⟩

theorem get_short (ao : Option Addr) (n c : Nat) (size : Nat) (w : World) (h1 : 1 ≤ size) (h8 : size ≤ 8) (hl : n < size) :
    Calls Tryz.prog 144 #[.slice ao n c, .int .i64 size] w fun e w' => e = .returned (.tuple #[.int .u64 0, .int .i64 4]) ∧ w = w' := by
  have hok : okB size = true := by simp [okB]; omega
  go_enter Tryz.func144, Tryz.ntmps144
  go_wp2_with (first | (go_at_call 135; refine (sized_any _ _).mono ?_; rintro e w' ⟨rfl, rfl⟩))
  go_ret2
  exact ⟨rfl, rfl⟩

end Go.Proofs.YtdgkbicelnnfpaaGreatDoor

/- The contracts of package stamp's own calls: parts, numbers laid and told. -/




namespace Go.Proofs.YtdgkbicelnnfpaaGreatDoor
set_option maxRecDepth 200000
open Go.RowKit
set_option linter.unusedVariables false
set_option linter.unusedSimpArgs false

theorem part_any (b o n c f m : Nat) (F H : Int) (hF : F = (f : Int)) (hH : H = ((f + m : Nat) : Int)) (hm : 0 < m) (hc : f + m ≤ c) (w : World) :
    Calls Tryz.prog 89 #[.slice (some ⟨b, o, none⟩) n c, .int .i64 F, .int .i64 H] w fun e w' => e = .returned (.slice (some ⟨b, o + f, none⟩) m m) ∧ w = w' := by
  have hr : ∀ u : World, (Instr.slice 27 (.slice (some ⟨b, o, none⟩) n c) (some (.int .i64 F)) (some (.int .i64 H)) (some (.int .i64 H))).run Tryz.prog u = .ok (.slice (some ⟨b, o + f, none⟩) m m) u := by
    intro u
    have hs : (Tryz.prog.info? 5).map (·.size) = some 1 := by kernel_rfl
    obtain ⟨i, hi, hi1⟩ := Option.map_eq_some_iff.1 hs
    have he : Tryz.prog.elem 27 = 5 := by simp [Program.elem, Tryz.underlying27]
    rw [run_slice_lhm u 27 _ n c (by rw [he]; exact Tryz.underlying27) .i64 .i64 .i64 F H H (by omega) (by omega) (by omega) (by omega), he]
    have e1 : H.toNat = f + m := by omega
    have e0 : F.toNat = f := by omega
    have e2 : ¬ f + m = f := by omega
    have e3 : ¬ m = 0 := by omega
    simp [sizeOf, typeInfo, hi, hi1, sliced, e0, e1, e2, e3, Addr.add_lit]
  clear hF hH
  go_enter Tryz.func89, Tryz.ntmps89
  go_wp2_with fail
  go_ret
  exact ⟨rfl, rfl⟩

/-- The number by which a place is told. -/
def pn (k : Int) : Nat := (k % 18446744073709551616).toNat
theorem pn_lt (k : Int) : pn k < 2 ^ 64 := by unfold pn; omega
theorem pn_eq (k : Int) : IntKind.u64.wrap k = (pn k : Int) := by rw [IntKind.wrap_u64]; unfold pn; omega
theorem place_any (k : Int) (w : World) : Calls Tryz.prog 90 #[.int .i64 k] w fun e w' => e = .returned (.int .u64 (pn k)) ∧ w = w' := by
  have h := pn_eq k
  go_enter Tryz.func90, Tryz.ntmps90
  go_wp2_with fail
  go_ret
  exact ⟨rfl, rfl⟩

theorem told_any (b o k : Nat) (l : List UInt8) (hl : l.length = k) (h1 : 1 ≤ k) (h8 : k ≤ 8) (w : World) (g : Reads w (some ⟨b, o, none⟩) (bts l)) :
    Calls Tryz.prog 96 #[.slice (some ⟨b, o, none⟩) k k] w fun e w' => e = .returned (.int .u64 (val l)) ∧ w = w' := by
  go_enter Tryz.func96, Tryz.ntmps96
  go_wp2_with (first | (go_at_call 144; refine (get_yes _ k k l k _ g hl (Nat.le_refl _) (by unfold maxLen; omega) h1 h8 (Nat.le_refl _)).mono ?_; rintro e w' ⟨rfl, rfl⟩))
  go_ret
  rw [List.take_of_length_le (by omega)]
  exact ⟨rfl, rfl⟩

theorem lay_any (b o k N : Nat) (h1 : 1 ≤ k) (h8 : k ≤ 8) (hN : N < 2 ^ 64) (w : World) (hth : w.there b o k) :
    Calls Tryz.prog 88 #[.slice (some ⟨b, o, none⟩) k k, .int .u64 N] w fun e w' => e = .returned (.tuple #[]) ∧ ∃ w1, Chg [] w w1 ∧ w' = w1.setCells b o (bts (be N k)) := by
  go_enter Tryz.func88, Tryz.ntmps88
  go_wp2_with (first | (go_at_call 86; refine (put_any none 0 0 [] N k _ (Reads.nil _ _) rfl (by simp) (by decide) h1 h8 hN).mono ?_; rintro e w1 ⟨a1, c1, rfl, hr1, hg1⟩; simp only [List.nil_append] at hr1; have hlen : (bts (be N k)).length = k := by rw [bts_length, be_length]) | (refine wpList_copy_k rfl (.tmp 4) (.tmp 8) 27 27 5 rfl Tryz.underlying27 oneB b o k k a1 _ c1 (bts (be N k)) rfl rfl hr1.reads (by rw [hlen]; exact (Nat.min_self _).symm) (by rw [hlen]; exact there_chg hth hg1 (by simp)) (bts_one _) ?_))
  go_end0
  exact ⟨rfl, _, hg1, rfl⟩

theorem sumOf_any (b o n c : Nat) (l : List UInt8) (hl : 252 ≤ l.length) (hc : l.length ≤ c) (w : World) (hT : Tab w) (g : Reads w (some ⟨b, o, none⟩) (bts l)) :
    Calls Tryz.prog 91 #[.slice (some ⟨b, o, none⟩) n c] w fun e w' => e = .returned (.int .u64 ((csum (l.take 252)).toNat)) ∧ Chg [] w w' := by
  have hS : ((csum (l.take 252)).toNat : Int) = v32 (csum (l.take 252)) := rfl
  rw [hS]
  have h0 := v32_lt (csum (l.take 252))
  have hg : Reads w (some ⟨b, o, none⟩) (bts (l.take 252)) := by rw [← bts_take]; exact g.take 252
  go_enter Tryz.func91, Tryz.ntmps91
  go_wp2_with (first | (go_at_call 89; refine (part_any b o n c 0 252 0 252 rfl rfl (by decide) (by omega) _).mono ?_; rintro e w' ⟨rfl, rfl⟩) | (go_at_call 136; refine (sum_any _ 252 252 (l.take 252) _ hT hg (by simp; omega) (by decide)).mono ?_; rintro e w1 ⟨rfl, hg1⟩))
  go_ret
  exact ⟨rfl, hg1⟩
theorem sumOf_as (b o n c : Nat) (l : List UInt8) (X : Nat) (hX : (csum (l.take 252)).toNat = X) (hl : 252 ≤ l.length) (hc : l.length ≤ c) (w : World) (hT : Tab w) (g : Reads w (some ⟨b, o, none⟩) (bts l)) :
    Calls Tryz.prog 91 #[.slice (some ⟨b, o, none⟩) n c] w fun e w' => e = .returned (.int .u64 X) ∧ Chg [] w w' := by
  subst hX
  exact sumOf_any b o n c l hl hc w hT g
end Go.Proofs.YtdgkbicelnnfpaaGreatDoor

/- Seal and Open of package stamp. -/

namespace Go.Proofs.YtdgkbicelnnfpaaGreatDoor
set_option maxRecDepth 200000
open Go.RowKit
set_option linter.unusedVariables false
set_option linter.unusedSimpArgs false

/-- What stands ahead of a block's sum. -/
def body (l : List UInt8) (p kd : Nat) : List UInt8 := (l ++ List.replicate (240 - l.length) 0) ++ (be p 8 ++ be kd 4)
theorem body_length (l : List UInt8) (p kd : Nat) (h : l.length ≤ 240) : (body l p kd).length = 252 := by
  simp [body, be_length]; omega
def sealB (l : List UInt8) (p kd : Nat) : List UInt8 := body l p kd ++ be (csum (body l p kd)).toNat 4
theorem seal_length (l : List UInt8) (p kd : Nat) (h : l.length ≤ 240) : (sealB l p kd).length = 256 := by
  simp [sealB, be_length, body_length l p kd h]

def SealPost (w : World) (l : List UInt8) (p kd : Nat) (e : Ending) (w' : World) : Prop :=
  ∃ ao c, e = .returned (.tuple #[.slice ao 256 c, .int .i64 0]) ∧ Room w' w.heap.size ao 256 c (bts (sealB l p kd)) ∧ Chg [] w w'
/-- New memory of n bytes that holds l, its block b; nothing old has turned. -/
structure Own (w0 w : World) (b n : Nat) (l : List UInt8) : Prop where
  r : Room w w0.heap.size (some ⟨b, 0, none⟩) n n (bts l)
  g : Chg [] w0 w
theorem Own.len {w0 w : World} {b n : Nat} {l : List UInt8} (h : Own w0 w b n l) : l.length = n := by have := h.r.len; rwa [bts_length] at this
theorem Own.keep {w0 w w' : World} {b n : Nat} {l : List UInt8} (h : Own w0 w b n l) (g : Chg [] w w') : Own w0 w' b n l := ⟨h.r.chg g (by simp), h.g.then g⟩
theorem Own.there {w0 w : World} {b n : Nat} {l : List UInt8} (h : Own w0 w b n l) (i m : Nat) (hi : i + m ≤ n) : w.there b i m := by
  have := h.r.there i m hi
  rwa [Nat.zero_add] at this
theorem Own.put {w0 w : World} {b n : Nat} {l : List UInt8} (h : Own w0 w b n l) (m : List UInt8) (i : Nat) (hi : i + m.length ≤ n) (l' : List UInt8) (hl' : l.take i ++ (m ++ l.drop (i + m.length)) = l') (hn : 0 < n) : Own w0 (w.setCells b i (bts m)) b n l' := by
  subst hl'
  have := h.r.sets (bts m) i (by rw [bts_length]; exact hi)
  rw [bts_length, bts_take, bts_drop, ← bts_append, ← bts_append, Nat.zero_add] at this
  exact ⟨this, h.g.trans (Chg.setCells b (bts m) i w) (fun _ h _ => h) (fun k hk hlt => by simp at hk; have := (h.r.lt b (by rw [fp_some _ _ _ hn]; simp)).1; omega)⟩
theorem own_made (n : Nat) (hn : n ≤ 1000) (w : World) : Own w (w.alloc (.cells (madeCells #[.int .u8 0] n) 5)) w.heap.size n (List.replicate n 0) :=
  ⟨by rw [bts_rep]; exact made_room w 5 (.int .u8 0) n (by unfold maxLen; omega), Chg.alloc [] w _⟩

set_option maxHeartbeats 1000000 in
theorem seal_any (ao : Option Addr) (n c : Nat) (l : List UInt8) (k : Int) (kd : Nat) (w : World) (hT : Tab w) (g : Reads w ao (bts l)) (gn : l.length = n) (hn : n ≤ 240) (hkd : kd < 256) :
    Calls Tryz.prog 48 #[.slice ao n c, .int .i64 k, .int .u8 kd] w (SealPost w l (pn k) kd) := by
  have hmk : ∀ u : World, (Instr.makeSlice 27 (.int .i64 256) (.int .i64 256)).run Tryz.prog u = .ok (.slice (some ⟨u.heap.size, 0, none⟩) 256 256) (u.alloc (.cells (madeCells #[.int .u8 0] 256) 5)) := hmk 256 (by decide)
  have hd : decide ((240 : Int) < (n : Int)) = false := decide_eq_false (by omega)
  have hkw : IntKind.u64.wrap (kd : Int) = (kd : Int) := by rw [IntKind.wrap_u64]; omega
  go_enter Tryz.func48, Tryz.ntmps48
  have hk64 : kd < 2 ^ 64 := by omega
  have h0 := own_made 256 (by decide) w
  have hlen : l.length ≤ 240 := by omega
  go_wp2_with (first
    | (refine wpList_copy_k rfl (.tmp 13) (.tmp 14) 27 27 5 rfl Tryz.underlying27 oneB w.heap.size 0 256 256 ao n c (bts l) rfl rfl (g.keep h0.g) (by rw [bts_length, gn]; exact (Nat.min_eq_left (by omega)).symm) (h0.there 0 _ (by rw [bts_length]; omega)) (bts_one _) ?_)
    | (go_at_call 89; refine (part_any w.heap.size 0 256 256 240 8 240 248 rfl rfl (by decide) (by decide) _).mono ?_; rintro e w' ⟨rfl, rfl⟩)
    | (go_at_call 90; refine (place_any k _).mono ?_; rintro e w' ⟨rfl, rfl⟩))
  have h1 := h0.put l 0 (by omega) (l ++ List.replicate (256 - l.length) 0) (by rw [List.take_zero, List.nil_append, List.drop_replicate, Nat.zero_add]) (by decide)
  generalize World.setCells (w.alloc _) _ _ _ = w1 at h1 ⊢
  clear h0
  generalize w.heap.size = nb at h1 ⊢
  refine (lay_any nb 240 8 (pn k) (by decide) (by decide) (pn_lt k) _ (h1.there 240 8 (by decide))).mono ?_
  rintro e w2 ⟨rfl, wa, ha, rfl⟩
  have h2 := (h1.keep ha).put (be (pn k) 8) 240 (by rw [be_length]; decide) ((l ++ List.replicate (240 - l.length) 0) ++ (be (pn k) 8 ++ List.replicate 8 0)) (by
    rw [be_length, List.take_append, List.drop_append, List.take_of_length_le (show l.length ≤ 240 by omega), List.drop_eq_nil_of_le (show l.length ≤ 240 + 8 by omega), List.take_replicate, List.drop_replicate, List.nil_append, show min (240 - l.length) (256 - l.length) = 240 - l.length by omega, show 256 - l.length - (240 + 8 - l.length) = 8 by omega]) (by decide)
  generalize World.setCells wa _ _ _ = w2 at h2 ⊢
  clear h1 ha
  go_wp2_with (first
    | (go_at_call 89; refine (part_any nb 0 256 256 248 4 248 252 rfl rfl (by decide) (by decide) _).mono ?_; rintro e w' ⟨rfl, rfl⟩))
  refine (lay_any nb 248 4 kd (by decide) (by decide) hk64 _ (h2.there 248 4 (by decide))).mono ?_
  rintro e w3 ⟨rfl, wb, hb, rfl⟩
  have h3 := (h2.keep hb).put (be kd 4) 248 (by rw [be_length]; decide) (body l (pn k) kd ++ List.replicate 4 0) (by
    have e1 : (l ++ List.replicate (240 - l.length) 0).length = 240 := by simp; omega
    have e2 : ((l ++ List.replicate (240 - l.length) 0) ++ be (pn k) 8).length = 248 := by simp [be_length]; omega
    rw [be_length, ← List.append_assoc (l ++ _), List.take_append_of_le_length (by omega), List.take_of_length_le (by omega), List.drop_append, List.drop_eq_nil_of_le (by omega), e2, List.drop_replicate, List.nil_append]
    simp only [body, List.append_assoc]) (by decide)
  generalize World.setCells wb _ _ _ = w3 at h3 ⊢
  clear h2 hb
  have hbl := body_length l (pn k) kd hlen
  generalize hbd : body l (pn k) kd = bd at h3 hbl
  have hX : (csum ((bd ++ List.replicate 4 0).take 252)).toNat = (csum bd).toNat := by rw [List.take_append_of_le_length (by omega), List.take_of_length_le (by omega)]
  go_wp2_with (first
    | (go_at_call 89; refine (part_any nb 0 256 256 252 4 252 256 rfl rfl (by decide) (by decide) _).mono ?_; rintro e w' ⟨rfl, rfl⟩)
    | (go_at_call 91; refine (sumOf_as nb 0 256 256 _ _ hX (by rw [h3.len]; decide) (by rw [h3.len]; decide) _ (hT.then h3.g) h3.r.reads).mono ?_; rintro e w4 ⟨rfl, hg4⟩))
  refine (lay_any nb 252 4 (csum bd).toNat (by decide) (by decide) (by have := (csum bd).isLt; omega) _ ((h3.keep hg4).there 252 4 (by decide))).mono ?_
  rintro e w5 ⟨rfl, wc, hc, rfl⟩
  have h5 := ((h3.keep hg4).keep hc).put (be (csum bd).toNat 4) 252 (by rw [be_length]; decide) (sealB l (pn k) kd) (by
    rw [be_length, List.take_append_of_le_length (by omega), List.take_of_length_le (by omega), List.drop_eq_nil_of_le (by simp; omega), List.append_nil]
    simp [sealB, hbd]) (by decide)
  generalize World.setCells wc _ _ _ = w5 at h5 ⊢
  clear h3 hg4 hc
  go_wp2_with fail
  go_ret2
  exact ⟨_, _, rfl, h5.r, h5.g⟩

/-- Which error a block's bytes are, at a place and as a kind; 0: none. -/
def opens (b : List UInt8) (p kd : Nat) : Nat :=
  if b.length < 256 then 4 else if 256 < b.length then 3
  else if val ((b.drop 252).take 4) ≠ (csum (b.take 252)).toNat then 20
  else if val ((b.drop 240).take 8) ≠ p then 21
  else if val ((b.drop 248).take 4) ≠ kd then 22 else 0
def OpenPost (w : World) (b : List UInt8) (p kd : Nat) (e : Ending) (w' : World) : Prop :=
  Chg [] w w' ∧ ((opens b p kd = 0 ∧ ∃ ao c, e = .returned (.tuple #[.slice ao 240 c, .int .i64 0]) ∧ Room w' w.heap.size ao 240 c (bts (b.take 240))) ∨ (opens b p kd ≠ 0 ∧ e = .returned (.tuple #[.slice none 0 0, .int .i64 (opens b p kd)])))
set_option maxHeartbeats 2000000 in
theorem open_any (ao : Option Addr) (n c : Nat) (l : List UInt8) (k : Int) (kd : Nat) (w : World) (hT : Tab w) (g : Reads w ao (bts l)) (gn : l.length = n) (gc : n ≤ c) (gm : c ≤ maxLen) (hkd : kd < 256) :
    Calls Tryz.prog 51 #[.slice ao n c, .int .i64 k, .int .u8 kd] w (OpenPost w l (pn k) kd) := by
  have hkw : IntKind.u64.wrap (kd : Int) = (kd : Int) := by rw [IntKind.wrap_u64]; omega
  by_cases c1 : n < 256
  · have d1 : decide ((n : Int) < 256) = true := decide_eq_true (by omega)
    have ho : opens l (pn k) kd = 4 := by unfold opens; rw [if_pos (by omega)]
    go_enter Tryz.func51, Tryz.ntmps51
    go_wp2_with fail
    go_ret2
    exact ⟨Chg.refl _ _, Or.inr ⟨by rw [ho]; decide, by rw [ho]; rfl⟩⟩
  have d1 : decide ((n : Int) < 256) = false := decide_eq_false (by omega)
  by_cases c2 : 256 < n
  · have d2 : decide ((256 : Int) < (n : Int)) = true := decide_eq_true (by omega)
    have ho : opens l (pn k) kd = 3 := by unfold opens; rw [if_neg (by omega), if_pos (by omega)]
    go_enter Tryz.func51, Tryz.ntmps51
    go_wp2_with fail
    go_ret2
    exact ⟨Chg.refl _ _, Or.inr ⟨by rw [ho]; decide, by rw [ho]; rfl⟩⟩
  obtain rfl : n = 256 := by omega
  clear c1 c2 d1
  obtain ⟨b, o, rfl, _⟩ := g (by rw [bts_length]; omega)
  have gs : ∀ i m, Reads w (some ⟨b, o + i, none⟩) (bts ((l.drop i).take m)) := fun i m => by
    rw [← bts_take, ← bts_drop]; exact (g.drop).take m
  have gl : ∀ i m, i + m ≤ 256 → ((l.drop i).take m).length = m := fun i m h => by simp; omega
  have g1 := gs 252 4
  have g2 := gs 240 8
  have g3 := gs 248 4
  have l1 := gl 252 4 (by decide)
  have l2 := gl 240 8 (by decide)
  have l3 := gl 248 4 (by decide)
  clear gs gl
  have ho : opens l (pn k) kd = if val ((l.drop 252).take 4) ≠ (csum (l.take 252)).toNat then 20 else if val ((l.drop 240).take 8) ≠ pn k then 21 else if val ((l.drop 248).take 4) ≠ kd then 22 else 0 := by
    unfold opens; rw [if_neg (by omega), if_neg (by omega)]
  obtain ⟨O, hO⟩ : ∃ O, O = opens l (pn k) kd := ⟨_, rfl⟩
  have hno : ∀ (C : Nat) (w' : World), O = C → C ≠ 0 → Chg [] w w' → OpenPost w l (pn k) kd (.returned (.tuple #[.slice none 0 0, .int .i64 C])) w' := fun C w' h h0 hg => by
    subst h; rw [hO] at h0 ⊢; exact ⟨hg, Or.inr ⟨h0, rfl⟩⟩
  have hyes : ∀ (w1 w' : World) (b : Nat), O = 0 → Chg [] w w1 → Own w1 w' b 240 (l.take 240) → OpenPost w l (pn k) kd (.returned (.tuple #[.slice (some ⟨b, 0, none⟩) 240 240, .int .i64 0])) w' := fun w1 w' b h hg ho => by
    rw [hO] at h; exact ⟨hg.then ho.g, Or.inl ⟨h, _, _, rfl, ho.r.mono hg.size⟩⟩
  rw [← hO] at ho
  generalize hS : (csum (l.take 252)).toNat = S at *
  generalize (l.drop 252).take 4 = b1 at *
  generalize (l.drop 240).take 8 = b2 at *
  generalize (l.drop 248).take 4 = b3 at *
  generalize hp : pn k = p at *
  clear hO
  have hp' : ∀ u, Calls Tryz.prog 90 #[.int .i64 k] u fun e w' => e = .returned (.int .u64 p) ∧ u = w' := fun u => by subst hp; exact place_any k u
  clear hp
  obtain ⟨V1, hV1⟩ : ∃ V : Value, V = .slice (some ⟨b, o + 252, none⟩) 4 4 := ⟨_, rfl⟩
  have P1 : ∀ u, Calls Tryz.prog 89 #[.slice (some ⟨b, o, none⟩) 256 c, .int .i64 252, .int .i64 256] u fun e w' => e = .returned V1 ∧ u = w' := fun u => by subst hV1; exact part_any b o 256 c 252 4 252 256 rfl rfl (by decide) (by omega) u
  have T1 : ∀ u, Chg [] w u → Calls Tryz.prog 96 #[V1] u fun e w' => e = .returned (.int .u64 (val b1)) ∧ u = w' := fun u hu => by subst hV1; exact told_any b _ 4 b1 l1 (by decide) (by decide) _ (g1.keep hu)
  clear hV1
  obtain ⟨V2, hV2⟩ : ∃ V : Value, V = .slice (some ⟨b, o + 240, none⟩) 8 8 := ⟨_, rfl⟩
  have P2 : ∀ u, Calls Tryz.prog 89 #[.slice (some ⟨b, o, none⟩) 256 c, .int .i64 240, .int .i64 248] u fun e w' => e = .returned V2 ∧ u = w' := fun u => by subst hV2; exact part_any b o 256 c 240 8 240 248 rfl rfl (by decide) (by omega) u
  have T2 : ∀ u, Chg [] w u → Calls Tryz.prog 96 #[V2] u fun e w' => e = .returned (.int .u64 (val b2)) ∧ u = w' := fun u hu => by subst hV2; exact told_any b _ 8 b2 l2 (by decide) (by decide) _ (g2.keep hu)
  clear hV2
  obtain ⟨V3, hV3⟩ : ∃ V : Value, V = .slice (some ⟨b, o + 248, none⟩) 4 4 := ⟨_, rfl⟩
  have P3 : ∀ u, Calls Tryz.prog 89 #[.slice (some ⟨b, o, none⟩) 256 c, .int .i64 248, .int .i64 252] u fun e w' => e = .returned V3 ∧ u = w' := fun u => by subst hV3; exact part_any b o 256 c 248 4 248 252 rfl rfl (by decide) (by omega) u
  have T3 : ∀ u, Chg [] w u → Calls Tryz.prog 96 #[V3] u fun e w' => e = .returned (.int .u64 (val b3)) ∧ u = w' := fun u hu => by subst hV3; exact told_any b _ 4 b3 l3 (by decide) (by decide) _ (g3.keep hu)
  clear hV3
  by_cases c3 : val b1 = S
  rotate_left
  · have d3 : decide ((val b1 : Int) = (S : Int)) = false := decide_eq_false (by omega)
    rw [if_pos c3] at ho
    subst ho
    go_enter Tryz.func51, Tryz.ntmps51
    go_wp2_with (first
    | (go_at_call_of 89 (Value.int .i64 240); refine (P2 _).mono ?_; rintro e w' ⟨rfl, rfl⟩)
    | (go_at_call_of 89 (Value.int .i64 256); refine (P1 _).mono ?_; rintro e w' ⟨rfl, rfl⟩)
    | (go_at_call_of 89 (Value.int .i64 248); refine (P3 _).mono ?_; rintro e w' ⟨rfl, rfl⟩)
    | (go_at_call_of 96 V1; refine (T1 _ (Chg.refl _ _)).mono ?_; rintro e w' ⟨rfl, rfl⟩)
    | (go_at_call 91; refine (sumOf_as b o 256 c l S hS (by omega) (by omega) _ hT g).mono ?_; rintro e w1 ⟨rfl, hg1⟩)
    | (go_at_call_of 96 V2; refine (T2 _ hg1).mono ?_; rintro e w' ⟨rfl, rfl⟩)
    | (go_at_call 90; refine (hp' _).mono ?_; rintro e w' ⟨rfl, rfl⟩)
    | (go_at_call_of 96 V3; refine (T3 _ hg1).mono ?_; rintro e w' ⟨rfl, rfl⟩))
    go_ret2
    exact hno _ _ rfl (by decide) hg1
  rw [if_neg (by simpa using c3)] at ho
  have d3 : decide ((val b1 : Int) = (S : Int)) = true := decide_eq_true (by omega)
  by_cases c4 : val b2 = p
  rotate_left
  · have d4 : decide ((val b2 : Int) = (p : Int)) = false := decide_eq_false (by omega)
    rw [if_pos c4] at ho
    subst ho
    go_enter Tryz.func51, Tryz.ntmps51
    go_wp2_with (first
    | (go_at_call_of 89 (Value.int .i64 240); refine (P2 _).mono ?_; rintro e w' ⟨rfl, rfl⟩)
    | (go_at_call_of 89 (Value.int .i64 256); refine (P1 _).mono ?_; rintro e w' ⟨rfl, rfl⟩)
    | (go_at_call_of 89 (Value.int .i64 248); refine (P3 _).mono ?_; rintro e w' ⟨rfl, rfl⟩)
    | (go_at_call_of 96 V1; refine (T1 _ (Chg.refl _ _)).mono ?_; rintro e w' ⟨rfl, rfl⟩)
    | (go_at_call 91; refine (sumOf_as b o 256 c l S hS (by omega) (by omega) _ hT g).mono ?_; rintro e w1 ⟨rfl, hg1⟩)
    | (go_at_call_of 96 V2; refine (T2 _ hg1).mono ?_; rintro e w' ⟨rfl, rfl⟩)
    | (go_at_call 90; refine (hp' _).mono ?_; rintro e w' ⟨rfl, rfl⟩)
    | (go_at_call_of 96 V3; refine (T3 _ hg1).mono ?_; rintro e w' ⟨rfl, rfl⟩))
    go_ret2
    exact hno _ _ rfl (by decide) hg1
  rw [if_neg (by simpa using c4)] at ho
  have d4 : decide ((val b2 : Int) = (p : Int)) = true := decide_eq_true (by omega)
  by_cases c5 : val b3 = kd
  rotate_left
  · have d5 : decide ((val b3 : Int) = (kd : Int)) = false := decide_eq_false (by omega)
    rw [if_pos c5] at ho
    subst ho
    go_enter Tryz.func51, Tryz.ntmps51
    go_wp2_with (first
    | (go_at_call_of 89 (Value.int .i64 240); refine (P2 _).mono ?_; rintro e w' ⟨rfl, rfl⟩)
    | (go_at_call_of 89 (Value.int .i64 256); refine (P1 _).mono ?_; rintro e w' ⟨rfl, rfl⟩)
    | (go_at_call_of 89 (Value.int .i64 248); refine (P3 _).mono ?_; rintro e w' ⟨rfl, rfl⟩)
    | (go_at_call_of 96 V1; refine (T1 _ (Chg.refl _ _)).mono ?_; rintro e w' ⟨rfl, rfl⟩)
    | (go_at_call 91; refine (sumOf_as b o 256 c l S hS (by omega) (by omega) _ hT g).mono ?_; rintro e w1 ⟨rfl, hg1⟩)
    | (go_at_call_of 96 V2; refine (T2 _ hg1).mono ?_; rintro e w' ⟨rfl, rfl⟩)
    | (go_at_call 90; refine (hp' _).mono ?_; rintro e w' ⟨rfl, rfl⟩)
    | (go_at_call_of 96 V3; refine (T3 _ hg1).mono ?_; rintro e w' ⟨rfl, rfl⟩))
    go_ret2
    exact hno _ _ rfl (by decide) hg1
  rw [if_neg (by simpa using c5)] at ho
  have d5 : decide ((val b3 : Int) = (kd : Int)) = true := decide_eq_true (by omega)
  subst ho
  have hmk : ∀ u : World, (Instr.makeSlice 27 (.int .i64 240) (.int .i64 240)).run Tryz.prog u = .ok (.slice (some ⟨u.heap.size, 0, none⟩) 240 240) (u.alloc (.cells (madeCells #[.int .u8 0] 240) 5)) := hmk 240 (by decide)
  have hl240 : (bts (l.take 240)).length = 240 := by rw [bts_length, List.length_take]; omega
  go_enter Tryz.func51, Tryz.ntmps51
  go_wp2_with (first
    | (go_at_call_of 89 (Value.int .i64 240); refine (P2 _).mono ?_; rintro e w' ⟨rfl, rfl⟩)
    | (go_at_call_of 89 (Value.int .i64 256); refine (P1 _).mono ?_; rintro e w' ⟨rfl, rfl⟩)
    | (go_at_call_of 89 (Value.int .i64 248); refine (P3 _).mono ?_; rintro e w' ⟨rfl, rfl⟩)
    | (go_at_call_of 96 V1; refine (T1 _ (Chg.refl _ _)).mono ?_; rintro e w' ⟨rfl, rfl⟩)
    | (go_at_call 91; refine (sumOf_as b o 256 c l S hS (by omega) (by omega) _ hT g).mono ?_; rintro e w1 ⟨rfl, hg1⟩)
    | (go_at_call_of 96 V2; refine (T2 _ hg1).mono ?_; rintro e w' ⟨rfl, rfl⟩)
    | (go_at_call 90; refine (hp' _).mono ?_; rintro e w' ⟨rfl, rfl⟩)
    | (go_at_call_of 96 V3; refine (T3 _ hg1).mono ?_; rintro e w' ⟨rfl, rfl⟩)
    | (refine wpList_copy_k rfl (.tmp 39) (.tmp 40) 27 27 5 rfl Tryz.underlying27 oneB w1.heap.size 0 240 240 (some ⟨b, o, none⟩) 256 c (bts (l.take 240)) rfl rfl (((by rw [← bts_take]; exact g.take 240 : Reads w (some ⟨b, o, none⟩) (bts (l.take 240))).keep hg1).keep (own_made 240 (by decide) w1).g) (by rw [hl240]; rfl) ((own_made 240 (by decide) w1).there 0 _ (by rw [hl240]; decide)) (bts_one _) ?_))
  have h1 := (own_made 240 (by decide) w1).put (l.take 240) 0 (by rw [bts_length] at hl240; omega) (l.take 240) (by rw [bts_length] at hl240; rw [hl240, List.take_zero, List.drop_replicate, List.nil_append]; simp) (by decide)
  generalize World.setCells (w1.alloc _) _ _ _ = w2 at h1 ⊢
  go_ret2
  exact hyes _ _ _ (by first | rfl | trivial) hg1 h1
end Go.Proofs.YtdgkbicelnnfpaaGreatDoor

/- The reference's Seal. -/
namespace Go.Proofs.YtdgkbicelnnfpaaGreatDoor
set_option maxRecDepth 200000
open Go.RowKit
set_option linter.unusedVariables false
set_option linter.unusedSimpArgs false

theorem Own.set {w0 w : World} {b n : Nat} {l : List UInt8} (h : Own w0 w b n l) (i : Nat) (hi : i < n) (x : UInt8) (v : Int) (hv : v = (x.toNat : Int)) (l' : List UInt8) (hl' : l.set i x = l') : Own w0 (w.setCell ⟨b, i, none⟩ (.int .u8 v)) b n l' := by
  subst hl' hv
  have := h.r.set i hi (.int .u8 (x.toNat : Int))
  have e : (bts l).set i (.int .u8 (x.toNat : Int)) = bts (l.set i x) := by simp [bts]
  rw [Nat.zero_add, e] at this
  exact ⟨this, h.g.trans (Chg.setCell w ⟨b, i, none⟩ _) (fun _ h _ => h) (fun k hk hlt => by simp at hk; have := (h.r.lt b (by rw [fp_some _ _ _ (by omega)]; simp)).1; omega)⟩
theorem Own.cell {w0 w : World} {b n : Nat} {l : List UInt8} (h : Own w0 w b n l) (i : Nat) (hi : i < n) : (∃ v, w.cell? ⟨b, i, none⟩ = some v) ∧ w.frozen? ⟨b, i, none⟩ = false := by
  have := h.there i 1 (by omega) 0 (by decide)
  exact ⟨Option.isSome_iff_exists.1 this.1, this.2⟩
theorem Own.at_ {w0 w : World} {b n : Nat} {l : List UInt8} (h : Own w0 w b n l) (i : Nat) (x : UInt8) (hx : l[i]? = some x) : w.cell? ⟨b, i, none⟩ = some (.int .u8 (x.toNat : Int)) := by
  have := h.r.reads.cell i (.int .u8 (x.toNat : Int)) (by simp [bts, hx])
  rwa [Nat.zero_add] at this
end Go.Proofs.YtdgkbicelnnfpaaGreatDoor

/- The reference's Open. -/
namespace Go.Proofs.YtdgkbicelnnfpaaGreatDoor
set_option maxRecDepth 200000
open Go.RowKit
set_option linter.unusedVariables false
set_option linter.unusedSimpArgs false

theorem val_be_lt (k : Nat) : ∀ N : Nat, N < 256 ^ k → val (be N k) = N := by
  induction k with
  | zero => intro N h; have : N = 0 := by simpa using h
            subst this; rfl
  | succ k ih =>
    intro N h
    rw [be_snoc, val_snoc, ih (N / 256) (by rw [Nat.pow_succ] at h; exact Nat.div_lt_of_lt_mul (by rw [Nat.mul_comm]; exact h)), UInt8.toNat_ofNat']
    omega
theorem seal_parts (l : List UInt8) (p kd : Nat) (h : l.length ≤ 240) : ((sealB l p kd).drop 240).take 8 = be p 8 ∧ ((sealB l p kd).drop 248).take 4 = be kd 4 := by
  have e1 : (l ++ List.replicate (240 - l.length) (0 : UInt8)).length = 240 := by rw [List.length_append, List.length_replicate]; omega
  have e2 : (l ++ List.replicate (240 - l.length) (0 : UInt8) ++ be p 8).length = 248 := by rw [List.length_append, e1, be_length]
  constructor
  · unfold sealB body
    rw [List.append_assoc, List.drop_left' e1, List.append_assoc, List.take_left' (be_length p 8)]
  · unfold sealB body
    rw [← List.append_assoc, List.append_assoc _ (be kd 4), List.drop_left' e2, List.take_left' (be_length kd 4)]

end Go.Proofs.YtdgkbicelnnfpaaGreatDoor

/- What is sealed is opened at its place, as its kind alone; the statements' own helper. -/
namespace Go.Proofs.YtdgkbicelnnfpaaGreatDoor
set_option maxRecDepth 200000
open Go.RowKit
set_option linter.unusedVariables false
set_option linter.unusedSimpArgs false

theorem seal_take (l : List UInt8) (p kd : Nat) (h : l.length ≤ 240) : (sealB l p kd).take 252 = body l p kd := by
  unfold sealB; rw [List.take_left' (body_length l p kd h)]
theorem seal_drop (l : List UInt8) (p kd : Nat) (h : l.length ≤ 240) : (sealB l p kd).drop 252 = be (csum (body l p kd)).toNat 4 := by
  unfold sealB; rw [List.drop_left' (body_length l p kd h)]
theorem opens_seal (l : List UInt8) (p kd p' kd' : Nat) (h : l.length ≤ 240) (hp : p < 2 ^ 64) (hkd : kd < 2 ^ 32) :
    opens (sealB l p kd) p' kd' = if p ≠ p' then 21 else if kd ≠ kd' then 22 else 0 := by
  have hl := seal_length l p kd h
  obtain ⟨h1, h2⟩ := seal_parts l p kd h
  have hS := (csum (body l p kd)).isLt
  unfold opens
  rw [if_neg (by omega), if_neg (by omega), seal_drop l p kd h, seal_take l p kd h, h1, h2, List.take_of_length_le (by rw [be_length]; decide), val_be_lt 4 _ (by omega), val_be_lt 8 p (by omega), val_be_lt 4 kd (by omega), if_neg (by simp)]
theorem open_no (C : Nat) (hC : C ≠ 0) (ao : Option Addr) (n c : Nat) (l : List UInt8) (k : Int) (kd p : Nat) (hp : pn k = p) (ho : opens l p kd = C) (w : World) (hT : Tab w) (g : Reads w ao (bts l)) (gn : l.length = n) (gc : n ≤ c) (gm : c ≤ maxLen) (hkd : kd < 256) :
    Calls Tryz.prog 51 #[.slice ao n c, .int .i64 k, .int .u8 kd] w fun e w' => e = .returned (.tuple #[.slice none 0 0, .int .i64 C]) ∧ Chg [] w w' := by
  subst hp ho
  refine (open_any ao n c l k kd w hT g gn gc gm hkd).mono ?_
  rintro e w2 ⟨hg2, ⟨h0, -⟩ | ⟨-, rfl⟩⟩
  · exact absurd h0 hC
  · exact ⟨rfl, hg2⟩
theorem open_yes (ao : Option Addr) (n c : Nat) (l : List UInt8) (k : Int) (kd p : Nat) (hp : pn k = p) (ho : opens l p kd = 0) (w : World) (hT : Tab w) (g : Reads w ao (bts l)) (gn : l.length = n) (gc : n ≤ c) (gm : c ≤ maxLen) (hkd : kd < 256) :
    Calls Tryz.prog 51 #[.slice ao n c, .int .i64 k, .int .u8 kd] w fun e w' => ∃ ap cp, e = .returned (.tuple #[.slice ap 240 cp, .int .i64 0]) ∧ Room w' w.heap.size ap 240 cp (bts (l.take 240)) ∧ Chg [] w w' := by
  subst hp
  refine (open_any ao n c l k kd w hT g gn gc gm hkd).mono ?_
  rintro e w2 ⟨hg2, ⟨-, ap, cp, rfl, hr⟩ | ⟨h0, rfl⟩⟩
  · exact ⟨ap, cp, rfl, hr, hg2⟩
  · exact absurd ho h0
def ab : List UInt8 := [97, 98]
end Go.Proofs.YtdgkbicelnnfpaaGreatDoor
