/- Texts Sb, Sc, Sd, Se, Txa, Pa of the library, joined. -/
import Derived.Test.YtoeijomelabbfaaGreatDoorM01
import Derived.Test.YtoeijomelabbfaaGreatDoorM05
import Derived.Test.YtoeijomelabbfaaGreatDoorM11
import Derived.Test.YtoeijomelabbfaaGreatDoorM15
import Derived.Deep.RegionHeld3
import Derived.Deep.QuietTactic
import Derived.BigQuiet
import Derived.Lib.SlBytesConst
import Derived.Test.YtoeijomelabbfaaGreatDoorRows
import Derived.RegionTactic
import Derived.Deep.RegionLaw
import Derived.Deep.DeepCutAuto
import Derived.Deep.DrawnRows
import Derived.WalkSpells
import Derived.WalkLawsBesides
/- Seal and Open of package stamp. -/

namespace Go.Proofs.YtoeijomelabbfaaGreatDoor
set_option maxRecDepth 200000
open Go.RowKit
set_option linter.unusedVariables false
set_option linter.unusedSimpArgs false

/-- What stands ahead of a block's sum. -/
def body (l : List UInt8) (p kd : Nat) : List UInt8 := (l ++ List.replicate (240 - l.length) 0) ++ (be p 8 ++ be kd 4)
theorem body_length (l : List UInt8) (p kd : Nat) (h : l.length ≤ 240) : (body l p kd).length = 252 := by
  simp [body, be_length]; omega
def sealB (l : List UInt8) (p kd : Nat) : List UInt8 := body l p kd ++ be (csum (body l p kd)).toNat 4
theorem seal_length (l : List UInt8) (p kd : Nat) (h : l.length ≤ 240) : (sealB l p kd).length = 256 := by
  simp [sealB, be_length, body_length l p kd h]

def SealPost (w : World) (l : List UInt8) (p kd : Nat) (e : Ending) (w' : World) : Prop :=
  ∃ ao c, e = .returned (.tuple #[.slice ao 256 c, .int .i64 0]) ∧ Room w' w.heap.size ao 256 c (bts (sealB l p kd)) ∧ Chg [] w w'
/-- New memory of n bytes that holds l, its block b; nothing old has turned. -/
structure Own (w0 w : World) (b n : Nat) (l : List UInt8) : Prop where
  r : Room w w0.heap.size (some ⟨b, 0, none⟩) n n (bts l)
  g : Chg [] w0 w
theorem Own.len {w0 w : World} {b n : Nat} {l : List UInt8} (h : Own w0 w b n l) : l.length = n := by have := h.r.len; rwa [bts_length] at this
theorem Own.keep {w0 w w' : World} {b n : Nat} {l : List UInt8} (h : Own w0 w b n l) (g : Chg [] w w') : Own w0 w' b n l := ⟨h.r.chg g (by simp), h.g.then g⟩
theorem Own.there {w0 w : World} {b n : Nat} {l : List UInt8} (h : Own w0 w b n l) (i m : Nat) (hi : i + m ≤ n) : w.there b i m := by
  have := h.r.there i m hi
  rwa [Nat.zero_add] at this
theorem Own.put {w0 w : World} {b n : Nat} {l : List UInt8} (h : Own w0 w b n l) (m : List UInt8) (i : Nat) (hi : i + m.length ≤ n) (l' : List UInt8) (hl' : l.take i ++ (m ++ l.drop (i + m.length)) = l') (hn : 0 < n) : Own w0 (w.setCells b i (bts m)) b n l' := by
  subst hl'
  have := h.r.sets (bts m) i (by rw [bts_length]; exact hi)
  rw [bts_length, bts_take, bts_drop, ← bts_append, ← bts_append, Nat.zero_add] at this
  exact ⟨this, h.g.trans (Chg.setCells b (bts m) i w) (fun _ h _ => h) (fun k hk hlt => by simp at hk; have := (h.r.lt b (by rw [fp_some _ _ _ hn]; simp)).1; omega)⟩
theorem own_made (n : Nat) (hn : n ≤ 1000) (w : World) : Own w (w.alloc (.cells (madeCells #[.int .u8 0] n) 5)) w.heap.size n (List.replicate n 0) :=
  ⟨by rw [bts_rep]; exact made_room w 5 (.int .u8 0) n (by unfold maxLen; omega), Chg.alloc [] w _⟩

set_option maxHeartbeats 1000000 in
theorem seal_any (ao : Option Addr) (n c : Nat) (l : List UInt8) (k : Int) (kd : Nat) (w : World) (hT : Tab w) (g : Reads w ao (bts l)) (gn : l.length = n) (hn : n ≤ 240) (hkd : kd < 256) :
    Calls Tryz.prog 160 #[.slice ao n c, .int .i64 k, .int .u8 kd] w (SealPost w l (pn k) kd) := by
  have hmk : ∀ u : World, (Instr.makeSlice 41 (.int .i64 256) (.int .i64 256)).run Tryz.prog u = .ok (.slice (some ⟨u.heap.size, 0, none⟩) 256 256) (u.alloc (.cells (madeCells #[.int .u8 0] 256) 5)) := hmk 256 (by decide)
  have hd : decide ((240 : Int) < (n : Int)) = false := decide_eq_false (by omega)
  have hkw : IntKind.u64.wrap (kd : Int) = (kd : Int) := by rw [IntKind.wrap_u64]; omega
  go_enter Tryz.func160, Tryz.ntmps160
  have hk64 : kd < 2 ^ 64 := by omega
  have h0 := own_made 256 (by decide) w
  have hlen : l.length ≤ 240 := by omega
  go_wp2_with (first
    | (refine wpList_copy_k rfl (.tmp 13) (.tmp 14) 41 41 5 rfl Tryz.underlying41 oneB w.heap.size 0 256 256 ao n c (bts l) rfl rfl (g.keep h0.g) (by rw [bts_length, gn]; exact (Nat.min_eq_left (by omega)).symm) (h0.there 0 _ (by rw [bts_length]; omega)) (bts_one _) ?_)
    | (go_at_call 188; refine (part_any w.heap.size 0 256 256 240 8 240 248 rfl rfl (by decide) (by decide) _).mono ?_; rintro e w' ⟨rfl, rfl⟩)
    | (go_at_call 189; refine (place_any k _).mono ?_; rintro e w' ⟨rfl, rfl⟩))
  have h1 := h0.put l 0 (by omega) (l ++ List.replicate (256 - l.length) 0) (by rw [List.take_zero, List.nil_append, List.drop_replicate, Nat.zero_add]) (by decide)
  generalize World.setCells (w.alloc _) _ _ _ = w1 at h1 ⊢
  clear h0
  generalize w.heap.size = nb at h1 ⊢
  refine (lay_any nb 240 8 (pn k) (by decide) (by decide) (pn_lt k) _ (h1.there 240 8 (by decide))).mono ?_
  rintro e w2 ⟨rfl, wa, ha, rfl⟩
  have h2 := (h1.keep ha).put (be (pn k) 8) 240 (by rw [be_length]; decide) ((l ++ List.replicate (240 - l.length) 0) ++ (be (pn k) 8 ++ List.replicate 8 0)) (by
    rw [be_length, List.take_append, List.drop_append, List.take_of_length_le (show l.length ≤ 240 by omega), List.drop_eq_nil_of_le (show l.length ≤ 240 + 8 by omega), List.take_replicate, List.drop_replicate, List.nil_append, show min (240 - l.length) (256 - l.length) = 240 - l.length by omega, show 256 - l.length - (240 + 8 - l.length) = 8 by omega]) (by decide)
  generalize World.setCells wa _ _ _ = w2 at h2 ⊢
  clear h1 ha
  go_wp2_with (first
    | (go_at_call 188; refine (part_any nb 0 256 256 248 4 248 252 rfl rfl (by decide) (by decide) _).mono ?_; rintro e w' ⟨rfl, rfl⟩))
  refine (lay_any nb 248 4 kd (by decide) (by decide) hk64 _ (h2.there 248 4 (by decide))).mono ?_
  rintro e w3 ⟨rfl, wb, hb, rfl⟩
  have h3 := (h2.keep hb).put (be kd 4) 248 (by rw [be_length]; decide) (body l (pn k) kd ++ List.replicate 4 0) (by
    have e1 : (l ++ List.replicate (240 - l.length) 0).length = 240 := by simp; omega
    have e2 : ((l ++ List.replicate (240 - l.length) 0) ++ be (pn k) 8).length = 248 := by simp [be_length]; omega
    rw [be_length, ← List.append_assoc (l ++ _), List.take_append_of_le_length (by omega), List.take_of_length_le (by omega), List.drop_append, List.drop_eq_nil_of_le (by omega), e2, List.drop_replicate, List.nil_append]
    simp only [body, List.append_assoc]) (by decide)
  generalize World.setCells wb _ _ _ = w3 at h3 ⊢
  clear h2 hb
  have hbl := body_length l (pn k) kd hlen
  generalize hbd : body l (pn k) kd = bd at h3 hbl
  have hX : (csum ((bd ++ List.replicate 4 0).take 252)).toNat = (csum bd).toNat := by rw [List.take_append_of_le_length (by omega), List.take_of_length_le (by omega)]
  go_wp2_with (first
    | (go_at_call 188; refine (part_any nb 0 256 256 252 4 252 256 rfl rfl (by decide) (by decide) _).mono ?_; rintro e w' ⟨rfl, rfl⟩)
    | (go_at_call 190; refine (sumOf_as nb 0 256 256 _ _ hX (by rw [h3.len]; decide) (by rw [h3.len]; decide) _ (hT.then h3.g) h3.r.reads).mono ?_; rintro e w4 ⟨rfl, hg4⟩))
  refine (lay_any nb 252 4 (csum bd).toNat (by decide) (by decide) (by have := (csum bd).isLt; omega) _ ((h3.keep hg4).there 252 4 (by decide))).mono ?_
  rintro e w5 ⟨rfl, wc, hc, rfl⟩
  have h5 := ((h3.keep hg4).keep hc).put (be (csum bd).toNat 4) 252 (by rw [be_length]; decide) (sealB l (pn k) kd) (by
    rw [be_length, List.take_append_of_le_length (by omega), List.take_of_length_le (by omega), List.drop_eq_nil_of_le (by simp; omega), List.append_nil]
    simp [sealB, hbd]) (by decide)
  generalize World.setCells wc _ _ _ = w5 at h5 ⊢
  clear h3 hg4 hc
  go_wp2_with fail
  go_ret2
  exact ⟨_, _, rfl, h5.r, h5.g⟩

/-- Which error a block's bytes are, at a place and as a kind; 0: none. -/
def opens (b : List UInt8) (p kd : Nat) : Nat :=
  if b.length < 256 then 4 else if 256 < b.length then 3
  else if val ((b.drop 252).take 4) ≠ (csum (b.take 252)).toNat then 20
  else if val ((b.drop 240).take 8) ≠ p then 21
  else if val ((b.drop 248).take 4) ≠ kd then 22 else 0
def OpenPost (w : World) (b : List UInt8) (p kd : Nat) (e : Ending) (w' : World) : Prop :=
  Chg [] w w' ∧ ((opens b p kd = 0 ∧ ∃ ao c, e = .returned (.tuple #[.slice ao 240 c, .int .i64 0]) ∧ Room w' w.heap.size ao 240 c (bts (b.take 240))) ∨ (opens b p kd ≠ 0 ∧ e = .returned (.tuple #[.slice none 0 0, .int .i64 (opens b p kd)])))
set_option maxHeartbeats 2000000 in
theorem open_any (ao : Option Addr) (n c : Nat) (l : List UInt8) (k : Int) (kd : Nat) (w : World) (hT : Tab w) (g : Reads w ao (bts l)) (gn : l.length = n) (gc : n ≤ c) (gm : c ≤ maxLen) (hkd : kd < 256) :
    Calls Tryz.prog 168 #[.slice ao n c, .int .i64 k, .int .u8 kd] w (OpenPost w l (pn k) kd) := by
  have hkw : IntKind.u64.wrap (kd : Int) = (kd : Int) := by rw [IntKind.wrap_u64]; omega
  by_cases c1 : n < 256
  · have d1 : decide ((n : Int) < 256) = true := decide_eq_true (by omega)
    have ho : opens l (pn k) kd = 4 := by unfold opens; rw [if_pos (by omega)]
    go_enter Tryz.func168, Tryz.ntmps168
    go_wp2_with fail
    go_ret2
    exact ⟨Chg.refl _ _, Or.inr ⟨by rw [ho]; decide, by rw [ho]; rfl⟩⟩
  have d1 : decide ((n : Int) < 256) = false := decide_eq_false (by omega)
  by_cases c2 : 256 < n
  · have d2 : decide ((256 : Int) < (n : Int)) = true := decide_eq_true (by omega)
    have ho : opens l (pn k) kd = 3 := by unfold opens; rw [if_neg (by omega), if_pos (by omega)]
    go_enter Tryz.func168, Tryz.ntmps168
    go_wp2_with fail
    go_ret2
    exact ⟨Chg.refl _ _, Or.inr ⟨by rw [ho]; decide, by rw [ho]; rfl⟩⟩
  obtain rfl : n = 256 := by omega
  clear c1 c2 d1
  obtain ⟨b, o, rfl, _⟩ := g (by rw [bts_length]; omega)
  have gs : ∀ i m, Reads w (some ⟨b, o + i, none⟩) (bts ((l.drop i).take m)) := fun i m => by
    rw [← bts_take, ← bts_drop]; exact (g.drop).take m
  have gl : ∀ i m, i + m ≤ 256 → ((l.drop i).take m).length = m := fun i m h => by simp; omega
  have g1 := gs 252 4
  have g2 := gs 240 8
  have g3 := gs 248 4
  have l1 := gl 252 4 (by decide)
  have l2 := gl 240 8 (by decide)
  have l3 := gl 248 4 (by decide)
  clear gs gl
  have ho : opens l (pn k) kd = if val ((l.drop 252).take 4) ≠ (csum (l.take 252)).toNat then 20 else if val ((l.drop 240).take 8) ≠ pn k then 21 else if val ((l.drop 248).take 4) ≠ kd then 22 else 0 := by
    unfold opens; rw [if_neg (by omega), if_neg (by omega)]
  obtain ⟨O, hO⟩ : ∃ O, O = opens l (pn k) kd := ⟨_, rfl⟩
  have hno : ∀ (C : Nat) (w' : World), O = C → C ≠ 0 → Chg [] w w' → OpenPost w l (pn k) kd (.returned (.tuple #[.slice none 0 0, .int .i64 C])) w' := fun C w' h h0 hg => by
    subst h; rw [hO] at h0 ⊢; exact ⟨hg, Or.inr ⟨h0, rfl⟩⟩
  have hyes : ∀ (w1 w' : World) (b : Nat), O = 0 → Chg [] w w1 → Own w1 w' b 240 (l.take 240) → OpenPost w l (pn k) kd (.returned (.tuple #[.slice (some ⟨b, 0, none⟩) 240 240, .int .i64 0])) w' := fun w1 w' b h hg ho => by
    rw [hO] at h; exact ⟨hg.then ho.g, Or.inl ⟨h, _, _, rfl, ho.r.mono hg.size⟩⟩
  rw [← hO] at ho
  generalize hS : (csum (l.take 252)).toNat = S at *
  generalize (l.drop 252).take 4 = b1 at *
  generalize (l.drop 240).take 8 = b2 at *
  generalize (l.drop 248).take 4 = b3 at *
  generalize hp : pn k = p at *
  clear hO
  have hp' : ∀ u, Calls Tryz.prog 189 #[.int .i64 k] u fun e w' => e = .returned (.int .u64 p) ∧ u = w' := fun u => by subst hp; exact place_any k u
  clear hp
  obtain ⟨V1, hV1⟩ : ∃ V : Value, V = .slice (some ⟨b, o + 252, none⟩) 4 4 := ⟨_, rfl⟩
  have P1 : ∀ u, Calls Tryz.prog 188 #[.slice (some ⟨b, o, none⟩) 256 c, .int .i64 252, .int .i64 256] u fun e w' => e = .returned V1 ∧ u = w' := fun u => by subst hV1; exact part_any b o 256 c 252 4 252 256 rfl rfl (by decide) (by omega) u
  have T1 : ∀ u, Chg [] w u → Calls Tryz.prog 194 #[V1] u fun e w' => e = .returned (.int .u64 (val b1)) ∧ u = w' := fun u hu => by subst hV1; exact told_any b _ 4 b1 l1 (by decide) (by decide) _ (g1.keep hu)
  clear hV1
  obtain ⟨V2, hV2⟩ : ∃ V : Value, V = .slice (some ⟨b, o + 240, none⟩) 8 8 := ⟨_, rfl⟩
  have P2 : ∀ u, Calls Tryz.prog 188 #[.slice (some ⟨b, o, none⟩) 256 c, .int .i64 240, .int .i64 248] u fun e w' => e = .returned V2 ∧ u = w' := fun u => by subst hV2; exact part_any b o 256 c 240 8 240 248 rfl rfl (by decide) (by omega) u
  have T2 : ∀ u, Chg [] w u → Calls Tryz.prog 194 #[V2] u fun e w' => e = .returned (.int .u64 (val b2)) ∧ u = w' := fun u hu => by subst hV2; exact told_any b _ 8 b2 l2 (by decide) (by decide) _ (g2.keep hu)
  clear hV2
  obtain ⟨V3, hV3⟩ : ∃ V : Value, V = .slice (some ⟨b, o + 248, none⟩) 4 4 := ⟨_, rfl⟩
  have P3 : ∀ u, Calls Tryz.prog 188 #[.slice (some ⟨b, o, none⟩) 256 c, .int .i64 248, .int .i64 252] u fun e w' => e = .returned V3 ∧ u = w' := fun u => by subst hV3; exact part_any b o 256 c 248 4 248 252 rfl rfl (by decide) (by omega) u
  have T3 : ∀ u, Chg [] w u → Calls Tryz.prog 194 #[V3] u fun e w' => e = .returned (.int .u64 (val b3)) ∧ u = w' := fun u hu => by subst hV3; exact told_any b _ 4 b3 l3 (by decide) (by decide) _ (g3.keep hu)
  clear hV3
  by_cases c3 : val b1 = S
  rotate_left
  · have d3 : decide ((val b1 : Int) = (S : Int)) = false := decide_eq_false (by omega)
    rw [if_pos c3] at ho
    subst ho
    go_enter Tryz.func168, Tryz.ntmps168
    go_wp2_with (first
    | (go_at_call_of 188 (Value.int .i64 240); refine (P2 _).mono ?_; rintro e w' ⟨rfl, rfl⟩)
    | (go_at_call_of 188 (Value.int .i64 256); refine (P1 _).mono ?_; rintro e w' ⟨rfl, rfl⟩)
    | (go_at_call_of 188 (Value.int .i64 248); refine (P3 _).mono ?_; rintro e w' ⟨rfl, rfl⟩)
    | (go_at_call_of 194 V1; refine (T1 _ (Chg.refl _ _)).mono ?_; rintro e w' ⟨rfl, rfl⟩)
    | (go_at_call 190; refine (sumOf_as b o 256 c l S hS (by omega) (by omega) _ hT g).mono ?_; rintro e w1 ⟨rfl, hg1⟩)
    | (go_at_call_of 194 V2; refine (T2 _ hg1).mono ?_; rintro e w' ⟨rfl, rfl⟩)
    | (go_at_call 189; refine (hp' _).mono ?_; rintro e w' ⟨rfl, rfl⟩)
    | (go_at_call_of 194 V3; refine (T3 _ hg1).mono ?_; rintro e w' ⟨rfl, rfl⟩))
    go_ret2
    exact hno _ _ rfl (by decide) hg1
  rw [if_neg (by simpa using c3)] at ho
  have d3 : decide ((val b1 : Int) = (S : Int)) = true := decide_eq_true (by omega)
  by_cases c4 : val b2 = p
  rotate_left
  · have d4 : decide ((val b2 : Int) = (p : Int)) = false := decide_eq_false (by omega)
    rw [if_pos c4] at ho
    subst ho
    go_enter Tryz.func168, Tryz.ntmps168
    go_wp2_with (first
    | (go_at_call_of 188 (Value.int .i64 240); refine (P2 _).mono ?_; rintro e w' ⟨rfl, rfl⟩)
    | (go_at_call_of 188 (Value.int .i64 256); refine (P1 _).mono ?_; rintro e w' ⟨rfl, rfl⟩)
    | (go_at_call_of 188 (Value.int .i64 248); refine (P3 _).mono ?_; rintro e w' ⟨rfl, rfl⟩)
    | (go_at_call_of 194 V1; refine (T1 _ (Chg.refl _ _)).mono ?_; rintro e w' ⟨rfl, rfl⟩)
    | (go_at_call 190; refine (sumOf_as b o 256 c l S hS (by omega) (by omega) _ hT g).mono ?_; rintro e w1 ⟨rfl, hg1⟩)
    | (go_at_call_of 194 V2; refine (T2 _ hg1).mono ?_; rintro e w' ⟨rfl, rfl⟩)
    | (go_at_call 189; refine (hp' _).mono ?_; rintro e w' ⟨rfl, rfl⟩)
    | (go_at_call_of 194 V3; refine (T3 _ hg1).mono ?_; rintro e w' ⟨rfl, rfl⟩))
    go_ret2
    exact hno _ _ rfl (by decide) hg1
  rw [if_neg (by simpa using c4)] at ho
  have d4 : decide ((val b2 : Int) = (p : Int)) = true := decide_eq_true (by omega)
  by_cases c5 : val b3 = kd
  rotate_left
  · have d5 : decide ((val b3 : Int) = (kd : Int)) = false := decide_eq_false (by omega)
    rw [if_pos c5] at ho
    subst ho
    go_enter Tryz.func168, Tryz.ntmps168
    go_wp2_with (first
    | (go_at_call_of 188 (Value.int .i64 240); refine (P2 _).mono ?_; rintro e w' ⟨rfl, rfl⟩)
    | (go_at_call_of 188 (Value.int .i64 256); refine (P1 _).mono ?_; rintro e w' ⟨rfl, rfl⟩)
    | (go_at_call_of 188 (Value.int .i64 248); refine (P3 _).mono ?_; rintro e w' ⟨rfl, rfl⟩)
    | (go_at_call_of 194 V1; refine (T1 _ (Chg.refl _ _)).mono ?_; rintro e w' ⟨rfl, rfl⟩)
    | (go_at_call 190; refine (sumOf_as b o 256 c l S hS (by omega) (by omega) _ hT g).mono ?_; rintro e w1 ⟨rfl, hg1⟩)
    | (go_at_call_of 194 V2; refine (T2 _ hg1).mono ?_; rintro e w' ⟨rfl, rfl⟩)
    | (go_at_call 189; refine (hp' _).mono ?_; rintro e w' ⟨rfl, rfl⟩)
    | (go_at_call_of 194 V3; refine (T3 _ hg1).mono ?_; rintro e w' ⟨rfl, rfl⟩))
    go_ret2
    exact hno _ _ rfl (by decide) hg1
  rw [if_neg (by simpa using c5)] at ho
  have d5 : decide ((val b3 : Int) = (kd : Int)) = true := decide_eq_true (by omega)
  subst ho
  have hmk : ∀ u : World, (Instr.makeSlice 41 (.int .i64 240) (.int .i64 240)).run Tryz.prog u = .ok (.slice (some ⟨u.heap.size, 0, none⟩) 240 240) (u.alloc (.cells (madeCells #[.int .u8 0] 240) 5)) := hmk 240 (by decide)
  have hl240 : (bts (l.take 240)).length = 240 := by rw [bts_length, List.length_take]; omega
  go_enter Tryz.func168, Tryz.ntmps168
  go_wp2_with (first
    | (go_at_call_of 188 (Value.int .i64 240); refine (P2 _).mono ?_; rintro e w' ⟨rfl, rfl⟩)
    | (go_at_call_of 188 (Value.int .i64 256); refine (P1 _).mono ?_; rintro e w' ⟨rfl, rfl⟩)
    | (go_at_call_of 188 (Value.int .i64 248); refine (P3 _).mono ?_; rintro e w' ⟨rfl, rfl⟩)
    | (go_at_call_of 194 V1; refine (T1 _ (Chg.refl _ _)).mono ?_; rintro e w' ⟨rfl, rfl⟩)
    | (go_at_call 190; refine (sumOf_as b o 256 c l S hS (by omega) (by omega) _ hT g).mono ?_; rintro e w1 ⟨rfl, hg1⟩)
    | (go_at_call_of 194 V2; refine (T2 _ hg1).mono ?_; rintro e w' ⟨rfl, rfl⟩)
    | (go_at_call 189; refine (hp' _).mono ?_; rintro e w' ⟨rfl, rfl⟩)
    | (go_at_call_of 194 V3; refine (T3 _ hg1).mono ?_; rintro e w' ⟨rfl, rfl⟩)
    | (refine wpList_copy_k rfl (.tmp 39) (.tmp 40) 41 41 5 rfl Tryz.underlying41 oneB w1.heap.size 0 240 240 (some ⟨b, o, none⟩) 256 c (bts (l.take 240)) rfl rfl (((by rw [← bts_take]; exact g.take 240 : Reads w (some ⟨b, o, none⟩) (bts (l.take 240))).keep hg1).keep (own_made 240 (by decide) w1).g) (by rw [hl240]; rfl) ((own_made 240 (by decide) w1).there 0 _ (by rw [hl240]; decide)) (bts_one _) ?_))
  have h1 := (own_made 240 (by decide) w1).put (l.take 240) 0 (by rw [bts_length] at hl240; omega) (l.take 240) (by rw [bts_length] at hl240; rw [hl240, List.take_zero, List.drop_replicate, List.nil_append]; simp) (by decide)
  generalize World.setCells (w1.alloc _) _ _ _ = w2 at h1 ⊢
  go_ret2
  exact hyes _ _ _ (by first | rfl | trivial) hg1 h1
end Go.Proofs.YtoeijomelabbfaaGreatDoor

/- The reference's Seal. -/
namespace Go.Proofs.YtoeijomelabbfaaGreatDoor
set_option maxRecDepth 200000
open Go.RowKit
set_option linter.unusedVariables false
set_option linter.unusedSimpArgs false

theorem Own.set {w0 w : World} {b n : Nat} {l : List UInt8} (h : Own w0 w b n l) (i : Nat) (hi : i < n) (x : UInt8) (v : Int) (hv : v = (x.toNat : Int)) (l' : List UInt8) (hl' : l.set i x = l') : Own w0 (w.setCell ⟨b, i, none⟩ (.int .u8 v)) b n l' := by
  subst hl' hv
  have := h.r.set i hi (.int .u8 (x.toNat : Int))
  have e : (bts l).set i (.int .u8 (x.toNat : Int)) = bts (l.set i x) := by simp [bts]
  rw [Nat.zero_add, e] at this
  exact ⟨this, h.g.trans (Chg.setCell w ⟨b, i, none⟩ _) (fun _ h _ => h) (fun k hk hlt => by simp at hk; have := (h.r.lt b (by rw [fp_some _ _ _ (by omega)]; simp)).1; omega)⟩
theorem Own.cell {w0 w : World} {b n : Nat} {l : List UInt8} (h : Own w0 w b n l) (i : Nat) (hi : i < n) : (∃ v, w.cell? ⟨b, i, none⟩ = some v) ∧ w.frozen? ⟨b, i, none⟩ = false := by
  have := h.there i 1 (by omega) 0 (by decide)
  exact ⟨Option.isSome_iff_exists.1 this.1, this.2⟩
theorem Own.at_ {w0 w : World} {b n : Nat} {l : List UInt8} (h : Own w0 w b n l) (i : Nat) (x : UInt8) (hx : l[i]? = some x) : w.cell? ⟨b, i, none⟩ = some (.int .u8 (x.toNat : Int)) := by
  have := h.r.reads.cell i (.int .u8 (x.toNat : Int)) (by simp [bts, hx])
  rwa [Nat.zero_add] at this
end Go.Proofs.YtoeijomelabbfaaGreatDoor

/- The reference's Open. -/
namespace Go.Proofs.YtoeijomelabbfaaGreatDoor
set_option maxRecDepth 200000
open Go.RowKit
set_option linter.unusedVariables false
set_option linter.unusedSimpArgs false

theorem val_be_lt (k : Nat) : ∀ N : Nat, N < 256 ^ k → val (be N k) = N := by
  induction k with
  | zero =>
    intro N h
    have : N = 0 := by simpa using h
    subst this
    rfl
  | succ k ih =>
    intro N h
    rw [be_snoc, val_snoc, ih (N / 256) (by rw [Nat.pow_succ] at h; exact Nat.div_lt_of_lt_mul (by rw [Nat.mul_comm]; exact h)), UInt8.toNat_ofNat']
    omega
theorem seal_parts (l : List UInt8) (p kd : Nat) (h : l.length ≤ 240) : ((sealB l p kd).drop 240).take 8 = be p 8 ∧ ((sealB l p kd).drop 248).take 4 = be kd 4 := by
  have e1 : (l ++ List.replicate (240 - l.length) (0 : UInt8)).length = 240 := by rw [List.length_append, List.length_replicate]; omega
  have e2 : (l ++ List.replicate (240 - l.length) (0 : UInt8) ++ be p 8).length = 248 := by rw [List.length_append, e1, be_length]
  constructor
  · unfold sealB body
    rw [List.append_assoc, List.drop_left' e1, List.append_assoc, List.take_left' (be_length p 8)]
  · unfold sealB body
    rw [← List.append_assoc, List.append_assoc _ (be kd 4), List.drop_left' e2, List.take_left' (be_length kd 4)]

end Go.Proofs.YtoeijomelabbfaaGreatDoor

/- What is sealed is opened at its place, as its kind alone; the statements' own helper. -/
namespace Go.Proofs.YtoeijomelabbfaaGreatDoor
set_option maxRecDepth 200000
open Go.RowKit
set_option linter.unusedVariables false
set_option linter.unusedSimpArgs false

theorem seal_take (l : List UInt8) (p kd : Nat) (h : l.length ≤ 240) : (sealB l p kd).take 252 = body l p kd := by
  unfold sealB; rw [List.take_left' (body_length l p kd h)]
theorem seal_drop (l : List UInt8) (p kd : Nat) (h : l.length ≤ 240) : (sealB l p kd).drop 252 = be (csum (body l p kd)).toNat 4 := by
  unfold sealB; rw [List.drop_left' (body_length l p kd h)]
theorem opens_seal (l : List UInt8) (p kd p' kd' : Nat) (h : l.length ≤ 240) (hp : p < 2 ^ 64) (hkd : kd < 2 ^ 32) :
    opens (sealB l p kd) p' kd' = if p ≠ p' then 21 else if kd ≠ kd' then 22 else 0 := by
  have hl := seal_length l p kd h
  obtain ⟨h1, h2⟩ := seal_parts l p kd h
  have hS := (csum (body l p kd)).isLt
  unfold opens
  rw [if_neg (by omega), if_neg (by omega), seal_drop l p kd h, seal_take l p kd h, h1, h2, List.take_of_length_le (by rw [be_length]; decide), val_be_lt 4 _ (by omega), val_be_lt 8 p (by omega), val_be_lt 4 kd (by omega), if_neg (by simp)]
theorem seal_head (l : List UInt8) (p kd : Nat) (h : l.length ≤ 240) : (sealB l p kd).take 240 = l ++ List.replicate (240 - l.length) 0 := by
  have e1 : (l ++ List.replicate (240 - l.length) (0 : UInt8)).length = 240 := by rw [List.length_append, List.length_replicate]; omega
  unfold sealB body
  rw [List.append_assoc, List.take_left' e1]
theorem open_no (C : Nat) (hC : C ≠ 0) (ao : Option Addr) (n c : Nat) (l : List UInt8) (k : Int) (kd p : Nat) (hp : pn k = p) (ho : opens l p kd = C) (w : World) (hT : Tab w) (g : Reads w ao (bts l)) (gn : l.length = n) (gc : n ≤ c) (gm : c ≤ maxLen) (hkd : kd < 256) :
    Calls Tryz.prog 168 #[.slice ao n c, .int .i64 k, .int .u8 kd] w fun e w' => e = .returned (.tuple #[.slice none 0 0, .int .i64 C]) ∧ Chg [] w w' := by
  subst hp ho
  refine (open_any ao n c l k kd w hT g gn gc gm hkd).mono ?_
  rintro e w2 ⟨hg2, ⟨h0, -⟩ | ⟨-, rfl⟩⟩
  · exact absurd h0 hC
  · exact ⟨rfl, hg2⟩
theorem open_yes (ao : Option Addr) (n c : Nat) (l : List UInt8) (k : Int) (kd p : Nat) (hp : pn k = p) (ho : opens l p kd = 0) (w : World) (hT : Tab w) (g : Reads w ao (bts l)) (gn : l.length = n) (gc : n ≤ c) (gm : c ≤ maxLen) (hkd : kd < 256) :
    Calls Tryz.prog 168 #[.slice ao n c, .int .i64 k, .int .u8 kd] w fun e w' => ∃ ap cp, e = .returned (.tuple #[.slice ap 240 cp, .int .i64 0]) ∧ Room w' w.heap.size ap 240 cp (bts (l.take 240)) ∧ Chg [] w w' := by
  subst hp
  refine (open_any ao n c l k kd w hT g gn gc gm hkd).mono ?_
  rintro e w2 ⟨hg2, ⟨-, ap, cp, rfl, hr⟩ | ⟨h0, rfl⟩⟩
  · exact ⟨ap, cp, rfl, hr, hg2⟩
  · exact absurd ho h0
def ab : List UInt8 := [97, 98]
end Go.Proofs.YtoeijomelabbfaaGreatDoor

/- A pool as chapter 15 has it: to lay a commit, Format, what Open finds. No walk here. -/
namespace Go.Proofs.YtoeijomelabbfaaGreatDoor
set_option maxRecDepth 200000
open Go.RowKit
set_option linter.unusedVariables false
set_option linter.unusedSimpArgs false

/-- The pages of counts. -/
def pagesL (N : List UInt8) : List (List UInt8) := (List.range (npg N.length)).map fun x => pageOf (partL N N.length x)
theorem pagesL_len (N : List UInt8) : (pagesL N).length = npg N.length := by simp [pagesL]
theorem pagesL_put (N : List UInt8) : IsPut N N.length (pagesL N) := isPut_of rfl (pagesL_len N) (fun x hx => by unfold pagesL; rw [List.getElem?_map, List.getElem?_range hx]; rfl)
theorem pagesL_240 (N : List UInt8) : ∀ p ∈ pagesL N, p.length = 240 := fun p hp => by
  obtain ⟨i, hi, rfl⟩ := List.getElem_of_mem hp
  exact ((pagesL_put N).2 i _ (List.getElem?_eq_getElem hi)).1
abbrev KS := List KE × RS
/-- Steps, gone through up to the first that fails. -/
def runA {α : Type} : List (α → Int × α) → α → Int × α
  | [], a => (0, a)
  | f :: r, a => if (f a).1 = 0 then runA r (f a).2 else f a
def pageA (m a : Nat) (p : List UInt8) (x : KS) : Int × KS := kput m x.1 x.2 (a : Int) (sealB p a 3)
def pagesA (m : Nat) : List (List UInt8) → Nat → KS → Int × KS
  | [], _, x => (0, x)
  | p :: r, a, x => if (pageA m a p x).1 = 0 then pagesA m r (a + 1) (pageA m a p x).2 else pageA m a p x
def flushA (x : KS) : Int × KS := kflush x.1 x.2
def barA (x : KS) : Int × KS := ((barrier x.2).1, x.1, (barrier x.2).2)
def supB (s : SB) : List UInt8 := s.form ++ List.replicate 192 0
def supA (m : Nat) (s : SB) (x : KS) : Int × KS := if s.may = true then kput m x.1 x.2 ((s.G % 2 : Nat) : Int) (supB s) else (1, x)
def areaN (s : SB) : Nat := 2 + s.G % 2 * npg s.B.toNat
def laySteps (m : Nat) (s : SB) (N : List UInt8) : List (KS → Int × KS) := [pagesA m (pagesL N) (areaN s), flushA, barA, supA m s, flushA, barA]
def layA (m : Nat) (s : SB) (N : List UInt8) : KS → Int × KS := runA (laySteps m s N)
def wrA (a : Nat) (x : KS) : Int × KS := ((write x.2 (a : Int) zeroB).1, x.1, (write x.2 (a : Int) zeroB).2)
def clearA : KS → Int × KS := runA [wrA 0, wrA 1]
def keptN (n : Nat) : Nat := 2 + 2 * npg n
def freshN (n : Nat) : List UInt8 := List.replicate (keptN n) 1 ++ List.replicate (n - keptN n) 0
def firstS (n : Nat) : SB := ⟨1, n, 0, 1⟩
/-- Format, of a disk of sixteen blocks or more. -/
def formatA (st : RS) : Int × RS := ((runA [clearA, barA, layA 1 (firstS st.count) (freshN st.count)] ([], st)).1, (runA [clearA, barA, layA 1 (firstS st.count) (freshN st.count)] ([], st)).2.2)
/-! ### what Open finds -/
def slotB (st : RS) (i : Nat) : List UInt8 := if i < st.count then (reads st i 4).take 64 else []
def allOpen (st : RS) (a k : Nat) : Bool := (List.range k).all fun j => decide (opens (reads st (a + j) 4) (a + j) 3 = 0)
def pagesR (st : RS) (a k : Nat) : List (List UInt8) := (List.range k).map fun j => (reads st (a + j) 4).take 240
def countsA (st : RS) (s : SB) : Option (List UInt8) :=
  if allOpen st (areaN s) (npg s.B.toNat) = true then (if (takeN (pagesR st (areaN s) (npg s.B.toNat)) s.B).1 = 0 then some (takeN (pagesR st (areaN s) (npg s.B.toNat)) s.B).2 else none) else none
def heldB (N : List UInt8) (s : SB) : Bool := (N.take (keptN s.B.toNat)).all (fun c => decide (c ≠ 0)) && (decide (s.D = 0) || decide (N.getD s.D 0 ≠ 0))
def foundA (st : RS) : Option (SB × List UInt8) :=
  if (chooseS (slotB st 0) (slotB st 1)).2.2 = 0 ∧ (chooseS (slotB st 0) (slotB st 1)).1.B = (st.count : Int) then
    (match countsA st (chooseS (slotB st 0) (slotB st 1)).1 with
    | some N => if heldB N (chooseS (slotB st 0) (slotB st 1)).1 = true then some ((chooseS (slotB st 0) (slotB st 1)).1, N) else none
    | none => none)
  else none
/-! ### sound disks -/
structure Sound (st : RS) : Prop where
  w : Whole st
  s : ∀ l ∈ st.S, l.length = 64
  l : ∀ f ∈ st.L, f.2.length = 64 ∧ f.1 < st.S.length
theorem secOf_len {b : List UInt8} (hb : b.length = 256) {k : Nat} (hk : k < 4) : (secOf b k).length = 64 := by
  unfold secOf
  rw [List.length_take, List.length_drop]
  omega
theorem Sound.write {st : RS} (h : Sound st) (z : Int) (b : List UInt8) : Sound (write st z b).2 ∧ (write st z b).2.count = st.count := by
  have hb : ∀ v : Nat, ∀ g : Bool, Sound { st with left := v, gone := g } := fun v g => ⟨h.w, h.s, h.l⟩
  have hq : Sound (burn st).2 ∧ (burn st).2.count = st.count ∧ (burn st).2.S = st.S ∧ (burn st).2.L = st.L := by
    unfold burn
    split
    · exact ⟨h, rfl, rfl, rfl⟩
    · split
      · exact ⟨hb _ _, rfl, rfl, rfl⟩
      · exact ⟨⟨h.w, h.s, h.l⟩, rfl, rfl, rfl⟩
  unfold Go.Proofs.YtoeijomelabbfaaGreatDoor.write
  split
  · exact ⟨h, rfl⟩
  · rename_i hw
    split
    · exact ⟨h, rfl⟩
    · rename_i hl
      split
      · exact ⟨hq.1, hq.2.1⟩
      · refine ⟨⟨hq.1.w, hq.1.s, fun f hf => ?_⟩, hq.2.1⟩
        rcases List.mem_append.1 hf with hf | hf
        · exact hq.1.l f hf
        · simp only [flies, List.mem_map, List.mem_range] at hf
          obtain ⟨k, hk, rfl⟩ := hf
          have hat : 0 ≤ z ∧ z < st.count := by
            unfold whyN at hw
            by_cases h1 : st.gone = true
            · simp [h1] at hw
            · by_cases h2 : z < 0 ∨ (st.count : Int) ≤ z
              · simp [h1, h2] at hw
              · omega
          refine ⟨secOf_len (by omega) hk, ?_⟩
          have h3 : (burn st).2.S.length = 4 * st.count := by rw [hq.2.2.1]; exact h.w.1
          show 4 * z.toNat + k < (burn st).2.S.length
          omega
theorem Sound.barrier {st : RS} (h : Sound st) : Sound (barrier st).2 ∧ (barrier st).2.count = st.count := by
  have hb : Sound (burn st).2 ∧ (burn st).2.count = st.count := by
    unfold burn
    split
    · exact ⟨h, rfl⟩
    · split
      · exact ⟨⟨h.w, h.s, h.l⟩, rfl⟩
      · exact ⟨⟨h.w, h.s, h.l⟩, rfl⟩
  unfold Go.Proofs.YtoeijomelabbfaaGreatDoor.barrier
  split
  · exact ⟨h, rfl⟩
  · split
    · exact hb
    · have hm : ∀ (L : List (Nat × List UInt8)) (S : List (List UInt8)), (∀ l ∈ S, l.length = 64) → (∀ f ∈ L, f.2.length = 64 ∧ f.1 < S.length) → ∀ l ∈ settle S L, l.length = 64 := by
        intro L
        induction L with
        | nil => intro S hS _ l hl; exact hS l hl
        | cons f L ih =>
          intro S hS hL l hl
          have hf := hL f (by simp)
          refine ih (laid S f.1 f.2 64) (laid_mem hS hf.2 hf.1 (by decide)) (fun x hx => by rw [laid_len]; exact hL x (by simp [hx])) l ?_
          exact hl
      refine ⟨⟨⟨?_, hb.1.w.2⟩, hm _ _ hb.1.s hb.1.l, by simp⟩, hb.2⟩
      show (settle (burn st).2.S (burn st).2.L).length = 4 * (burn st).2.count
      rw [settle_len]
      exact hb.1.w.1
theorem Sound.kroom {st : RS} (h : Sound st) (m : Nat) (K : List KE) : Sound (kroom m K st).2.2 ∧ (kroom m K st).2.2.count = st.count := by
  have hk : ∀ x : KE, Sound (kwrote x st).2 ∧ (kwrote x st).2.count = st.count := fun x => by
    unfold kwrote
    split
    · exact h.write _ _
    · exact ⟨h, rfl⟩
  unfold Go.Proofs.YtoeijomelabbfaaGreatDoor.kroom
  split
  · exact ⟨h, rfl⟩
  · split
    · exact ⟨h, rfl⟩
    · split
      · exact hk _
      · exact hk _
theorem Sound.kput {st : RS} (h : Sound st) (m : Nat) (K : List KE) (z : Int) (b : List UInt8) : Sound (kput m K st z b).2.2 ∧ (kput m K st z b).2.2.count = st.count := by
  unfold Go.Proofs.YtoeijomelabbfaaGreatDoor.kput
  split
  · exact ⟨h, rfl⟩
  · split
    · exact ⟨h, rfl⟩
    · split
      · exact ⟨h, rfl⟩
      · split
        · exact h.kroom m K
        · exact h.kroom m K
theorem Sound.kflushL : ∀ (r K : List KE) (st : RS), Sound st → Sound (kflushL r K st).2.2 ∧ (kflushL r K st).2.2.count = st.count := by
  intro r
  induction r with
  | nil => intro K st h; exact ⟨h, rfl⟩
  | cons x r ih =>
    intro K st h
    have hw := h.write x.pl x.bs
    unfold Go.Proofs.YtoeijomelabbfaaGreatDoor.kflushL
    split
    · have := ih (kclean K x.pl) _ hw.1
      exact ⟨this.1, this.2.trans hw.2⟩
    · exact hw
theorem Sound.kflush {st : RS} (h : Sound st) (K : List KE) : Sound (kflush K st).2.2 ∧ (kflush K st).2.2.count = st.count := by
  unfold Go.Proofs.YtoeijomelabbfaaGreatDoor.kflush
  split
  · exact ⟨h, rfl⟩
  · exact Sound.kflushL _ _ _ h
end Go.Proofs.YtoeijomelabbfaaGreatDoor

/- The places of a space in memory: a line (the heap) and the spots; the calls that only read; Swap. -/
namespace Go.Proofs.YtoeijomelabbfaaGreatDoor
set_option maxRecDepth 200000
open Go.RowKit
set_option linter.unusedVariables false
set_option linter.unusedSimpArgs false
attribute [local go_sem ↓] Go.wp_at_zero Go.wp_at_succ

theorem eltNF : Elt Tryz.prog 81 3 8 := Elt.mk (z := .int .i64 0) Tryz.underlying81 (by kernel_rfl) (by kernel_rfl)
theorem meth_ptrF (name : String) (f : Nat) (sig : TypeId) (p : Addr) (w : World)
    (hi : (Tryz.prog.info? 185).map (fun i => i.methods.find? (·.name == name)) = some (some ⟨name, sig, #[], some (f, true)⟩)) :
    (method 390 185 (.pointer (some p)) name).run Tryz.prog w = .ok (f, .pointer (some p)) w := by
  obtain ⟨i, h1, h2⟩ := Option.map_eq_some_iff.1 hi
  have hu : Tryz.prog.underlying 185 = some (.pointer 189) := Tryz.underlying185
  unfold method
  simp [typeInfo, h1, h2, follow, receiverAt, hu, run_underlying hu, Place.get]
section
variable (w : World) (p : Addr)
theorem meth_lenF : (method 390 185 (.pointer (some p)) "Len").run Tryz.prog w = .ok (140, .pointer (some p)) w :=
  meth_ptrF "Len" _ 71 p w (by kernel_rfl)
theorem meth_lessF : (method 390 185 (.pointer (some p)) "Less").run Tryz.prog w = .ok (250, .pointer (some p)) w :=
  meth_ptrF "Less" _ 245 p w (by kernel_rfl)
theorem meth_swapF : (method 390 185 (.pointer (some p)) "Swap").run Tryz.prog w = .ok (253, .pointer (some p)) w :=
  meth_ptrF "Swap" _ 243 p w (by kernel_rfl)
theorem meth_pushF : (method 390 185 (.pointer (some p)) "Push").run Tryz.prog w = .ok (252, .pointer (some p)) w :=
  meth_ptrF "Push" _ 218 p w (by kernel_rfl)
theorem meth_popF : (method 390 185 (.pointer (some p)) "Pop").run Tryz.prog w = .ok (251, .pointer (some p)) w :=
  meth_ptrF "Pop" _ 244 p w (by kernel_rfl)
end

/-- Numbers as cells. -/
def ivs (L : List Nat) : List Value := L.map fun x : Nat => Value.int .i64 (x : Int)
def zvs (S : List Int) : List Value := S.map (Value.int .i64)
theorem ivs_len (L : List Nat) : (ivs L).length = L.length := by simp [ivs]
theorem zvs_len (S : List Int) : (zvs S).length = S.length := by simp [zvs]
theorem ivs_get {L : List Nat} {k : Nat} (h : k < L.length) : (ivs L)[k]? = some (.int .i64 (L[k] : Int)) := by simp [ivs, h]
theorem zvs_get {S : List Int} {k : Nat} {z : Int} (h : S[k]? = some z) : (zvs S)[k]? = some (.int .i64 z) := by simp [zvs, h]
theorem ivs_set (L : List Nat) (k x : Nat) : (ivs L).set k (.int .i64 (x : Int)) = ivs (L.set k x) := by simp [ivs]
theorem zvs_set (S : List Int) (k : Nat) (z : Int) : (zvs S).set k (.int .i64 z) = zvs (S.set k z) := by simp [zvs]
/-- The spots: of each place of the line where it stands, of all others -1. -/
structure SpotsOk (n : Nat) (L : List Nat) (S : List Int) : Prop where
  len : S.length = n
  at_ : ∀ k (h : k < L.length), S[L[k]]? = some (k : Int)
  no : ∀ x, x < n → x ∉ L → S[x]? = some (-1)
theorem SpotsOk.lt {n : Nat} {L : List Nat} {S : List Int} (h : SpotsOk n L S) : ∀ x ∈ L, x < n := by
  intro x hx
  obtain ⟨k, hk, rfl⟩ := List.getElem_of_mem hx
  have := (List.getElem?_eq_some_iff.1 (h.at_ k hk)).1
  have := h.len
  omega
theorem SpotsOk.inj {n : Nat} {L : List Nat} {S : List Int} (h : SpotsOk n L S) {i j : Nat} (hi : i < L.length) (hj : j < L.length) : i = j ↔ L[i] = L[j] := by
  constructor
  · rintro rfl; rfl
  · intro e
    have h1 := h.at_ i hi
    have h2 := h.at_ j hj
    rw [e, h2] at h1
    simp at h1
    omega
theorem SpotsOk.nodup {n : Nat} {L : List Nat} {S : List Int} (h : SpotsOk n L S) : L.Nodup := by
  rw [List.Nodup, List.pairwise_iff_getElem]
  intro i j hi hj hij e
  have := (h.inj hi hj).2 e
  omega
/-- Two of a list change their spots. -/
def swpF (E : List Nat) (i j : Nat) (hi : i < E.length) (hj : j < E.length) : List Nat := (E.set i E[j]).set j E[i]
theorem swp_lenF (E : List Nat) (i j : Nat) (hi : i < E.length) (hj : j < E.length) : (swpF E i j hi hj).length = E.length := by simp [swpF]
theorem swp_getF (E : List Nat) (i j : Nat) (hi : i < E.length) (hj : j < E.length) (k : Nat) (hk : k < (swpF E i j hi hj).length) : (swpF E i j hi hj)[k] = if k = j then E[i] else if k = i then E[j] else E[k]'(by simpa [swpF] using hk) := by
  simp only [swpF, List.getElem_set, eq_comm (a := k)]
theorem swp_permF (E : List Nat) (i j : Nat) (hi : i < E.length) (hj : j < E.length) : (swpF E i j hi hj).Perm E := by
  exact List.set_set_perm hi hj
theorem SpotsOk.swap {n : Nat} {L : List Nat} {S : List Int} (h : SpotsOk n L S) {i j : Nat} (hi : i < L.length) (hj : j < L.length) : SpotsOk n (swpF L i j hi hj) ((S.set L[j] (i : Int)).set L[i] (j : Int)) := by
  have l1 := h.lt _ (List.getElem_mem hi)
  have l2 := h.lt _ (List.getElem_mem hj)
  have hl := h.len
  have hp := swp_permF L i j hi hj
  refine ⟨by simp [hl], fun k hk => ?_, fun x hx hn => ?_⟩
  · have hk' : k < L.length := by rw [swp_lenF] at hk; exact hk
    rw [swp_getF]
    by_cases a : k = j
    · subst a
      rw [if_pos rfl, List.getElem?_set_self (by simp; omega)]
    · rw [if_neg a]
      by_cases b : k = i
      · subst b
        rw [if_pos rfl]
        by_cases c : L[k] = L[j]
        · exact absurd ((h.inj hk' hj).2 c) a
        · rw [List.getElem?_set_ne c, List.getElem?_set_self (by omega)]
      · rw [if_neg b, List.getElem?_set_ne (fun e => b ((h.inj hi hk').2 e).symm), List.getElem?_set_ne (fun e => a ((h.inj hj hk').2 e).symm)]
        exact h.at_ k hk'
  · have hx1 : x ∉ L := fun hm => hn (hp.mem_iff.2 hm)
    rw [List.getElem?_set_ne (by rintro rfl; exact hx1 (List.getElem_mem hi)), List.getElem?_set_ne (by rintro rfl; exact hx1 (List.getElem_mem hj))]
    exact h.no x hx hx1

/-- The places in block pb: L is the line, in the heap's order. -/
structure PlAt (w : World) (B pb : Nat) (la : Option Addr) (cl : Nat) (sa : Option Addr) (cs n : Nat) (L : List Nat) : Prop where
  c0 : w.cell? ⟨pb, 0, none⟩ = some (.slice la L.length cl)
  f0 : w.frozen? ⟨pb, 0, none⟩ = false
  c1 : w.cell? ⟨pb, 1, none⟩ = some (.slice sa n cs)
  r : Room w B la L.length cl (ivs L)
  s : ∃ S, Room w B sa n cs (zvs S) ∧ SpotsOk n L S
  nn : n ≤ 1024
  pB : B ≤ pb
  d1 : pb ∉ fp la cl
  d2 : pb ∉ fp sa cs
  d3 : ∀ k, k ∈ fp la cl → k ∉ fp sa cs
theorem PlAt.nd {w : World} {B pb : Nat} {la : Option Addr} {cl : Nat} {sa : Option Addr} {cs n : Nat} {L : List Nat} (h : PlAt w B pb la cl sa cs n L) : L.Nodup := by
  obtain ⟨S, _, h⟩ := h.s
  exact h.nodup
theorem PlAt.lt' {w : World} {B pb : Nat} {la : Option Addr} {cl : Nat} {sa : Option Addr} {cs n : Nat} {L : List Nat} (h : PlAt w B pb la cl sa cs n L) : ∀ x ∈ L, x < n := by
  obtain ⟨S, _, h⟩ := h.s
  exact h.lt
theorem nodup_sub : ∀ {L M : List Nat}, L.Nodup → (∀ x ∈ L, x ∈ M) → L.length ≤ M.length
  | [], M, _, _ => by simp
  | x :: L, M, h, hs => by
    have hx := hs x (by simp)
    have h1 := List.nodup_cons.1 h
    have h2 := nodup_sub (L := L) (M := M.erase x) h1.2 (fun y hy => (List.mem_erase_of_ne (by rintro rfl; exact h1.1 hy)).2 (hs y (by simp [hy])))
    rw [List.length_erase_of_mem hx] at h2
    have : 0 < M.length := List.length_pos_of_mem hx
    simp
    omega
theorem nodup_le {n : Nat} {L : List Nat} (h : L.Nodup) (hl : ∀ x ∈ L, x < n) : L.length ≤ n := by
  have := nodup_sub h (M := List.range n) (fun x hx => List.mem_range.2 (hl x hx))
  simpa using this
theorem PlAt.le {w : World} {B pb : Nat} {la : Option Addr} {cl : Nat} {sa : Option Addr} {cs n : Nat} {L : List Nat} (h : PlAt w B pb la cl sa cs n L) : L.length ≤ n := nodup_le h.nd h.lt'
/-- The blocks of places. -/
def PF (pb : Nat) (la : Option Addr) (cl : Nat) (sa : Option Addr) (cs : Nat) : List Nat := pb :: (fp la cl ++ fp sa cs)
theorem PlAt.lt {w : World} {B pb : Nat} {la : Option Addr} {cl : Nat} {sa : Option Addr} {cs n : Nat} {L : List Nat} (h : PlAt w B pb la cl sa cs n L) : ∀ k, k ∈ PF pb la cl sa cs → B ≤ k ∧ k < w.heap.size := by
  intro k hk
  simp only [PF, List.mem_cons, List.mem_append] at hk
  obtain ⟨S, hS, _⟩ := h.s
  rcases hk with rfl | hk | hk
  · exact ⟨h.pB, block_lt_of_cell h.c0⟩
  · exact h.r.lt k hk
  · exact hS.lt k hk
theorem PlAt.chg {w w' : World} {B pb : Nat} {la : Option Addr} {cl : Nat} {sa : Option Addr} {cs n : Nat} {L : List Nat} {S : List Nat} (h : PlAt w B pb la cl sa cs n L) (c : Chg S w w') (hn : ∀ k, k ∈ PF pb la cl sa cs → k ∉ S) : PlAt w' B pb la cl sa cs n L := by
  have hp := hn pb (by simp [PF])
  obtain ⟨Z, hS, hok⟩ := h.s
  exact ⟨c.cellv h.c0 hp, (c.frozen (p := ⟨pb, 0, none⟩) (show pb < w.heap.size from block_lt_of_cell h.c0) hp).trans h.f0, c.cellv h.c1 hp,
    h.r.chg c (fun k hk => hn k (by simp [PF, hk])), ⟨Z, hS.chg c (fun k hk => hn k (by simp [PF, hk])), hok⟩, h.nn, h.pB, h.d1, h.d2, h.d3⟩
theorem PlAt.keep {w w' : World} {B pb : Nat} {la : Option Addr} {cl : Nat} {sa : Option Addr} {cs n : Nat} {L : List Nat} (h : PlAt w B pb la cl sa cs n L) (c : Chg [] w w') : PlAt w' B pb la cl sa cs n L := h.chg c (by simp)
section
variable (B pb : Nat) (la : Option Addr) (cl : Nat) (sa : Option Addr) (cs n : Nat) (L : List Nat) (w : World) (h : PlAt w B pb la cl sa cs n L)
include h
theorem len_anyF : Calls Tryz.prog 140 #[.pointer (some ⟨pb, 0, none⟩)] w fun e w' => e = .returned (.int .i64 L.length) ∧ w = w' := by
  have c0 := h.c0
  go_enter Tryz.func140, Tryz.ntmps140
  go_wp2
  go_ret
  exact ⟨rfl, rfl⟩
/-- Whether there is such a place. -/
theorem has_any (z : Int) : Calls Tryz.prog 195 #[.pointer (some ⟨pb, 0, none⟩), .int .i64 z] w fun e w' => e = .returned (.bool (decide (0 ≤ z ∧ z < (n : Int)))) ∧ w = w' := by
  have c1 := h.c1
  by_cases h0 : z ≥ 0
  · by_cases h1 : z < (n : Int)
    · rw [decide_eq_true (show 0 ≤ z ∧ z < (n : Int) from ⟨h0, h1⟩)]
      have d0 : decide (z ≥ 0) = true := decide_eq_true h0
      have d0' : decide (0 ≤ z) = true := decide_eq_true h0
      have d1 : decide (z < (n : Int)) = true := decide_eq_true h1
      go_enter Tryz.func195, Tryz.ntmps195
      go_wp2
      go_ret
      exact ⟨rfl, rfl⟩
    · rw [decide_eq_false (show ¬ (0 ≤ z ∧ z < (n : Int)) by omega)]
      have d0 : decide (z ≥ 0) = true := decide_eq_true h0
      have d0' : decide (0 ≤ z) = true := decide_eq_true h0
      have d1 : decide (z < (n : Int)) = false := decide_eq_false h1
      go_enter Tryz.func195, Tryz.ntmps195
      go_wp2
      go_ret
      exact ⟨rfl, rfl⟩
  · rw [decide_eq_false (show ¬ (0 ≤ z ∧ z < (n : Int)) by omega)]
    have d0 : decide (z ≥ 0) = false := decide_eq_false h0
    have d0' : decide (0 ≤ z) = false := decide_eq_false h0
    go_enter Tryz.func195, Tryz.ntmps195
    go_wp2
    go_ret
    exact ⟨rfl, rfl⟩
theorem less_anyF (i j : Nat) (hi : i < L.length) (hj : j < L.length) : Calls Tryz.prog 250 #[.pointer (some ⟨pb, 0, none⟩), .int .i64 i, .int .i64 j] w fun e w' => e = .returned (.bool (decide (L[i] < L[j]))) ∧ Chg [] w w' := by
  have c0 := h.c0
  have hle := h.le
  have hnn := h.nn
  obtain ⟨lb, lo, rfl, hc⟩ := h.r.reads (by rw [ivs_len]; omega)
  have ci := hc i _ (ivs_get hi)
  have cj := hc j _ (ivs_get hj)
  clear hc
  go_enter Tryz.func250, Tryz.ntmps250
  go_wp2
  go_quiet (fail)
  go_wp2
  go_ret
  exact ⟨by simp, Chg.drewN _ _⟩
end
/-- Whether a place is free. -/
theorem isfree_any (x : Nat) (B pb : Nat) (la : Option Addr) (cl : Nat) (sa : Option Addr) (cs n : Nat) (L : List Nat) (w : World) (h : PlAt w B pb la cl sa cs n L) (hx : x < n) : Calls Tryz.prog 196 #[.pointer (some ⟨pb, 0, none⟩), .int .i64 (x : Int)] w fun e w' => e = .returned (.bool (decide (x ∈ L))) ∧ w = w' := by
  have c1 := h.c1
  have hnn := h.nn
  obtain ⟨S, hS, hok⟩ := h.s
  have hSl := hok.len
  obtain ⟨sb, so, rfl, hc⟩ := hS.reads (by rw [zvs_len]; omega)
  by_cases hm : x ∈ L
  · rw [decide_eq_true hm]
    obtain ⟨k, hk, rfl⟩ := List.getElem_of_mem hm
    have hle := h.le
    have ci := hc _ _ (zvs_get (hok.at_ k hk))
    have hne : ((k : Int) != -1) = true := by simp
    clear hc
    generalize L[k] = x at *
    go_enter Tryz.func196, Tryz.ntmps196
    go_wp2
    go_ret
    exact ⟨by simp, rfl⟩
  · rw [decide_eq_false hm]
    have ci := hc _ _ (zvs_get (hok.no x hx hm))
    clear hc
    go_enter Tryz.func196, Tryz.ntmps196
    go_wp2
    go_ret
    exact ⟨by simp, rfl⟩
end Go.Proofs.YtoeijomelabbfaaGreatDoor
