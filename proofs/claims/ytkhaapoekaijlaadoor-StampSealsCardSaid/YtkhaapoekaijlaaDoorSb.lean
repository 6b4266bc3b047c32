/- Seal and Open of package stamp. -/
import Derived.Test.YtkhaapoekaijlaaDoorSa
import Derived.Deep.RegionHeld3
namespace Go.Proofs.YtkhaapoekaijlaaDoor
open Go.RowKit
set_option linter.unusedVariables false
set_option linter.unusedSimpArgs false

theorem bts_rep (n : Nat) : bts (List.replicate n 0) = List.replicate n (.int .u8 0) := by simp [bts]
/-- What stands ahead of a block's sum. -/
def body (l : List UInt8) (p kd : Nat) : List UInt8 := (l ++ List.replicate (240 - l.length) 0) ++ (be p 8 ++ be kd 4)
theorem body_length (l : List UInt8) (p kd : Nat) (h : l.length ≤ 240) : (body l p kd).length = 252 := by
  simp [body, be_length]; omega
def sealB (l : List UInt8) (p kd : Nat) : List UInt8 := body l p kd ++ be (csum (body l p kd)).toNat 4
theorem seal_length (l : List UInt8) (p kd : Nat) (h : l.length ≤ 240) : (sealB l p kd).length = 256 := by
  simp [sealB, be_length, body_length l p kd h]

def SealPost (w : World) (l : List UInt8) (p kd : Nat) (e : Ending) (w' : World) : Prop :=
  ∃ ao c, e = .returned (.tuple #[.slice ao 256 c, .int .i64 0]) ∧ Room w' w.heap.size ao 256 c (bts (sealB l p kd)) ∧ Chg [] w w'
theorem seal_long (ao : Option Addr) (n c : Nat) (k : Int) (kd : Nat) (w : World) (hn : 240 < n) :
    Calls Tryd.prog 8 #[.slice ao n c, .int .i64 k, .int .u8 kd] w fun e w' => e = .returned (.tuple #[.slice none 0 0, .int .i64 3]) ∧ w = w' := by
  have hd : decide ((240 : Int) < (n : Int)) = true := decide_eq_true (by omega)
  go_enter Tryd.func8, Tryd.ntmps8
  go_wp2_with fail
  go_ret2
  exact ⟨rfl, rfl⟩
/-- New memory of n bytes that holds l, its block b; nothing old has turned. -/
structure Own (w0 w : World) (b n : Nat) (l : List UInt8) : Prop where
  r : Room w w0.heap.size (some ⟨b, 0, none⟩) n n (bts l)
  g : Chg [] w0 w
theorem Own.len {w0 w : World} {b n : Nat} {l : List UInt8} (h : Own w0 w b n l) : l.length = n := by have := h.r.len; rwa [bts_length] at this
theorem Own.keep {w0 w w' : World} {b n : Nat} {l : List UInt8} (h : Own w0 w b n l) (g : Chg [] w w') : Own w0 w' b n l := ⟨h.r.chg g (by simp), h.g.then g⟩
theorem Own.there {w0 w : World} {b n : Nat} {l : List UInt8} (h : Own w0 w b n l) (i m : Nat) (hi : i + m ≤ n) : w.there b i m := by
  have := h.r.there i m hi
  rwa [Nat.zero_add] at this
theorem Own.put {w0 w : World} {b n : Nat} {l : List UInt8} (h : Own w0 w b n l) (m : List UInt8) (i : Nat) (hi : i + m.length ≤ n) (l' : List UInt8) (hl' : l.take i ++ (m ++ l.drop (i + m.length)) = l') (hn : 0 < n) : Own w0 (w.setCells b i (bts m)) b n l' := by
  subst hl'
  have := h.r.sets (bts m) i (by rw [bts_length]; exact hi)
  rw [bts_length, bts_take, bts_drop, ← bts_append, ← bts_append, Nat.zero_add] at this
  exact ⟨this, h.g.trans (Chg.setCells b (bts m) i w) (fun _ h _ => h) (fun k hk hlt => by simp at hk; have := (h.r.lt b (by rw [fp_some _ _ _ hn]; simp)).1; omega)⟩
theorem own_made (n : Nat) (hn : n ≤ 1000) (w : World) : Own w (w.alloc (.cells (madeCells #[.int .u8 0] n) 5)) w.heap.size n (List.replicate n 0) :=
  ⟨by rw [bts_rep]; exact made_room w 5 (.int .u8 0) n (by unfold maxLen; omega), Chg.alloc [] w _⟩

set_option maxHeartbeats 1000000 in
theorem seal_any (ao : Option Addr) (n c : Nat) (l : List UInt8) (k : Int) (kd : Nat) (w : World) (hT : Tab w) (g : Reads w ao (bts l)) (gn : l.length = n) (hn : n ≤ 240) (hkd : kd < 256) :
    Calls Tryd.prog 8 #[.slice ao n c, .int .i64 k, .int .u8 kd] w (SealPost w l (pn k) kd) := by
  have hmk : ∀ u : World, (Instr.makeSlice 22 (.int .i64 256) (.int .i64 256)).run Tryd.prog u = .ok (.slice (some ⟨u.heap.size, 0, none⟩) 256 256) (u.alloc (.cells (madeCells #[.int .u8 0] 256) 5)) := hmk 256 (by decide)
  have hd : decide ((240 : Int) < (n : Int)) = false := decide_eq_false (by omega)
  have hkw : IntKind.u64.wrap (kd : Int) = (kd : Int) := by rw [IntKind.wrap_u64]; omega
  go_enter Tryd.func8, Tryd.ntmps8
  have hk64 : kd < 2 ^ 64 := by omega
  have h0 := own_made 256 (by decide) w
  have hlen : l.length ≤ 240 := by omega
  go_wp2_with (first
    | (refine wpList_copy_k rfl (.tmp 13) (.tmp 14) 22 22 5 rfl Tryd.underlying22 oneB w.heap.size 0 256 256 ao n c (bts l) rfl rfl (g.keep h0.g) (by rw [bts_length, gn]; exact (Nat.min_eq_left (by omega)).symm) (h0.there 0 _ (by rw [bts_length]; omega)) (bts_one _) ?_)
    | (go_at_call 14; refine (part_any w.heap.size 0 256 256 240 8 240 248 rfl rfl (by decide) (by decide) _).mono ?_; rintro e w' ⟨rfl, rfl⟩)
    | (go_at_call 15; refine (place_any k _).mono ?_; rintro e w' ⟨rfl, rfl⟩))
  have h1 := h0.put l 0 (by omega) (l ++ List.replicate (256 - l.length) 0) (by rw [List.take_zero, List.nil_append, List.drop_replicate, Nat.zero_add]) (by decide)
  generalize World.setCells (w.alloc _) _ _ _ = w1 at h1 ⊢
  clear h0
  generalize w.heap.size = nb at h1 ⊢
  refine (lay_any nb 240 8 (pn k) (by decide) (by decide) (pn_lt k) _ (h1.there 240 8 (by decide))).mono ?_
  rintro e w2 ⟨rfl, wa, ha, rfl⟩
  have h2 := (h1.keep ha).put (be (pn k) 8) 240 (by rw [be_length]; decide) ((l ++ List.replicate (240 - l.length) 0) ++ (be (pn k) 8 ++ List.replicate 8 0)) (by
    rw [be_length, List.take_append, List.drop_append, List.take_of_length_le (show l.length ≤ 240 by omega), List.drop_eq_nil_of_le (show l.length ≤ 240 + 8 by omega), List.take_replicate, List.drop_replicate, List.nil_append, show min (240 - l.length) (256 - l.length) = 240 - l.length by omega, show 256 - l.length - (240 + 8 - l.length) = 8 by omega]) (by decide)
  generalize World.setCells wa _ _ _ = w2 at h2 ⊢
  clear h1 ha
  go_wp2_with (first
    | (go_at_call 14; refine (part_any nb 0 256 256 248 4 248 252 rfl rfl (by decide) (by decide) _).mono ?_; rintro e w' ⟨rfl, rfl⟩))
  refine (lay_any nb 248 4 kd (by decide) (by decide) hk64 _ (h2.there 248 4 (by decide))).mono ?_
  rintro e w3 ⟨rfl, wb, hb, rfl⟩
  have h3 := (h2.keep hb).put (be kd 4) 248 (by rw [be_length]; decide) (body l (pn k) kd ++ List.replicate 4 0) (by
    have e1 : (l ++ List.replicate (240 - l.length) 0).length = 240 := by simp; omega
    have e2 : ((l ++ List.replicate (240 - l.length) 0) ++ be (pn k) 8).length = 248 := by simp [be_length]; omega
    rw [be_length, ← List.append_assoc (l ++ _), List.take_append_of_le_length (by omega), List.take_of_length_le (by omega), List.drop_append, List.drop_eq_nil_of_le (by omega), e2, List.drop_replicate, List.nil_append]
    simp only [body, List.append_assoc]) (by decide)
  generalize World.setCells wb _ _ _ = w3 at h3 ⊢
  clear h2 hb
  have hbl := body_length l (pn k) kd hlen
  generalize hbd : body l (pn k) kd = bd at h3 hbl
  have hX : (csum ((bd ++ List.replicate 4 0).take 252)).toNat = (csum bd).toNat := by rw [List.take_append_of_le_length (by omega), List.take_of_length_le (by omega)]
  go_wp2_with (first
    | (go_at_call 14; refine (part_any nb 0 256 256 252 4 252 256 rfl rfl (by decide) (by decide) _).mono ?_; rintro e w' ⟨rfl, rfl⟩)
    | (go_at_call 16; refine (sumOf_as nb 0 256 256 _ _ hX (by rw [h3.len]; decide) (by rw [h3.len]; decide) _ (hT.then h3.g) h3.r.reads).mono ?_; rintro e w4 ⟨rfl, hg4⟩))
  refine (lay_any nb 252 4 (csum bd).toNat (by decide) (by decide) (by have := (csum bd).isLt; omega) _ ((h3.keep hg4).there 252 4 (by decide))).mono ?_
  rintro e w5 ⟨rfl, wc, hc, rfl⟩
  have h5 := ((h3.keep hg4).keep hc).put (be (csum bd).toNat 4) 252 (by rw [be_length]; decide) (sealB l (pn k) kd) (by
    rw [be_length, List.take_append_of_le_length (by omega), List.take_of_length_le (by omega), List.drop_eq_nil_of_le (by simp; omega), List.append_nil]
    simp [sealB, hbd]) (by decide)
  generalize World.setCells wc _ _ _ = w5 at h5 ⊢
  clear h3 hg4 hc
  go_wp2_with fail
  go_ret2
  exact ⟨_, _, rfl, h5.r, h5.g⟩

/-- Which error a block's bytes are, at a place and as a kind; 0: none. -/
def opens (b : List UInt8) (p kd : Nat) : Nat :=
  if b.length < 256 then 4 else if 256 < b.length then 3
  else if val ((b.drop 252).take 4) ≠ (csum (b.take 252)).toNat then 20
  else if val ((b.drop 240).take 8) ≠ p then 21
  else if val ((b.drop 248).take 4) ≠ kd then 22 else 0
def OpenPost (w : World) (b : List UInt8) (p kd : Nat) (e : Ending) (w' : World) : Prop :=
  Chg [] w w' ∧ ((opens b p kd = 0 ∧ ∃ ao c, e = .returned (.tuple #[.slice ao 240 c, .int .i64 0]) ∧ Room w' w.heap.size ao 240 c (bts (b.take 240))) ∨ (opens b p kd ≠ 0 ∧ e = .returned (.tuple #[.slice none 0 0, .int .i64 (opens b p kd)])))
set_option maxHeartbeats 2000000 in
theorem open_any (ao : Option Addr) (n c : Nat) (l : List UInt8) (k : Int) (kd : Nat) (w : World) (hT : Tab w) (g : Reads w ao (bts l)) (gn : l.length = n) (gc : n ≤ c) (gm : c ≤ maxLen) (hkd : kd < 256) :
    Calls Tryd.prog 11 #[.slice ao n c, .int .i64 k, .int .u8 kd] w (OpenPost w l (pn k) kd) := by
  have hkw : IntKind.u64.wrap (kd : Int) = (kd : Int) := by rw [IntKind.wrap_u64]; omega
  by_cases c1 : n < 256
  · have d1 : decide ((n : Int) < 256) = true := decide_eq_true (by omega)
    have ho : opens l (pn k) kd = 4 := by unfold opens; rw [if_pos (by omega)]
    go_enter Tryd.func11, Tryd.ntmps11
    go_wp2_with fail
    go_ret2
    exact ⟨Chg.refl _ _, Or.inr ⟨by rw [ho]; decide, by rw [ho]; rfl⟩⟩
  have d1 : decide ((n : Int) < 256) = false := decide_eq_false (by omega)
  by_cases c2 : 256 < n
  · have d2 : decide ((256 : Int) < (n : Int)) = true := decide_eq_true (by omega)
    have ho : opens l (pn k) kd = 3 := by unfold opens; rw [if_neg (by omega), if_pos (by omega)]
    go_enter Tryd.func11, Tryd.ntmps11
    go_wp2_with fail
    go_ret2
    exact ⟨Chg.refl _ _, Or.inr ⟨by rw [ho]; decide, by rw [ho]; rfl⟩⟩
  obtain rfl : n = 256 := by omega
  clear c1 c2 d1
  obtain ⟨b, o, rfl, _⟩ := g (by rw [bts_length]; omega)
  have gs : ∀ i m, Reads w (some ⟨b, o + i, none⟩) (bts ((l.drop i).take m)) := fun i m => by
    rw [← bts_take, ← bts_drop]; exact (g.drop).take m
  have gl : ∀ i m, i + m ≤ 256 → ((l.drop i).take m).length = m := fun i m h => by simp; omega
  have g1 := gs 252 4
  have g2 := gs 240 8
  have g3 := gs 248 4
  have l1 := gl 252 4 (by decide)
  have l2 := gl 240 8 (by decide)
  have l3 := gl 248 4 (by decide)
  clear gs gl
  have ho : opens l (pn k) kd = if val ((l.drop 252).take 4) ≠ (csum (l.take 252)).toNat then 20 else if val ((l.drop 240).take 8) ≠ pn k then 21 else if val ((l.drop 248).take 4) ≠ kd then 22 else 0 := by
    unfold opens; rw [if_neg (by omega), if_neg (by omega)]
  obtain ⟨O, hO⟩ : ∃ O, O = opens l (pn k) kd := ⟨_, rfl⟩
  have hno : ∀ (C : Nat) (w' : World), O = C → C ≠ 0 → Chg [] w w' → OpenPost w l (pn k) kd (.returned (.tuple #[.slice none 0 0, .int .i64 C])) w' := fun C w' h h0 hg => by
    subst h; rw [hO] at h0 ⊢; exact ⟨hg, Or.inr ⟨h0, rfl⟩⟩
  have hyes : ∀ (w1 w' : World) (b : Nat), O = 0 → Chg [] w w1 → Own w1 w' b 240 (l.take 240) → OpenPost w l (pn k) kd (.returned (.tuple #[.slice (some ⟨b, 0, none⟩) 240 240, .int .i64 0])) w' := fun w1 w' b h hg ho => by
    rw [hO] at h; exact ⟨hg.then ho.g, Or.inl ⟨h, _, _, rfl, ho.r.mono hg.size⟩⟩
  rw [← hO] at ho
  generalize hS : (csum (l.take 252)).toNat = S at *
  generalize (l.drop 252).take 4 = b1 at *
  generalize (l.drop 240).take 8 = b2 at *
  generalize (l.drop 248).take 4 = b3 at *
  generalize hp : pn k = p at *
  clear hO
  have hp' : ∀ u, Calls Tryd.prog 15 #[.int .i64 k] u fun e w' => e = .returned (.int .u64 p) ∧ u = w' := fun u => by subst hp; exact place_any k u
  clear hp
  obtain ⟨V1, hV1⟩ : ∃ V : Value, V = .slice (some ⟨b, o + 252, none⟩) 4 4 := ⟨_, rfl⟩
  have P1 : ∀ u, Calls Tryd.prog 14 #[.slice (some ⟨b, o, none⟩) 256 c, .int .i64 252, .int .i64 256] u fun e w' => e = .returned V1 ∧ u = w' := fun u => by subst hV1; exact part_any b o 256 c 252 4 252 256 rfl rfl (by decide) (by omega) u
  have T1 : ∀ u, Chg [] w u → Calls Tryd.prog 18 #[V1] u fun e w' => e = .returned (.int .u64 (val b1)) ∧ u = w' := fun u hu => by subst hV1; exact told_any b _ 4 b1 l1 (by decide) (by decide) _ (g1.keep hu)
  clear hV1
  obtain ⟨V2, hV2⟩ : ∃ V : Value, V = .slice (some ⟨b, o + 240, none⟩) 8 8 := ⟨_, rfl⟩
  have P2 : ∀ u, Calls Tryd.prog 14 #[.slice (some ⟨b, o, none⟩) 256 c, .int .i64 240, .int .i64 248] u fun e w' => e = .returned V2 ∧ u = w' := fun u => by subst hV2; exact part_any b o 256 c 240 8 240 248 rfl rfl (by decide) (by omega) u
  have T2 : ∀ u, Chg [] w u → Calls Tryd.prog 18 #[V2] u fun e w' => e = .returned (.int .u64 (val b2)) ∧ u = w' := fun u hu => by subst hV2; exact told_any b _ 8 b2 l2 (by decide) (by decide) _ (g2.keep hu)
  clear hV2
  obtain ⟨V3, hV3⟩ : ∃ V : Value, V = .slice (some ⟨b, o + 248, none⟩) 4 4 := ⟨_, rfl⟩
  have P3 : ∀ u, Calls Tryd.prog 14 #[.slice (some ⟨b, o, none⟩) 256 c, .int .i64 248, .int .i64 252] u fun e w' => e = .returned V3 ∧ u = w' := fun u => by subst hV3; exact part_any b o 256 c 248 4 248 252 rfl rfl (by decide) (by omega) u
  have T3 : ∀ u, Chg [] w u → Calls Tryd.prog 18 #[V3] u fun e w' => e = .returned (.int .u64 (val b3)) ∧ u = w' := fun u hu => by subst hV3; exact told_any b _ 4 b3 l3 (by decide) (by decide) _ (g3.keep hu)
  clear hV3
  by_cases c3 : val b1 = S
  rotate_left
  · have d3 : decide ((val b1 : Int) = (S : Int)) = false := decide_eq_false (by omega)
    rw [if_pos c3] at ho
    subst ho
    go_enter Tryd.func11, Tryd.ntmps11
    go_wp2_with (first
    | (go_at_call_of 14 (Value.int .i64 240); refine (P2 _).mono ?_; rintro e w' ⟨rfl, rfl⟩)
    | (go_at_call_of 14 (Value.int .i64 256); refine (P1 _).mono ?_; rintro e w' ⟨rfl, rfl⟩)
    | (go_at_call_of 14 (Value.int .i64 248); refine (P3 _).mono ?_; rintro e w' ⟨rfl, rfl⟩)
    | (go_at_call_of 18 V1; refine (T1 _ (Chg.refl _ _)).mono ?_; rintro e w' ⟨rfl, rfl⟩)
    | (go_at_call 16; refine (sumOf_as b o 256 c l S hS (by omega) (by omega) _ hT g).mono ?_; rintro e w1 ⟨rfl, hg1⟩)
    | (go_at_call_of 18 V2; refine (T2 _ hg1).mono ?_; rintro e w' ⟨rfl, rfl⟩)
    | (go_at_call 15; refine (hp' _).mono ?_; rintro e w' ⟨rfl, rfl⟩)
    | (go_at_call_of 18 V3; refine (T3 _ hg1).mono ?_; rintro e w' ⟨rfl, rfl⟩))
    go_ret2
    exact hno _ _ rfl (by decide) hg1
  rw [if_neg (by simpa using c3)] at ho
  have d3 : decide ((val b1 : Int) = (S : Int)) = true := decide_eq_true (by omega)
  by_cases c4 : val b2 = p
  rotate_left
  · have d4 : decide ((val b2 : Int) = (p : Int)) = false := decide_eq_false (by omega)
    rw [if_pos c4] at ho
    subst ho
    go_enter Tryd.func11, Tryd.ntmps11
    go_wp2_with (first
    | (go_at_call_of 14 (Value.int .i64 240); refine (P2 _).mono ?_; rintro e w' ⟨rfl, rfl⟩)
    | (go_at_call_of 14 (Value.int .i64 256); refine (P1 _).mono ?_; rintro e w' ⟨rfl, rfl⟩)
    | (go_at_call_of 14 (Value.int .i64 248); refine (P3 _).mono ?_; rintro e w' ⟨rfl, rfl⟩)
    | (go_at_call_of 18 V1; refine (T1 _ (Chg.refl _ _)).mono ?_; rintro e w' ⟨rfl, rfl⟩)
    | (go_at_call 16; refine (sumOf_as b o 256 c l S hS (by omega) (by omega) _ hT g).mono ?_; rintro e w1 ⟨rfl, hg1⟩)
    | (go_at_call_of 18 V2; refine (T2 _ hg1).mono ?_; rintro e w' ⟨rfl, rfl⟩)
    | (go_at_call 15; refine (hp' _).mono ?_; rintro e w' ⟨rfl, rfl⟩)
    | (go_at_call_of 18 V3; refine (T3 _ hg1).mono ?_; rintro e w' ⟨rfl, rfl⟩))
    go_ret2
    exact hno _ _ rfl (by decide) hg1
  rw [if_neg (by simpa using c4)] at ho
  have d4 : decide ((val b2 : Int) = (p : Int)) = true := decide_eq_true (by omega)
  by_cases c5 : val b3 = kd
  rotate_left
  · have d5 : decide ((val b3 : Int) = (kd : Int)) = false := decide_eq_false (by omega)
    rw [if_pos c5] at ho
    subst ho
    go_enter Tryd.func11, Tryd.ntmps11
    go_wp2_with (first
    | (go_at_call_of 14 (Value.int .i64 240); refine (P2 _).mono ?_; rintro e w' ⟨rfl, rfl⟩)
    | (go_at_call_of 14 (Value.int .i64 256); refine (P1 _).mono ?_; rintro e w' ⟨rfl, rfl⟩)
    | (go_at_call_of 14 (Value.int .i64 248); refine (P3 _).mono ?_; rintro e w' ⟨rfl, rfl⟩)
    | (go_at_call_of 18 V1; refine (T1 _ (Chg.refl _ _)).mono ?_; rintro e w' ⟨rfl, rfl⟩)
    | (go_at_call 16; refine (sumOf_as b o 256 c l S hS (by omega) (by omega) _ hT g).mono ?_; rintro e w1 ⟨rfl, hg1⟩)
    | (go_at_call_of 18 V2; refine (T2 _ hg1).mono ?_; rintro e w' ⟨rfl, rfl⟩)
    | (go_at_call 15; refine (hp' _).mono ?_; rintro e w' ⟨rfl, rfl⟩)
    | (go_at_call_of 18 V3; refine (T3 _ hg1).mono ?_; rintro e w' ⟨rfl, rfl⟩))
    go_ret2
    exact hno _ _ rfl (by decide) hg1
  rw [if_neg (by simpa using c5)] at ho
  have d5 : decide ((val b3 : Int) = (kd : Int)) = true := decide_eq_true (by omega)
  subst ho
  have hmk : ∀ u : World, (Instr.makeSlice 22 (.int .i64 240) (.int .i64 240)).run Tryd.prog u = .ok (.slice (some ⟨u.heap.size, 0, none⟩) 240 240) (u.alloc (.cells (madeCells #[.int .u8 0] 240) 5)) := hmk 240 (by decide)
  have hl240 : (bts (l.take 240)).length = 240 := by rw [bts_length, List.length_take]; omega
  go_enter Tryd.func11, Tryd.ntmps11
  go_wp2_with (first
    | (go_at_call_of 14 (Value.int .i64 240); refine (P2 _).mono ?_; rintro e w' ⟨rfl, rfl⟩)
    | (go_at_call_of 14 (Value.int .i64 256); refine (P1 _).mono ?_; rintro e w' ⟨rfl, rfl⟩)
    | (go_at_call_of 14 (Value.int .i64 248); refine (P3 _).mono ?_; rintro e w' ⟨rfl, rfl⟩)
    | (go_at_call_of 18 V1; refine (T1 _ (Chg.refl _ _)).mono ?_; rintro e w' ⟨rfl, rfl⟩)
    | (go_at_call 16; refine (sumOf_as b o 256 c l S hS (by omega) (by omega) _ hT g).mono ?_; rintro e w1 ⟨rfl, hg1⟩)
    | (go_at_call_of 18 V2; refine (T2 _ hg1).mono ?_; rintro e w' ⟨rfl, rfl⟩)
    | (go_at_call 15; refine (hp' _).mono ?_; rintro e w' ⟨rfl, rfl⟩)
    | (go_at_call_of 18 V3; refine (T3 _ hg1).mono ?_; rintro e w' ⟨rfl, rfl⟩)
    | (refine wpList_copy_k rfl (.tmp 39) (.tmp 40) 22 22 5 rfl Tryd.underlying22 oneB w1.heap.size 0 240 240 (some ⟨b, o, none⟩) 256 c (bts (l.take 240)) rfl rfl (((by rw [← bts_take]; exact g.take 240 : Reads w (some ⟨b, o, none⟩) (bts (l.take 240))).keep hg1).keep (own_made 240 (by decide) w1).g) (by rw [hl240]; rfl) ((own_made 240 (by decide) w1).there 0 _ (by rw [hl240]; decide)) (bts_one _) ?_))
  have h1 := (own_made 240 (by decide) w1).put (l.take 240) 0 (by rw [bts_length] at hl240; omega) (l.take 240) (by rw [bts_length] at hl240; rw [hl240, List.take_zero, List.drop_replicate, List.nil_append]; simp) (by decide)
  generalize World.setCells (w1.alloc _) _ _ _ = w2 at h1 ⊢
  go_ret2
  exact hyes _ _ _ (by first | rfl | trivial) hg1 h1
end Go.Proofs.YtkhaapoekaijlaaDoor
