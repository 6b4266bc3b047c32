/- SuperKnown. -/
import Derived.Test.YthbnakahcchbnaaZm
namespace Go.Proofs.Ythbnakahcchbnaa
open Go.RowKit
set_option linter.unusedVariables false
set_option linter.unusedSimpArgs false
attribute [local go_sem ↓] Go.wp_at_zero Go.wp_at_succ

theorem kn_c : takeS (s1.form.set 63 3) = (23, SB.none) := by decide +kernel
theorem kn_d : takeS (s1.form.set 40 1) = (23, SB.none) := by decide +kernel
theorem kn_e : takeS (s1.form.take 63) = (4, SB.none) := by decide +kernel
theorem kn_f : takeS (s1.form ++ [0]) = (3, SB.none) := by decide +kernel
theorem kn_len : (s1.form.set 63 3).length = 64 ∧ (s1.form.set 40 1).length = 64 ∧ (s1.form.take 63).length = 63 ∧ (s1.form ++ [0]).length = 65 := by decide +kernel
def kn7 : List SB := [⟨0, 16, 0, 1⟩, ⟨4611686018427387904, 16, 0, 1⟩, ⟨1, 15, 0, 1⟩, ⟨1, 1025, 0, 1⟩, ⟨1, 16, 16, 1⟩, ⟨1, 16, 0, 0⟩, ⟨1, 16, 0, 4611686018427387904⟩]
theorem kn7_no : ∀ s ∈ kn7, s.may = false ∧ s.Fits := by
  intro s hs
  simp only [kn7, List.mem_cons, List.not_mem_nil, or_false] at hs
  rcases hs with rfl | rfl | rfl | rfl | rfl | rfl | rfl <;> exact ⟨by decide +kernel, by decide, by decide, by decide, by decide, by decide⟩
theorem kn_row : ∃ O : Obj, O = .cells #[.int .u64 0, .int .i64 16, .int .u64 0, .int .u64 1, .int .u64 4611686018427387904, .int .i64 16, .int .u64 0, .int .u64 1, .int .u64 1, .int .i64 15, .int .u64 0, .int .u64 1, .int .u64 1, .int .i64 1025, .int .u64 0, .int .u64 1, .int .u64 1, .int .i64 16, .int .u64 16, .int .u64 1, .int .u64 1, .int .i64 16, .int .u64 0, .int .u64 0, .int .u64 1, .int .i64 16, .int .u64 0, .int .u64 4611686018427387904] 24 ∧ ∀ u : World, ∀ k, k < 7 → ∃ s : SB, s.may = false ∧ s.Fits ∧ (u.alloc O).cell? ⟨u.heap.size, k * 4, none⟩ = some (.int .u64 s.G) ∧ (u.alloc O).cell? ⟨u.heap.size, k * 4 + 1, none⟩ = some (.int .i64 s.B) ∧ (u.alloc O).cell? ⟨u.heap.size, k * 4 + 2, none⟩ = some (.int .u64 s.D) ∧ (u.alloc O).cell? ⟨u.heap.size, k * 4 + 3, none⟩ = some (.int .u64 s.X) := by
  refine ⟨_, rfl, fun u k hk => ?_⟩
  have hl := heap_alloc_last u (.cells #[.int .u64 0, .int .i64 16, .int .u64 0, .int .u64 1, .int .u64 4611686018427387904, .int .i64 16, .int .u64 0, .int .u64 1, .int .u64 1, .int .i64 15, .int .u64 0, .int .u64 1, .int .u64 1, .int .i64 1025, .int .u64 0, .int .u64 1, .int .u64 1, .int .i64 16, .int .u64 16, .int .u64 1, .int .u64 1, .int .i64 16, .int .u64 0, .int .u64 0, .int .u64 1, .int .i64 16, .int .u64 0, .int .u64 4611686018427387904] 24)
  have hc := fun j => cell_of_row _ u.heap.size j _ _ _ hl
  obtain ⟨s, hs⟩ : ∃ s, kn7[k]? = some s := ⟨_, List.getElem?_eq_getElem (by simpa [kn7] using hk)⟩
  obtain ⟨h1, h2⟩ := kn7_no s (List.mem_of_getElem? hs)
  refine ⟨s, h1, h2, ?_⟩
  have : k = 0 ∨ k = 1 ∨ k = 2 ∨ k = 3 ∨ k = 4 ∨ k = 5 ∨ k = 6 := by omega
  rcases this with rfl | rfl | rfl | rfl | rfl | rfl | rfl <;> cases hs <;> exact ⟨by rw [hc]; rfl, by rw [hc]; rfl, by rw [hc]; rfl, by rw [hc]; rfl⟩
theorem kn_yes : SB.may ⟨4611686018427387903, 1024, 1023, 4611686018427387903⟩ = true := by decide +kernel
theorem Room.put {w : World} {B b o n c : Nat} {l : List UInt8} (h : Room w B (some ⟨b, o, none⟩) n c (bts l)) (i : Nat) (hi : i < n) (x : UInt8) (v : Int) (hv : v = (x.toNat : Int)) : Room (w.setCell ⟨b, o + i, none⟩ (.int .u8 v)) B (some ⟨b, o, none⟩) n c (bts (l.set i x)) := by
  subst hv
  have := h.set i hi (.int .u8 (x.toNat : Int))
  have e : (bts l).set i (.int .u8 (x.toNat : Int)) = bts (l.set i x) := by simp [bts]
  rwa [e] at this
set_option maxRecDepth 20000 in
set_option maxHeartbeats 4000000 in
theorem known_any (U : Sup) (w : World) : Calls Try.prog 8 #[] w fun e w' => e = .returned (.bool true) ∧ Chg [] w w' := by
  have kc := kn_c
  have kd := kn_d
  have ke := kn_e
  have kf := kn_f
  obtain ⟨k1, k2, k3, k4⟩ := kn_len
  have hl := SB.form_length s1
  generalize hF : s1.form = F at *
  unfold s1 at hF
  have HF := mkHid hF
  have HK := mkHid (And.intro kc (And.intro kd (And.intro ke (And.intro kf (And.intro k1 (And.intro k2 (And.intro k3 k4)))))))
  have HL := mkHid hl
  clear hF kc kd ke kf k1 k2 k3 k4 hl
  go_enter Try.func8, Try.ntmps8
  go_wp2_with fail
  refine (U.put ⟨1, 16, 0, 1⟩ w (SB.fits_of_may s1_may)).mono ?_
  rintro e w2 ⟨g2, ⟨-, b, o, c, rfl, hr⟩ | ⟨hm, -⟩⟩
  case inr => exact absurd (hm.symm.trans s1_may) (by simp)
  rw [HF.out] at hr
  have hlb : (bts F).length = 64 := by rw [bts_length]; exact HL.out
  have HLB := mkHid hlb
  have gN := Chg.alloc [] w2 (.cells #[] 5)
  have rN := hr.reads.keep gN
  have H2 := mkHid hr
  have hz2 : w2.heap.size ≤ (w2.alloc (.cells #[] 5)).heap.size := gN.size
  clear hr hlb
  go_wp2_with (first
    | (at_builtin; refine wpList_append_k _ rfl (.tmp 20) (.tmp 21) 25 rfl 5 1 eltB w2.heap.size _ 0 0 [] rfl (Room.nil _ _ _) hz2 (some ⟨b, o, none⟩) 64 c (bts F) rfl rN HLB.out (bts_one _) (by decide) (by decide) ?_; intro a3 c3 w3 r3 g3 f3; simp only [Nat.zero_add, List.nil_append] at r3; have q3 : Chg [] w2 w3 := gN.then g3; have gM := Chg.alloc [] w3 (.cells #[] 5); have rM := (H2.out.reads.keep q3).keep gM; have H3 := mkHid r3; have HQ := mkHid q3; clear r3 g3 f3 q3)
    | (at_builtin; refine wpList_append_k _ rfl (.tmp 23) (.tmp 24) 25 rfl 5 1 eltB w3.heap.size _ 0 0 [] rfl (Room.nil _ _ _) gM.size (some ⟨b, o, none⟩) 64 c (bts F) rfl rM HLB.out (bts_one _) (by decide) (by decide) ?_; intro a4 c4 w4 r4 g4 f4; simp only [Nat.zero_add, List.nil_append] at r4; have q4 : Chg [] w3 w4 := gM.then g4; clear g4 f4))
  refine (awake_any U w4).mono ?_
  rintro e w5 ⟨rfl, g5⟩
  have G5 : Chg [] w w5 := ((g2.then HQ.out).then q4).then g5
  have hb := (H2.out.chg ((HQ.out.then q4).then g5) (by simp))
  have h3 := H3.out.chg (q4.then g5) (by simp)
  have h4 := r4.chg g5 (by simp)
  obtain ⟨b3, o3, rfl, n3, s3, -⟩ := h3.at_ (by have := h3.le; omega)
  obtain ⟨b4, o4, rfl, n4, s4, -⟩ := h4.at_ (by have := h4.le; omega)
  have lb : b < w2.heap.size := (H2.out.lt b (by rw [fp_some _ _ _ (by have := H2.out.le; omega)]; simp)).2
  have lb3 : b3 < w3.heap.size := (H3.out.lt b3 (by rw [fp_some _ _ _ (by have := h3.le; omega)]; simp)).2
  have ww : w.heap.size ≤ w2.heap.size := g2.size
  obtain ⟨v3, x3⟩ := Option.isSome_iff_exists.1 (s3 63 (by have := h3.le; omega)).1
  have z3 := (s3 63 (by have := h3.le; omega)).2
  have p3 := Room.put h3 63 (by decide) 3 3 rfl
  have e3 := Chg.setCell w5 ⟨b3, o3 + 63, none⟩ (.int .u8 3)
  have h4' := h4.chg e3 (fun k hk => by rw [fp_some _ _ _ (by have := h4.le; omega)] at hk; simp at hk ⊢; omega)
  obtain ⟨b4', o4', e4', -, s4', -⟩ := h4'.at_ (by have := h4'.le; omega)
  cases e4'
  obtain ⟨v4, x4⟩ := Option.isSome_iff_exists.1 (s4' 40 (by have := h4'.le; omega)).1
  have z4 := (s4' 40 (by have := h4'.le; omega)).2
  have p4 := Room.put h4' 40 (by decide) 1 1 rfl
  have e4 := Chg.setCell (w5.setCell ⟨b3, o3 + 63, none⟩ (.int .u8 3)) ⟨b4, o4 + 40, none⟩ (.int .u8 1)
  have p3' := p3.chg e4 (fun k hk => by rw [fp_some _ _ _ (by have := h3.le; omega)] at hk; simp at hk ⊢; omega)
  have hb' := (hb.chg e3 (fun k hk => by rw [fp_some _ _ _ (by have := hb.le; omega)] at hk; simp at hk ⊢; omega)).chg e4 (fun k hk => by rw [fp_some _ _ _ (by have := hb.le; omega)] at hk; simp at hk ⊢; omega)
  have G6 : Chg [] w ((w5.setCell ⟨b3, o3 + 63, none⟩ (.int .u8 3)).setCell ⟨b4, o4 + 40, none⟩ (.int .u8 1)) := (G5.trans e3 (fun _ h _ => h) (fun k hk hlt => by simp at hk; omega)).trans e4 (fun _ h _ => h) (fun k hk hlt => by simp at hk; omega)
  have HB := mkHid (And.intro p3' (And.intro p4 (And.intro hb' G6)))
  clear p3' p4 hb' G6 e4 e3 h4' p3 h3 h4 hb G5 s3 s4 s4' n3 n4 lb lb3 ww q4 g5 r4 H3 HQ g2 H2 gN rN hz2 gM rM HF HLB
  go_wp2_with fail
  obtain ⟨p3, p4, hb, G6⟩ := HB.out
  generalize World.setCell (World.setCell w5 _ _) _ _ = w6 at *
  clear x3 z3 x4 z4 HB
  refine (U.take (some ⟨b3, o3, none⟩) 64 c3 (F.set 63 3) w6 p3.reads HK.out.2.2.2.2.1 p3.le p3.max).mono ?_
  rintro e w7 ⟨he, g7⟩
  rw [HK.out.1] at he
  subst he
  have gA := g7.then (Chg.alloc [] w7 (.cells #[.int .u64 0, .int .i64 0, .int .u64 0, .int .u64 0] 24))
  unfold SB.v SB.none
  dsimp only
  have HB := mkHid (And.intro (p4.chg gA (by simp)) (And.intro (hb.chg gA (by simp)) (G6.then gA)))
  clear p3 p4 hb G6 g7 gA
  go_wp2_with fail
  obtain ⟨p4, hb, G6⟩ := HB.out
  generalize w7.alloc _ = w8 at *
  clear HB
  refine (U.take (some ⟨b4, o4, none⟩) 64 c4 (F.set 40 1) w8 p4.reads HK.out.2.2.2.2.2.1 p4.le p4.max).mono ?_
  rintro e w9 ⟨he, g9⟩
  rw [HK.out.2.1] at he
  subst he
  have gB := g9.then (Chg.alloc [] w9 (.cells #[.int .u64 0, .int .i64 0, .int .u64 0, .int .u64 0] 24))
  unfold SB.v SB.none
  dsimp only
  have HB := mkHid (And.intro (hb.chg gB (by simp)) (G6.then gB))
  have tk : ∀ u : World, (Instr.slice 25 (.slice (some ⟨b, o, none⟩) 64 c) none (some (.int .i64 63)) none).run Try.prog u = .ok (.slice (some ⟨b, o, none⟩) 63 c) u := fun u => run_take_k (some ⟨b, o, none⟩) 64 c 63 Try.underlying25 oneB (by have := hb.le; omega) u
  clear p4 hb G6 g9 gB
  go_wp2_with fail
  obtain ⟨hb, G6⟩ := HB.out
  generalize w9.alloc _ = w10 at *
  clear HB tk
  have r63 : Reads w10 (some ⟨b, o, none⟩) (bts (F.take 63)) := by rw [← bts_take]; exact hb.reads.take 63
  refine (U.take (some ⟨b, o, none⟩) 63 c (F.take 63) w10 r63 HK.out.2.2.2.2.2.2.1 (by have := hb.le; omega) hb.max).mono ?_
  rintro e w11 ⟨he, g11⟩
  rw [HK.out.2.2.1] at he
  subst he
  have gC := g11.then (Chg.alloc [] w11 (.cells #[.int .u64 0, .int .i64 0, .int .u64 0, .int .u64 0] 24))
  unfold SB.v SB.none
  dsimp only
  have hb2 := hb.chg gC (by simp)
  have G7 := G6.then gC
  have hlit := Chg.alloc [] (w11.alloc (.cells #[.int .u64 0, .int .i64 0, .int .u64 0, .int .u64 0] 24)) (.cells #[.int .u8 0] 5)
  have rlit := Reads.new (w11.alloc (.cells #[.int .u64 0, .int .i64 0, .int .u64 0, .int .u64 0] 24)) #[.int .u8 0] 5
  have hz : (w11.alloc (.cells #[.int .u64 0, .int .i64 0, .int .u64 0, .int .u64 0] 24)).heap.size = w11.heap.size + 1 := by simp
  rw [hz] at rlit
  have G8 := G7.then hlit
  have hb3 := hb2.chg hlit (by simp)
  have HLB : Hid ((bts F).length = 64) := mkHid (by rw [bts_length]; exact HL.out)
  have e1 : bts F ++ [Value.int .u8 0] = bts (F ++ [0]) := by rw [bts_append]; rfl
  have E1 := mkHid e1
  have HB := mkHid (And.intro hb3 (And.intro G8 rlit))
  have wsz : w.heap.size ≤ ((w11.alloc (.cells #[.int .u64 0, .int .i64 0, .int .u64 0, .int .u64 0] 24)).alloc (.cells #[.int .u8 0] 5)).heap.size := G8.size
  have HW := mkHid wsz
  clear hb hb2 G6 G7 g11 gC r63 hlit rlit hz hb3 G8 e1 wsz
  go_wp2_with (at_builtin; refine wpList_append_k _ rfl (.tmp 51) (.tmp 52) 25 rfl 5 1 eltB w.heap.size (some ⟨b, o, none⟩) 64 c (bts F) rfl HB.out.1 HW.out (some ⟨w11.heap.size + 1, 0, none⟩) 1 1 [.int .u8 0] rfl HB.out.2.2 rfl (by simp [Value.oneCell']) (by decide) (by decide) ?_; intro a5 c5 w12 r12 g12 f12)
  have G12 := HB.out.2.1.own g12 HB.out.1
  rw [E1.out] at r12
  clear g12 f12 HB HW E1 HLB
  refine (U.take a5 65 c5 (F ++ [0]) w12 r12.reads HK.out.2.2.2.2.2.2.2 r12.le r12.max).mono ?_
  rintro e w13 ⟨he, g13⟩
  rw [HK.out.2.2.2.1] at he
  subst he
  have gD := g13.then (Chg.alloc [] w13 (.cells #[.int .u64 0, .int .i64 0, .int .u64 0, .int .u64 0] 24))
  have G14 := G12.then gD
  unfold SB.v SB.none
  dsimp only
  clear G12 g13 gD r12 HK HL
  obtain ⟨RO, hro, hcells⟩ := kn_row
  have hz : (w13.alloc (.cells #[.int .u64 0, .int .i64 0, .int .u64 0, .int .u64 0] 24)).heap.size = w13.heap.size + 1 := by simp
  have hc := hcells (w13.alloc (.cells #[.int .u64 0, .int .i64 0, .int .u64 0, .int .u64 0] 24))
  have gR := Chg.alloc [] (w13.alloc (.cells #[.int .u64 0, .int .i64 0, .int .u64 0, .int .u64 0] 24)) RO
  rw [hz] at hc
  replace G14 := G14.then gR
  subst hro
  have HB := mkHid (And.intro hc G14)
  clear hz hc gR G14 hcells
  go_wp2_with fail
  obtain ⟨hc, G14⟩ := HB.out
  generalize World.alloc (World.alloc w13 _) _ = w14 at *
  generalize w13.heap.size + 1 = rb at *
  generalize w13.heap.size = fb at *
  clear HB
  go_loopw [66] (fun iv wr => ∃ k : Nat, k ≤ 7 ∧ iv = .int .i64 k ∧ Chg [] w14 wr) (fun iv _ => 7 - (intOf iv).toNat)
  case atStart => exact ⟨0, by omega, rfl, Chg.refl _ _⟩
  case round =>
    obtain ⟨k, hk, rfl, hgr⟩ := hrel
    by_cases hlt : k < 7
    · have d1 : decide ((k : Int) < 7) = true := decide_eq_true (by omega)
      have d2 : decide (k < 7) = true := decide_eq_true hlt
      obtain ⟨⟨G, B, D, X⟩, hno, hfit, c0, c1, c2, c3⟩ := hc k hlt
      replace c0 := hgr.cellv c0 (by simp)
      replace c1 := hgr.cellv c1 (by simp)
      replace c2 := hgr.cellv c2 (by simp)
      replace c3 := hgr.cellv c3 (by simp)
      dsimp only at c0 c1 c2 c3
      have HM := mkHid (And.intro hno hfit)
      clear hno hfit hc
      have gA := Chg.alloc [] wr (.cells #[.int .u64 (G : Int), .int .i64 B, .int .u64 (D : Int), .int .u64 (X : Int)] 24)
      go_wp2_with fail
      generalize wr.alloc _ = w15 at *
      generalize wr.heap.size = vb at *
      refine (U.may ⟨G, B, D, X⟩ w15 HM.out.2).mono ?_
      rw [HM.out.1]
      rintro e w16 ⟨rfl, g16⟩
      go_wp2_with fail
      refine ⟨?_, by simp [intOf]; omega⟩
      repeat (first | exact ⟨⟨k + 1, by omega, by go_num, hgr.then (gA.then g16)⟩, rfl⟩ | apply Exists.intro)
    · obtain rfl : k = 7 := by omega
      clear hc
      go_wp2_with fail
      refine (U.may ⟨4611686018427387903, 1024, 1023, 4611686018427387903⟩ wr (SB.fits_of_may kn_yes)).mono ?_
      rw [kn_yes]
      rintro e w16 ⟨rfl, g16⟩
      go_wp2_with fail
      go_ret
      exact ⟨rfl, (G14.then hgr).then g16⟩
end Go.Proofs.Ythbnakahcchbnaa
