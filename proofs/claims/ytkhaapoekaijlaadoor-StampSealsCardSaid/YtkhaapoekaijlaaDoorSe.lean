/- What is sealed is opened at its place, as its kind alone; the statements' own helper. -/
import Derived.Test.YtkhaapoekaijlaaDoorSd
import Derived.Lib.SlBytesConst
namespace Go.Proofs.YtkhaapoekaijlaaDoor
open Go.RowKit
set_option linter.unusedVariables false
set_option linter.unusedSimpArgs false

theorem seal_take (l : List UInt8) (p kd : Nat) (h : l.length ≤ 240) : (sealB l p kd).take 252 = body l p kd := by
  unfold sealB; rw [List.take_left' (body_length l p kd h)]
theorem seal_drop (l : List UInt8) (p kd : Nat) (h : l.length ≤ 240) : (sealB l p kd).drop 252 = be (csum (body l p kd)).toNat 4 := by
  unfold sealB; rw [List.drop_left' (body_length l p kd h)]
theorem opens_seal (l : List UInt8) (p kd p' kd' : Nat) (h : l.length ≤ 240) (hp : p < 2 ^ 64) (hkd : kd < 2 ^ 32) :
    opens (sealB l p kd) p' kd' = if p ≠ p' then 21 else if kd ≠ kd' then 22 else 0 := by
  have hl := seal_length l p kd h
  obtain ⟨h1, h2⟩ := seal_parts l p kd h
  have hS := (csum (body l p kd)).isLt
  unfold opens
  rw [if_neg (by omega), if_neg (by omega), seal_drop l p kd h, seal_take l p kd h, h1, h2, List.take_of_length_le (by rw [be_length]; decide), val_be_lt 4 _ (by omega), val_be_lt 8 p (by omega), val_be_lt 4 kd (by omega), if_neg (by simp)]
theorem seal_head (l : List UInt8) (p kd : Nat) (h : l.length ≤ 240) : (sealB l p kd).take 240 = l ++ List.replicate (240 - l.length) 0 := by
  have e1 : (l ++ List.replicate (240 - l.length) (0 : UInt8)).length = 240 := by rw [List.length_append, List.length_replicate]; omega
  unfold sealB body
  rw [List.append_assoc, List.take_left' e1]
theorem seal_get (l : List UInt8) (p kd i : Nat) (h : l.length ≤ 240) (hi : i < 252) : (sealB l p kd)[i]? = (body l p kd)[i]? := by
  unfold sealB
  rw [List.getElem?_append_left (by rw [body_length l p kd h]; exact hi)]
theorem zero_block : opens (List.replicate 256 0) 0 0 = 20 := by decide +kernel
theorem open_no (C : Nat) (hC : C ≠ 0) (ao : Option Addr) (n c : Nat) (l : List UInt8) (k : Int) (kd p : Nat) (hp : pn k = p) (ho : opens l p kd = C) (w : World) (hT : Tab w) (g : Reads w ao (bts l)) (gn : l.length = n) (gc : n ≤ c) (gm : c ≤ maxLen) (hkd : kd < 256) :
    Calls Tryd.prog 11 #[.slice ao n c, .int .i64 k, .int .u8 kd] w fun e w' => e = .returned (.tuple #[.slice none 0 0, .int .i64 C]) ∧ Chg [] w w' := by
  subst hp ho
  refine (open_any ao n c l k kd w hT g gn gc gm hkd).mono ?_
  rintro e w2 ⟨hg2, ⟨h0, -⟩ | ⟨-, rfl⟩⟩
  · exact absurd h0 hC
  · exact ⟨rfl, hg2⟩
theorem open_yes (ao : Option Addr) (n c : Nat) (l : List UInt8) (k : Int) (kd p : Nat) (hp : pn k = p) (ho : opens l p kd = 0) (w : World) (hT : Tab w) (g : Reads w ao (bts l)) (gn : l.length = n) (gc : n ≤ c) (gm : c ≤ maxLen) (hkd : kd < 256) :
    Calls Tryd.prog 11 #[.slice ao n c, .int .i64 k, .int .u8 kd] w fun e w' => ∃ ap cp, e = .returned (.tuple #[.slice ap 240 cp, .int .i64 0]) ∧ Room w' w.heap.size ap 240 cp (bts (l.take 240)) ∧ Chg [] w w' := by
  subst hp
  refine (open_any ao n c l k kd w hT g gn gc gm hkd).mono ?_
  rintro e w2 ⟨hg2, ⟨-, ap, cp, rfl, hr⟩ | ⟨h0, rfl⟩⟩
  · exact ⟨ap, cp, rfl, hr, hg2⟩
  · exact absurd ho h0
def ab : List UInt8 := [97, 98]
theorem ab_at : (sealB ab 5 1)[1]? = some 98 ∧ (sealB ab 5 1)[247]? = some 5 ∧ (sealB ab 5 1)[251]? = some 1 := by
  refine ⟨?_, ?_, ?_⟩ <;> (rw [seal_get ab 5 1 _ (by decide) (by decide)]; decide +kernel)
set_option maxRecDepth 100000 in
theorem wakes_any (w : World) (hT : Tab w) : Calls Tryd.prog 10 #[] w fun e w' => e = .returned (.bool true) ∧ Chg [] w w' := by
  have hm : ∀ u : World, (Instr.makeSlice 22 (.int .i64 256) (.int .i64 256)).run Tryd.prog u = .ok (.slice (some ⟨u.heap.size, 0, none⟩) 256 256) (u.alloc (.cells (madeCells #[.int .u8 0] 256) 5)) := hmk 256 (by decide)
  have hcv := fun (u : World) (C : Array Value) (n c : Nat) => Lib.run_convert_bytes_const (P := Tryd.prog) u 22 5 C n c Tryd.underlying22 Tryd.underlying5
  go_enter Tryd.func10, Tryd.ntmps10
  go_wp2_with fail
  refine (seal_any _ 2 2 ab 5 1 _ (hT.then (Chg.alloc [] _ _)) (reads_new w _ _ _ _ rfl) rfl (by decide) (by decide)).mono ?_
  rintro e w1 ⟨ao, c, rfl, hr1, hg1⟩
  have hgw1 := hg1.behind
  rw [show pn 5 = 5 from rfl] at hr1
  obtain ⟨b, o, rfl, -, -, hc⟩ := hr1.at_ (by have := hr1.le; omega)
  obtain ⟨a1, a2, a3⟩ := ab_at
  have x1 := hc 1 (.int .u8 98) (by simp [bts, a1])
  have x2 := hc 247 (.int .u8 5) (by simp [bts, a2])
  have x3 := hc 251 (.int .u8 1) (by simp [bts, a3])
  have hle := hr1.le
  have hmx := hr1.max
  have g1 := hr1.reads
  have hlen := seal_length ab 5 1 (by decide)
  have o1 := opens_seal ab 5 1 5 1 (by decide) (by decide) (by decide)
  have o2 := opens_seal ab 5 1 6 2 (by decide) (by decide) (by decide)
  have o3 := opens_seal ab 5 1 5 2 (by decide) (by decide) (by decide)
  have hp240 := seal_head ab 5 1 (by decide)
  generalize sealB ab 5 1 = B at *
  clear hc hr1 hg1 a1 a2 a3
  go_wp2_with fail
  refine (open_yes _ 256 c B 5 1 5 rfl o1 _ (hT.then hgw1) g1 hlen hle hmx (by decide)).mono ?_
  rintro e w2 ⟨ap, cp, rfl, hrp, hg2⟩
  have hgw2 := hgw1.then hg2
  rw [hp240] at hrp
  obtain ⟨pb, po, rfl, -, -, hc⟩ := hrp.at_ (by have := hrp.le; omega)
  have y0 := hc 0 (.int .u8 97) rfl
  rw [Nat.add_zero] at y0
  have g2 := g1.keep hg2
  clear hc hrp hp240 x1 x2 x3 o1 g1 hgw1 hg2
  go_wp2_with fail
  refine (open_no 21 (by decide) _ 256 c B 6 2 6 rfl o2 _ (hT.then hgw2) g2 hlen hle hmx (by decide)).mono ?_
  rintro e w3 ⟨rfl, hg3⟩
  have hgw3 := hgw2.then hg3
  have g3 := g2.keep hg3
  have y1 := hg3.cellv y0 (by simp)
  clear y0 g2 hgw2 hg3 o2
  go_wp2_with fail
  refine (open_no 22 (by decide) _ 256 c B 5 2 5 rfl o3 _ (hT.then hgw3) g3 hlen hle hmx (by decide)).mono ?_
  rintro e w4 ⟨rfl, hg4⟩
  have hgw4 := hgw3.then hg4
  have y2 := hg4.cellv y1 (by simp)
  clear y1 g3 hgw3 hg4 o3
  go_wp2_with fail
  have h0 := own_made 256 (by decide) w4
  refine (open_no 20 (by decide) _ 256 256 (List.replicate 256 0) 0 0 0 rfl zero_block _ (hT.then (hgw4.then h0.g)) h0.r.reads rfl (by decide) (by decide) (by decide)).mono ?_
  rintro e w5 ⟨rfl, hg5⟩
  have hgw5 := hgw4.then (h0.g.then hg5)
  have y3 := hg5.cellv (h0.g.cellv y2 (by simp)) (by simp)
  clear y2 hgw4 h0 hg5
  go_wp2_with fail
  go_ret
  exact ⟨rfl, hgw5⟩
end Go.Proofs.YtkhaapoekaijlaaDoor
