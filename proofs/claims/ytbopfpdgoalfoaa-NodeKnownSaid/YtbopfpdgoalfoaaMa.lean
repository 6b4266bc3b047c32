/- NodeKnown: the rows (a region that draws its order). Written by genMa.py. -/
import Derived.Test.YtbopfpdgoalfoaaMb
namespace Go.Proofs.Ytbopfpdgoalfoaa
open Go.RowKit
set_option linter.unusedVariables false
set_option linter.unusedSimpArgs false
attribute [local go_sem ↓] Go.wp_at_zero Go.wp_at_succ

/-! ### rows -/
def rowL : Nat → List UInt8
  | 0 => []
  | 1 => [2]
  | 2 => [1]
  | 3 => [1, 0]
  | 4 => [1, 9]
  | 5 => [1, 1]
  | 6 => List.replicate 18 0
  | 7 => [0, 1] ++ List.replicate 16 0
  | _ => [0, 2, 0, 0, 0, 0, 0, 0, 0, 1, 0, 0, 0, 0, 0, 0, 0, 1] ++ [0, 0, 0, 0, 0, 0, 0, 1]
def rowE : Nat → Int
  | 0 => 4
  | 1 => 5
  | 2 => 4
  | 3 => 5
  | 4 => 5
  | 5 => 4
  | 6 => 5
  | 7 => 5
  | _ => 5
theorem row_takes : ∀ k, k < 9 → takeN (rowL k) = (rowE k, false, [], []) := by
  intro k hk
  match k, hk with
  | 0, _ => rfl
  | 1, _ => rfl
  | 2, _ => rfl
  | 3, _ => rfl
  | 4, _ => rfl
  | 5, _ => simp [takeN, takeK, takeV, rowL, rowE]
  | 6, _ => rfl
  | 7, _ => simp [takeN, takeK, takeV, rowL, rowE, lowK, val, List.replicate]
  | 8, _ => simp [takeN, takeK, takeV, rowL, rowE, lowK, val]
theorem row_len : ∀ k, k < 9 → (rowL k).length ≤ 26 := by decide +kernel
/-- A slice of bytes in a block of its own, without room behind. -/
def LitIs (l : List UInt8) (n : Nat) (v : Value) (w : World) : Prop := ∃ b, v = .slice (some ⟨b, 0, none⟩) n n ∧ Room w 0 (some ⟨b, 0, none⟩) n n (bts l)
/-- A slice of bytes. -/
def GotIs (l : List UInt8) (n : Nat) (v : Value) (w : World) : Prop := ∃ ao c, v = .slice ao n c ∧ Room w 0 ao n c (bts l)
/-- A row: bytes and an error. -/
def RowIs (l : List UInt8) (n : Nat) (e : Int) (v : Value) (w : World) : Prop := ∃ ao c, v = .agg #[.slice ao n c, .int .i64 e] ∧ Room w 0 ao n c (bts l)
/-- Row k in block b. -/
def RowAt (w : World) (b k : Nat) : Prop := ∃ ao c, w.cell? ⟨b, k * 2, none⟩ = some (.slice ao (rowL k).length c) ∧ w.cell? ⟨b, k * 2 + 1, none⟩ = some (.int .i64 (rowE k)) ∧ Room w 0 ao (rowL k).length c (bts (rowL k))
theorem LitIs.keep {l : List UInt8} {n : Nat} {v : Value} {w u : World} (g : Chg [] w u) (h : LitIs l n v w) : LitIs l n v u := by
  obtain ⟨b, e, r⟩ := h
  exact ⟨b, e, r.chg g (by simp)⟩
theorem GotIs.keep {l : List UInt8} {n : Nat} {v : Value} {w u : World} (g : Chg [] w u) (h : GotIs l n v w) : GotIs l n v u := by
  obtain ⟨a, c, e, r⟩ := h
  exact ⟨a, c, e, r.chg g (by simp)⟩
theorem RowIs.keep {l : List UInt8} {n : Nat} {e : Int} {v : Value} {w u : World} (g : Chg [] w u) (h : RowIs l n e v w) : RowIs l n e v u := by
  obtain ⟨a, c, e, r⟩ := h
  exact ⟨a, c, e, r.chg g (by simp)⟩
theorem RowAt.keep {b k : Nat} {w u : World} (g : Chg [] w u) (h : RowAt w b k) : RowAt u b k := by
  obtain ⟨a, c, h1, h2, r⟩ := h
  exact ⟨a, c, g.cellv h1 (by simp), g.cellv h2 (by simp), r.chg g (by simp)⟩
theorem lit_is (w : World) (cs : Array Value) (e : TypeId) (l : List UInt8) (n : Nat) (hc : cs.toList = bts l) (hn : l.length = n) (hx : n ≤ maxLen) : LitIs l n (.slice (some ⟨w.heap.size, 0, none⟩) n n) (w.alloc (.cells cs e)) :=
  ⟨_, rfl, lit_room w 0 (Nat.zero_le _) cs e (bts l) n hc (by rw [bts_length]; exact hn) hx⟩
theorem row_is {l : List UInt8} {n : Nat} {e : Int} {v : Value} {w : World} (h : GotIs l n v w) : RowIs l n e (.agg #[v, .int .i64 e]) w := by
  obtain ⟨a, c, rfl, r⟩ := h
  exact ⟨a, c, rfl, r⟩
theorem LitIs.got {l : List UInt8} {n : Nat} {v : Value} {w : World} (h : LitIs l n v w) : GotIs l n v w := by
  obtain ⟨b, e, r⟩ := h
  exact ⟨_, _, e, r⟩
def l16 : List UInt8 := [0, 2, 0, 0, 0, 0, 0, 0, 0, 1, 0, 0, 0, 0, 0, 0, 0, 1]
def l17 : List UInt8 := [0, 0, 0, 0, 0, 0, 0, 1]
/-- What stands in each slot. -/
def KF : Nat → Value → World → Prop
  | 0, v, w => RowIs [] 0 4 v w
  | 1, v, w => LitIs [2] 1 v w
  | 2, v, w => RowIs [2] 1 5 v w
  | 3, v, w => LitIs [1] 1 v w
  | 4, v, w => RowIs [1] 1 4 v w
  | 5, v, w => LitIs [1, 0] 2 v w
  | 6, v, w => RowIs [1, 0] 2 5 v w
  | 7, v, w => LitIs [1, 9] 2 v w
  | 8, v, w => RowIs [1, 9] 2 5 v w
  | 9, v, w => LitIs [1, 1] 2 v w
  | 10, v, w => RowIs [1, 1] 2 4 v w
  | 11, v, w => LitIs (List.replicate 18 0) 18 v w
  | 12, v, w => RowIs (List.replicate 18 0) 18 5 v w
  | 13, v, w => LitIs [0, 1] 2 v w
  | 14, v, w => GotIs ([0, 1] ++ List.replicate 16 0) 18 v w
  | 15, v, w => RowIs ([0, 1] ++ List.replicate 16 0) 18 5 v w
  | 16, v, w => LitIs l16 18 v w
  | 17, v, w => LitIs l17 8 v w
  | 18, v, w => GotIs (l16 ++ l17) 26 v w
  | 19, v, w => RowIs (l16 ++ l17) 26 5 v w
  | 20, v, w => ∃ b, v = .slice (some ⟨b, 0, none⟩) 9 9 ∧ ∀ k, k < 9 → RowAt w b k
  | 21, v, _ => v = .int .i64 9
  | 22, v, _ => v = .int .i64 0
  | _, _, _ => True
theorem KF.keep : ∀ (i : Nat) (v : Value) (w u : World), Chg [] w u → KF i v w → KF i v u := by
  intro i v w u g h
  match i, h with
  | 0, h => exact RowIs.keep g h
  | 1, h => exact LitIs.keep g h
  | 2, h => exact RowIs.keep g h
  | 3, h => exact LitIs.keep g h
  | 4, h => exact RowIs.keep g h
  | 5, h => exact LitIs.keep g h
  | 6, h => exact RowIs.keep g h
  | 7, h => exact LitIs.keep g h
  | 8, h => exact RowIs.keep g h
  | 9, h => exact LitIs.keep g h
  | 10, h => exact RowIs.keep g h
  | 11, h => exact LitIs.keep g h
  | 12, h => exact RowIs.keep g h
  | 13, h => exact LitIs.keep g h
  | 14, h => exact GotIs.keep g h
  | 15, h => exact RowIs.keep g h
  | 16, h => exact LitIs.keep g h
  | 17, h => exact LitIs.keep g h
  | 18, h => exact GotIs.keep g h
  | 19, h => exact RowIs.keep g h
  | 20, h => obtain ⟨b, e, hb⟩ := h; exact ⟨b, e, fun k hk => (hb k hk).keep g⟩
  | 21, h => exact h
  | 22, h => exact h
  | n + 23, _ => trivial
def frK (v : Nat → Value) : Act := { tmps := #[.bool false, undef, undef, undef, undef, undef, undef, undef, v 0, v 1, v 2, v 3, v 4, v 5, v 6, v 7, v 8, v 9, v 10, v 11, v 12, v 13, v 14, v 15, v 16, v 17, v 18, v 19, v 20, v 21, v 22, undef, undef, undef, undef, undef, undef, undef, undef, undef, undef, undef, undef, undef, undef, undef, undef, undef, undef, undef, undef, undef, undef, undef, undef, undef, undef, undef, undef, undef, undef, undef, undef, undef, undef, undef, undef, undef, undef, undef, undef, undef, undef, undef, undef, undef, undef, undef, undef, undef, undef, undef, undef, undef, undef, undef, undef, undef, undef, undef, undef, undef, undef, undef, undef, undef, undef, undef, undef, undef, undef, undef, undef, undef, undef, undef], defers := [] }
theorem frK_put (v : Nat → Value) (x : Value) : ∀ i, i < 23 → (frK v).put (some (8 + i)) x = frK (upd v i x) := by
  intro i hi
  match i, hi with
  | 0, _ => rfl
  | 1, _ => rfl
  | 2, _ => rfl
  | 3, _ => rfl
  | 4, _ => rfl
  | 5, _ => rfl
  | 6, _ => rfl
  | 7, _ => rfl
  | 8, _ => rfl
  | 9, _ => rfl
  | 10, _ => rfl
  | 11, _ => rfl
  | 12, _ => rfl
  | 13, _ => rfl
  | 14, _ => rfl
  | 15, _ => rfl
  | 16, _ => rfl
  | 17, _ => rfl
  | 18, _ => rfl
  | 19, _ => rfl
  | 20, _ => rfl
  | 21, _ => rfl
  | 22, _ => rfl
  | n + 23, h => exact absurd h (Nat.not_lt.2 (Nat.le_add_left 23 n))
theorem oper_row44 {o : Oper} {a : Act} {w : World} {K : Act → World → Prop} {Q : Exit → Act → World → Prop} (s : Operand) (e : Int) (ao : Option Addr) (n c : Nat) (ho : o.op = .build 44 #[(0, s), (1, .const (.int .i64 e))]) (hs : a.eval s = .slice ao n c) (hK : K (a.put o.dst (.agg #[.slice ao n c, .int .i64 e])) w) : Oper.wp Try.prog o a w K Q := by
  unfold Oper.wp
  unfold execOp
  simp only [ho, List.map_toArray, List.map_cons, List.map_nil, hs]
  go_simp
  exact hK
theorem zeros_is : ∃ O : Obj, (∀ u : World, (Instr.makeSlice 26 (.int .i64 18) (.int .i64 18)).run Try.prog u = .ok (.slice (some ⟨u.heap.size, 0, none⟩) 18 18) (u.alloc O)) ∧ ∀ u : World, LitIs (List.replicate 18 0) 18 (.slice (some ⟨u.heap.size, 0, none⟩) 18 18) (u.alloc O) := by
  refine ⟨_, fun u => run_make_k eltB (.int .u8 0) (by kernel_rfl) rfl 18 (by decide) (by decide) u, fun u => ⟨_, rfl, ?_⟩⟩
  exact (made_room u 5 (.int .u8 0) 18 (by decide)).mono (Nat.zero_le _)
theorem table_at (w : World) (t : TypeId) {a0 a1 a2 a3 a4 a5 a6 a7 a8 : Option Addr} {c0 c1 c2 c3 c4 c5 c6 c7 c8 : Nat} (r0 : Room w 0 a0 0 c0 (bts [])) (r1 : Room w 0 a1 1 c1 (bts [2])) (r2 : Room w 0 a2 1 c2 (bts [1])) (r3 : Room w 0 a3 2 c3 (bts [1, 0])) (r4 : Room w 0 a4 2 c4 (bts [1, 9])) (r5 : Room w 0 a5 2 c5 (bts [1, 1])) (r6 : Room w 0 a6 18 c6 (bts (List.replicate 18 0))) (r7 : Room w 0 a7 18 c7 (bts ([0, 1] ++ List.replicate 16 0))) (r8 : Room w 0 a8 26 c8 (bts (l16 ++ l17))) : ∀ k, k < 9 → RowAt (w.alloc (.cells #[.slice a0 0 c0, .int .i64 4, .slice a1 1 c1, .int .i64 5, .slice a2 1 c2, .int .i64 4, .slice a3 2 c3, .int .i64 5, .slice a4 2 c4, .int .i64 5, .slice a5 2 c5, .int .i64 4, .slice a6 18 c6, .int .i64 5, .slice a7 18 c7, .int .i64 5, .slice a8 26 c8, .int .i64 5] t)) w.heap.size k := by
  intro k hk
  have hc := fun j => cell_of_row (w.alloc (.cells #[.slice a0 0 c0, .int .i64 4, .slice a1 1 c1, .int .i64 5, .slice a2 1 c2, .int .i64 4, .slice a3 2 c3, .int .i64 5, .slice a4 2 c4, .int .i64 5, .slice a5 2 c5, .int .i64 4, .slice a6 18 c6, .int .i64 5, .slice a7 18 c7, .int .i64 5, .slice a8 26 c8, .int .i64 5] t)) w.heap.size j _ _ _ (heap_alloc_last w _)
  have g := Chg.alloc [] w (.cells #[.slice a0 0 c0, .int .i64 4, .slice a1 1 c1, .int .i64 5, .slice a2 1 c2, .int .i64 4, .slice a3 2 c3, .int .i64 5, .slice a4 2 c4, .int .i64 5, .slice a5 2 c5, .int .i64 4, .slice a6 18 c6, .int .i64 5, .slice a7 18 c7, .int .i64 5, .slice a8 26 c8, .int .i64 5] t)
  match k, hk with
  | 0, _ => exact ⟨a0, c0, (hc 0).trans rfl, (hc 1).trans rfl, r0.chg g (by simp)⟩
  | 1, _ => exact ⟨a1, c1, (hc 2).trans rfl, (hc 3).trans rfl, r1.chg g (by simp)⟩
  | 2, _ => exact ⟨a2, c2, (hc 4).trans rfl, (hc 5).trans rfl, r2.chg g (by simp)⟩
  | 3, _ => exact ⟨a3, c3, (hc 6).trans rfl, (hc 7).trans rfl, r3.chg g (by simp)⟩
  | 4, _ => exact ⟨a4, c4, (hc 8).trans rfl, (hc 9).trans rfl, r4.chg g (by simp)⟩
  | 5, _ => exact ⟨a5, c5, (hc 10).trans rfl, (hc 11).trans rfl, r5.chg g (by simp)⟩
  | 6, _ => exact ⟨a6, c6, (hc 12).trans rfl, (hc 13).trans rfl, r6.chg g (by simp)⟩
  | 7, _ => exact ⟨a7, c7, (hc 14).trans rfl, (hc 15).trans rfl, r7.chg g (by simp)⟩
  | 8, _ => exact ⟨a8, c8, (hc 16).trans rfl, (hc 17).trans rfl, r8.chg g (by simp)⟩
  | n + 9, h => exact absurd h (Nat.not_lt.2 (Nat.le_add_left 9 n))
set_option maxRecDepth 20000 in
set_option maxHeartbeats 4000000 in
theorem nodeknown_any (w : World) : Calls Try.prog 7 #[] w fun e w' => e = .returned (.bool true) ∧ Chg [] w w' := by
  go_enter Try.func7, Try.ntmps7
  go_wp2_with fail
  refine region_slots KF frK (fun _ => undef) (by kernel_rfl) (by kernel_rfl) KF.keep ?_ ?_
  · refine ⟨?_, ?_, ?_, ?_, ?_, ?_, ?_, ?_, ?_, ?_, ?_, ?_, ?_, ?_, ?_, ?_, ?_, ?_, ?_, ?_, ?_, ?_, ?_, trivial⟩
    · intro v w hd K hK
      unfold frK
      go_simp
      exact hK.out _ _ ⟨none, 0, rfl, Room.nil _ _ _⟩ (Chg.refl _ _)
    · intro v w hd K hK
      unfold frK
      go_simp
      exact hK.out _ _ (lit_is w _ _ [2] 1 rfl rfl (by decide)) (Chg.alloc [] w _)
    · intro v w hd K hK
      obtain ⟨ao, c, e1, r⟩ := (LitIs.got (l := [2]) (n := 1) (hd ⟨1, .data⟩ (by simp) rfl))
      refine oper_row44 (.tmp 9) 5 ao 1 c rfl (show (frK v).eval (.tmp 9) = _ from e1) ?_
      exact hK.out _ _ ⟨ao, c, rfl, r⟩ (Chg.refl _ _)
    · intro v w hd K hK
      unfold frK
      go_simp
      exact hK.out _ _ (lit_is w _ _ [1] 1 rfl rfl (by decide)) (Chg.alloc [] w _)
    · intro v w hd K hK
      obtain ⟨ao, c, e1, r⟩ := (LitIs.got (l := [1]) (n := 1) (hd ⟨3, .data⟩ (by simp) rfl))
      refine oper_row44 (.tmp 11) 4 ao 1 c rfl (show (frK v).eval (.tmp 11) = _ from e1) ?_
      exact hK.out _ _ ⟨ao, c, rfl, r⟩ (Chg.refl _ _)
    · intro v w hd K hK
      unfold frK
      go_simp
      exact hK.out _ _ (lit_is w _ _ [1, 0] 2 rfl rfl (by decide)) (Chg.alloc [] w _)
    · intro v w hd K hK
      obtain ⟨ao, c, e1, r⟩ := (LitIs.got (l := [1, 0]) (n := 2) (hd ⟨5, .data⟩ (by simp) rfl))
      refine oper_row44 (.tmp 13) 5 ao 2 c rfl (show (frK v).eval (.tmp 13) = _ from e1) ?_
      exact hK.out _ _ ⟨ao, c, rfl, r⟩ (Chg.refl _ _)
    · intro v w hd K hK
      unfold frK
      go_simp
      exact hK.out _ _ (lit_is w _ _ [1, 9] 2 rfl rfl (by decide)) (Chg.alloc [] w _)
    · intro v w hd K hK
      obtain ⟨ao, c, e1, r⟩ := (LitIs.got (l := [1, 9]) (n := 2) (hd ⟨7, .data⟩ (by simp) rfl))
      refine oper_row44 (.tmp 15) 5 ao 2 c rfl (show (frK v).eval (.tmp 15) = _ from e1) ?_
      exact hK.out _ _ ⟨ao, c, rfl, r⟩ (Chg.refl _ _)
    · intro v w hd K hK
      unfold frK
      go_simp
      exact hK.out _ _ (lit_is w _ _ [1, 1] 2 rfl rfl (by decide)) (Chg.alloc [] w _)
    · intro v w hd K hK
      obtain ⟨ao, c, e1, r⟩ := (LitIs.got (l := [1, 1]) (n := 2) (hd ⟨9, .data⟩ (by simp) rfl))
      refine oper_row44 (.tmp 17) 4 ao 2 c rfl (show (frK v).eval (.tmp 17) = _ from e1) ?_
      exact hK.out _ _ ⟨ao, c, rfl, r⟩ (Chg.refl _ _)
    · intro v w hd K hK
      obtain ⟨O, m1, m2⟩ := zeros_is
      unfold frK
      go_simp
      exact hK.out _ _ (m2 w) (Chg.alloc [] w _)
    · intro v w hd K hK
      obtain ⟨ao, c, e1, r⟩ := (LitIs.got (l := (List.replicate 18 0)) (n := 18) (hd ⟨11, .data⟩ (by simp) rfl))
      refine oper_row44 (.tmp 19) 5 ao 18 c rfl (show (frK v).eval (.tmp 19) = _ from e1) ?_
      exact hK.out _ _ ⟨ao, c, rfl, r⟩ (Chg.refl _ _)
    · intro v w hd K hK
      unfold frK
      go_simp
      exact hK.out _ _ (lit_is w _ _ [0, 1] 2 rfl rfl (by decide)) (Chg.alloc [] w _)
    · intro v w hd K hK
      obtain ⟨b, e1, r⟩ := (show LitIs [0, 1] 2 (v 13) w from hd ⟨13, .data⟩ (by simp) rfl)
      refine oper_append_zeros_new (.tmp 21) (.const (.int .i64 16)) 26 3 rfl 5 1 eltB (.int .u8 0) (by kernel_rfl) rfl .i64 .i64 (by kernel_rfl) 0 _ 2 2 (bts [0, 1]) (show (frK v).eval (.tmp 21) = _ from e1) r (Nat.zero_le _) 16 rfl (by decide) (by decide) (by decide) ?_
      intro ao c u h1 h2 _
      exact hK.out _ _ ⟨ao, c, rfl, by rw [bts_append]; exact h1⟩ h2
    · intro v w hd K hK
      obtain ⟨ao, c, e1, r⟩ := (show GotIs ([0, 1] ++ List.replicate 16 0) 18 (v 14) w from hd ⟨14, .data⟩ (by simp) rfl)
      refine oper_row44 (.tmp 22) 5 ao 18 c rfl (show (frK v).eval (.tmp 22) = _ from e1) ?_
      exact hK.out _ _ ⟨ao, c, rfl, r⟩ (Chg.refl _ _)
    · intro v w hd K hK
      unfold frK
      go_simp
      exact hK.out _ _ (lit_is w _ _ l16 18 rfl rfl (by decide)) (Chg.alloc [] w _)
    · intro v w hd K hK
      unfold frK
      go_simp
      exact hK.out _ _ (lit_is w _ _ l17 8 rfl rfl (by decide)) (Chg.alloc [] w _)
    · intro v w hd K hK
      obtain ⟨b, e1, r1⟩ := (show LitIs l16 18 (v 16) w from hd ⟨16, .data⟩ (by simp) rfl)
      obtain ⟨d, e2, r2⟩ := (show LitIs l17 8 (v 17) w from hd ⟨17, .data⟩ (by simp) rfl)
      refine oper_append_new (.tmp 24) (.tmp 25) 26 rfl 5 1 eltB 0 _ 18 18 (bts l16) (show (frK v).eval (.tmp 24) = _ from e1) r1.reads rfl (Nat.zero_le _) _ 8 8 (bts l17) (show (frK v).eval (.tmp 25) = _ from e2) r2.reads rfl (by decide) (by decide) (by decide) ?_
      intro c u h1 h2
      exact hK.out _ _ ⟨_, c, rfl, by rw [bts_append]; exact h1⟩ h2
    · intro v w hd K hK
      obtain ⟨ao, c, e1, r⟩ := (show GotIs (l16 ++ l17) 26 (v 18) w from hd ⟨18, .data⟩ (by simp) rfl)
      refine oper_row44 (.tmp 26) 5 ao 26 c rfl (show (frK v).eval (.tmp 26) = _ from e1) ?_
      exact hK.out _ _ ⟨ao, c, rfl, r⟩ (Chg.refl _ _)
    · intro v w hd K hK
      obtain ⟨a0, c0, e0, r0⟩ := (show RowIs [] 0 4 (v 0) w from hd ⟨0, .data⟩ (by simp) rfl)
      obtain ⟨a1, c1, e1, r1⟩ := (show RowIs [2] 1 5 (v 2) w from hd ⟨2, .data⟩ (by simp) rfl)
      obtain ⟨a2, c2, e2, r2⟩ := (show RowIs [1] 1 4 (v 4) w from hd ⟨4, .data⟩ (by simp) rfl)
      obtain ⟨a3, c3, e3, r3⟩ := (show RowIs [1, 0] 2 5 (v 6) w from hd ⟨6, .data⟩ (by simp) rfl)
      obtain ⟨a4, c4, e4, r4⟩ := (show RowIs [1, 9] 2 5 (v 8) w from hd ⟨8, .data⟩ (by simp) rfl)
      obtain ⟨a5, c5, e5, r5⟩ := (show RowIs [1, 1] 2 4 (v 10) w from hd ⟨10, .data⟩ (by simp) rfl)
      obtain ⟨a6, c6, e6, r6⟩ := (show RowIs (List.replicate 18 0) 18 5 (v 12) w from hd ⟨12, .data⟩ (by simp) rfl)
      obtain ⟨a7, c7, e7, r7⟩ := (show RowIs ([0, 1] ++ List.replicate 16 0) 18 5 (v 15) w from hd ⟨15, .data⟩ (by simp) rfl)
      obtain ⟨a8, c8, e8, r8⟩ := (show RowIs (l16 ++ l17) 26 5 (v 19) w from hd ⟨19, .data⟩ (by simp) rfl)
      clear hd
      have hk := hK.out _ _ ⟨w.heap.size, rfl, table_at w 44 r0 r1 r2 r3 r4 r5 r6 r7 r8⟩ (Chg.alloc [] w _)
      unfold frK at hk ⊢
      simp only [upd, Nat.reduceEqDiff, reduceIte, e0, e1, e2, e3, e4, e5, e6, e7, e8] at hk
      go_simp
      exact hk
    · intro v w hd K hK
      obtain ⟨b, e1, -⟩ := (show ∃ b, v 20 = .slice (some ⟨b, 0, none⟩) 9 9 ∧ ∀ k, k < 9 → RowAt w b k from hd ⟨20, .data⟩ (by simp) rfl)
      have hk := hK.out (.int .i64 9) w rfl (Chg.refl _ _)
      unfold frK at hk ⊢
      simp only [upd, Nat.reduceEqDiff, reduceIte, e1] at hk
      go_simp
      exact hk
    · intro v w hd K hK
      unfold frK
      go_simp
      exact hK.out _ _ rfl (Chg.refl _ _)
  · intro v u hg hF
    obtain ⟨b, e20, hrow⟩ := (show ∃ b, v 20 = .slice (some ⟨b, 0, none⟩) 9 9 ∧ ∀ k, k < 9 → RowAt u b k from hF 20 (by decide))
    have e21 : v 21 = .int .i64 9 := hF 21 (by decide)
    have e22 : v 22 = .int .i64 0 := hF 22 (by decide)
    clear hF
    simp only [frK, e20, e21, e22]
    clear e20 e21 e22
    go_wp2_with fail
    go_loopw [30] (fun iv wr => ∃ k : Nat, iv = .int .i64 k ∧ k ≤ 9 ∧ Chg [] w wr ∧ ∀ j, j < 9 → RowAt wr b j) (fun iv _ => 9 - (intOf iv).toNat)
    case atStart => exact ⟨0, rfl, Nat.zero_le _, hg, hrow⟩
    case round =>
      clear hrow hg
      obtain ⟨m, rfl, hm9, hg, hrow⟩ := hrel
      by_cases hlt : m < 9
      · have hd : decide (m < 9) = true := decide_eq_true hlt
        have hd2 : decide ((m : Int) < 9) = true := decide_eq_true (by omega)
        obtain ⟨ao, c, h1, h2, r⟩ := hrow m hlt
        have ht := row_takes m hlt
        have HR := mkHid hrow
        clear hrow
        generalize rowL m = l at *
        generalize rowE m = e at *
        obtain ⟨n, hn⟩ : ∃ n, l.length = n := ⟨_, rfl⟩
        rw [hn] at h1 r
        have HT := mkHid ht
        have HN := mkHid hn
        have b0 : (e != e) = false := by simp
        clear ht hn
        go_wp2_with fail
        have g1 := Chg.alloc [] wr (.cells #[.slice ao n c, .int .i64 e] 44)
        have c1 := cell_of_row _ wr.heap.size 1 _ _ _ (heap_alloc_last wr (.cells #[.slice ao n c, .int .i64 e] 44))
        simp only [List.getElem?_toArray, List.getElem?_cons_succ, List.getElem?_cons_zero] at c1
        have r1 := (r.chg g1 (by simp)).reads
        have q1 := hg.then g1
        generalize wr.alloc (.cells #[.slice ao n c, .int .i64 e] 44) = w1 at *
        generalize wr.heap.size = xb at *
        have ct := take_any ao n c l w1 r1 HN.out r.le r.max
        rw [HT.out] at ct
        refine ct.mono ?_
        rintro e' w2 ⟨⟨ka, kc, va, vc, rfl, -, -, -⟩, g2⟩
        dsimp only [List.length_nil]
        have gN := g2.then (Chg.alloc [] w2 (.cells #[.bool false, .slice ka 0 kc, .slice va 0 vc] 24))
        have c2 := gN.cellv c1 (by simp)
        have q2 := q1.then gN
        have gA := (g1.then g2).then (Chg.alloc [] w2 (.cells #[.bool false, .slice ka 0 kc, .slice va 0 vc] 24))
        have hr2 : ∀ j, j < 9 → RowAt (w2.alloc (.cells #[.bool false, .slice ka 0 kc, .slice va 0 vc] 24)) b j := fun j hj => (HR.out j hj).keep gA
        clear h1 h2 r c1 r1 g1 g2 gN gA q1 hg ct
        go_wp2_with fail
        generalize w2.alloc (.cells #[.bool false, .slice ka 0 kc, .slice va 0 vc] 24) = w3 at *
        go_round
        case rel => exact ⟨m + 1, by first | rfl | go_num, by omega, q2, hr2⟩
        case measure => simp [intOf]; omega
      · have hd : decide (m < 9) = false := decide_eq_false hlt
        have hd2 : decide ((m : Int) < 9) = false := decide_eq_false (by omega)
        clear hrow
        go_wp2_with fail
        have n0 := nine_start wr
        have hnb : w.heap.size ≤ wr.heap.size := hg.size
        have q0 := hg.then (Chg.alloc [] wr (.cells #[.bool false, .slice none 0 0, .slice none 0 0] 24))
        generalize wr.alloc (.cells #[.bool false, .slice none 0 0, .slice none 0 0] 24) = w1 at *
        generalize wr.heap.size = nb at *
        clear hg hm9 hlt hd hd2
        go_loopw [46] (fun iv wr => ∃ (k : Nat) (ka : Option Addr) (kc : Nat) (va : Option Addr) (vc : Nat), iv = .int .i64 k ∧ k ≤ 9 ∧ Nine wr nb (nb + 1) k ka kc va vc ∧ Chg [] w wr) (fun iv _ => 9 - (intOf iv).toNat)
        case atStart => exact ⟨0, none, 0, none, 0, rfl, Nat.zero_le _, n0, q0⟩
        case round =>
          clear n0 q0
          obtain ⟨k, ka, kc, va, vc, rfl, hk9, hN, hg⟩ := hrel
          by_cases hlt : k < 9
          · have hd : decide (k < 9) = true := decide_eq_true hlt
            have hd2 : decide ((k : Int) < 9) = true := decide_eq_true (by omega)
            have hwr : IntKind.u64.wrap (k : Int) = (k : Int) := by rw [IntKind.wrap_u64]; omega
            go_wp2_with fail
            refine region_moves (IR nb (nb + 1) k ka kc va vc wr) (fun V => { tmps := #[u0, undef, u2, u3, u4, .pointer (some ⟨nb, 0, none⟩), .int .i64 (k : Int), undef, v 0, v 1, v 2, v 3, v 4, v 5, v 6, v 7, v 8, v 9, v 10, v 11, v 12, v 13, v 14, v 15, v 16, v 17, v 18, v 19, .slice (some ⟨b, 0, none⟩) 9 9, .int .i64 9, .int .i64 (m : Int), .bool false, u32, u33, u34, u35, u36, u37, u38, u39, u40, u41, u42, u43, u44, .agg #[.bool false, .slice none 0 0, .slice none 0 0], .int .i64 (k : Int), .bool true, .int .i64 (k : Int), V 0, V 1, V 2, V 3, V 4, V 5, V 6, V 7, V 8, V 9, V 10, V 12, u61, undef, undef, undef, undef, undef, undef, undef, undef, undef, undef, undef, undef, undef, undef, undef, undef, undef, undef, undef, undef, undef, undef, undef, undef, undef, undef, undef, undef, undef, undef, undef, undef, undef, undef, undef, undef, undef, undef, undef, undef, undef, undef, undef, undef], defers := [] }) (fun i => (#[u49, u50, u51, u52, u53, u54, u55, u56, u57, u58, u59, undef, u60] : Array Value).getD i undef) (by kernel_rfl) (by kernel_rfl) ⟨fun i hi => (by cases hi), hN.st _ _ _ _ (Chg.drew [] wr), fun e => (by cases e), fun e => (by cases e), fun e => (by cases e)⟩ ?_ ?_
            · refine ⟨?_, ?_, ?_, ?_, ?_, ?_, ?_, ?_, ?_, ?_, ?_, ?_, ?_, ?_, trivial⟩
              · intro d V u hd hdep hI K hK
                have hk := hK.out (.pointer (some ⟨nb, 1, none⟩)) u (hI.pure 0 _ rfl (by decide))
                dsimp only at hk ⊢
                simp only [upd, Nat.reduceEqDiff, reduceIte] at hk
                clear hdep hI hK
                go_simp
                exact hk
              · intro d V u hd hdep hI K hK
                have e0 : V 0 = .pointer (some ⟨nb, 1, none⟩) := hI.pf 0 (hdep ⟨0, .data⟩ (by simp) rfl)
                have c1 := hI.st.c1
                rw [hI.not1 hd] at c1
                dsimp only [curS, cond_false] at c1
                have hk := hK.out (.slice ka k kc) u (hI.pure 1 _ rfl (by decide))
                dsimp only at hk ⊢
                simp only [upd, Nat.reduceEqDiff, reduceIte, e0] at hk
                clear hdep hI hK
                go_simp
                exact hk
              · intro d V u hd hdep hI K hK
                have hk := hK.out (.int .i64 (k : Int)) u (hI.pure 2 _ rfl (by decide))
                dsimp only at hk ⊢
                simp only [upd, Nat.reduceEqDiff, reduceIte] at hk
                clear hdep hI hK
                go_simp
                exact hk
              · intro d V u hd hdep hI K hK
                have e2 : V 2 = .int .i64 (k : Int) := hI.pf 2 (hdep ⟨2, .data⟩ (by simp) rfl)
                have hk := hK.out (.int .u64 (k : Int)) u (hI.pure 3 _ rfl (by decide))
                dsimp only at hk ⊢
                simp only [upd, Nat.reduceEqDiff, reduceIte, e2] at hk
                clear hdep hI hK
                go_simp
                exact hk
              · intro d V u hd hdep hI K hK
                have e3 : V 3 = .int .u64 (k : Int) := hI.pf 3 (hdep ⟨3, .data⟩ (by simp) rfl)
                have hk := hK.out _ _ (hI.key 40)
                dsimp only at hk ⊢
                simp only [upd, Nat.reduceEqDiff, reduceIte, e3] at hk
                clear hdep hI hK
                go_simp
                exact hk
              · intro d V u hd hdep hI K hK
                have e1 : V 1 = .slice ka k kc := hI.pf 1 (hdep ⟨1, .data⟩ (by simp) rfl)
                obtain ⟨x, u', hr, hn⟩ := hI.keys (ty := 22) eltU hk9 (hdep ⟨4, .data⟩ (by simp) rfl) hd
                exact oper_append_run (.tmp 50) (.tmp 53) 22 rfl _ _ e1 rfl x u' hr (hK.out x u' hn)
              · intro d V u hd hdep hI K hK
                have hk := hK.out (.pointer (some ⟨nb, 2, none⟩)) u (hI.pure 6 _ rfl (by decide))
                dsimp only at hk ⊢
                simp only [upd, Nat.reduceEqDiff, reduceIte] at hk
                clear hdep hI hK
                go_simp
                exact hk
              · intro d V u hd hdep hI K hK
                have e6 : V 6 = .pointer (some ⟨nb, 2, none⟩) := hI.pf 6 (hdep ⟨6, .data⟩ (by simp) rfl)
                have c2 := hI.st.c2
                rw [hI.not7 hd] at c2
                dsimp only [curS, cond_false] at c2
                have hk := hK.out (.slice va k vc) u (hI.pure 7 _ rfl (by decide))
                dsimp only at hk ⊢
                simp only [upd, Nat.reduceEqDiff, reduceIte, e6] at hk
                clear hdep hI hK
                go_simp
                exact hk
              · intro d V u hd hdep hI K hK
                have hk := hK.out _ _ (hI.val 40)
                dsimp only at hk ⊢
                simp only [upd, Nat.reduceEqDiff, reduceIte] at hk
                clear hdep hI hK
                go_simp
                exact hk
              · intro d V u hd hdep hI K hK
                have e7 : V 7 = .slice va k vc := hI.pf 7 (hdep ⟨7, .data⟩ (by simp) rfl)
                obtain ⟨x, u', hr, hn⟩ := hI.vals (ty := 22) eltU hk9 (hdep ⟨5, .chain⟩ (by simp) rfl) (hdep ⟨8, .data⟩ (by simp) rfl) hd
                exact oper_append_run (.tmp 56) (.tmp 57) 22 rfl _ _ e7 rfl x u' hr (hK.out x u' hn)
              · intro d V u hd hdep hI K hK
                have hk := hK.out (.pointer (some ⟨nb, 1, none⟩)) u (hI.pure 10 _ rfl (by decide))
                dsimp only at hk ⊢
                simp only [upd, Nat.reduceEqDiff, reduceIte] at hk
                clear hdep hI hK
                go_simp
                exact hk
              · intro d V u hd hdep hI K hK
                have e10 : V 10 = .pointer (some ⟨nb, 1, none⟩) := hI.pf 10 (hdep ⟨10, .data⟩ (by simp) rfl)
                obtain ⟨a, c, e5⟩ := hI.v5 (hdep ⟨5, .data⟩ (by simp) rfl)
                have c1 := hI.st.c1
                have f1 := hI.st.f1
                rw [hd] at c1
                dsimp only [curS, cond_false] at c1
                have hk := hK.out undef _ (hI.put1 undef (hdep ⟨5, .data⟩ (by simp) rfl) (hdep ⟨9, .chain⟩ (by simp) rfl) (hdep ⟨1, .phase⟩ (by simp) rfl) (hdep ⟨7, .phase⟩ (by simp) rfl) hd)
                dsimp only at hk ⊢
                simp only [upd, Nat.reduceEqDiff, reduceIte, e10, e5] at hk
                clear hdep hI hK
                go_simp
                exact hk
              · intro d V u hd hdep hI K hK
                have hk := hK.out (.pointer (some ⟨nb, 2, none⟩)) u (hI.pure 12 _ rfl (by decide))
                dsimp only at hk ⊢
                simp only [upd, Nat.reduceEqDiff, reduceIte] at hk
                clear hdep hI hK
                go_simp
                exact hk
              · intro d V u hd hdep hI K hK
                have e12 : V 12 = .pointer (some ⟨nb, 2, none⟩) := hI.pf 12 (hdep ⟨12, .data⟩ (by simp) rfl)
                obtain ⟨a, c, e9⟩ := hI.v9 (hdep ⟨9, .data⟩ (by simp) rfl)
                have c2 := hI.st.c2
                have f2 := hI.st.f2
                rw [hd] at c2
                dsimp only [curS, cond_false] at c2
                have hk := hK.out undef _ (hI.put2 undef (hdep ⟨11, .chain⟩ (by simp) rfl) hd)
                dsimp only at hk ⊢
                simp only [upd, Nat.reduceEqDiff, reduceIte, e12, e9] at hk
                clear hdep hI hK
                go_simp
                exact hk
            · intro d V u hd hI
              obtain ⟨a, c, a', c', hn⟩ := hI.nine hd
              have hq : Chg [] w u := hg.trans hI.st.chg (by simp) (fun q hq hlt => by
                simp only [List.mem_cons, List.mem_append] at hq
                rcases hq with hq | hq | hq
                · omega
                · have := (hN.rk.lt q hq).1; omega
                · have := (hN.rv.lt q hq).1; omega)
              clear hI hd hN hg
              dsimp only
              go_wp2_with fail
              go_roundw
              case rel => exact ⟨k + 1, a, c, a', c', by first | rfl | go_num, by omega, hn, hq⟩
              case measure => simp [intOf]; omega
          · have hd : decide (k < 9) = false := decide_eq_false hlt
            have hd2 : decide ((k : Int) < 9) = false := decide_eq_false (by omega)
            have hke : k = 9 := by omega
            subst hke
            obtain ⟨c0, c1, c2, f1, f2, rk, rv, dj, hb, hB⟩ := hN
            have hn9 : RdN wr ka kc va vc (List.range 9) (List.replicate 9 1) := ⟨rk.reads, rv.reads, rk.le, rv.le, by decide, by decide, rk.max, rv.max⟩
            have hkc := rk.le
            have hvc := rv.le
            have hk8 := rk.max
            have hv8 := rv.max
            have s1 : ∀ u : World, (Instr.slice 22 (.slice ka 9 kc) none (some (.int .i64 8)) none).run Try.prog u = .ok (.slice ka 8 kc) u := fun u => run_take_k (e := 40) ka 9 kc 8 Try.underlying22 (by kernel_rfl) (by omega) u
            have s2 : ∀ u : World, (Instr.slice 22 (.slice va 9 vc) none (some (.int .i64 8)) none).run Try.prog u = .ok (.slice va 8 vc) u := fun u => run_take_k (e := 40) va 9 vc 8 Try.underlying22 (by kernel_rfl) (by omega) u
            have n8 : RdN wr ka kc va vc (List.range 8) (List.replicate 8 1) := ⟨by have := rk.reads.take 8; exact this, by have := rv.reads.take 8; exact this, by simp; omega, by simp; omega, by decide, by decide, rk.max, rv.max⟩
            have HN := mkHid (And.intro hn9 (And.intro n8 hg))
            have hnw := World.new_ne wr ⟨nb, 1, none⟩ c1
            clear rk rv dj hn9 n8 hg f1 f2 hkc hvc hk8 hv8
            go_wp2_with fail
            go_region_held3 (fun u => u.cell? ⟨nb, 0, none⟩ = some (.bool false) ∧ u.cell? ⟨nb, 1, none⟩ = some (.slice ka 9 kc) ∧ u.cell? ⟨nb, 2, none⟩ = some (.slice va 9 vc)) (go_keep) (fail)
            have g2 := (Chg.alloc [] wr (.cells #[.bool false, .slice ka 8 kc, .slice va 8 vc] 24)).then (Chg.drew [] _)
            obtain ⟨x0, x1, x2⟩ := laid3 wr (.bool false) (.slice ka 8 kc) (.slice va 8 vc) 24
            have e0 := (Chg.drew [] _).cellv x0 (by simp)
            have e1 := (Chg.drew [] _).cellv x1 (by simp)
            have e2 := (Chg.drew [] _).cellv x2 (by simp)
            have d0 := g2.cellv c0 (by simp)
            have d1 := g2.cellv c1 (by simp)
            have d2 := g2.cellv c2 (by simp)
            have n9 := HN.out.1.keep g2
            have n8 := HN.out.2.1.keep g2
            have q2 := HN.out.2.2.then g2
            clear x0 x1 x2 c0 c1 c2 g2 HN s1 s2
            generalize (wr.alloc (.cells #[.bool false, .slice ka 8 kc, .slice va 8 vc] 24)).drew = w2 at *
            generalize wr.heap.size = eb at *
            go_wp2_with fail
            refine (awake_any w2).mono ?_
            rintro e w3 ⟨rfl, g3⟩
            have c0 := g3.cellv d0 (by simp)
            have c1 := g3.cellv d1 (by simp)
            have c2 := g3.cellv d2 (by simp)
            have x0 := g3.cellv e0 (by simp)
            have x1 := g3.cellv e1 (by simp)
            have x2 := g3.cellv e2 (by simp)
            have m9 := n9.keep g3
            have m8 := n8.keep g3
            have q3 := q2.then g3
            clear d0 d1 d2 e0 e1 e2 n9 n8 g3 q2
            go_wp2_with fail
            have cM := may_any false ka 9 kc va 9 vc (List.range 9) (List.replicate 9 1) w3 m9 rfl rfl
            rw [show mayB (List.range 9) (List.replicate 9 1) = false by decide +kernel] at cM
            refine cM.mono ?_
            rintro e w4 ⟨rfl, g4⟩
            have e0 := g4.cellv x0 (by simp)
            have e1 := g4.cellv x1 (by simp)
            have e2 := g4.cellv x2 (by simp)
            have n8 := m8.keep g4
            have q4 := q3.then g4
            clear cM c0 c1 c2 x0 x1 x2 m9 m8 q3 g4
            go_wp2_with fail
            have cM := may_any false ka 8 kc va 8 vc (List.range 8) (List.replicate 8 1) w4 n8 rfl rfl
            rw [show mayB (List.range 8) (List.replicate 8 1) = true by decide +kernel] at cM
            refine cM.mono ?_
            rintro e w5 ⟨rfl, g5⟩
            have q5 := q4.then g5
            clear cM e0 e1 e2 n8 q4 g5
            go_wp2_with fail
            have cM := may_any true none 0 0 none 0 0 [] [] w5 rd_none rfl rfl
            rw [show mayB [] [] = false by decide +kernel] at cM
            refine cM.mono ?_
            rintro e w6 ⟨rfl, g6⟩
            have q6 := q5.then g6
            clear cM q5 g6
            go_wp2_with fail
            have gA := (Chg.alloc [] w6 (.cells #[.int .u64 1, .int .u64 1] 40)).then (Chg.alloc [] _ (.cells #[.int .u64 1, .int .u64 1] 40))
            have cM := may_any false _ 2 2 _ 2 2 [1, 1] [1, 1] _ (rd_two w6 40 #[.int .u64 1, .int .u64 1] #[.int .u64 1, .int .u64 1] [1, 1] [1, 1] 2 2 rfl rfl rfl rfl (by decide) (by decide)) rfl rfl
            rw [show mayB [1, 1] [1, 1] = false by decide +kernel] at cM
            refine cM.mono ?_
            rintro e w7 ⟨rfl, g7⟩
            have q7 := (q6.then gA).then g7
            clear cM q6 g7 gA
            go_wp2_with fail
            have gA := (Chg.alloc [] w7 (.cells #[.int .u64 1] 40)).then (Chg.alloc [] _ (.cells #[.int .u64 0] 40))
            have cM := may_any false _ 1 1 _ 1 1 [1] [0] _ (rd_two w7 40 #[.int .u64 1] #[.int .u64 0] [1] [0] 1 1 rfl rfl rfl rfl (by decide) (by decide)) rfl rfl
            rw [show mayB [1] [0] = false by decide +kernel] at cM
            refine cM.mono ?_
            rintro e w8 ⟨rfl, g8⟩
            have q8 := (q7.then gA).then g8
            clear cM q7 g8 gA
            go_wp2_with fail
            have gA := Chg.alloc [] w8 (.cells #[.int .u64 1] 40)
            have cM := may_any false _ 1 1 none 0 0 [1] [] _ (rd_one w8 40 #[.int .u64 1] [1] 1 rfl rfl (by decide)) rfl rfl
            rw [show mayB [1] [] = false by decide +kernel] at cM
            refine cM.mono ?_
            rintro e w9 ⟨rfl, g9⟩
            have q9 := (q8.then gA).then g9
            clear cM q8 g9 gA
            go_wp2_with fail
            go_ret
            exact ⟨rfl, q9⟩
end Go.Proofs.Ytbopfpdgoalfoaa
