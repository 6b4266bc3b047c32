/- Refs in memory: the counts, those of the commit, the space; the calls that only read. -/
import Derived.Test.YtppjjlooocigdaaPi
import Derived.Test.YtppjjlooocigdaaT
namespace Go.Proofs.Ytppjjlooocigdaa
open Go.RowKit
set_option linter.unusedVariables false
set_option linter.unusedSimpArgs false
attribute [local go_sem ↓] Go.wp_at_zero Go.wp_at_succ

/-- Which blocks are free: those whose count is 0, and that of the commit, too. -/
def freeI (N C : List UInt8) : List Bool := List.zipWith (fun a b => a == 0 && b == 0) N C
theorem freeI_len {N C : List UInt8} {n : Nat} (h : N.length = n) (g : C.length = n) : (freeI N C).length = n := by simp [freeI, h, g]
theorem freeI_get {N C : List UInt8} {j : Nat} {a b : UInt8} (h : N[j]? = some a) (g : C[j]? = some b) : (freeI N C)[j]? = some (a == 0 && b == 0) := by
  simp [freeI, List.getElem?_zipWith, h, g]
theorem freeI_true {N C : List UInt8} {j : Nat} : (freeI N C)[j]? = some true ↔ N[j]? = some 0 ∧ C[j]? = some 0 := by
  unfold freeI
  rw [List.getElem?_zipWith]
  cases hN : N[j]? with
  | none => simp
  | some a => cases hC : C[j]? with
    | none => simp
    | some b => simp
theorem freeI_comm (N C : List UInt8) : freeI N C = freeI C N := by
  unfold freeI
  rw [List.zipWith_comm]
  congr 1
  funext a b
  rw [Bool.and_comm]
theorem freeI_self (N : List UInt8) : freeI N N = N.map (fun a => a == 0) := by
  unfold freeI
  rw [List.zipWith_self]
  congr 1
  funext a
  simp
theorem bool_set_same {l : List Bool} {j : Nat} {b : Bool} (h : l[j]? = some b) : l.set j b = l := by
  apply List.ext_getElem?
  intro i
  by_cases e : i = j
  · subst e; rw [List.getElem?_set_self (List.getElem?_eq_some_iff.1 h).1, h]
  · rw [List.getElem?_set_ne (fun h => e h.symm)]
theorem freeI_set {N C : List UInt8} {j : Nat} {a b : UInt8} (hN : N[j]? = some a) (hC : C[j]? = some b) (v : UInt8) : freeI (N.set j v) C = (freeI N C).set j (v == 0 && b == 0) := by
  have h1 := (List.getElem?_eq_some_iff.1 hN).1
  have h2 := (List.getElem?_eq_some_iff.1 hC).1
  apply List.ext_getElem?
  intro i
  by_cases e : i = j
  · subst e
    rw [List.getElem?_set_self (by simp [freeI]; omega)]
    exact freeI_get (List.getElem?_set_self h1) hC
  · rw [List.getElem?_set_ne (fun h => e h.symm)]
    unfold freeI
    rw [List.getElem?_zipWith, List.getElem?_zipWith, List.getElem?_set_ne (fun h => e h.symm)]

/-! ### what the calls do to the counts -/
def allocN (N C : List UInt8) : Int × Int × List UInt8 := match freeL (freeI N C) with
  | [] => (0, 8, N)
  | x :: _ => ((x : Int), 0, N.set x 1)
def isIn (N : List UInt8) (z : Int) : Bool := decide (0 ≤ z ∧ z < (N.length : Int))
def at0 (N : List UInt8) (z : Int) : UInt8 := (N[z.toNat]?).getD 0
def incN (N : List UInt8) (z : Int) : Int × List UInt8 := if isIn N z then (if at0 N z = 0 then (6, N) else if at0 N z = 255 then (8, N) else (0, N.set z.toNat (at0 N z + 1))) else (1, N)
def decN (N : List UInt8) (z : Int) : Bool × Int × List UInt8 := if isIn N z then (if at0 N z = 0 then (false, 6, N) else (decide (at0 N z = 1), 0, N.set z.toNat (at0 N z - 1))) else (false, 1, N)
def cntN (N : List UInt8) (z : Int) : Int := if isIn N z then ((at0 N z).toNat : Int) else 0
def newN (N C : List UInt8) (z : Int) : Bool := isIn N z && (at0 N z != 0 && at0 C z == 0)
theorem isIn_yes {N : List UInt8} {x n : Nat} (hn : N.length = n) (h : x < n) : isIn N (x : Int) = true := by unfold isIn; simp; omega
theorem isIn_no {N : List UInt8} {z : Int} {n : Nat} (hn : N.length = n) (h : ¬ (0 ≤ z ∧ z < (n : Int))) : isIn N z = false := by unfold isIn; rw [hn]; exact decide_eq_false h
theorem at0_of {N : List UInt8} {x : Nat} {a : UInt8} (h : N[x]? = some a) : at0 N (x : Int) = a := by simp [at0, h]
theorem u8_nat {a : UInt8} {m : Nat} (h : a.toNat = m) (b : UInt8) : (a = b) ↔ m = b.toNat := by
  rw [← h]; exact ⟨fun e => by rw [e], fun e => UInt8.toNat_inj.1 e⟩
theorem allocN_len (N C : List UInt8) : (allocN N C).2.2.length = N.length := by unfold allocN; split <;> simp
theorem incN_len (N : List UInt8) (z : Int) : (incN N z).2.length = N.length := by unfold incN; split <;> (try split) <;> (try split) <;> simp
theorem decN_len (N : List UInt8) (z : Int) : (decN N z).2.2.length = N.length := by unfold decN; split <;> (try split) <;> simp
theorem take_alloc {N C : List UInt8} (h : C.length = N.length) : takeN (freeI N C) = ((allocN N C).1, (allocN N C).2.1, freeI (allocN N C).2.2 C) := by
  unfold takeN allocN
  cases hf : freeL (freeI N C) with
  | nil => rfl
  | cons x r =>
    have hx := (mem_freeL _ x).1 (by rw [hf]; simp)
    obtain ⟨h1, h2⟩ := freeI_true.1 hx
    show ((x : Int), 0, (freeI N C).set x false) = ((x : Int), 0, freeI (N.set x 1) C)
    rw [freeI_set h1 h2]
    rfl

/-- Refs in block rb: the counts in block nb, those of the commit in block cb, the space in block sb, its blocks Fs. -/
structure RfsAt (w : World) (B rb nb cb sb : Nat) (Fs : List Nat) (n : Nat) (N C : List UInt8) : Prop where
  c0 : w.cell? ⟨rb, 0, none⟩ = some (.slice (some ⟨nb, 0, none⟩) n n)
  c1 : w.cell? ⟨rb, 1, none⟩ = some (.slice (some ⟨cb, 0, none⟩) n n)
  c2 : w.cell? ⟨rb, 2, none⟩ = some (.pointer (some ⟨sb, 0, none⟩))
  fz : ∀ j, w.frozen? ⟨rb, j, none⟩ = false
  rn : Room w B (some ⟨nb, 0, none⟩) n n (bts N)
  rc : Room w B (some ⟨cb, 0, none⟩) n n (bts C)
  sp : SpAt w B sb Fs (freeI N C)
  n0 : 0 < n
  nn : n ≤ 1024
  rB : B ≤ rb
  d1 : rb ≠ nb
  d2 : rb ≠ cb
  d3 : nb ≠ cb
  d4 : rb ∉ Fs
  d5 : nb ∉ Fs
  d6 : cb ∉ Fs
section
variable {w w' : World} {B rb nb cb sb : Nat} {Fs : List Nat} {n : Nat} {N C : List UInt8}
theorem RfsAt.lN (h : RfsAt w B rb nb cb sb Fs n N C) : N.length = n := by have := h.rn.len; rwa [bts_length] at this
theorem RfsAt.lC (h : RfsAt w B rb nb cb sb Fs n N C) : C.length = n := by have := h.rc.len; rwa [bts_length] at this
theorem RfsAt.ltr (h : RfsAt w B rb nb cb sb Fs n N C) : rb < w.heap.size := block_lt_of_cell h.c0
theorem RfsAt.ltn (h : RfsAt w B rb nb cb sb Fs n N C) : B ≤ nb ∧ nb < w.heap.size := h.rn.lt nb (by rw [fp_some _ _ _ h.n0]; simp)
theorem RfsAt.ltc (h : RfsAt w B rb nb cb sb Fs n N C) : B ≤ cb ∧ cb < w.heap.size := h.rc.lt cb (by rw [fp_some _ _ _ h.n0]; simp)
theorem RfsAt.lt (h : RfsAt w B rb nb cb sb Fs n N C) : ∀ k, k ∈ rb :: nb :: cb :: Fs → B ≤ k ∧ k < w.heap.size := by
  intro k hk
  simp only [List.mem_cons] at hk
  rcases hk with rfl | rfl | rfl | hk
  · exact ⟨h.rB, h.ltr⟩
  · exact h.ltn
  · exact h.ltc
  · exact h.sp.lt k hk
theorem RfsAt.chg {S : List Nat} (h : RfsAt w B rb nb cb sb Fs n N C) (c : Chg S w w') (hn : ∀ k, k ∈ rb :: nb :: cb :: Fs → k ∉ S) : RfsAt w' B rb nb cb sb Fs n N C := by
  have h1 := hn rb (by simp)
  exact ⟨c.cellv h.c0 h1, c.cellv h.c1 h1, c.cellv h.c2 h1, fun j => (c.frozen (p := ⟨rb, j, none⟩) (show rb < w.heap.size from h.ltr) h1).trans (h.fz j),
    h.rn.chg c (fun k hk => by rw [fp_some _ _ _ h.n0] at hk; simp at hk; subst hk; exact hn _ (by simp)), h.rc.chg c (fun k hk => by rw [fp_some _ _ _ h.n0] at hk; simp at hk; subst hk; exact hn _ (by simp)),
    h.sp.chg c (fun k hk => hn k (by simp [hk])), h.n0, h.nn, h.rB, h.d1, h.d2, h.d3, h.d4, h.d5, h.d6⟩
theorem RfsAt.keep (h : RfsAt w B rb nb cb sb Fs n N C) (c : Chg [] w w') : RfsAt w' B rb nb cb sb Fs n N C := h.chg c (by simp)
theorem RfsAt.mono {B' : Nat} (h : RfsAt w B rb nb cb sb Fs n N C) (hB : B' ≤ B) : RfsAt w B' rb nb cb sb Fs n N C :=
  ⟨h.c0, h.c1, h.c2, h.fz, h.rn.mono hB, h.rc.mono hB, h.sp.mono hB, h.n0, h.nn, Nat.le_trans hB h.rB, h.d1, h.d2, h.d3, h.d4, h.d5, h.d6⟩
end
theorem oneB : (Try.prog.info? 5).map (·.size) = some 1 := by kernel_rfl

/-- kept: the same counts, in new memory. -/
theorem kept_any (ao : Option Addr) (n c : Nat) (l : List UInt8) (w : World) (g : Reads w ao (bts l)) (gn : l.length = n) (n0 : 0 < n) (nn : n ≤ 1024) :
    Calls Try.prog 32 #[.slice ao n c] w fun e w' => ∃ b, e = .returned (.slice (some ⟨b, 0, none⟩) n n) ∧ w.heap.size ≤ b ∧ Room w' w.heap.size (some ⟨b, 0, none⟩) n n (bts l) ∧ Chg [] w w' := by
  have hm2 : ∀ u : World, (Instr.makeSlice 22 (.int .i64 (n : Int)) (.int .i64 (n : Int))).run Try.prog u = .ok (.slice (some ⟨u.heap.size, 0, none⟩) n n) (u.alloc (.cells (madeCells #[.int .u8 0] n) 5)) := fun u =>
    run_make_k eltB (.int .u8 0) (by kernel_rfl) rfl n (by omega) (by unfold maxLen; omega) u
  have hR := made_room w 5 (.int .u8 0) n (by unfold maxLen; omega)
  have g2 := g.keep (Chg.alloc [] w (.cells (madeCells #[.int .u8 0] n) 5))
  have hl : (bts l).length = n := by rw [bts_length]; exact gn
  have hth := hR.there 0 n (by omega)
  have hs := hR.sets (bts l) 0 (by omega)
  have hc1 := Chg.alloc [] w (.cells (madeCells #[.int .u8 0] n) 5)
  have hz : w.heap.size < (w.alloc (.cells (madeCells #[.int .u8 0] n) 5)).heap.size := by simp
  have e1 : (List.replicate n (Value.int .u8 0)).take 0 ++ (bts l ++ (List.replicate n (Value.int .u8 0)).drop (0 + (bts l).length)) = bts l := by
    rw [hl]; simp
  rw [e1] at hs
  have hc2 := Chg.setCells w.heap.size (bts l) 0 (w.alloc (.cells (madeCells #[.int .u8 0] n) 5))
  have HL := mkHid hl
  have HE := mkHid e1
  clear hl e1 hR gn
  go_enter Try.func32, Try.ntmps32
  go_wp2_with (refine wpList_copy_k rfl (.tmp 7) (.tmp 8) 22 22 5 rfl Try.underlying22 oneB w.heap.size 0 n n ao n c (bts l) rfl rfl g2 (by rw [HL.out]; exact (Nat.min_self _).symm) (by rw [HL.out]; exact hth) (bts_one _) ?_)
  go_ret
  exact ⟨w.heap.size, rfl, Nat.le_refl _, hs, hc1.trans hc2 (by simp) (fun k hk hlt => by simp at hk; omega)⟩
end Go.Proofs.Ytppjjlooocigdaa
