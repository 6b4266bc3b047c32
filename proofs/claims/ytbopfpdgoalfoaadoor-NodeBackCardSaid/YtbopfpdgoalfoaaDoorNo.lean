/- Package node: reader.number, and the closure of taken. (Written by mkNo.py.) -/
import Derived.Test.YtbopfpdgoalfoaaDoorNn
namespace Go.Proofs.YtbopfpdgoalfoaaDoor
open Go.RowKit
set_option linter.unusedVariables false
set_option linter.unusedSimpArgs false
attribute [local go_sem ↓] Go.wp_at_zero Go.wp_at_succ

/-- The reader in block rb: what is left, and its error. -/
structure Rdr (w : World) (rb : Nat) (ao : Option Addr) (n c : Nat) (l : List UInt8) (e : Int) : Prop where
  c0 : w.cell? ⟨rb, 0, none⟩ = some (.slice ao n c)
  c1 : w.cell? ⟨rb, 1, none⟩ = some (.int .i64 e)
  f0 : w.frozen? ⟨rb, 0, none⟩ = false
  f1 : w.frozen? ⟨rb, 1, none⟩ = false
  rd : Reads w ao (bts l)
  ln : l.length = n
  le : n ≤ c
  mx : c ≤ maxLen
  ap : 0 < n → ∀ k, k ∈ blk ao → k ≠ rb
theorem Rdr.keep {w w' : World} {rb : Nat} {ao : Option Addr} {n c : Nat} {l : List UInt8} {e : Int} {S : List Nat} (h : Rdr w rb ao n c l e) (g : Chg S w w') (hs : rb ∉ S) (ha : 0 < n → ∀ k, k ∈ blk ao → k ∉ S) : Rdr w' rb ao n c l e :=
  ⟨g.cellv h.c0 hs, g.cellv h.c1 hs, (g.frozen (block_lt_of_cell h.c0) hs).trans h.f0, (g.frozen (block_lt_of_cell h.c1) hs).trans h.f1, h.rd.chg0 g (fun hp => ha (by rw [bts_length, h.ln] at hp; exact hp)), h.ln, h.le, h.mx, h.ap⟩
theorem Rdr.err {w : World} {rb : Nat} {ao : Option Addr} {n c : Nat} {l : List UInt8} {e : Int} (h : Rdr w rb ao n c l e) (e' : Int) : Rdr (w.setCell ⟨rb, 1, none⟩ (.int .i64 e')) rb ao n c l e' := by
  have g := Chg.setCell w ⟨rb, 1, none⟩ (.int .i64 e')
  refine ⟨?_, ?_, ?_, ?_, h.rd.chg0 g (fun hp => by simpa using h.ap (by rw [bts_length, h.ln] at hp; exact hp)), h.ln, h.le, h.mx, h.ap⟩
  · rw [World.cell?_setCell_other _ _ _ _ (by simp)]; exact h.c0
  · exact World.cell?_setCell_same _ _ _ h.c1
  · rw [World.frozen?_setCell]; exact h.f0
  · rw [World.frozen?_setCell]; exact h.f1
theorem Rdr.next {w : World} {rb : Nat} {ao : Option Addr} {n c : Nat} {l : List UInt8} {e : Int} (h : Rdr w rb ao n c l e) (s : Nat) (hs : s ≤ n) : Rdr (w.setCell ⟨rb, 0, none⟩ (.slice (cut ao c s) (n - s) (c - s))) rb (cut ao c s) (n - s) (c - s) (l.drop s) e := by
  have g := Chg.setCell w ⟨rb, 0, none⟩ (.slice (cut ao c s) (n - s) (c - s))
  have hle := h.le
  have hmx := h.mx
  refine ⟨World.cell?_setCell_same _ _ _ h.c0, ?_, ?_, ?_, ?_, by rw [List.length_drop, h.ln], by omega, by omega, fun hp k hk => h.ap (by omega) k (by rwa [blk_cut] at hk)⟩
  · rw [World.cell?_setCell_other _ _ _ _ (by simp)]; exact h.c1
  · rw [World.frozen?_setCell]; exact h.f0
  · rw [World.frozen?_setCell]; exact h.f1
  · have h1 := h.rd.chg0 g (fun hp => by simpa using h.ap (by rw [bts_length, h.ln] at hp; exact hp))
    have h2 := h1.cut c s (by rw [bts_length, h.ln]; exact h.le)
    have e2 : bts (l.drop s) = (bts l).drop s := by simp [bts, List.map_drop]
    rw [e2]
    exact h2
/-- What number answers, and leaves: the number, what is left, the error. -/
def numN (f : Nat → Bool) (s : Nat) (l : List UInt8) (e : Int) : Nat × List UInt8 × Int :=
  if e ≠ 0 then (0, l, e) else if l.length < s then (0, l, 4) else if f (val (l.take s)) = true then (val (l.take s), l.drop s, 0) else (0, l, 5)
theorem numN_err {f : Nat → Bool} {s : Nat} {l : List UInt8} {e : Int} (h : e ≠ 0) : numN f s l e = (0, l, e) := if_pos h
theorem numN_short {f : Nat → Bool} {s : Nat} {l : List UInt8} (h : l.length < s) : numN f s l 0 = (0, l, 4) := by unfold numN; rw [if_neg (by simp), if_pos h]
theorem numN_yes {f : Nat → Bool} {s : Nat} {l : List UInt8} (h : ¬ l.length < s) (hf : f (val (l.take s)) = true) : numN f s l 0 = (val (l.take s), l.drop s, 0) := by unfold numN; rw [if_neg (by simp), if_neg h, if_pos hf]
theorem numN_no {f : Nat → Bool} {s : Nat} {l : List UInt8} (h : ¬ l.length < s) (hf : f (val (l.take s)) = false) : numN f s l 0 = (0, l, 5) := by unfold numN; rw [if_neg (by simp), if_neg h, if_neg (by simp [hf])]
/-- What a call of number makes. -/
def NumPost (w : World) (rb : Nat) (ao0 : Option Addr) (n0 : Nat) (r : Nat × List UInt8 × Int) (e : Ending) (w' : World) : Prop :=
  ∃ ao n c, e = .returned (.int .u64 (r.1 : Int)) ∧ Rdr w' rb ao n c r.2.1 r.2.2 ∧ Chg [rb] w w' ∧ w'.heap.size = w.heap.size ∧ r.1 < 2 ^ 64 ∧ n ≤ n0 ∧ blk ao = blk ao0
theorem ret_u64 {a : Nat} {b : Int} (h : (a : Int) = b) : Ending.returned (Value.int .u64 b) = .returned (.int .u64 (a : Int)) := by rw [h]
section
variable {w : World} {rb : Nat} {ao : Option Addr} {n c : Nat} {l : List UInt8} {er : Int} (h : Rdr w rb ao n c l er) (s : Nat) (h1 : 1 ≤ s) (h8 : s ≤ 8)
include h
theorem number_err (hne : er ≠ 0) (z : Int) (v : Value) : Calls Tryd.prog 14 #[.pointer (some ⟨rb, 0, none⟩), .int .i64 z, v] w fun e w' => e = .returned (.int .u64 0) ∧ w = w' := by
  have c1 := h.c1
  have d1 : (er != 0) = true := by simp; exact hne
  go_enter Tryd.func14, Tryd.ntmps14
  go_wp2
  go_ret
  exact ⟨rfl, rfl⟩
include h1 h8
theorem number_short (he : er = 0) (hl : n < s) (v : Value) : Calls Tryd.prog 14 #[.pointer (some ⟨rb, 0, none⟩), .int .i64 (s : Int), v] w fun e w' => e = .returned (.int .u64 0) ∧ w' = w.setCell ⟨rb, 1, none⟩ (.int .i64 4) := by
  subst he
  have c1 := h.c1
  have c0 := h.c0
  have f1 := h.f1
  have cG := get_short ao n c s w h1 h8 hl
  go_enter Tryd.func14, Tryd.ntmps14
  go_wp2_with (first | (go_at_call 31; refine cG.mono ?_; rintro e w' ⟨rfl, rfl⟩))
  go_ret
  exact ⟨rfl, rfl⟩

theorem number_known_no (he : er = 0) (hl : ¬ n < s) (hf : knownB (val (l.take s)) = false) : Calls Tryd.prog 14 #[.pointer (some ⟨rb, 0, none⟩), .int .i64 (s : Int), .func (.func 29) #[] #[]] w fun e w' => e = .returned (.int .u64 0) ∧ w' = w.setCell ⟨rb, 1, none⟩ (.int .i64 5) := by
  subst he
  have c1 := h.c1
  have c0 := h.c0
  have f1 := h.f1
  have cG := get_yes ao n c l s w h.rd h.ln h.le h.mx h1 h8 (by omega)
  have cF := known_any (val (l.take s)) w
  rw [hf] at cF
  unfold GetPost at cG
  generalize val (l.take s) = x at *
  clear hf
  go_enter Tryd.func14, Tryd.ntmps14
  go_wp2_with (first | (go_at_call 31; refine cG.mono ?_; rintro e w' ⟨rfl, rfl⟩) | (go_at_call 29; refine cF.mono ?_; rintro e w' ⟨rfl, rfl⟩))
  go_ret
  exact ⟨rfl, rfl⟩
theorem number_known_yes (he : er = 0) (hl : ¬ n < s) (hf : knownB (val (l.take s)) = true) : Calls Tryd.prog 14 #[.pointer (some ⟨rb, 0, none⟩), .int .i64 (s : Int), .func (.func 29) #[] #[]] w fun e w' => e = .returned (.int .u64 (val (l.take s) : Int)) ∧ w' = w.setCell ⟨rb, 0, none⟩ (.slice (cut ao c s) (n - s) (c - s)) := by
  subst he
  have c1 := h.c1
  have c0 := h.c0
  have f0 := h.f0
  have hle := h.le
  have hmx := h.mx
  unfold maxLen at hmx
  have cG := get_yes ao n c l s w h.rd h.ln h.le h.mx h1 h8 (by omega)
  have hrs : (Instr.slice 25 (.slice ao n c) (some (.int .i64 (s : Int))) none none).run Tryd.prog w = .ok (.slice (cut ao c s) (n - s) (c - s)) w := run_from_k (e := 5) ao n c s Tryd.underlying25 (by kernel_rfl) (by omega) w
  have cF := known_any (val (l.take s)) w
  rw [hf] at cF
  unfold GetPost at cG
  generalize val (l.take s) = x at *
  generalize cut ao c s = ac at *
  clear hf
  go_enter Tryd.func14, Tryd.ntmps14
  go_wp2_with (first | (go_at_call 31; refine cG.mono ?_; rintro e w' ⟨rfl, rfl⟩) | (go_at_call 29; refine cF.mono ?_; rintro e w' ⟨rfl, rfl⟩))
  go_ret
  exact ⟨rfl, rfl⟩
theorem number_known : Calls Tryd.prog 14 #[.pointer (some ⟨rb, 0, none⟩), .int .i64 (s : Int), .func (.func 29) #[] #[]] w (NumPost w rb ao n (numN knownB s l er)) := by
  have hlen := h.ln
  by_cases he : er = 0
  · by_cases hl : n < s
    · refine (number_short h s h1 h8 he hl _).mono ?_
      rintro e w' ⟨rfl, rfl⟩
      rw [he, numN_short (by omega)]
      exact ⟨ao, n, c, rfl, h.err 4, Chg.setCell w ⟨rb, 1, none⟩ _, by simp, by show (0 : Nat) < 2 ^ 64; decide, Nat.le_refl _, rfl⟩
    · have hx : val (l.take s) < 2 ^ 64 := Nat.lt_of_lt_of_le (val_lt _) (by
        have h9 : (l.take s).length ≤ 8 := by rw [List.length_take]; omega
        exact Nat.le_trans (Nat.pow_le_pow_right (by decide) h9) (by decide))
      cases hf : knownB (val (l.take s)) with
      | false =>
        refine (number_known_no h s h1 h8 he hl hf).mono ?_
        rintro e w' ⟨rfl, rfl⟩
        rw [he, numN_no (by omega) hf]
        exact ⟨ao, n, c, rfl, h.err 5, Chg.setCell w ⟨rb, 1, none⟩ _, by simp, by show (0 : Nat) < 2 ^ 64; decide, Nat.le_refl _, rfl⟩
      | true =>
        refine (number_known_yes h s h1 h8 he hl hf).mono ?_
        rintro e w' ⟨rfl, rfl⟩
        rw [he, numN_yes (by omega) hf]
        subst he
        exact ⟨_, _, _, rfl, h.next s (by omega), Chg.setCell w ⟨rb, 0, none⟩ _, by simp, hx, Nat.sub_le _ _, blk_cut _ _ _⟩
  · refine (number_err h he _ _).mono ?_
    rintro e w' ⟨rfl, rfl⟩
    rw [numN_err he]
    exact ⟨ao, n, c, rfl, h, Chg.refl _ _, rfl, by show (0 : Nat) < 2 ^ 64; decide, Nat.le_refl _, rfl⟩

theorem number_few_no (he : er = 0) (hl : ¬ n < s) (hf : fewB (val (l.take s)) = false) : Calls Tryd.prog 14 #[.pointer (some ⟨rb, 0, none⟩), .int .i64 (s : Int), .func (.func 16) #[] #[]] w fun e w' => e = .returned (.int .u64 0) ∧ w' = w.setCell ⟨rb, 1, none⟩ (.int .i64 5) := by
  subst he
  have c1 := h.c1
  have c0 := h.c0
  have f1 := h.f1
  have cG := get_yes ao n c l s w h.rd h.ln h.le h.mx h1 h8 (by omega)
  have cF := few_any (val (l.take s)) w
  rw [hf] at cF
  unfold GetPost at cG
  generalize val (l.take s) = x at *
  clear hf
  go_enter Tryd.func14, Tryd.ntmps14
  go_wp2_with (first | (go_at_call 31; refine cG.mono ?_; rintro e w' ⟨rfl, rfl⟩) | (go_at_call 16; refine cF.mono ?_; rintro e w' ⟨rfl, rfl⟩))
  go_ret
  exact ⟨rfl, rfl⟩
theorem number_few_yes (he : er = 0) (hl : ¬ n < s) (hf : fewB (val (l.take s)) = true) : Calls Tryd.prog 14 #[.pointer (some ⟨rb, 0, none⟩), .int .i64 (s : Int), .func (.func 16) #[] #[]] w fun e w' => e = .returned (.int .u64 (val (l.take s) : Int)) ∧ w' = w.setCell ⟨rb, 0, none⟩ (.slice (cut ao c s) (n - s) (c - s)) := by
  subst he
  have c1 := h.c1
  have c0 := h.c0
  have f0 := h.f0
  have hle := h.le
  have hmx := h.mx
  unfold maxLen at hmx
  have cG := get_yes ao n c l s w h.rd h.ln h.le h.mx h1 h8 (by omega)
  have hrs : (Instr.slice 25 (.slice ao n c) (some (.int .i64 (s : Int))) none none).run Tryd.prog w = .ok (.slice (cut ao c s) (n - s) (c - s)) w := run_from_k (e := 5) ao n c s Tryd.underlying25 (by kernel_rfl) (by omega) w
  have cF := few_any (val (l.take s)) w
  rw [hf] at cF
  unfold GetPost at cG
  generalize val (l.take s) = x at *
  generalize cut ao c s = ac at *
  clear hf
  go_enter Tryd.func14, Tryd.ntmps14
  go_wp2_with (first | (go_at_call 31; refine cG.mono ?_; rintro e w' ⟨rfl, rfl⟩) | (go_at_call 16; refine cF.mono ?_; rintro e w' ⟨rfl, rfl⟩))
  go_ret
  exact ⟨rfl, rfl⟩
theorem number_few : Calls Tryd.prog 14 #[.pointer (some ⟨rb, 0, none⟩), .int .i64 (s : Int), .func (.func 16) #[] #[]] w (NumPost w rb ao n (numN fewB s l er)) := by
  have hlen := h.ln
  by_cases he : er = 0
  · by_cases hl : n < s
    · refine (number_short h s h1 h8 he hl _).mono ?_
      rintro e w' ⟨rfl, rfl⟩
      rw [he, numN_short (by omega)]
      exact ⟨ao, n, c, rfl, h.err 4, Chg.setCell w ⟨rb, 1, none⟩ _, by simp, by show (0 : Nat) < 2 ^ 64; decide, Nat.le_refl _, rfl⟩
    · have hx : val (l.take s) < 2 ^ 64 := Nat.lt_of_lt_of_le (val_lt _) (by
        have h9 : (l.take s).length ≤ 8 := by rw [List.length_take]; omega
        exact Nat.le_trans (Nat.pow_le_pow_right (by decide) h9) (by decide))
      cases hf : fewB (val (l.take s)) with
      | false =>
        refine (number_few_no h s h1 h8 he hl hf).mono ?_
        rintro e w' ⟨rfl, rfl⟩
        rw [he, numN_no (by omega) hf]
        exact ⟨ao, n, c, rfl, h.err 5, Chg.setCell w ⟨rb, 1, none⟩ _, by simp, by show (0 : Nat) < 2 ^ 64; decide, Nat.le_refl _, rfl⟩
      | true =>
        refine (number_few_yes h s h1 h8 he hl hf).mono ?_
        rintro e w' ⟨rfl, rfl⟩
        rw [he, numN_yes (by omega) hf]
        subst he
        exact ⟨_, _, _, rfl, h.next s (by omega), Chg.setCell w ⟨rb, 0, none⟩ _, by simp, hx, Nat.sub_le _ _, blk_cut _ _ _⟩
  · refine (number_err h he _ _).mono ?_
    rintro e w' ⟨rfl, rfl⟩
    rw [numN_err he]
    exact ⟨ao, n, c, rfl, h, Chg.refl _ _, rfl, by show (0 : Nat) < 2 ^ 64; decide, Nat.le_refl _, rfl⟩

theorem number_points_no (he : er = 0) (hl : ¬ n < s) (hf : pointsB (val (l.take s)) = false) : Calls Tryd.prog 14 #[.pointer (some ⟨rb, 0, none⟩), .int .i64 (s : Int), .func (.func 18) #[] #[]] w fun e w' => e = .returned (.int .u64 0) ∧ w' = w.setCell ⟨rb, 1, none⟩ (.int .i64 5) := by
  subst he
  have c1 := h.c1
  have c0 := h.c0
  have f1 := h.f1
  have cG := get_yes ao n c l s w h.rd h.ln h.le h.mx h1 h8 (by omega)
  have cF := points_any (val (l.take s)) w
  rw [hf] at cF
  unfold GetPost at cG
  generalize val (l.take s) = x at *
  clear hf
  go_enter Tryd.func14, Tryd.ntmps14
  go_wp2_with (first | (go_at_call 31; refine cG.mono ?_; rintro e w' ⟨rfl, rfl⟩) | (go_at_call 18; refine cF.mono ?_; rintro e w' ⟨rfl, rfl⟩))
  go_ret
  exact ⟨rfl, rfl⟩
theorem number_points_yes (he : er = 0) (hl : ¬ n < s) (hf : pointsB (val (l.take s)) = true) : Calls Tryd.prog 14 #[.pointer (some ⟨rb, 0, none⟩), .int .i64 (s : Int), .func (.func 18) #[] #[]] w fun e w' => e = .returned (.int .u64 (val (l.take s) : Int)) ∧ w' = w.setCell ⟨rb, 0, none⟩ (.slice (cut ao c s) (n - s) (c - s)) := by
  subst he
  have c1 := h.c1
  have c0 := h.c0
  have f0 := h.f0
  have hle := h.le
  have hmx := h.mx
  unfold maxLen at hmx
  have cG := get_yes ao n c l s w h.rd h.ln h.le h.mx h1 h8 (by omega)
  have hrs : (Instr.slice 25 (.slice ao n c) (some (.int .i64 (s : Int))) none none).run Tryd.prog w = .ok (.slice (cut ao c s) (n - s) (c - s)) w := run_from_k (e := 5) ao n c s Tryd.underlying25 (by kernel_rfl) (by omega) w
  have cF := points_any (val (l.take s)) w
  rw [hf] at cF
  unfold GetPost at cG
  generalize val (l.take s) = x at *
  generalize cut ao c s = ac at *
  clear hf
  go_enter Tryd.func14, Tryd.ntmps14
  go_wp2_with (first | (go_at_call 31; refine cG.mono ?_; rintro e w' ⟨rfl, rfl⟩) | (go_at_call 18; refine cF.mono ?_; rintro e w' ⟨rfl, rfl⟩))
  go_ret
  exact ⟨rfl, rfl⟩
theorem number_points : Calls Tryd.prog 14 #[.pointer (some ⟨rb, 0, none⟩), .int .i64 (s : Int), .func (.func 18) #[] #[]] w (NumPost w rb ao n (numN pointsB s l er)) := by
  have hlen := h.ln
  by_cases he : er = 0
  · by_cases hl : n < s
    · refine (number_short h s h1 h8 he hl _).mono ?_
      rintro e w' ⟨rfl, rfl⟩
      rw [he, numN_short (by omega)]
      exact ⟨ao, n, c, rfl, h.err 4, Chg.setCell w ⟨rb, 1, none⟩ _, by simp, by show (0 : Nat) < 2 ^ 64; decide, Nat.le_refl _, rfl⟩
    · have hx : val (l.take s) < 2 ^ 64 := Nat.lt_of_lt_of_le (val_lt _) (by
        have h9 : (l.take s).length ≤ 8 := by rw [List.length_take]; omega
        exact Nat.le_trans (Nat.pow_le_pow_right (by decide) h9) (by decide))
      cases hf : pointsB (val (l.take s)) with
      | false =>
        refine (number_points_no h s h1 h8 he hl hf).mono ?_
        rintro e w' ⟨rfl, rfl⟩
        rw [he, numN_no (by omega) hf]
        exact ⟨ao, n, c, rfl, h.err 5, Chg.setCell w ⟨rb, 1, none⟩ _, by simp, by show (0 : Nat) < 2 ^ 64; decide, Nat.le_refl _, rfl⟩
      | true =>
        refine (number_points_yes h s h1 h8 he hl hf).mono ?_
        rintro e w' ⟨rfl, rfl⟩
        rw [he, numN_yes (by omega) hf]
        subst he
        exact ⟨_, _, _, rfl, h.next s (by omega), Chg.setCell w ⟨rb, 0, none⟩ _, by simp, hx, Nat.sub_le _ _, blk_cut _ _ _⟩
  · refine (number_err h he _ _).mono ?_
    rintro e w' ⟨rfl, rfl⟩
    rw [numN_err he]
    exact ⟨ao, n, c, rfl, h, Chg.refl _ _, rfl, by show (0 : Nat) < 2 ^ 64; decide, Nat.le_refl _, rfl⟩
omit h h1 h8
theorem above_any (w : World) (nb : Nat) (ka : Option Addr) (kl kc : Nat) (K : List Nat) (x : Nat) (c1 : w.cell? ⟨nb, 1, none⟩ = some (.slice ka kl kc)) (hr : Reads w ka (uvs K)) (hl : K.length = kl) (hc : kl ≤ kc) (hm : kc ≤ maxLen) : Calls Tryd.prog 30 #[.int .u64 (x : Int), .pointer (some ⟨nb, 0, none⟩)] w fun e w' => e = .returned (.bool (!lowK K x)) ∧ w = w' := by
  have cR := rises_any ka kl kc K x w hr hl hc hm
  go_enter Tryd.func30, Tryd.ntmps30
  go_wp2_with (first | (go_at_call 17; refine cR.mono ?_; rintro e w' ⟨rfl, rfl⟩))
  go_ret
  exact ⟨rfl, rfl⟩

include h h1 h8 in
theorem number_above_no (he : er = 0) (hl : ¬ n < s) {nb : Nat} {ka : Option Addr} {kl kc : Nat} {K : List Nat} (k1 : w.cell? ⟨nb, 1, none⟩ = some (.slice ka kl kc)) (hr : Reads w ka (uvs K)) (hkl : K.length = kl) (hkc : kl ≤ kc) (hkm : kc ≤ maxLen) (hf : (!lowK K (val (l.take s))) = false) : Calls Tryd.prog 14 #[.pointer (some ⟨rb, 0, none⟩), .int .i64 (s : Int), .func (.func 30) #[] #[.pointer (some ⟨nb, 0, none⟩)]] w fun e w' => e = .returned (.int .u64 0) ∧ w' = w.setCell ⟨rb, 1, none⟩ (.int .i64 5) := by
  subst he
  have c1 := h.c1
  have c0 := h.c0
  have f1 := h.f1
  have cG := get_yes ao n c l s w h.rd h.ln h.le h.mx h1 h8 (by omega)
  have cF := above_any w nb ka kl kc K (val (l.take s)) k1 hr hkl hkc hkm
  rw [hf] at cF
  unfold GetPost at cG
  generalize val (l.take s) = x at *
  clear hf
  go_enter Tryd.func14, Tryd.ntmps14
  go_wp2_with (first | (go_at_call 31; refine cG.mono ?_; rintro e w' ⟨rfl, rfl⟩) | (go_at_call 30; refine cF.mono ?_; rintro e w' ⟨rfl, rfl⟩))
  go_ret
  exact ⟨rfl, rfl⟩
include h h1 h8 in
theorem number_above_yes (he : er = 0) (hl : ¬ n < s) {nb : Nat} {ka : Option Addr} {kl kc : Nat} {K : List Nat} (k1 : w.cell? ⟨nb, 1, none⟩ = some (.slice ka kl kc)) (hr : Reads w ka (uvs K)) (hkl : K.length = kl) (hkc : kl ≤ kc) (hkm : kc ≤ maxLen) (hf : (!lowK K (val (l.take s))) = true) : Calls Tryd.prog 14 #[.pointer (some ⟨rb, 0, none⟩), .int .i64 (s : Int), .func (.func 30) #[] #[.pointer (some ⟨nb, 0, none⟩)]] w fun e w' => e = .returned (.int .u64 (val (l.take s) : Int)) ∧ w' = w.setCell ⟨rb, 0, none⟩ (.slice (cut ao c s) (n - s) (c - s)) := by
  subst he
  have c1 := h.c1
  have c0 := h.c0
  have f0 := h.f0
  have hle := h.le
  have hmx := h.mx
  unfold maxLen at hmx
  have cG := get_yes ao n c l s w h.rd h.ln h.le h.mx h1 h8 (by omega)
  have hrs : (Instr.slice 25 (.slice ao n c) (some (.int .i64 (s : Int))) none none).run Tryd.prog w = .ok (.slice (cut ao c s) (n - s) (c - s)) w := run_from_k (e := 5) ao n c s Tryd.underlying25 (by kernel_rfl) (by omega) w
  have cF := above_any w nb ka kl kc K (val (l.take s)) k1 hr hkl hkc hkm
  rw [hf] at cF
  unfold GetPost at cG
  generalize val (l.take s) = x at *
  generalize cut ao c s = ac at *
  clear hf
  go_enter Tryd.func14, Tryd.ntmps14
  go_wp2_with (first | (go_at_call 31; refine cG.mono ?_; rintro e w' ⟨rfl, rfl⟩) | (go_at_call 30; refine cF.mono ?_; rintro e w' ⟨rfl, rfl⟩))
  go_ret
  exact ⟨rfl, rfl⟩
include h h1 h8 in
theorem number_above {nb : Nat} {ka : Option Addr} {kl kc : Nat} {K : List Nat} (k1 : w.cell? ⟨nb, 1, none⟩ = some (.slice ka kl kc)) (hr : Reads w ka (uvs K)) (hkl : K.length = kl) (hkc : kl ≤ kc) (hkm : kc ≤ maxLen) : Calls Tryd.prog 14 #[.pointer (some ⟨rb, 0, none⟩), .int .i64 (s : Int), .func (.func 30) #[] #[.pointer (some ⟨nb, 0, none⟩)]] w (NumPost w rb ao n (numN (fun x => !lowK K x) s l er)) := by
  have hlen := h.ln
  by_cases he : er = 0
  · by_cases hl : n < s
    · refine (number_short h s h1 h8 he hl _).mono ?_
      rintro e w' ⟨rfl, rfl⟩
      rw [he, numN_short (by omega)]
      exact ⟨ao, n, c, rfl, h.err 4, Chg.setCell w ⟨rb, 1, none⟩ _, by simp, by show (0 : Nat) < 2 ^ 64; decide, Nat.le_refl _, rfl⟩
    · have hx : val (l.take s) < 2 ^ 64 := Nat.lt_of_lt_of_le (val_lt _) (by
        have h9 : (l.take s).length ≤ 8 := by rw [List.length_take]; omega
        exact Nat.le_trans (Nat.pow_le_pow_right (by decide) h9) (by decide))
      cases hf : (fun x => !lowK K x) (val (l.take s)) with
      | false =>
        refine (number_above_no h s h1 h8 he hl k1 hr hkl hkc hkm hf).mono ?_
        rintro e w' ⟨rfl, rfl⟩
        rw [he, numN_no (by omega) hf]
        exact ⟨ao, n, c, rfl, h.err 5, Chg.setCell w ⟨rb, 1, none⟩ _, by simp, by show (0 : Nat) < 2 ^ 64; decide, Nat.le_refl _, rfl⟩
      | true =>
        refine (number_above_yes h s h1 h8 he hl k1 hr hkl hkc hkm hf).mono ?_
        rintro e w' ⟨rfl, rfl⟩
        rw [he, numN_yes (by omega) hf]
        subst he
        exact ⟨_, _, _, rfl, h.next s (by omega), Chg.setCell w ⟨rb, 0, none⟩ _, by simp, hx, Nat.sub_le _ _, blk_cut _ _ _⟩
  · refine (number_err h he _ _).mono ?_
    rintro e w' ⟨rfl, rfl⟩
    rw [numN_err he]
    exact ⟨ao, n, c, rfl, h, Chg.refl _ _, rfl, by show (0 : Nat) < 2 ^ 64; decide, Nat.le_refl _, rfl⟩
end
end Go.Proofs.YtbopfpdgoalfoaaDoor
