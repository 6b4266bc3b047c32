/- CountsTakes, CountsBack. -/
import Derived.Test.YtkfpkbmkmbnjcaaVq
namespace Go.Proofs.Ytkfpkbmkmbnjcaa
open Go.RowKit
set_option linter.unusedVariables false
set_option linter.unusedSimpArgs false
attribute [local go_sem ↓] Go.wp_at_zero Go.wp_at_succ

/-- From w to w' only what was new at w has turned. -/
def Later (w w' : World) : Prop := ∃ S, Chg S w w' ∧ ∀ k, k ∈ S → w.heap.size ≤ k
theorem Later.of {w w' : World} (g : Chg [] w w') : Later w w' := ⟨[], g, by simp⟩
theorem Later.then {w w1 w2 : World} {S : List Nat} (h : Later w w1) (g : Chg S w1 w2) (hS : ∀ k, k ∈ S → w.heap.size ≤ k) : Later w w2 := by
  obtain ⟨T, h1, h2⟩ := h
  exact ⟨T ++ S, h1.trans g (fun k hk _ => List.mem_append_left _ hk) (fun k hk _ => List.mem_append_right _ hk), fun k hk => (List.mem_append.1 hk).elim (h2 k) (hS k)⟩
theorem Later.chg {w0 w w' : World} (h : Later w w') (g : Chg [] w0 w) : Chg [] w0 w' := by
  obtain ⟨T, h1, h2⟩ := h
  exact g.trans h1 (by simp) (fun k hk hlt => by have := h2 k hk; have := g.size; omega)
theorem Later.pages {w w' : World} {ao : Option Addr} {ps : List (List UInt8)} (h : Later w w') (g : RdPg w ao ps) : RdPg w' ao ps := by
  obtain ⟨T, h1, h2⟩ := h
  exact g.old h1 h2
theorem take_len {ps : List (List UInt8)} {z : Int} : (takeN ps z).2.length ≤ 1024 := by
  unfold takeN
  split
  · simp
  · split
    · simp
    · split
      · simp
      · split
        · split
          · rw [List.length_take]; omega
          · simp
        · simp
theorem byte_at2 {l : List UInt8} {x n : Nat} (hl : l.length = n) (hx : x < n) : ∃ a : UInt8, l[x]? = some a := ⟨_, List.getElem?_eq_getElem (by omega)⟩
set_option maxRecDepth 20000 in
set_option maxHeartbeats 2000000 in
theorem takes_core (a0 : Option Addr) (np ca : Nat) (ps : List (List UInt8)) (z : Int) (w : World) (h : RdPg w a0 ps) (hnp : ps.length = np) (gc : np ≤ ca) (gr : ca * 24 ≤ 140737488351232) :
    Calls Try.prog 4 #[.slice a0 np ca, .int .i64 z] w fun e w' => e = .returned (.bool true) ∧ Chg [] w w' := by
  have HN := mkHid hnp
  have hnb : np ≤ 140737488351232 := by omega
  have cO := own_any a0 np ca ps w h hnp (by omega)
  clear hnp
  go_enter Try.func4, Try.ntmps4
  go_wp2_with fail
  refine cO.mono ?_
  rintro e w1 ⟨ao, cc, rfl, hM, g1⟩
  clear cO
  go_wp2_with fail
  have cT := take_any ao np cc ps z w1 hM HN.out hnb
  have cR := fun (u : World) (hu : RdPg u a0 ps) => rtake_any a0 np ca ps z u hu HN.out hnb
  have hlen := take_len (ps := ps) (z := z)
  generalize takeN ps z = r at *
  obtain ⟨er, out⟩ := r
  simp only at hlen
  refine cT.mono ?_
  rintro e w2 ⟨⟨a, c, rfl, hr⟩, g2⟩
  simp only at hr
  have q2 := g1.then g2
  have hB1 := g1.size
  clear cT
  go_wp2_with fail
  refine (cR w2 (h.keep q2)).mono ?_
  rintro e w3 ⟨⟨a', c', rfl, hr'⟩, g3⟩
  simp only at hr'
  have q3 := q2.then g3
  have hM3 : Later w1 w3 := Later.of (g2.then g3)
  have hr3 := hr.chg g3 (by simp)
  have r1 := run_convert_k (P := Try.prog) w3 22 5 9 Try.underlying22 Try.underlying5 Try.underlying9 a out.length c out hr3.reads rfl
  have r2 := run_convert_k (P := Try.prog) w3 22 5 9 Try.underlying22 Try.underlying5 Try.underlying9 a' out.length c' out hr'.reads rfl
  have v1 : (er == er) = true := by simp
  have hw1 : w1.heap.size ≤ w3.heap.size := Nat.le_trans g2.size g3.size
  clear cR hr hr' q2 q3
  go_wp2_with fail
  clear r1 r2
  go_loopw [11] (fun v wr => ∃ (k : Nat) (xs : List UInt8), v = .int .i64 k ∧ k ≤ out.length ∧ xs.length = out.length ∧ Room wr w1.heap.size a out.length c (bts xs) ∧ Later w1 wr) (fun v _ => out.length - (intOf v).toNat)
  case atStart => exact ⟨0, out, rfl, Nat.zero_le _, rfl, hr3, hM3⟩
  case round =>
    clear hr3 hM3
    obtain ⟨k, xs, rfl, hk, hxl, hR, hL⟩ := hrel
    by_cases hlt : k < out.length
    · have hd : decide (k < out.length) = true := decide_eq_true hlt
      have hd2 : decide ((k : Int) < (out.length : Int)) = true := decide_eq_true (by omega)
      obtain ⟨x, hx⟩ := byte_at2 hxl hlt
      obtain ⟨b, o, rfl, hbB, hs, _⟩ := hR.at_ (by have := hR.le; omega)
      have hcx : wr.cell? ⟨b, o + k, none⟩ = some (.int .u8 (v8 x)) := by
        have hk9 := (List.getElem?_eq_some_iff.1 hx).1
        have := hR.reads.cell k (.int .u8 (v8 x)) (by rw [bts_get8 xs k hk9]; rw [List.getElem?_eq_getElem hk9] at hx; cases hx; rfl)
        exact this
      have hfz := hR.cell k hlt
      have hxor : bits .xor .u8 (v8 x) 1 = v8 (x ^^^ 1) := x8 x 1
      have hset := hR.set k hlt (.int .u8 (v8 (x ^^^ 1)))
      rw [bts_set] at hset
      have gs := Chg.setCell wr ⟨b, o + k, none⟩ (.int .u8 (v8 (x ^^^ 1)))
      have HH := mkHid (And.intro hset (And.intro (hL.then gs (fun y hy => by simp at hy; omega)) hxl))
      clear hset gs hL hR hx hs hxl
      go_wp2_with fail
      obtain ⟨s1, s2, s3⟩ := HH.out
      exact ⟨⟨k + 1, _, by first | rfl | go_num, by omega, by rw [List.length_set]; exact s3, s1, s2⟩, by simp [intOf]; omega⟩
    · have hkn : k = out.length := by omega
      have hd : decide (k < out.length) = false := decide_eq_false hlt
      have hd2 : decide ((k : Int) < (out.length : Int)) = false := decide_eq_false (by omega)
      have cS := rsame_any ao a0 np np cc ca ps ps wr (hL.pages hM) (h.keep (hL.chg g1)) HN.out HN.out (by omega)
      rw [decide_eq_true rfl] at cS
      clear hkn hR
      go_wp2_with fail
      refine cS.mono ?_
      rintro e w5 ⟨rfl, g5⟩
      clear cS
      go_wp2_with fail
      refine (wakes_any w5).mono ?_
      rintro e w6 ⟨rfl, g6⟩
      go_wp2_with fail
      go_ret
      exact ⟨ret_bool' (by first | rfl | simp), ((hL.chg g1).then g5).then g6⟩
end Go.Proofs.Ytkfpkbmkmbnjcaa
