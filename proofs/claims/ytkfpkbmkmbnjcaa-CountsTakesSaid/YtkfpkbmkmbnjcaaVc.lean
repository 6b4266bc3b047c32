/- The reference: Put. -/
import Derived.Test.YtkfpkbmkmbnjcaaVb
namespace Go.Proofs.Ytkfpkbmkmbnjcaa
open Go.RowKit
set_option linter.unusedVariables false
set_option linter.unusedSimpArgs false
attribute [local go_sem ↓] Go.wp_at_zero Go.wp_at_succ

theorem page_row (w : World) : Room (w.alloc (.cells (madeCells #[.int .u8 0] 240) 5)) w.heap.size (some ⟨w.heap.size, 0, none⟩) 240 240 (bts (List.replicate 240 0)) := by
  have h := made_room w 5 (.int .u8 0) 240 (by decide)
  have e : bts (List.replicate 240 0) = List.replicate 240 (.int .u8 0) := by
    unfold bts
    rw [List.map_replicate]; rfl
  rw [e]
  exact h
theorem byte_at' {l : List UInt8} {x n : Nat} (hl : l.length = n) (hx : x < n) : ∃ a : UInt8, ∃ m : Nat, (bts l)[x]? = some (.int .u8 (m : Int)) ∧ l[x]? = some a := by
  have h : x < l.length := by omega
  exact ⟨l[x], _, bts_get l x h, List.getElem?_eq_getElem h⟩
set_option maxRecDepth 20000 in
set_option maxHeartbeats 2000000 in
theorem rput_any (a0 : Option Addr) (n c : Nat) (L : List UInt8) (w : World) (g0 : Reads w a0 (bts L)) (gn : L.length = n) (hn : n ≤ 140737488351232) : Calls Try.prog 11 #[.slice a0 n c] w fun e w' => ∃ ao cc bs ps, e = .returned (.slice ao ps.length cc) ∧ IsPut L n ps ∧ OPg w' w.heap.size ao cc bs ps ∧ Chg [] w w' := by
  have hmk : ∃ O : Obj, (∀ u : World, (Instr.makeSlice 22 (.int .i64 240) (.int .i64 240)).run Try.prog u = .ok (.slice (some ⟨u.heap.size, 0, none⟩) 240 240) (u.alloc O)) ∧ ∀ u : World, Room (u.alloc O) u.heap.size (some ⟨u.heap.size, 0, none⟩) 240 240 (bts (List.replicate 240 0)) :=
    ⟨_, fun u => run_make_k eltB (.int .u8 0) (by kernel_rfl) rfl 240 (by omega) (by decide) u, page_row⟩
  obtain ⟨O, hm1, hm2⟩ := hmk
  have HM := mkHid hm2
  clear hm2
  generalize hzp : List.replicate 240 (0 : UInt8) = zp at *
  have HZ := mkHid hzp
  clear hzp
  go_enter Try.func11, Try.ntmps11
  go_wp2_with fail
  go_loopw [3, 4] (fun lv iv wr => ∃ (k : Nat) (ao : Option Addr) (cc : Nat) (bs : List Nat) (ps : List (List UInt8)), iv = .int .i64 k ∧ lv = .slice ao ps.length cc ∧ k ≤ n ∧ IsPut L k ps ∧ OPg wr w.heap.size ao cc bs ps ∧ Chg [] w wr) (fun _ iv _ => n - (intOf iv).toNat)
  case atStart => exact ⟨0, none, 0, [], [], rfl, rfl, Nat.zero_le _, IsPut.nil L, OPg.nil _ _, Chg.refl _ _⟩
  case round =>
    obtain ⟨k, ao, cc, bs, ps, rfl, rfl, hk, hP, hO, hg⟩ := hrel
    by_cases hlt : k < n
    · have hd : decide (k < n) = true := decide_eq_true hlt
      have hd2 : decide ((k : Int) < (n : Int)) = true := decide_eq_true (by omega)
      obtain ⟨q, hq⟩ : ∃ q : Nat, k / 240 = q := ⟨_, rfl⟩
      obtain ⟨r, hr⟩ : ∃ r : Nat, k % 240 = r := ⟨_, rfl⟩
      have hnq : (k : Int) / 240 = (q : Int) := by omega
      have hnr : (k : Int) % 240 = (r : Int) := by omega
      have hr240 : r < 240 := by omega
      have hpl : ps.length ≤ n := by rw [hP.1]; exact Nat.le_trans (npg_le k) hk
      obtain ⟨x, hx⟩ : ∃ x, L[k]? = some x := ⟨_, List.getElem?_eq_getElem (by omega)⟩
      have g0r := g0.keep hg
      have hmax : maxLen = 9223372036854775807 := rfl
      have hpl2 : ps.length * 240 ≤ n + 239 := by have := (npg_240 k).1; rw [hP.1]; omega
      go_upto_if 13 with fail
      go_cut [3] (fun lv wx => ∃ (ao : Option Addr) (cc : Nat) (bs : List Nat) (ps : List (List UInt8)) (b : Nat) (p : List UInt8), lv = .slice ao ps.length cc ∧ OPg wx w.heap.size ao cc bs ps ∧ bs[q]? = some b ∧ ps[q]? = some p ∧ IsPut L (k + 1) (ps.set q (p.set r x)) ∧ Chg [] w wx)
      case first =>
        by_cases h0 : r = 0
        · have hP1 := hP.first (by omega) hx
          have hO2 := hO
          have gp : Chg [] wr ((wr.alloc O).alloc (.cells #[pv wr.heap.size] 22)) := (Chg.alloc [] wr _).then (Chg.alloc [] _ _)
          have hxr : Reads ((wr.alloc O).alloc (.cells #[pv wr.heap.size] 22)) (some ⟨wr.heap.size + 1, 0, none⟩) [pv wr.heap.size] := by
            have := Reads.new (wr.alloc O) #[pv wr.heap.size] 22
            rw [show (wr.alloc O).heap.size = wr.heap.size + 1 by simp] at this
            exact this
          have hpr := ((HM.out wr).mono (B' := w.heap.size) hg.size).chg (Chg.alloc [] _ (.cells #[pv wr.heap.size] 22)) (by simp)
          have hlr := hO.r.chg gp (by simp)
          have hbs : w.heap.size ≤ ((wr.alloc O).alloc (.cells #[pv wr.heap.size] 22)).heap.size := (hg.then gp).size
          have u1 : ((r : Int) == 0) = true := by simp; omega
          have u2 : (r == 0) = true := by simp; omega
          have hq2 : q = ps.length := by rw [hP.1]; have := npg_step (k := k) (by omega); omega
          have HH := mkHid (And.intro hP1 (And.intro gp (And.intro hpr hq2)))
          have hr0 := mkHid h0
          clear hP hP1 hO hq hr h0 hq2 gp hpr hx
          go_wp2_with (at_builtin; refine wpList_append_k _ rfl (.tmp 14) (.tmp 16) 23 rfl 22 24 eltP w.heap.size ao ps.length cc (bs.map pv) rfl hlr hbs (some ⟨wr.heap.size + 1, 0, none⟩) 1 1 [pv wr.heap.size] rfl hxr rfl (by intro u hu; simp at hu; subst hu; rfl) (by omega) (by omega) ?_; intro a' c' w' hr' hg' hf')
          obtain ⟨hP1, gp, hpr, hq2⟩ := HH.out
          have hz := HZ.out
          subst hz
          have hO3 := hO2.snoc gp hpr (Nat.le_refl _) hr' hg' (hf'.imp id (fun h => ⟨_, Nat.le_refl _, h⟩))
          go_meet
          refine ⟨a', c', _, _, wr.heap.size, List.replicate 240 0, by simp, hO3, ?_, ?_, ?_, hg.trans (gp.trans hg' (by simp) (fun k hk _ => hk)) (by simp) (fun k hk hlt => by have := (hO2.r.lt k hk).1; omega)⟩
          · rw [hq2, ← hO2.ln]; simp
          · rw [hq2]; simp
          · rw [hq2, List.set_append_right _ _ (Nat.le_refl _), Nat.sub_self, hr0.out]; exact hP1
        · have h1 : k % 240 ≠ 0 := by omega
          have u1 : ((r : Int) == 0) = false := by simp; omega
          have u2 : (r == 0) = false := by simp; omega
          have hqp : q < ps.length := by have := (npg_same h1).2; rw [hP.1]; omega
          have hp := List.getElem?_eq_getElem hqp
          have hb : bs[q]? = some (bs[q]'(by rw [hO.ln]; exact hqp)) := List.getElem?_eq_getElem _
          have hP1 := hP.more h1 hx (by rw [hq]; exact hp)
          rw [hq, hr] at hP1
          have HH := mkHid (And.intro hP1 (And.intro hp hb))
          clear hP hP1 hq hr h0 h1 hp hb hx
          go_wp2_with fail
          go_meet
          exact ⟨ao, cc, bs, ps, _, _, rfl, hO, HH.out.2.2, HH.out.2.1, HH.out.1, hg⟩
      case rest =>
        clear hO hP hg hpl hpl2 g0r
        obtain ⟨ao, cc, bs, ps, b, p, rfl, hO, hb, hp, hP, hg⟩ := hcut
        obtain ⟨lb, lo, e, hcell, _⟩ := reads_lt hO.r.reads q (pv b) (by rw [List.getElem?_map, hb]; rfl)
        subst e
        have hcell' : wc.cell? ⟨lb, lo + q, none⟩ = some (.slice (some ⟨b, 0, none⟩) 240 240) := hcell
        obtain ⟨ab, aoff, e, hcx, _⟩ := reads_lt (g0.keep hg) k (.int .u8 (v8 x)) (by rw [bts_get8 L k (by omega)]; rw [List.getElem?_eq_getElem (by omega)] at hx; cases hx; rfl)
        subst e
        have hql : q < ps.length := (List.getElem?_eq_some_iff.1 hp).1
        have hpage := hO.p q b p hb hp
        have hfz := hpage.cell r hr240
        rw [Nat.zero_add] at hfz
        obtain ⟨y, my, hy, _⟩ := byte_at' (show p.length = 240 by have := hpage.len; rwa [bts_length] at this) hr240
        have hcy := hpage.reads.cell r _ hy
        rw [Nat.zero_add] at hcy
        have hset := hO.set hb hp r hr240 x
        have hbB := (hO.blt hb).1
        have HH := mkHid (And.intro hset hP)
        clear hcell hset hP hO hpage hb hp hy hx hq hr
        go_wp2_with fail
        go_region
        all_goals
          go_wp2_with fail
          obtain ⟨⟨hO2, gs⟩, hP⟩ := HH.out
          exact ⟨⟨k + 1, _, cc, bs, _, by first | rfl | go_num, by rw [List.length_set], by omega, hP, hO2.keep (Chg.drew [] _), (hg.trans gs (by simp) (fun m hm hlt => by simp at hm; omega)).then (Chg.drew [] _)⟩, by simp [intOf]; omega⟩
    · have hkn : k = n := by omega
      subst hkn
      have hd : decide (k < k) = false := by simp
      have HP := mkHid hP
      clear hP
      go_wp2_with fail
      go_ret
      exact ⟨ao, cc, bs, ps, rfl, HP.out, hO, hg⟩
end Go.Proofs.Ytkfpkbmkmbnjcaa
