/- Texts Txl, Txn, Txo, Txp, Txq, Txr of the library, joined. -/
import Derived.Test.YtoeijomelabbfaaGreatDoorM24
/- Package txn: the counts that a disk says. -/
namespace Go.Proofs.YtoeijomelabbfaaGreatDoor
set_option maxRecDepth 200000
open Go.RowKit
set_option linter.unusedVariables false
set_option linter.unusedSimpArgs false
attribute [local go_sem ↓] Go.wp_at_zero Go.wp_at_succ

section
variable {w0 w : World} {tag : Nat → Nat} {i db : Nat} {st : RS} (h : HasDev w0 w tag i db st)
include h
set_option maxHeartbeats 4000000 in
theorem countsOf_any (hb : Chg [] w0 w) (hT : Tab w0) (hg : st.gone = false) (s : SB) (hB : s.B = (st.count : Int)) (hn : 16 ≤ st.count) :
    Calls Tryz.prog 131 #[.pointer (some ⟨db, 0, none⟩), s.v] w (CountsOf w (countsA st s)) := by
  have hs := h.sound
  have hn2 := h.pos.2
  obtain ⟨n, hc⟩ : ∃ n, st.count = n := ⟨_, rfl⟩
  rw [hc] at hB hn hn2
  obtain ⟨A, hA⟩ : ∃ A, areaN s = A := ⟨_, rfl⟩
  obtain ⟨L, hL⟩ : ∃ L, npg n = L := ⟨_, rfl⟩
  have hL5 := npg_few hn2
  rw [hL] at hL5
  have hin := area_in ⟨hn, hn2⟩ s hB
  rw [hA, hL] at hin
  have hres : countsA st s = if allOpen st A L = true then (if (takeN (pagesR st A L) s.B).1 = 0 then some (takeN (pagesR st A L) s.B).2 else none) else none := by
    unfold countsA
    rw [hB, Int.toNat_natCast, hL, hA]
  have cA := fun u => area_any s n hB hn2 u
  rw [hA] at cA
  have cP := fun u => pages_as n L hL s.B hB hn2 u
  have h0 := fun (u : World) (c : Chg [] w u) => h.still (Still.of (tag := tag) c)
  have hTu := fun (u : World) (c : Chg [] w u) => hT.then (hb.then c)
  obtain ⟨c0, c1, c2, c3⟩ := sup_laid w s
  have g0 := Chg.alloc [] w (supObj s)
  have hsv : s.v = .agg #[.int .u64 s.G, .int .i64 s.B, .int .u64 s.D, .int .u64 s.X] := rfl
  rw [hsv] at cA ⊢
  obtain ⟨CA, hCA⟩ : ∃ CA, countsA st s = CA := ⟨_, rfl⟩
  rw [hCA] at hres ⊢
  obtain ⟨G, B, D, X⟩ := s
  unfold supObj at *
  dsimp only at *
  have cT := fun (u : World) (ao : Option Addr) (c : Nat) (hr : RdPg u ao (pagesR st A L)) => takes_any ao L c (pagesR st A L) B u hr (pagesR_len st A L) (by omega)
  obtain ⟨b, hbq⟩ : ∃ b, w.heap.size = b := ⟨_, rfl⟩
  rw [hbq] at c0 c1 c2 c3
  have HRES := mkHid hres
  have HIN := mkHid (And.intro hin (And.intro hc hn2))
  have HT := mkHid hTu
  clear hsv hCA hres hA hL hB hn hn2 hc h hin hTu
  have HBQ := mkHid hbq
  go_enter Tryz.func131, Tryz.ntmps131
  go_wp2_with (first | (go_at_call 157; refine (cP _).mono ?_; rintro e w' ⟨rfl, rfl⟩))
  clear hbq
  generalize w.alloc _ = w1 at *
  go_loopw [6, 17] (fun pv iv wr => ∃ (k : Nat) (ao : Option Addr) (c : Nat) (vs : List Value), iv = .int .i64 k ∧ pv = .slice ao k c ∧ k ≤ L ∧ PgL wr w1.heap.size ao c vs (pagesR st A k) ∧ allOpen st A k = true ∧ Chg [] w1 wr) (fun _ iv _ => L - (Go.RowKit.intOf iv).toNat)
  case atStart => exact ⟨0, none, 0, [], rfl, rfl, Nat.zero_le _, PgL.nil _ _, rfl, Chg.refl _ _⟩
  case round =>
    obtain ⟨k, ao, c, vs, rfl, rfl, hk, hP, hO, hgx⟩ := hrel
    have y0 := hgx.cellv c0 (by simp)
    have y1 := hgx.cellv c1 (by simp)
    have y2 := hgx.cellv c2 (by simp)
    have y3 := hgx.cellv c3 (by simp)
    by_cases hlt : k < L
    · have d1 : decide (k < L) = true := decide_eq_true hlt
      have d2 : decide ((k : Int) < (L : Int)) = true := decide_eq_true (by omega)
      have hin := HIN.out
      have hw1 : IntKind.i64.wrap ((A : Int) + (k : Int)) = ((A + k : Nat) : Int) := by rw [IntKind.wrap_i64]; omega
      obtain ⟨Z, hZ⟩ : ∃ Z, A + k = Z := ⟨_, rfl⟩
      rw [hZ] at hw1
      have hZn : Z < st.count := by omega
      have cR := fun (u : World) (c : Chg [] w u) => v_read (h0 u c) Z (why_in hg hZn)
      have hl := reads_256 hs hZn
      obtain ⟨R, hR⟩ : ∃ R, reads st Z 4 = R := ⟨_, rfl⟩
      have hps := pagesR_succ st A k
      have hos := allOpen_succ st A k
      have hno := fun hne => allOpen_no (st := st) (a := A) (k := k) (n := L) hlt hne
      rw [hZ, hR] at hps hos hno
      rw [hR] at hl cR
      have HPS := mkHid hps
      have HOS := mkHid hos
      have HNO := mkHid hno
      have HL := mkHid hl
      have HP := mkHid hP
      have HO := mkHid hO
      have hpn : pn (Z : Int) = Z := pn_nat (by omega)
      have HPN := mkHid hpn
      clear hin hps hos hno hl hP hO hpn hR hZ hZn
      by_cases hop : opens R Z 3 = 0
      · have HOP := mkHid hop
        clear hop
        go_wp2_with fail
        refine (cA wr).mono ?_
        rintro e w2 ⟨rfl, g2⟩
        have G2 := (g0.then hgx).then g2
        go_wp2_with fail
        refine (cR w2 G2).mono ?_
        rintro e w3 ⟨ra, rc, rfl, hr3, g3⟩
        have G3 := G2.then g3
        have cOp := open_yes ra 256 rc R (Z : Int) 3 Z HPN.out HOP.out w3 (HT.out _ G3) hr3.reads HL.out hr3.le hr3.max (by decide)
        have z0 := (g2.then g3).cellv y0 (by simp)
        have z1 := (g2.then g3).cellv y1 (by simp)
        clear hr3
        go_wp2_with fail
        refine cOp.mono ?_
        rintro e w4 ⟨pa, pc, rfl, hr4, g4⟩
        have G14 := (g2.then g3).then g4
        have hB4 : w1.heap.size ≤ w4.heap.size := (hgx.then G14).size
        have hP4 := (HP.out.keep G14)
        have hrR := hP4.r
        rw [pagesR_len] at hrR
        have hmx : k + 1 ≤ maxLen := by have := HIN.out; unfold maxLen; omega
        have hP3 := HP.out.keep (g2.then g3)
        go_wp2_with (at_builtin; refine wpList_append_1 _ rfl (.tmp 40) (.tmp 42) 82 rfl 41 24 eltP w1.heap.size ao k c vs rfl hrR hB4 (.slice pa 240 pc) 1 rfl rfl hmx (by have := HIN.out; omega) ?_; intro a5 c5 w5 hr5 hg5 hf5)
        have hP5 := hP3.snoc g4 hr4 (by rw [List.length_take, HL.out]; rfl) (by rw [pagesR_len]; exact hr5) hg5 hf5
        rw [← HPS.out] at hP5
        refine ⟨⟨k + 1, a5, c5, _, by first | rfl | go_num, rfl, by omega, hP5, by rw [HOS.out, HO.out, HOP.out]; rfl, (hgx.then G14).trans hg5 (by simp) (fun q hq hlt => by have := (hrR.lt q hq).1; omega)⟩, by simp [Go.RowKit.intOf]; omega⟩
      · obtain ⟨C, hC⟩ : ∃ C, opens R Z 3 = C := ⟨_, rfl⟩
        rw [hC] at hop
        have d3 : ((C : Int) != 0) = true := by simp; omega
        have e : CA = none := by rw [HRES.out, if_neg (by rw [HNO.out (by rw [hC]; exact hop)]; decide)]
        have HE := mkHid e
        have HOP := mkHid hC
        have HC0 := mkHid hop
        clear hop hC e
        go_wp2_with fail
        refine (cA wr).mono ?_
        rintro e w2 ⟨rfl, g2⟩
        have G2 := (g0.then hgx).then g2
        go_wp2_with fail
        refine (cR w2 G2).mono ?_
        rintro e w3 ⟨ra, rc, rfl, hr3, g3⟩
        have G3 := G2.then g3
        have cOp := open_no C HC0.out ra 256 rc R (Z : Int) 3 Z HPN.out HOP.out w3 (HT.out _ G3) hr3.reads HL.out hr3.le hr3.max (by decide)
        clear hr3
        go_wp2_with fail
        refine cOp.mono ?_
        rintro e w4 ⟨rfl, g4⟩
        go_wp2_with fail
        go_ret2
        rw [HE.out]
        exact ⟨G3.then g4, none, 0, 0, rfl⟩
    · have e : k = L := by omega
      subst e
      have d1 : decide (k < k) = false := by simp
      have cTk := cT wr ao c hP.rd
      have hO' := HRES.out
      rw [if_pos hO] at hO'
      obtain ⟨⟨E, LL⟩, hE⟩ : ∃ r, takeN (pagesR st A k) B = r := ⟨_, rfl⟩
      rw [hE] at cTk hO'
      dsimp only at hO'
      have HP := mkHid hP
      have HO := mkHid hO'
      clear hP hO hO' hE cT HRES
      by_cases hE0 : E = 0
      · subst hE0
        have HE := mkHid HO.out
        go_wp2_with fail
        refine cTk.mono ?_
        rintro e w2 ⟨⟨ta, tc, rfl, hrT⟩, g2⟩
        go_wp2_with fail
        go_ret2
        have e2 : CA = some LL := by first | exact HE.out | (rw [HE.out]; rfl)
        rw [e2]
        refine ⟨(g0.then hgx).then g2, ta, tc, rfl, hrT.reads, hrT.le, hrT.max, fun q hq h0 => ?_⟩
        have := (hrT.lt q (blk_fp hrT (by omega) q hq)).1
        have := (g0.then hgx).size
        omega
      · have d3 : (E == 0) = false := beq_eq_false_iff_ne.2 hE0
        have e := HO.out
        rw [if_neg hE0] at e
        have HE := mkHid e
        clear e hE0 HO
        go_wp2_with fail
        refine cTk.mono ?_
        rintro e w2 ⟨⟨ta, tc, rfl, hrT⟩, g2⟩
        go_wp2_with fail
        go_ret2
        rw [HE.out]
        exact ⟨(g0.then hgx).then g2, ta, _, tc, rfl⟩
end
end Go.Proofs.YtoeijomelabbfaaGreatDoor

/- Package txn: whether all is counted that must be; what the last commit is. -/
namespace Go.Proofs.YtoeijomelabbfaaGreatDoor
set_option maxRecDepth 200000
open Go.RowKit
set_option linter.unusedVariables false
set_option linter.unusedSimpArgs false
attribute [local go_sem ↓] Go.wp_at_zero Go.wp_at_succ

theorem all_no {N : List UInt8} {K k : Nat} {v : UInt8} (hk : k < K) (hv : N[k]? = some v) (h0 : v = 0) : (N.take K).all (fun c => decide (c ≠ 0)) = false := by
  rw [List.all_eq_false]
  refine ⟨v, List.mem_of_getElem? (i := k) (by rw [List.getElem?_take_of_lt hk]; exact hv), by simp [h0]⟩
theorem all_take_succ {N : List UInt8} {k : Nat} {v : UInt8} (hv : N[k]? = some v) (h0 : v ≠ 0) (h : (N.take k).all (fun c => decide (c ≠ 0)) = true) : (N.take (k + 1)).all (fun c => decide (c ≠ 0)) = true := by
  rw [List.take_add_one, hv, List.all_append, h]
  simp [h0]
theorem u8_zero {v : UInt8} {m : Nat} (h : v.toNat = m) : v = 0 ↔ m = 0 := by
  constructor
  · rintro rfl; exact h.symm
  · intro e; exact UInt8.toNat_inj.1 (by rw [h, e]; rfl)
set_option maxHeartbeats 4000000 in
theorem holds_any (ao : Option Addr) (n c : Nat) (N : List UInt8) (s : SB) (w : World) (gN : Reads w ao (bts N)) (hN : N.length = n) (hc : n ≤ c) (hm : c ≤ maxLen) (hB : s.B = (n : Int)) (hn : 16 ≤ n ∧ n ≤ 1024) (hD : s.D < n) :
    Calls Tryz.prog 132 #[.slice ao n c, s.v] w fun e w' => e = .returned (.bool (heldB N s)) ∧ Chg [] w w' := by
  obtain ⟨K, hK⟩ : ∃ K, keptN n = K := ⟨_, rfl⟩
  have hKn := kept_le hn
  rw [hK] at hKn
  have hres : heldB N s = ((N.take K).all (fun c => decide (c ≠ 0)) && (decide (s.D = 0) || decide (N.getD s.D 0 ≠ 0))) := by
    unfold heldB
    rw [hB, Int.toNat_natCast, hK]
  have cK := fun u => kept_as n K hK s.B hB hn.2 u
  obtain ⟨c0, c1, c2, c3⟩ := sup_laid w s
  have g0 := Chg.alloc [] w (supObj s)
  have hsv : s.v = .agg #[.int .u64 s.G, .int .i64 s.B, .int .u64 s.D, .int .u64 s.X] := rfl
  rw [hsv]
  obtain ⟨HB, hHB⟩ : ∃ HB, heldB N s = HB := ⟨_, rfl⟩
  rw [hHB] at hres ⊢
  obtain ⟨G, B, D, X⟩ := s
  unfold supObj at *
  dsimp only at *
  have hKI : ∀ u : World, (Instr.slice 41 (.slice ao n c) none (some (.int .i64 (K : Int))) none).run Tryz.prog u = .ok (.slice ao K c) u := fun u => run_take_k (P := Tryz.prog) (t := 41) (e := 5) ao n c K Tryz.underlying41 (by kernel_rfl) (by omega) u
  have gr := gN.keep g0
  have HRES := mkHid hres
  have HNN := mkHid hN
  have HN := mkHid hn
  have HD := mkHid hD
  have hKb : K ≤ 1024 := by omega
  have HKN := mkHid hKn
  have HC := mkHid (And.intro hc hm)
  clear hsv hHB hres hB hK hN gN hn hD hKn hc hm
  go_enter Tryz.func132, Tryz.ntmps132
  go_wp2_with (first | (go_at_call 115; refine (cK _).mono ?_; rintro e w' ⟨rfl, rfl⟩))
  clear hKI cK
  generalize w.alloc _ = w1 at *
  go_loop [13] (fun iv => ∃ k : Nat, iv = .int .i64 k ∧ k ≤ K ∧ (N.take k).all (fun c => decide (c ≠ 0)) = true) (fun iv => K - (Go.RowKit.intOf iv).toNat)
  case atStart => exact ⟨0, rfl, Nat.zero_le _, rfl⟩
  case round =>
    obtain ⟨k, rfl, hk, hall⟩ := hrel
    by_cases hlt : k < K
    · have d1 : decide (k < K) = true := decide_eq_true hlt
      have d2 : decide ((k : Int) < (K : Int)) = true := decide_eq_true (by omega)
      have hkN : k < N.length := by rw [HNN.out]; have := HKN.out; omega
      obtain ⟨v, hv⟩ : ∃ v, N[k]? = some v := ⟨_, List.getElem?_eq_getElem hkN⟩
      obtain ⟨m, hm⟩ : ∃ m, v.toNat = m := ⟨_, rfl⟩
      have hcr : (bts N)[k]? = some (.int .u8 (m : Int)) := by
        rw [bts_get _ k hkN]
        rw [List.getElem?_eq_getElem hkN] at hv
        cases hv
        rw [hm]
      obtain ⟨xb, xo, rfl, ck, _⟩ := reads_lt gr k _ hcr
      have hz := u8_zero hm
      by_cases h0 : m = 0
      · have d3 : ((m : Int) == 0) = true := by simp; omega
        have d4 : (m == 0) = true := by simp; omega
        have e : HB = false := by rw [HRES.out, all_no hlt hv (hz.2 h0)]; rfl
        have HE := mkHid e
        clear e hv hm hcr hz hall h0 gr
        go_wp2_with fail
        go_ret
        rw [HE.out]
        exact ⟨rfl, g0⟩
      · have d3 : ((m : Int) == 0) = false := beq_eq_false_iff_ne.2 (by omega)
        have d4 : (m == 0) = false := beq_eq_false_iff_ne.2 h0
        have e := all_take_succ hv (fun e => h0 (hz.1 e)) hall
        have HE := mkHid e
        clear e hv hm hcr hz hall h0
        go_wp2_with fail
        go_round
        case rel => exact ⟨k + 1, by first | rfl | go_num, by omega, HE.out⟩
        case measure => simp [Go.RowKit.intOf]; omega
    · have e : k = K := by omega
      subst e
      have d1 : decide (k < k) = false := by simp
      have hr2 := HRES.out
      rw [hall, Bool.true_and] at hr2
      by_cases hD0 : D = 0
      · have d2 : ((D : Int) == 0) = true := by simp; omega
        have e : HB = true := by rw [hr2, decide_eq_true hD0]; rfl
        have HE := mkHid e
        clear hr2 e hall hD0
        go_wp2_with fail
        go_ret
        rw [HE.out]
        exact ⟨rfl, g0⟩
      · have d2 : ((D : Int) == 0) = false := beq_eq_false_iff_ne.2 (by omega)
        have hDN : D < N.length := by rw [HNN.out]; exact HD.out
        obtain ⟨v, hv⟩ : ∃ v, N[D]? = some v := ⟨_, List.getElem?_eq_getElem hDN⟩
        obtain ⟨m, hm⟩ : ∃ m, v.toNat = m := ⟨_, rfl⟩
        have hcr : (bts N)[D]? = some (.int .u8 (m : Int)) := by
          rw [bts_get _ D hDN]
          rw [List.getElem?_eq_getElem hDN] at hv
          cases hv
          rw [hm]
        obtain ⟨xb, xo, rfl, ck, _⟩ := reads_lt gr D _ hcr
        have hz := u8_zero hm
        have hgd : N.getD D 0 = v := by rw [List.getD_eq_getElem?_getD, hv]; rfl
        have e : HB = decide (0 < m) := by
          rw [hr2, decide_eq_false hD0, hgd, Bool.false_or]
          rw [decide_eq_decide]
          constructor
          · intro h; exact Nat.pos_of_ne_zero (fun e => h (hz.2 e))
          · intro h e; have := hz.1 e; omega
        have HE := mkHid e
        have hDn := HD.out
        have hDi : (D : Int) < (n : Int) := by omega
        have hDi0 : ¬ ((D : Int) < 0) := by omega
        have hn2 := HN.out.2
        clear hr2 e hv hcr hz hall hD0 hgd hm
        by_cases h0 : 0 < m
        · have d5 : decide (0 < m) = true := decide_eq_true h0
          have d6 : decide ((0 : Int) < (m : Int)) = true := decide_eq_true (by omega)
          have d7 : decide ((m : Int) > 0) = true := decide_eq_true (by omega)
          have HE2 := mkHid (HE.out.trans d5)
          clear HE h0
          go_wp2_with fail
          go_ret
          rw [HE2.out]
          exact ⟨rfl, g0⟩
        · have d5 : decide (0 < m) = false := decide_eq_false h0
          have d6 : decide ((0 : Int) < (m : Int)) = false := decide_eq_false (by omega)
          have d7 : decide ((m : Int) > 0) = false := decide_eq_false (by omega)
          have HE2 := mkHid (HE.out.trans d5)
          clear HE h0
          go_wp2_with fail
          go_ret
          rw [HE2.out]
          exact ⟨rfl, g0⟩
end Go.Proofs.YtoeijomelabbfaaGreatDoor

/- Package txn: the last commit that a disk has. -/
namespace Go.Proofs.YtoeijomelabbfaaGreatDoor
set_option maxRecDepth 200000
open Go.RowKit
set_option linter.unusedVariables false
set_option linter.unusedSimpArgs false
attribute [local go_sem ↓] Go.wp_at_zero Go.wp_at_succ

theorem choose_may {a b : List UInt8} {s : SB} {i : Nat} (h : chooseS a b = (s, i, 0)) : s.may = true := by
  unfold chooseS at h
  split at h
  · rename_i h1
    cases h
    rcases take_cases a with ⟨_, h2, _⟩ | ⟨h2, _, _⟩
    · exact h2
    · exfalso
      have := h1.1
      unfold inSlot at this
      rw [decide_eq_false h2] at this
      simp at this
  · split at h
    · rename_i h1
      cases h
      rcases take_cases b with ⟨_, h2, _⟩ | ⟨h2, _, _⟩
      · exact h2
      · exfalso
        unfold inSlot at h1
        rw [decide_eq_false h2] at h1
        simp at h1
    · cases h
theorem countsA_len {st : RS} {s : SB} {N : List UInt8} (h : countsA st s = some N) : (N.length : Int) = s.B := by
  unfold countsA at h
  split at h
  · split at h
    · rename_i h2
      cases h
      exact (take_put (ps := pagesR st (areaN s) (npg s.B.toNat)) (z := s.B) (Prod.ext h2 rfl)).1
    · cases h
  · cases h
/-- What newest answers. -/
def Newest (w : World) (r : Option (SB × List UInt8)) (e : Ending) (w' : World) : Prop :=
  Chg [] w w' ∧ match r with
  | some (s, L) => ∃ ao c, e = .returned (.tuple #[.agg #[.int .u64 s.G, .int .i64 s.B, .int .u64 s.D, .int .u64 s.X], .slice ao L.length c, .bool true]) ∧ Reads w' ao (bts L) ∧ L.length ≤ c ∧ c ≤ maxLen ∧ s.may = true ∧ (L.length : Int) = s.B
  | none => e = .returned (.tuple #[.agg #[.int .u64 0, .int .i64 0, .int .u64 0, .int .u64 0], .slice none 0 0, .bool false])
section
variable {w0 w : World} {tag : Nat → Nat} {i db : Nat} {st : RS} (h : HasDev w0 w tag i db st)
include h
set_option maxHeartbeats 8000000 in
theorem newest_any (hb : Chg [] w0 w) (hT : Tab w0) (hg : st.gone = false) :
    Calls Tryz.prog 64 #[.pointer (some ⟨db, 0, none⟩)] w (Newest w (foundA st)) := by
  obtain ⟨S0, hS0⟩ : ∃ S, slotB st 0 = S := ⟨_, rfl⟩
  obtain ⟨S1, hS1⟩ : ∃ S, slotB st 1 = S := ⟨_, rfl⟩
  have cS0 := fun (u : World) (c : Chg [] w u) => sector_any (h.still (Still.of (tag := tag) c)) hg 0 (0 : Int) rfl S0 hS0
  have cS1 := fun (u : World) (c : Chg [] w u) => sector_any (h.still (Still.of (tag := tag) c)) hg 1 (1 : Int) rfl S1 hS1
  have cB := fun (u : World) (c : Chg [] w u) => v_blocks (h.still (Still.of (tag := tag) c))
  have cC : ∀ (u : World) (c : Chg [] w u) (s : SB) (hB : s.B = (st.count : Int)) (hn : 16 ≤ st.count), Calls Tryz.prog 131 #[.pointer (some ⟨db, 0, none⟩), s.v] u (CountsOf u (countsA st s)) := fun u c s hB hn => countsOf_any (h.still (Still.of (tag := tag) c)) (hb.then c) hT hg s hB hn
  have hn2 := h.pos.2
  have hres := res4_made w w (Chg.refl [] w) (.int .u64 0) (.int .i64 0) (.int .u64 0) (.int .u64 0)
  obtain ⟨⟨⟨G, B, D, X⟩, ii, E⟩, hch⟩ : ∃ r, chooseS S0 S1 = r := ⟨_, rfl⟩
  have cCh := fun (u : World) (ao : Option Addr) (c : Nat) (bo : Option Addr) (d : Nat) (h1 : Reads u ao (bts S0)) (h2 : S0.length ≤ c) (h3 : c ≤ maxLen) (h4 : Reads u bo (bts S1)) (h5 : S1.length ≤ d) (h6 : d ≤ maxLen) => choose_sup ao S0.length c S0 bo S1.length d S1 u h1 rfl h2 h3 h4 rfl h5 h6
  unfold SChoose at cCh
  rw [hch] at cCh
  have hmay : E = 0 → (⟨G, B, D, X⟩ : SB).may = true := fun e => by subst e; exact choose_may hch
  have hfound : foundA st = if E = 0 ∧ B = (st.count : Int) then (match countsA st ⟨G, B, D, X⟩ with
      | some N => if heldB N ⟨G, B, D, X⟩ = true then some (⟨G, B, D, X⟩, N) else none
      | none => none) else none := by
    unfold foundA
    rw [hS0, hS1, hch]
    dsimp only
    cases countsA st ⟨G, B, D, X⟩ <;> rfl
  obtain ⟨F, hF⟩ : ∃ F, foundA st = F := ⟨_, rfl⟩
  rw [hF] at hfound ⊢
  unfold SB.v at cCh
  dsimp only at cCh
  obtain ⟨n, hcn⟩ : ∃ n, st.count = n := ⟨_, rfl⟩
  rw [hcn] at cB cC hfound hn2
  have hcl := fun N => countsA_len (st := st) (s := ⟨G, B, D, X⟩) (N := N)
  have HCL := mkHid hcl
  have HF := mkHid hfound
  have HM := mkHid hmay
  have HCC := mkHid cC
  have HBL := mkHid cB
  obtain ⟨m0, hm0⟩ : ∃ m, S0.length = m := ⟨_, rfl⟩
  obtain ⟨m1, hm1⟩ : ∃ m, S1.length = m := ⟨_, rfl⟩
  rw [hm0] at cS0 cCh
  rw [hm1] at cS1 cCh
  clear hfound hmay cC hF hch hS0 hS1 cB h hm0 hm1 hcn hcl
  have gA := Chg.alloc [] w (.cells #[.int .u64 0, .int .i64 0, .int .u64 0, .int .u64 0] 53)
  go_enter Tryz.func64, Tryz.ntmps64
  go_wp2_with fail
  generalize w.alloc _ = w1 at *
  obtain ⟨b, hbb⟩ : ∃ b, w.heap.size = b := ⟨_, rfl⟩
  rw [hbb] at hres
  try rw [hbb]
  refine (cS0 w1 gA).mono ?_
  rintro e w2 ⟨a0, c0, rfl, r0, l0, x0, g2⟩
  have GB := gA.then g2
  go_wp2_with fail
  refine (cS1 w2 GB).mono ?_
  rintro e w3 ⟨a1, c1, rfl, r1, l1, x1, g3⟩
  have GC := GB.then g3
  go_wp2_with fail
  refine (cCh w3 a0 c0 a1 c1 (r0.keep g3) l0 x0 r1 l1 x1).mono ?_
  rintro e w4 ⟨rfl, g4⟩
  have GD := GC.then g4
  have hres4 := hres.keep (g2.then (g3.then g4))
  have GE := GD.then (Chg.alloc [] w4 (.cells #[.int .u64 (G : Int), .int .i64 B, .int .u64 (D : Int), .int .u64 (X : Int)] 53))
  have hres5 := hres4.keep (Chg.alloc [] w4 (.cells #[.int .u64 (G : Int), .int .i64 B, .int .u64 (D : Int), .int .u64 (X : Int)] 53))
  obtain ⟨q0, q1, q2, q3⟩ := sup_laid w4 ⟨G, B, D, X⟩
  unfold supObj at q0 q1 q2 q3
  dsimp only at q0 q1 q2 q3
  clear hres hres4 r0 r1 l0 l1 x0 x1 g2 g3 g4 gA GB GC GD cS0 cS1 cCh
  by_cases hE : E = 0
  · subst hE
    have hmay := HM.out rfl
    have h16 : 16 ≤ B ∧ B ≤ 1024 ∧ (D : Int) < B := by rw [SB.may_iff] at hmay; dsimp only at hmay; omega
    have HMAY := mkHid hmay
    clear hmay
    by_cases hBc : B = (n : Int)
    · subst hBc
      have d2 : ((n : Int) != (n : Int)) = false := by simp
      have hn16 : 16 ≤ n := by omega
      have hDn : D < n := by omega
      have cN := HCC.out
      go_wp2_with fail
      go_quiet ((first | (go_at_call 48; exact Calls.quiet_of_same ((HBL.out _ (GE.then (Chg.drewN _ _))).mono (fun _ _ h => ⟨h.1, h.2.symm⟩)))))
      have GF := GE.then (Chg.drewN _ nq)
      have hres6 := hres5.keep (Chg.drewN _ nq)
      have p0 := (Chg.drewN _ nq).cellv q0 (by simp)
      have p1 := (Chg.drewN _ nq).cellv q1 (by simp)
      have p2 := (Chg.drewN _ nq).cellv q2 (by simp)
      have p3 := (Chg.drewN _ nq).cellv q3 (by simp)
      generalize World.drewN _ nq = w6 at *
      clear hres5 q0 q1 q2 q3 GE HBL
      have cK := cN w6 GF ⟨G, (n : Int), D, X⟩ rfl hn16
      unfold SB.v at cK
      dsimp only at cK
      have hFo := HF.out
      rw [if_pos (by simp)] at hFo
      obtain ⟨R, hR⟩ : ∃ R, countsA st ⟨G, (n : Int), D, X⟩ = R := ⟨_, rfl⟩
      rw [hR] at cK hFo
      have hclR := fun N (e : R = some N) => HCL.out N (hR.trans e)
      clear hR cN HF HCL
      cases R with
      | none =>
        have HE := mkHid hFo
        clear hFo hclR
        go_wp2_with fail
        refine cK.mono ?_
        rintro e w7 ⟨g7, fa, fm, fc, rfl⟩
        have hres7 := hres6.keep g7
        clear hres6 p0 p1 p2 p3
        obtain ⟨v0, k0⟩ := Option.isSome_iff_exists.1 hres7.k0
        obtain ⟨v1, k1⟩ := Option.isSome_iff_exists.1 hres7.k1
        obtain ⟨v2, k2⟩ := Option.isSome_iff_exists.1 hres7.k2
        obtain ⟨v3, k3⟩ := Option.isSome_iff_exists.1 hres7.k3
        have z0 := hres7.z0
        have z1 := hres7.z1
        have z2 := hres7.z2
        have z3 := hres7.z3
        have HRES := mkHid hres7
        clear hres7
        go_wp2_with fail
        rw [HE.out]
        exact bodyPost_ret (v := .tuple #[.agg #[.int .u64 0, .int .i64 0, .int .u64 0, .int .u64 0], .slice Option.none 0 0, .bool false]) (by simp [results, Tryz.results64, go_sem, k0, k1, k2, k3]) rfl ⟨HRES.out.done _ _ _ _, rfl⟩
      | some N =>
        have hNl := hclR N rfl
        dsimp only at hNl hFo
        have hNn : N.length = n := by omega
        have HFO := mkHid hFo
        clear hclR hNl hFo
        go_wp2_with fail
        refine cK.mono ?_
        have hblt : b < w6.heap.size := by
          obtain ⟨v, hv⟩ := Option.isSome_iff_exists.1 hres6.k0
          exact block_lt_of_cell hv
        rintro e w7 ⟨g7, fa, fc, rfl, rN, lc, mc, hq⟩
        have HQ := mkHid (And.intro hblt hq)
        clear hq hblt
        rw [hNn] at lc ⊢
        have hres7 := hres6.keep g7
        have y0 := g7.cellv p0 (by simp)
        have y1 := g7.cellv p1 (by simp)
        have y2 := g7.cellv p2 (by simp)
        have y3 := g7.cellv p3 (by simp)
        have cH := holds_any fa n fc N ⟨G, (n : Int), D, X⟩ w7 rN hNn lc mc rfl ⟨hn16, hn2⟩ hDn
        unfold SB.v at cH
        dsimp only at cH
        have HRN := mkHid (And.intro rN (And.intro lc mc))
        have HNN := mkHid hNn
        clear hres6 p0 p1 p2 p3 cK rN lc mc hNn
        cases hh : heldB N ⟨G, (n : Int), D, X⟩ with
        | false =>
          have hFo := HFO.out
          rw [hh] at cH hFo
          rw [if_neg (by decide)] at hFo
          have HE := mkHid hFo
          clear hFo hh HFO
          go_wp2_with fail
          refine cH.mono ?_
          rintro e w8 ⟨rfl, g8⟩
          have hres8 := hres7.keep g8
          clear hres7
          obtain ⟨v0, k0⟩ := Option.isSome_iff_exists.1 hres8.k0
          obtain ⟨v1, k1⟩ := Option.isSome_iff_exists.1 hres8.k1
          obtain ⟨v2, k2⟩ := Option.isSome_iff_exists.1 hres8.k2
          obtain ⟨v3, k3⟩ := Option.isSome_iff_exists.1 hres8.k3
          have z0 := hres8.z0
          have z1 := hres8.z1
          have z2 := hres8.z2
          have z3 := hres8.z3
          have HRES := mkHid hres8
          clear hres8
          go_wp2_with fail
          rw [HE.out]
          exact bodyPost_ret (v := .tuple #[.agg #[.int .u64 0, .int .i64 0, .int .u64 0, .int .u64 0], .slice Option.none 0 0, .bool false]) (by simp [results, Tryz.results64, go_sem, k0, k1, k2, k3]) rfl ⟨HRES.out.done _ _ _ _, rfl⟩
        | true =>
          have hFo := HFO.out
          rw [hh] at cH hFo
          rw [if_pos rfl] at hFo
          have HE := mkHid hFo
          clear hFo hh HFO
          go_wp2_with fail
          refine cH.mono ?_
          rintro e w8 ⟨rfl, g8⟩
          have hres8 := hres7.keep g8
          have x0 := g8.cellv y0 (by simp)
          have x1 := g8.cellv y1 (by simp)
          have x2 := g8.cellv y2 (by simp)
          have x3 := g8.cellv y3 (by simp)
          clear hres7 y0 y1 y2 y3
          obtain ⟨v0, k0⟩ := Option.isSome_iff_exists.1 hres8.k0
          obtain ⟨v1, k1⟩ := Option.isSome_iff_exists.1 hres8.k1
          obtain ⟨v2, k2⟩ := Option.isSome_iff_exists.1 hres8.k2
          obtain ⟨v3, k3⟩ := Option.isSome_iff_exists.1 hres8.k3
          have z0 := hres8.z0
          have z1 := hres8.z1
          have z2 := hres8.z2
          have z3 := hres8.z3
          have HRES := mkHid hres8
          clear hres8
          go_wp2_with fail
          rw [HE.out]
          have hN := HNN.out
          have hm := HMAY.out
          obtain ⟨hblt, hq⟩ := HQ.out
          have hr8 : Reads w8 fa (bts N) := HRN.out.1.keep g8
          exact bodyPost_ret (v := .tuple #[.agg #[.int .u64 (G : Int), .int .i64 (n : Int), .int .u64 (D : Int), .int .u64 (X : Int)], .slice fa n fc, .bool true]) (by simp [results, Tryz.results64, go_sem, k0, k1, k2, k3]) rfl ⟨HRES.out.done _ _ _ _, fa, fc, by rw [hN], hr8.chg (four_chg w8 b _ _ _ _) (fun q hq1 hq2 => by
            have := hq q hq1 (by omega)
            simp at hq2
            omega), by rw [hN]; exact HRN.out.2.1, HRN.out.2.2, hm, by rw [hN]⟩
    · have d2 : (B != (n : Int)) = true := by simpa using hBc
      have e : F = none := by rw [HF.out, if_neg (fun h => hBc h.2)]
      have HE := mkHid e
      clear e hBc
      go_wp2_with fail
      go_quiet ((first | (go_at_call 48; exact Calls.quiet_of_same ((HBL.out _ (GE.then (Chg.drewN _ _))).mono (fun _ _ h => ⟨h.1, h.2.symm⟩)))))
      have GF := GE.then (Chg.drewN _ nq)
      have hres6 := hres5.keep (Chg.drewN _ nq)
      generalize World.drewN _ nq = w6 at *
      clear hres5 q0 q1 q2 q3
      obtain ⟨v0, k0⟩ := Option.isSome_iff_exists.1 hres6.k0
      obtain ⟨v1, k1⟩ := Option.isSome_iff_exists.1 hres6.k1
      obtain ⟨v2, k2⟩ := Option.isSome_iff_exists.1 hres6.k2
      obtain ⟨v3, k3⟩ := Option.isSome_iff_exists.1 hres6.k3
      have z0 := hres6.z0
      have z1 := hres6.z1
      have z2 := hres6.z2
      have z3 := hres6.z3
      have HRES := mkHid hres6
      clear hres6
      go_wp2_with fail
      rw [HE.out]
      exact bodyPost_ret (v := .tuple #[.agg #[.int .u64 0, .int .i64 0, .int .u64 0, .int .u64 0], .slice Option.none 0 0, .bool false]) (by simp [results, Tryz.results64, go_sem, k0, k1, k2, k3]) rfl ⟨HRES.out.done _ _ _ _, rfl⟩
  · have d1 : ((E : Int) != 0) = true := by simp; omega
    have e : F = none := by rw [HF.out, if_neg (fun h => hE h.1)]
    have HE := mkHid e
    clear e hE
    go_wp2_with fail
    go_quiet (fail)
    have GF := GE.then (Chg.drewN _ nq)
    have hres6 := hres5.keep (Chg.drewN _ nq)
    generalize World.drewN _ nq = w6 at *
    clear hres5 q0 q1 q2 q3
    obtain ⟨v0, k0⟩ := Option.isSome_iff_exists.1 hres6.k0
    obtain ⟨v1, k1⟩ := Option.isSome_iff_exists.1 hres6.k1
    obtain ⟨v2, k2⟩ := Option.isSome_iff_exists.1 hres6.k2
    obtain ⟨v3, k3⟩ := Option.isSome_iff_exists.1 hres6.k3
    have z0 := hres6.z0
    have z1 := hres6.z1
    have z2 := hres6.z2
    have z3 := hres6.z3
    have HRES := mkHid hres6
    clear hres6
    go_wp2_with fail
    rw [HE.out]
    exact bodyPost_ret (v := .tuple #[.agg #[.int .u64 0, .int .i64 0, .int .u64 0, .int .u64 0], .slice Option.none 0 0, .bool false]) (by simp [results, Tryz.results64, go_sem, k0, k1, k2, k3]) rfl ⟨HRES.out.done _ _ _ _, rfl⟩
end
end Go.Proofs.YtoeijomelabbfaaGreatDoor

/- Package txn: Open. -/
namespace Go.Proofs.YtoeijomelabbfaaGreatDoor
set_option maxRecDepth 200000
open Go.RowKit
set_option linter.unusedVariables false
set_option linter.unusedSimpArgs false
attribute [local go_sem ↓] Go.wp_at_zero Go.wp_at_succ

theorem shelf_new (r c : Nat) (w : World) : Calls Tryz.prog 66 #[.pointer (some ⟨r, 0, none⟩), .pointer (some ⟨c, 0, none⟩)] w fun e w' => ∃ s, e = .returned (.pointer (some ⟨s, 0, none⟩)) ∧ w.heap.size ≤ s ∧ Chg [] w w' := by
  go_enter Tryz.func66, Tryz.ntmps66
  go_wp2
  go_ret
  exact ⟨_, rfl, Nat.le_refl _, Chg.alloc [] _ _⟩
/-- What a pool is. -/
structure Pool where
  K : List KE
  st : RS
  N : List UInt8
  C : List UInt8
  last : SB
  now : SB
  over : Bool
def txA (db cb rb sb : Nat) (l n : SB) (o : Bool) : Array Value := #[.pointer (some ⟨db, 0, none⟩), .pointer (some ⟨cb, 0, none⟩), .pointer (some ⟨rb, 0, none⟩), .pointer (some ⟨sb, 0, none⟩), .int .u64 l.G, .int .i64 l.B, .int .u64 l.D, .int .u64 l.X, .int .u64 n.G, .int .i64 n.B, .int .u64 n.D, .int .u64 n.X, .bool o]
/-- A Txn in memory. -/
structure TxAt (w : World) (tb db cb rb sb : Nat) (l n : SB) (o : Bool) : Prop where
  c : ∀ j v, (txA db cb rb sb l n o).toList[j]? = some v → w.cell? ⟨tb, j, none⟩ = some v
  z : ∀ j, j < 13 → w.frozen? ⟨tb, j, none⟩ = false
theorem TxAt.new (w : World) (db cb rb sb : Nat) (l n : SB) (o : Bool) : TxAt (w.alloc (.cells (txA db cb rb sb l n o) 112)) w.heap.size db cb rb sb l n o := by
  have hl := heap_alloc_last w (.cells (txA db cb rb sb l n o) 112)
  have hc := fun j => cell_of_row _ w.heap.size j _ _ _ hl
  have hf := fun j => frozen_of_row _ w.heap.size j _ _ hl
  exact ⟨fun j v hv => by rw [hc]; simpa using hv, fun j _ => hf j⟩
theorem TxAt.lt {w : World} {tb db cb rb sb : Nat} {l n : SB} {o : Bool} (h : TxAt w tb db cb rb sb l n o) : tb < w.heap.size := block_lt_of_cell (h.c 0 _ rfl)
theorem TxAt.chg {w w' : World} {tb db cb rb sb : Nat} {l n : SB} {o : Bool} {S : List Nat} (h : TxAt w tb db cb rb sb l n o) (g : Chg S w w') (hs : tb ∉ S) : TxAt w' tb db cb rb sb l n o :=
  ⟨fun j v hv => g.cellv (h.c j v hv) hs, fun j hj => (g.frozen (p := ⟨tb, j, none⟩) h.lt hs).trans (h.z j hj)⟩
structure HasPool (w0 w : World) (tag : Nat → Nat) (tb db cb rb n m u : Nat) (P : Pool) : Prop where
  t : ∃ sb, TxAt w tb db cb rb sb P.last P.now P.over
  tt : tag tb = 6
  tB : w0.heap.size ≤ tb
  p : HasPair w0 w tag 2 db cb P.K P.st m u
  r : HasR w0.heap.size w tag 1 rb n P.N P.C
  b : Base w0 w tag
  lm : P.last.may = true
  nm : P.now.may = true
  lB : P.last.B = (n : Int)
  nB : P.now.B = (n : Int)
  nG : P.now.G = P.last.G
section
variable {w0 w w' : World} {tag tag' : Nat → Nat} {tb db cb rb n m u : Nat} {P : Pool}
theorem HasPool.stay (h : HasPool w0 w tag tb db cb rb n m u P) {i : Nat} (t : Turn w0.heap.size tag tag' i w w') (h1 : i ≠ 1) (h2 : i ≠ 2) (h6 : i ≠ 6) : HasPool w0 w' tag' tb db cb rb n m u P := by
  obtain ⟨sb, ht⟩ := h.t
  have ho := t.2 tb ht.lt
  obtain ⟨⟨S, hS, hm⟩, _⟩ := id t
  exact ⟨⟨sb, ht.chg hS (fun hx => h6 ((hm _ hx).1.symm.trans h.tt))⟩, ho.trans h.tt, h.tB, h.p.stay t h2, h.r.stay t h1, h.b.turn t, h.lm, h.nm, h.lB, h.nB, h.nG⟩
theorem HasPool.still (h : HasPool w0 w tag tb db cb rb n m u P) (t : Still tag tag' w w') : HasPool w0 w' tag' tb db cb rb n m u P := h.stay (t.turn _ 9) (by decide) (by decide) (by decide)
end
section
variable {w0 w : World} {tag : Nat → Nat} {i db : Nat} {st : RS}
set_option maxHeartbeats 2000000 in
theorem open_pool (h : HasDev w0 w tag i db st) (hb : Base w0 w tag) (hi : i ≠ 0) (hT : Tab w0) (hg : st.gone = false) (k : Nat) (hk : 1 ≤ k ∧ k ≤ 1024) (hf : foundA st = none) : Calls Tryz.prog 12 #[.pointer (some ⟨db, 0, none⟩), .int .i64 (k : Int)] w fun e w' => e = .returned (.tuple #[.pointer none, .int .i64 23]) ∧ Chg [] w w' := by
  have cB := v_blocks h
  have cO := v_off h
  have cC := v_cache h hb hi k hk
  have cN := fun (u : World) (t' : Nat → Nat) (s : Still tag t' w u) => newest_any (h.still s) (hb.still s).c hT hg
  rw [hf] at cN
  have hp := h.pos.1
  rw [hg] at cO
  obtain ⟨n, hc⟩ : ∃ n, st.count = n := ⟨_, rfl⟩
  rw [hc] at cB hp
  have h0 : ((n : Int) == 0) = false := beq_eq_false_iff_ne.2 (by omega)
  have HN := mkHid cN
  clear hc h hp hg cN hf
  go_enter Tryz.func12, Tryz.ntmps12
  go_wp2_with (first | (go_at_call 48; refine cB.mono ?_; rintro e w' ⟨rfl, rfl⟩) | (go_at_call 60; refine cO.mono ?_; rintro e w' ⟨rfl, rfl⟩))
  refine cC.mono ?_
  rintro e w1 ⟨cb, rfl, t1, -, s1⟩
  have cN := HN.out w1 t1 s1
  go_wp2_with fail
  refine cN.mono ?_
  rintro e w2 ⟨g2, rfl⟩
  go_wp2_with fail
  go_ret2
  exact ⟨rfl, (s1.1.then g2).then (Chg.alloc [] _ _)⟩
end
end Go.Proofs.YtoeijomelabbfaaGreatDoor

/- Package txn: Open of a disk that has a pool. -/
namespace Go.Proofs.YtoeijomelabbfaaGreatDoor
set_option maxRecDepth 200000
open Go.RowKit
set_option linter.unusedVariables false
set_option linter.unusedSimpArgs false
attribute [local go_sem ↓] Go.wp_at_zero Go.wp_at_succ

section
variable {w0 w W : World} {t : Nat → Nat} {db cb rb sb n k : Nat} {st : RS} {L : List UInt8}
theorem pool_made (hp : HasPair w0 w t 2 db cb [] st k 0) (hr : HasR w0.heap.size w t 1 rb n L L) (hb : Base w0 w t) (c : Chg [] w W) (s : SB) (hm : s.may = true) (hB : s.B = (n : Int)) :
    ∃ tag', HasPool w0 (W.alloc (.cells (txA db cb rb sb s s false) 112)) tag' W.heap.size db cb rb n k 0 ⟨[], st, L, L, s, s, false⟩ ∧ Still t tag' w (W.alloc (.cells (txA db cb rb sb s s false) 112)) := by
  have s1 := still_mark t 9 c
  have s2 := still_mark (mark t w.heap.size 9) 6 (Chg.alloc [] W (.cells (txA db cb rb sb s s false) 112))
  have s3 := s1.trans s2
  exact ⟨_, ⟨⟨sb, TxAt.new W db cb rb sb s s false⟩, mark_new _ _ _ _ (Nat.le_refl _), Nat.le_trans hb.c.size c.size, hp.still s3, hr.still s3, hb.still s3, hm, hm, hB, hB, rfl⟩, s3⟩
end
section
variable {w0 w : World} {tag : Nat → Nat} {db : Nat} {st : RS}
set_option maxHeartbeats 8000000 in
theorem open_yes15 (h : HasDev w0 w tag 2 db st) (hb : Base w0 w tag) (hT : Tab w0) (hg : st.gone = false) (k : Nat) (hk : 1 ≤ k ∧ k ≤ 1024) (n : Nat) (hc : st.count = n) (s : SB) (L : List UInt8) (hf : foundA st = some (s, L)) (hB : s.B = (n : Int)) :
    Calls Tryz.prog 12 #[.pointer (some ⟨db, 0, none⟩), .int .i64 (k : Int)] w fun e w' => ∃ tb cb rb, e = .returned (.tuple #[.pointer (some ⟨tb, 0, none⟩), .int .i64 0]) ∧ ∃ tag', HasPool w0 w' tag' tb db cb rb n k 0 ⟨[], st, L, L, s, s, false⟩ ∧ Still tag tag' w w' := by
  have cB := v_blocks h
  have cO := v_off h
  have cC := v_cache h hb (by decide) k hk
  have cN := fun (u : World) (t' : Nat → Nat) (s : Still tag t' w u) => newest_any (h.still s) (hb.still s).c hT hg
  rw [hf] at cN
  have hp := h.pos
  rw [hg] at cO
  rw [hc] at cB hp
  have h0 : ((n : Int) == 0) = false := beq_eq_false_iff_ne.2 (by omega)
  have HN := mkHid cN
  have HP := mkHid hp
  have HBB := mkHid hb
  clear hc h hp hg cN hf hb
  go_enter Tryz.func12, Tryz.ntmps12
  go_wp2_with (first | (go_at_call 48; refine cB.mono ?_; rintro e w' ⟨rfl, rfl⟩) | (go_at_call 60; refine cO.mono ?_; rintro e w' ⟨rfl, rfl⟩))
  refine cC.mono ?_
  rintro e w1 ⟨cb, rfl, t1, hP1, s1⟩
  have cN := HN.out w1 t1 s1
  clear HN cB cO cC
  obtain ⟨G, B, D, X⟩ := s
  dsimp only at hB
  have HB := mkHid hB
  go_wp2_with fail
  refine cN.mono ?_
  rintro e w2 ⟨g2, ao, c, rfl, rL, lc, mc, hm, hL⟩
  dsimp only at hL
  have hLn : L.length = n := by have := HB.out; omega
  have HM := mkHid hm
  clear hm hL cN hB
  obtain ⟨q0, q1, q2, q3⟩ := sup_laid w2 ⟨G, B, D, X⟩
  have g3 := Chg.alloc [] w2 (supObj ⟨G, B, D, X⟩)
  unfold supObj at *
  dsimp only at *
  have s2 := still_mark t1 9 (g2.then g3)
  have hP3 := hP1.still s2
  have hb3 := (HBB.out.still s1).still s2
  have S3 := s1.trans s2
  have cR := r_new w0.heap.size ao n c L _ (rL.keep g3) hLn HP.out.1 HP.out.2 hb3.c.size (mark t1 w1.heap.size 9) 1
  rw [hLn]
  clear rL lc mc g2 g3 s2 hP1 s1
  go_wp2_with fail
  generalize w2.alloc _ = w3 at *
  generalize mark t1 w1.heap.size 9 = t3 at *
  generalize w2.heap.size = bs at *
  refine cR.mono ?_
  rintro e w4 ⟨rb, rfl, t4, hR4, s4⟩
  have hP4 := hP3.still s4
  have hb4 := hb3.still s4
  have S4 := S3.trans s4
  have p0 := s4.1.cellv q0 (by simp)
  have p1 := s4.1.cellv q1 (by simp)
  have p2 := s4.1.cellv q2 (by simp)
  have p3 := s4.1.cellv q3 (by simp)
  have KEY := mkHid (fun (W : World) (sb : Nat) (c : Chg [] w4 W) => pool_made (sb := sb) hP4 hR4 hb4 c ⟨G, B, D, X⟩ HM.out HB.out)
  have HS4 := mkHid S4
  clear q0 q1 q2 q3 hP3 hb3 S3 s4 hP4 hR4 hb4 S4 cR
  unfold txA at KEY
  go_wp2_with fail
  go_region_law (first
    | (go_simp; go_at_call 66; refine (shelf_new rb cb _).mono ?_; rintro e w5 ⟨sb, rfl, hsb, g5⟩; have p0 := ((Chg.drew [] _).then g5).cellv p0 (by simp); have p1 := ((Chg.drew [] _).then g5).cellv p1 (by simp); have p2 := ((Chg.drew [] _).then g5).cellv p2 (by simp); have p3 := ((Chg.drew [] _).then g5).cellv p3 (by simp)))
  all_goals
    go_wp2_with fail
    go_ret2
    first
      | exact ⟨_, cb, rb, rfl, _, (KEY.out _ sb ((Chg.drew [] _).then g5)).choose_spec.1, HS4.out.trans (KEY.out _ sb ((Chg.drew [] _).then g5)).choose_spec.2⟩
      | exact ⟨_, cb, rb, rfl, _, (KEY.out _ sb (((Chg.drew [] _).then g5).then (Chg.drew [] _))).choose_spec.1, HS4.out.trans (KEY.out _ sb (((Chg.drew [] _).then g5).then (Chg.drew [] _))).choose_spec.2⟩
end
end Go.Proofs.YtoeijomelabbfaaGreatDoor

/- Package txn: what a pool tells, and what is set. -/
namespace Go.Proofs.YtoeijomelabbfaaGreatDoor
set_option maxRecDepth 200000
open Go.RowKit
set_option linter.unusedVariables false
set_option linter.unusedSimpArgs false
attribute [local go_sem ↓] Go.wp_at_zero Go.wp_at_succ

/-! ### a pool that is none -/
section
variable (w : World)
end
/-! ### a pool -/
section
variable {w : World} {tb db cb rb sb : Nat} {l n : SB} {o : Bool} (h : TxAt w tb db cb rb sb l n o)
include h
theorem xmade_yes : Calls Tryz.prog 73 #[.pointer (some ⟨tb, 0, none⟩)] w fun e w' => e = .returned (.bool true) ∧ w = w' := by
  have c3 := h.c 3 _ rfl
  go_enter Tryz.func73, Tryz.ntmps73
  go_wp2
  go_ret
  exact ⟨rfl, rfl⟩
theorem xasked_yes : Calls Tryz.prog 91 #[.pointer (some ⟨tb, 0, none⟩)] w fun e w' => e = .returned (.int .i64 (if o then 32 else 0)) ∧ w = w' := by
  have cM := xmade_yes h
  have c12 := h.c 12 _ rfl
  cases o with
  | true =>
    go_enter Tryz.func91, Tryz.ntmps91
    go_wp2_with (first | (go_at_call 73; refine cM.mono ?_; rintro e w' ⟨rfl, rfl⟩))
    go_ret
    exact ⟨rfl, rfl⟩
  | false =>
    go_enter Tryz.func91, Tryz.ntmps91
    go_wp2_with (first | (go_at_call 73; refine cM.mono ?_; rintro e w' ⟨rfl, rfl⟩))
    go_ret
    exact ⟨rfl, rfl⟩
theorem xrefs_yes : Calls Tryz.prog 14 #[.pointer (some ⟨tb, 0, none⟩)] w fun e w' => e = .returned (.pointer (some ⟨rb, 0, none⟩)) ∧ w = w' := by
  have cM := xmade_yes h
  have c2 := h.c 2 _ rfl
  go_enter Tryz.func14, Tryz.ntmps14
  go_wp2_with (first | (go_at_call 73; refine cM.mono ?_; rintro e w' ⟨rfl, rfl⟩))
  go_ret
  exact ⟨rfl, rfl⟩
theorem xsuper_yes : Calls Tryz.prog 43 #[.pointer (some ⟨tb, 0, none⟩)] w fun e w' => e = .returned (.agg #[.int .u64 n.G, .int .i64 n.B, .int .u64 n.D, .int .u64 n.X]) ∧ Chg [] w w' := by
  have gA := Chg.alloc [] w (.cells #[.int .u64 0, .int .i64 0, .int .u64 0, .int .u64 0] 53)
  have h1 := h.chg gA (by simp)
  have cM := xmade_yes h1
  have c8 := h1.c 8 _ rfl
  have c9 := h1.c 9 _ rfl
  have c10 := h1.c 10 _ rfl
  have c11 := h1.c 11 _ rfl
  have hres := res4_made w w (Chg.refl [] w) (.int .u64 0) (.int .i64 0) (.int .u64 0) (.int .u64 0)
  have hlt := h.lt
  go_enter Tryz.func43, Tryz.ntmps43
  go_wp2_with fail
  generalize w.alloc _ = w1 at *
  have hne : tb ≠ w.heap.size := by omega
  generalize w.heap.size = b at *
  obtain ⟨v0, k0⟩ := Option.isSome_iff_exists.1 hres.k0
  obtain ⟨v1, k1⟩ := Option.isSome_iff_exists.1 hres.k1
  obtain ⟨v2, k2⟩ := Option.isSome_iff_exists.1 hres.k2
  obtain ⟨v3, k3⟩ := Option.isSome_iff_exists.1 hres.k3
  have z0 := hres.z0
  have z1 := hres.z1
  have z2 := hres.z2
  have z3 := hres.z3
  have HR := mkHid hres
  clear hres h1
  refine cM.mono ?_
  rintro e w2 ⟨rfl, rfl⟩
  go_wp2_with fail
  exact bodyPost_ret (v := .agg #[.int .u64 n.G, .int .i64 n.B, .int .u64 n.D, .int .u64 n.X]) (by simp [results, Tryz.results43, go_sem, k0, k1, k2, k3]) rfl ⟨rfl, HR.out.done _ _ _ _⟩
end
end Go.Proofs.YtoeijomelabbfaaGreatDoor
