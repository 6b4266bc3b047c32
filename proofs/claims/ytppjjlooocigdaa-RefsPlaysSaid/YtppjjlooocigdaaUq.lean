/- RefsPlays. -/
import Derived.Test.YtppjjlooocigdaaUp
namespace Go.Proofs.Ytppjjlooocigdaa
open Go.RowKit
set_option linter.unusedVariables false
set_option linter.unusedSimpArgs false
attribute [local go_sem ↓] Go.wp_at_zero Go.wp_at_succ

theorem HasS.make' {B : Nat} {w0 w : World} {ao : Option Addr} {n c : Nat} {xs : List Value} (tag : Nat → Nat) (j : Nat) (h : Room w B ao n c xs) (hf : ∀ k, k ∈ fp ao c → w0.heap.size ≤ k) (g : Chg [] w0 w) : HasS B w (mark tag w0.heap.size j) j ao n c xs ∧ Still tag (mark tag w0.heap.size j) w0 w :=
  ⟨⟨h, fun k hk => mark_new _ _ _ _ (hf k hk)⟩, g, fun k hk => mark_old _ _ _ _ hk⟩
theorem Turn.ahead' {B : Nat} {tag tag' : Nat → Nat} {i : Nat} {w w1 w' : World} (g : Chg [] w w1) (h : Turn B tag tag' i w1 w') : Turn B tag tag' i w w' := by
  obtain ⟨⟨S, h1, h2⟩, h3⟩ := h
  exact ⟨⟨S, g.trans h1 (by simp) (fun k hk _ => hk), h2⟩, fun k hk => h3 k (Nat.lt_of_lt_of_le hk g.size)⟩
/-- What was kept, and its reference; or none. None of the tags T is theirs. -/
def Keep (B n : Nat) (w : World) (tag : Nat → Nat) (T : List Nat) (kv tv : Value) : Prop := (kv = .pointer none ∧ tv = .pointer none) ∨
  ∃ kb tb i j M D, kv = .pointer (some ⟨kb, 0, none⟩) ∧ tv = .pointer (some ⟨tb, 0, none⟩) ∧ HasR B w tag i kb n M D ∧ HasD B w tag j tb n M D ∧ i ∉ T ∧ j ∉ T ∧ i ≠ j
theorem Keep.stay {B n : Nat} {w w' : World} {tag tag' : Nat → Nat} {T : List Nat} {q : Nat} {kv tv : Value} (h : Keep B n w tag T kv tv) (t : Turn B tag tag' q w w') (hq : q ∈ T) : Keep B n w' tag' T kv tv := by
  rcases h with h | ⟨kb, tb, i, j, M, D, h1, h2, h3, h4, h5, h6, h7⟩
  · exact Or.inl h
  · exact Or.inr ⟨kb, tb, i, j, M, D, h1, h2, h3.stay t (fun e => h5 (e ▸ hq)), h4.stay t (fun e => h6 (e ▸ hq)), h5, h6, h7⟩
theorem Keep.still {B n : Nat} {w w' : World} {tag tag' : Nat → Nat} {T : List Nat} {kv tv : Value} (h : Keep B n w tag T kv tv) (t : Still tag tag' w w') : Keep B n w' tag' T kv tv := by
  rcases h with h | ⟨kb, tb, i, j, M, D, h1, h2, h3, h4, h5⟩
  · exact Or.inl h
  · exact Or.inr ⟨kb, tb, i, j, M, D, h1, h2, h3.still t, h4.still t, h5⟩
theorem Keep.less {B n : Nat} {w : World} {tag : Nat → Nat} {T T' : List Nat} {kv tv : Value} (h : Keep B n w tag T kv tv) (hT : ∀ k, k ∈ T' → k ∈ T) : Keep B n w tag T' kv tv := by
  rcases h with h | ⟨kb, tb, i, j, M, D, h1, h2, h3, h4, h5, h6, h7⟩
  · exact Or.inl h
  · exact Or.inr ⟨kb, tb, i, j, M, D, h1, h2, h3, h4, fun h => h5 (hT i h), fun h => h6 (hT j h), h7⟩
/-- A tag that none of those has. -/
theorem Keep.tags {B n : Nat} {w : World} {tag : Nat → Nat} {a b : Nat} {kv tv : Value} (h : Keep B n w tag [a, b] kv tv) : ∃ f, f ≠ a ∧ f ≠ b ∧ Keep B n w tag [f, a, b] kv tv := by
  rcases h with h | ⟨kb, tb, i, j, M, D, h1, h2, h3, h4, h5, h6, h7⟩
  · exact ⟨a + b + 1, by omega, by omega, Or.inl h⟩
  · simp at h5 h6
    exact ⟨a + b + i + j + 1, by omega, by omega, Or.inr ⟨kb, tb, i, j, M, D, h1, h2, h3, h4, by simp; omega, by simp; omega, h7⟩⟩
set_option maxRecDepth 100000 in
set_option maxHeartbeats 40000000 in
theorem plays_core (a0 : Option Addr) (n c : Nat) (L : List UInt8) (a1 : Option Addr) (n1 c1 : Nat) (acts : Nat → ActD) (w : World) (g0 : Reads w a0 (bts L)) (gn : L.length = n) (gc : n ≤ c) (gr : c * 1 ≤ 140737488351232) (gn1 : n1 ≤ c1) (gr1 : c1 * 16 ≤ 140737488351232) (ga : ActsAt w a1 n1 acts) :
    Calls Try.prog 3 #[.slice a0 n c, .slice a1 n1 c1] w fun e w' => e = .returned (.bool true) ∧ Chg [] w w' := by
  have hml : n ≤ maxLen := by unfold maxLen; omega
  have g2 := g0.keep (Chg.alloc [] w (.cells #[] 5))
  go_enter Try.func3, Try.ntmps3
  go_wp2_with (at_builtin; refine wpList_append_k _ rfl (.tmp 26) (.tmp 27) 22 rfl 5 1 eltB w.heap.size _ 0 0 [] rfl (Room.nil _ _ _) (by simp) a0 n c (bts L) rfl g2 (by rw [bts_length]; exact gn) (bts_one _) (by omega) (by omega) ?_; intro wa wc w1 hr1 hg1 hf1; simp only [Nat.zero_add, List.nil_append] at hr1)
  have g1 : Chg [] w w1 := (Chg.alloc [] w _).trans hg1 (by simp) (by rw [fp_zero]; simp)
  obtain ⟨hO1, s1⟩ := HasS.make' (w0 := w) (fun _ => 9) 5 hr1 (fun k hk => by
    rcases hf1 with e | e
    · rw [e, fp_zero] at hk; cases hk
    · rw [e] at hk; simp at hk; omega) g1
  generalize mark (fun _ => 9) w.heap.size 5 = t1 at *
  have hnb : n ≤ 9223372036854775807 := hml
  clear hr1 hg1 hf1 g2 s1 hml
  by_cases hin : 0 < n ∧ n ≤ 1024
  · obtain ⟨n0, nn⟩ := hin
    refine (r_new w.heap.size wa n wc L w1 hO1.1.reads gn n0 nn g1.size t1 0).mono ?_
    rintro e w2 ⟨rb, rfl, t2, h2, s2⟩
    have hO2 := hO1.still s2
    have q2 := g1.then s2.1
    clear hO1 g1 s2
    go_wp2_with fail
    refine (d_new w.heap.size a0 n c L w2 (g0.keep q2) gn n0 nn q2.size t2 1).mono ?_
    rintro e w3 ⟨db, rfl, t3, d3, s3⟩
    have h3 := h2.still s3
    have hO3 := hO2.still s3
    have q3 := q2.then s3.1
    clear h2 hO2 q2 s3
    go_wp2_with fail
    refine (awake_any w3).mono ?_
    rintro e w4 ⟨rfl, gA⟩
    have h4 := h3.still (Still.of gA)
    have d4 := d3.still (Still.of gA)
    have hO4 := hO3.still (Still.of gA)
    have q4 := q3.then gA
    clear h3 d3 hO3 q3 gA
    go_wp2_with fail
    go_loopw [52] (fun v wr => ∃ (k : Nat) (xs : List UInt8), v = .int .i64 k ∧ k ≤ n ∧ HasR w.heap.size wr t3 0 rb n L L ∧ HasD w.heap.size wr t3 1 db n L L ∧ HasS w.heap.size wr t3 5 wa n wc (bts xs) ∧ Chg [] w wr) (fun v _ => n - (intOf v).toNat)
    case atStart => exact ⟨0, L, rfl, Nat.zero_le _, h4, d4, hO4, q4⟩
    case round =>
      clear h4 d4 hO4 q4
      obtain ⟨k, xs, rfl, hk, h5, d5, hO5, q5⟩ := hrel
      by_cases hlt : k < n
      · have hd : decide (k < n) = true := decide_eq_true hlt
        have hd2 : decide ((k : Int) < (n : Int)) = true := decide_eq_true (by omega)
        have lx : xs.length = n := by have := hO5.1.len; rwa [bts_length] at this
        obtain ⟨x, mx, hx, hmx, hmx2⟩ := byte_at lx hlt
        obtain ⟨ob, oo, rfl, z0, _⟩ := reads_lt hO5.1.reads k _ (bts_at hx rfl)
        have z1 : wr.cell? ⟨ob, oo + k, none⟩ = some (.int .u8 (v8 x)) := z0
        have zf := hO5.1.cell k hlt
        have hxor : bits .xor .u8 (v8 x) 255 = v8 (x ^^^ 255) := x8 x 255
        have hset := hO5.1.set k hlt (.int .u8 (v8 (x ^^^ 255)))
        rw [bts_set] at hset
        have hfp : fp (some ⟨ob, oo, none⟩) wc = [ob] := fp_some _ _ _ (by have := hO5.1.le; omega)
        have htg : t3 ob = 5 := hO5.2 ob (by rw [hfp]; simp)
        have hBo : w.heap.size ≤ ob := (hO5.1.lt ob (by rw [hfp]; simp)).1
        have tt : Turn w.heap.size t3 t3 5 wr (wr.setCell ⟨ob, oo + k, none⟩ (.int .u8 (v8 (x ^^^ 255)))) := ⟨⟨_, Chg.setCell _ _ _, fun p hp => by simp at hp; subst hp; exact ⟨htg, hBo⟩⟩, fun _ _ => rfl⟩
        have h6 := h5.stay tt (by decide)
        have d6 := d5.stay tt (by decide)
        have q6 := tt.base q5
        have hO6 : HasS w.heap.size _ t3 5 (some ⟨ob, oo, none⟩) n wc _ := ⟨hset, hO5.2⟩
        have HH := mkHid (And.intro h6 (And.intro d6 (And.intro q6 hO6)))
        clear hx hmx z0 hset hfp htg tt h6 d6 q6 hO6 h5 d5 hO5 q5
        go_wp2_with fail
        exact ⟨⟨k + 1, _, by first | rfl | go_num, by omega, HH.out.1, HH.out.2.1, HH.out.2.2.2, HH.out.2.2.1⟩, by simp [intOf]; omega⟩
      · have hkn : k = n := by omega
        subst hkn
        have hd : decide (k < k) = false := by simp
        clear hO5
        go_wp2_with fail
        go_loopw [64, 6, 8, 11, 12, 13] (fun iv rv dv lv kv tv wr => ∃ (i rb db : Nat) (last : Int) (tg : Nat → Nat) (a b : Nat) (N C : List UInt8), iv = .int .i64 i ∧ rv = .pointer (some ⟨rb, 0, none⟩) ∧ dv = .pointer (some ⟨db, 0, none⟩) ∧ lv = .int .i64 last ∧ i ≤ n1 ∧ i ≤ 300 ∧ a ≠ b ∧ HasR w.heap.size wr tg a rb k N C ∧ HasD w.heap.size wr tg b db k N C ∧ Keep w.heap.size k wr tg [a, b] kv tv ∧ Chg [] w wr) (fun iv _ _ _ _ _ _ => n1 - (intOf iv).toNat)
        case atStart => exact ⟨0, rb, db, 0, t3, 0, 1, L, L, rfl, rfl, rfl, rfl, Nat.zero_le _, by omega, by decide, h5, d5, Or.inl ⟨rfl, rfl⟩, q5⟩
        case round =>
          clear h5 d5 q5
          obtain ⟨i, rb, db, last, tg, a, b, N, C, rfl, rfl, rfl, rfl, hi, hi2, hab, hR, hD, hK, hc⟩ := hrel
          by_cases hcont : i < n1 ∧ i < 300
          · obtain ⟨hlt, h300⟩ := hcont
            obtain ⟨bk, o, rfl, hacts⟩ := ga (by omega)
            have hA := (hacts i hlt).keep hc
            clear hacts
            generalize acts i = A at *
            obtain ⟨a0c, a1c, aw0, aw1⟩ := hA
            have hd : decide (i < n1) = true := decide_eq_true hlt
            have hd2 : decide ((i : Int) < (n1 : Int)) = true := decide_eq_true (by omega)
            have hne3 : ((i : Int) == 300) = false := beq_eq_false_iff_ne.2 (by omega)
            go_upto_block 4 with fail
            generalize hab2 : wr.heap.size = ab
            generalize hW : wr.alloc _ = W
            have x0 : W.cell? ⟨ab, 0, none⟩ = some (.int .i64 A.wh) := by subst hW hab2; simp
            have x1 : W.cell? ⟨ab, 1, none⟩ = some (.int .i64 A.num) := by subst hW hab2; simp
            have hgW : Chg [] wr W := by subst hW; exact Chg.alloc [] _ _
            obtain ⟨f, hfa, hfb, hfK⟩ := hK.tags
            have sW : Still tg (mark tg wr.heap.size f) wr W := ⟨hgW, fun k hk => mark_old _ _ _ _ hk⟩
            have tab : mark tg wr.heap.size f ab = f := mark_new _ _ _ _ (by omega)
            have hR1 := hR.still sW
            have hD1 := hD.still sW
            have hK1 := hfK.still sW
            have hc1 := hc.then hgW
            generalize mark tg wr.heap.size f = tg1 at *
            clear hW a0c a1c hR hD hK hgW hab2 sW hc hfK
            generalize hwh : A.wh = wh at *
            generalize A.num = num at *
            clear hwh
            go_cut [6, 8, 11, 12, 13] (fun rv dv lv kv tv wx => ∃ (rb db : Nat) (last : Int) (tg : Nat → Nat) (a b : Nat) (N C : List UInt8), rv = .pointer (some ⟨rb, 0, none⟩) ∧ dv = .pointer (some ⟨db, 0, none⟩) ∧ lv = .int .i64 last ∧ a ≠ b ∧ HasR w.heap.size wx tg a rb k N C ∧ HasD w.heap.size wx tg b db k N C ∧ Keep w.heap.size k wx tg [a, b] kv tv ∧ Chg [] w wx)
            case first =>
              by_cases w0 : wh = 0
              · as_aux_lemma =>
                  subst w0
                  have cR := r_alloc hR1
                  have cD := fun (w5 : World) (t5 : Nat → Nat) (h5 : HasD w.heap.size w5 t5 b db k N C) => d_alloc h5
                  generalize allocN N C = q at *
                  obtain ⟨x, ec, N'⟩ := q
                  simp only at cR cD
                  have v1 : (x != x) = false := by simp
                  have v2 : (ec != ec) = false := by simp
                  have CD := mkHid cD
                  clear cD
                  go_wp2_with fail
                  refine cR.mono ?_
                  rintro e w5 ⟨rfl, t5, hR5, s5⟩
                  have hD5 := hD1.stay s5 hab
                  have hK5 := hK1.stay s5 (by simp)
                  have hc5 := s5.base hc1
                  clear cR hR1 hD1 hK1 hc1 s5
                  go_wp2_with fail
                  refine (CD.out w5 t5 hD5).mono ?_
                  rintro e w6 ⟨rfl, t6, hD6, s6⟩
                  have hR6 := hR5.stay s6 (Ne.symm hab)
                  have hK6 := hK5.stay s6 (by simp)
                  have hc6 := s6.base hc5
                  go_wp2_with fail
                  go_meet
                  exact ⟨rb, db, x, t6, a, b, N', C, rfl, rfl, rfl, hab, hR6, hD6, hK6.less (by simp), hc6⟩
              · by_cases w1 : wh = 1
                · as_aux_lemma =>
                    subst w1
                    have cR := fun (w5 : World) (h5 : HasR w.heap.size w5 tg1 a rb k N C) => r_inc h5 num
                    have cD := fun (w5 : World) (t5 : Nat → Nat) (h5 : HasD w.heap.size w5 t5 b db k N C) => d_inc h5 num
                    generalize incN N num = q at *
                    obtain ⟨ec, N'⟩ := q
                    simp only at cR cD
                    have v2 : (ec != ec) = false := by simp
                    have CR := mkHid cR
                    have CD := mkHid cD
                    have HD := mkHid hD1
                    have HK := mkHid hK1
                    clear cD cR hD1 hK1
                    go_wp2_with fail
                    go_region_held3 (fun u => u.cell? ⟨ab, 1, none⟩ = some (.int .i64 num))
                      (first | exact x1 | exact (s5.cellv (by assumption) tab hfa.symm).1 | exact x5 | exact x6 | assumption)
                      (first
                      | (go_at_call 12; refine (CR.out _ (by first | exact hR1 | exact hR1.still (Still.of (Chg.drew _ _)))).mono ?_; rintro e w5 ⟨rfl, t5, hR5, s5⟩; obtain ⟨x5, tab5⟩ := s5.cellv (j := f) (by first | exact x1 | exact (Chg.drew [] _).cellv x1 (by simp)) tab hfa.symm; have hD5 := (show HasD w.heap.size _ tg1 b db k N C by first | exact HD.out | exact HD.out.still (Still.of (Chg.drew _ _))).stay s5 hab)
                      | (go_at_call 13; refine (CD.out _ _ (by first | exact hD5 | exact hD5.still (Still.of (Chg.drew _ _)))).mono ?_; rintro e w6 ⟨rfl, t6, hD6, s6⟩; obtain ⟨x6, tab6⟩ := s6.cellv (j := f) (by first | exact x5 | exact (Chg.drew [] _).cellv x5 (by simp)) tab5 hfb.symm))
                    have hR6 := hR5.stay (by first | exact s6 | exact s6.ahead' (Chg.drew [] _)) (Ne.symm hab)
                    have hK6 := (HK.out.stay (by first | exact s5 | exact s5.ahead' (Chg.drew [] _)) (show a ∈ [f, a, b] by simp)).stay (by first | exact s6 | exact s6.ahead' (Chg.drew [] _)) (show b ∈ [f, a, b] by simp)
                    have hc5 := (show Turn w.heap.size tg1 t5 a W w5 by first | exact s5 | exact s5.ahead' (Chg.drew [] _)).base hc1
                    have hc6 := (show Turn w.heap.size t5 t6 b w5 w6 by first | exact s6 | exact s6.ahead' (Chg.drew [] _)).base hc5
                    go_wp2_with fail
                    go_meet
                    exact ⟨rb, db, last, t6, a, b, N', C, rfl, rfl, rfl, hab, hR6, hD6, hK6.less (by simp), hc6⟩
                · by_cases w2 : wh = 2 ∨ wh = 6
                  · obtain ⟨z, hz⟩ : ∃ z, z = (if wh = 6 then last else num) := ⟨_, rfl⟩
                    have cR := r_dec hR1 z
                    have cD := fun (w5 : World) (t5 : Nat → Nat) (h5 : HasD w.heap.size w5 t5 b db k N C) => d_dec h5 z
                    generalize decN N z = q at *
                    obtain ⟨gone, ec, N'⟩ := q
                    simp only at cR cD
                    have v1 : (gone != gone) = false := by simp
                    have v2 : (ec != ec) = false := by simp
                    have CD := mkHid cD
                    clear cD
                    rcases w2 with w2 | w2
                    · as_aux_lemma =>
                        subst w2
                        rw [if_neg (by decide)] at hz
                        subst hz
                        go_wp2_with fail
                        refine cR.mono ?_
                        rintro e w5 ⟨rfl, t5, hR5, s5⟩
                        have hD5 := hD1.stay s5 hab
                        have hK5 := hK1.stay s5 (by simp)
                        have hc5 := s5.base hc1
                        clear cR hR1 hD1 hK1 hc1 s5
                        go_wp2_with fail
                        refine (CD.out w5 t5 hD5).mono ?_
                        rintro e w6 ⟨rfl, t6, hD6, s6⟩
                        have hR6 := hR5.stay s6 (Ne.symm hab)
                        have hK6 := hK5.stay s6 (by simp)
                        have hc6 := s6.base hc5
                        go_wp2_with fail
                        go_meet
                        exact ⟨rb, db, last, t6, a, b, N', C, rfl, rfl, rfl, hab, hR6, hD6, hK6.less (by simp), hc6⟩
                    · as_aux_lemma =>
                        subst w2
                        rw [if_pos rfl] at hz
                        subst hz
                        go_wp2_with fail
                        refine cR.mono ?_
                        rintro e w5 ⟨rfl, t5, hR5, s5⟩
                        have hD5 := hD1.stay s5 hab
                        have hK5 := hK1.stay s5 (by simp)
                        have hc5 := s5.base hc1
                        clear cR hR1 hD1 hK1 hc1 s5
                        go_wp2_with fail
                        refine (CD.out w5 t5 hD5).mono ?_
                        rintro e w6 ⟨rfl, t6, hD6, s6⟩
                        have hR6 := hR5.stay s6 (Ne.symm hab)
                        have hK6 := hK5.stay s6 (by simp)
                        have hc6 := s6.base hc5
                        go_wp2_with fail
                        go_meet
                        exact ⟨rb, db, z, t6, a, b, N', C, rfl, rfl, rfl, hab, hR6, hD6, hK6.less (by simp), hc6⟩
                  · by_cases w3 : wh = 3
                    · as_aux_lemma =>
                        subst w3
                        go_wp2_with fail
                        refine (r_commit hR1).mono ?_
                        rintro e w5 ⟨rfl, t5, hR5, s5⟩
                        have hD5 := hD1.stay s5 hab
                        have hK5 := hK1.stay s5 (by simp)
                        have hc5 := s5.base hc1
                        clear hR1 hD1 hK1 hc1 s5
                        go_wp2_with fail
                        refine (d_commit hD5).mono ?_
                        rintro e w6 ⟨rfl, t6, hD6, s6⟩
                        have hR6 := hR5.stay s6 (Ne.symm hab)
                        have hK6 := hK5.stay s6 (by simp)
                        have hc6 := s6.base hc5
                        go_wp2_with fail
                        go_meet
                        exact ⟨rb, db, last, t6, a, b, N, N, rfl, rfl, rfl, hab, hR6, hD6, hK6.less (by simp), hc6⟩
                    · by_cases w4 : wh = 4
                      · as_aux_lemma =>
                          subst w4
                          go_wp2_with fail
                          refine (r_abort hR1).mono ?_
                          rintro e w5 ⟨rfl, t5, hR5, s5⟩
                          have hD5 := hD1.stay s5 hab
                          have hK5 := hK1.stay s5 (by simp)
                          have hc5 := s5.base hc1
                          clear hR1 hD1 hK1 hc1 s5
                          go_wp2_with fail
                          refine (d_abort hD5).mono ?_
                          rintro e w6 ⟨rfl, t6, hD6, s6⟩
                          have hR6 := hR5.stay s6 (Ne.symm hab)
                          have hK6 := hK5.stay s6 (by simp)
                          have hc6 := s6.base hc5
                          go_wp2_with fail
                          go_meet
                          exact ⟨rb, db, last, t6, a, b, C, C, rfl, rfl, rfl, hab, hR6, hD6, hK6.less (by simp), hc6⟩
                      · by_cases w5 : wh = 5
                        · as_aux_lemma =>
                            subst w5
                            go_wp2_with fail
                            refine (r_copy hR1 f).mono ?_
                            rintro e w5 ⟨xb, rfl, t5, hX5, s5⟩
                            have hR5 := hR1.still s5
                            have hD5 := hD1.still s5
                            have hK5 := hK1.still s5
                            have hc5 := hc1.then s5.1
                            clear hR1 hD1 hK1 hc1 s5
                            go_wp2_with fail
                            refine (r_alloc hR5).mono ?_
                            rintro e w6 ⟨rfl, t6, hR6, s6⟩
                            have hX6 := hX5.stay s6 hfa.symm
                            have hD6 := hD5.stay s6 hab
                            have hK6 := hK5.stay s6 (by simp)
                            have hc6 := s6.base hc5
                            generalize allocN N C = q at *
                            obtain ⟨x, ec, N'⟩ := q
                            simp only at hR6
                            clear hR5 hX5 hD5 hK5 hc5 s6
                            go_wp2_with fail
                            refine (r_dec hR6 0).mono ?_
                            rintro e w7 ⟨rfl, t7, hR7, s7⟩
                            have hX7 := hX6.stay s7 hfa.symm
                            have hD7 := hD6.stay s7 hab
                            have hK7 := hK6.stay s7 (by simp)
                            have hc7 := s7.base hc6
                            generalize decN N' 0 = q at *
                            obtain ⟨gone, ec2, N2⟩ := q
                            simp only at hR7
                            clear hR6 hX6 hD6 hK6 hc6 s7
                            go_wp2_with fail
                            refine (r_commit hR7).mono ?_
                            rintro e w8 ⟨rfl, t8, hR8, s8⟩
                            have hX8 := hX7.stay s8 hfa.symm
                            have hD8 := hD7.stay s8 hab
                            have hK8 := hK7.stay s8 (by simp)
                            have hc8 := s8.base hc7
                            clear hR7 hX7 hD7 hK7 hc7 s8
                            go_wp2_with fail
                            go_meet
                            exact ⟨xb, db, last, t8, f, b, N, C, rfl, rfl, rfl, hfb, hX8, hD8, hK8.less (by simp), hc8⟩
                        · by_cases w7 : wh = 7
                          · as_aux_lemma =>
                              subst w7
                              go_wp2_with fail
                              refine (r_copy hR1 f).mono ?_
                              rintro e w5 ⟨xb, rfl, t5, hX5, s5⟩
                              have hR5 := hR1.still s5
                              have hD5 := hD1.still s5
                              have hc5 := hc1.then s5.1
                              clear hR1 hD1 hK1 hc1 s5
                              go_wp2_with fail
                              refine (d_copy hD5 (a + b + f + 1)).mono ?_
                              rintro e w6 ⟨yb, rfl, t6, hY6, s6⟩
                              have hR6 := hR5.still s6
                              have hD6 := hD5.still s6
                              have hX6 := hX5.still s6
                              have hc6 := hc5.then s6.1
                              clear hR5 hD5 hX5 hc5 s6
                              go_wp2_with fail
                              go_meet
                              exact ⟨rb, db, last, t6, a, b, N, C, rfl, rfl, rfl, hab, hR6, hD6, Or.inr ⟨xb, yb, f, a + b + f + 1, N, C, rfl, rfl, hX6, hY6, by simp; exact ⟨hfa, hfb⟩, by simp; omega, by omega⟩, hc6⟩
                          · by_cases w8 : wh = 8
                            · as_aux_lemma =>
                                subst w8
                                rcases hK1 with ⟨rfl, rfl⟩ | ⟨kb, tb, i2, j2, M, D, rfl, rfl, hX, hY, hi3, hj3, hij⟩
                                · go_wp2_with fail
                                  go_meet
                                  exact ⟨rb, db, last, tg1, a, b, N, C, rfl, rfl, rfl, hab, hR1, hD1, Or.inl ⟨rfl, rfl⟩, hc1⟩
                                · simp at hi3 hj3
                                  obtain ⟨hif, hia, hib⟩ := hi3
                                  obtain ⟨hjf, hja, hjb⟩ := hj3
                                  go_wp2_with fail
                                  refine (r_become hR1 hX).mono ?_
                                  rintro e w5 ⟨rfl, t5, hR5, s5⟩
                                  have hX5 := hX.stay s5 (Ne.symm hia)
                                  have hY5 := hY.stay s5 (Ne.symm hja)
                                  have hc5 := s5.base hc1
                                  clear hR1 hD1 hX hY hc1 s5
                                  go_wp2_with fail
                                  refine (d_copy hY5 f).mono ?_
                                  rintro e w6 ⟨yb, rfl, t6, hD6, s6⟩
                                  have hR6 := hR5.still s6
                                  have hX6 := hX5.still s6
                                  have hY6 := hY5.still s6
                                  have hc6 := hc5.then s6.1
                                  clear hR5 hX5 hY5 hc5 s6
                                  go_wp2_with fail
                                  refine (r_alloc hX6).mono ?_
                                  rintro e w7 ⟨rfl, t7, hX7, s7⟩
                                  have hR7 := hR6.stay s7 hia
                                  have hD7 := hD6.stay s7 hif
                                  have hY7 := hY6.stay s7 hij
                                  have hc7 := s7.base hc6
                                  generalize allocN M D = q at *
                                  obtain ⟨x, ec, M'⟩ := q
                                  simp only at hX7
                                  clear hR6 hD6 hX6 hY6 hc6 s7
                                  go_wp2_with fail
                                  refine (r_dec hX7 0).mono ?_
                                  rintro e w8 ⟨rfl, t8, hX8, s8⟩
                                  have hR8 := hR7.stay s8 hia
                                  have hD8 := hD7.stay s8 hif
                                  have hY8 := hY7.stay s8 hij
                                  have hc8 := s8.base hc7
                                  generalize decN M' 0 = q at *
                                  obtain ⟨gone, ec2, M2⟩ := q
                                  simp only at hX8
                                  clear hR7 hD7 hX7 hY7 hc7 s8
                                  go_wp2_with fail
                                  refine (r_become hX8 hR8).mono ?_
                                  rintro e w9 ⟨rfl, t9, hX9, s9⟩
                                  have hR9 := hR8.stay s9 hia
                                  have hD9 := hD8.stay s9 hif
                                  have hY9 := hY8.stay s9 hij
                                  have hc9 := s9.base hc8
                                  clear hR8 hD8 hX8 hY8 hc8 s9
                                  go_wp2_with fail
                                  go_meet
                                  exact ⟨rb, yb, last, t9, a, f, M, D, rfl, rfl, rfl, hfa.symm, hR9, hD9, Or.inr ⟨kb, tb, i2, j2, M, D, rfl, rfl, hX9, hY9, by simp; exact ⟨hia, hif⟩, by simp; exact ⟨hja, hjf⟩, hij⟩, hc9⟩
                            · as_aux_lemma =>
                                have b0 : (wh == 0) = false := beq_eq_false_iff_ne.2 w0
                                have b1 : (wh == 1) = false := beq_eq_false_iff_ne.2 w1
                                have b2 : (wh == 2) = false := beq_eq_false_iff_ne.2 (fun e => w2 (Or.inl e))
                                have b3 : (wh == 3) = false := beq_eq_false_iff_ne.2 w3
                                have b4 : (wh == 4) = false := beq_eq_false_iff_ne.2 w4
                                have b5 : (wh == 5) = false := beq_eq_false_iff_ne.2 w5
                                have b6 : (wh == 6) = false := beq_eq_false_iff_ne.2 (fun e => w2 (Or.inr e))
                                have b7 : (wh == 7) = false := beq_eq_false_iff_ne.2 w7
                                have b8 : (wh == 8) = false := beq_eq_false_iff_ne.2 w8
                                clear w0 w1 w2 w3 w4 w5 w7 w8
                                go_wp2_with fail
                                go_meet
                                exact ⟨rb, db, last, tg1, a, b, N, C, rfl, rfl, rfl, hab, hR1, hD1, hK1.less (by simp), hc1⟩
            case rest =>
              clear hR1 hD1 hK1 hc1 x0 x1 tab
              obtain ⟨rb', db', last', tg', a', b', N', C', rfl, rfl, rfl, hab', hR, hD, hK, hc⟩ := hcut
              have cL := alike_has hR hD
              go_wp2_with (first | (go_at_call 23; refine cL.mono ?_; rintro e w9 ⟨rfl, g9⟩))
              exact ⟨⟨i + 1, rb', db', last', tg', a', b', N', C', by first | rfl | go_num, rfl, rfl, rfl, by omega, by omega, hab', hR.still (Still.of g9), hD.still (Still.of g9), hK.still (Still.of g9), hc.then g9⟩, by simp [intOf]; omega⟩
          · have hfin : (i = n1) ∨ (i < n1 ∧ i = 300) := by omega
            clear hcont
            rcases hfin with hk9 | ⟨hk8, hk9⟩
            · have hd : decide (i < n1) = false := decide_eq_false (by omega)
              have hd2 : decide ((i : Int) < (n1 : Int)) = false := decide_eq_false (by omega)
              have cL := alike_has hR hD
              subst hk9
              go_wp2_with (first | (go_at_call 23; refine cL.mono ?_; rintro e w9 ⟨rfl, g9⟩))
              go_ret
              exact ⟨rfl, hc.then g9⟩
            · have hd : decide (i < n1) = true := decide_eq_true (by omega)
              have hd2 : decide ((i : Int) < (n1 : Int)) = true := decide_eq_true (by omega)
              have hbr : ((i : Int) == 300) = true := beq_iff_eq.2 (by omega)
              have hk7 : i < n1 := hk8
              clear hk9
              obtain ⟨bk, o, rfl, hacts⟩ := ga (by omega)
              have hA := (hacts i hk7).keep hc
              clear hacts
              generalize acts i = A at *
              obtain ⟨a0c, a1c, aw0, aw1⟩ := hA
              have gq := Chg.alloc [] wr (.cells #[.int .i64 A.wh, .int .i64 A.num] 33)
              have cL := alike_has (hR.still (Still.of gq)) (hD.still (Still.of gq))
              go_wp2_with (first | (go_at_call 23; refine cL.mono ?_; rintro e w9 ⟨rfl, g9⟩))
              go_ret
              exact ⟨rfl, (hc.then gq).then g9⟩
  · have cO := rnew_out wa n wc w1 (by omega) hnb
    have cD := dnew_out a0 n c w1 (by omega) hnb
    have cA := awake_any w1
    go_wp2_with (first | (go_at_call 7; refine cO.mono ?_; rintro e w' ⟨rfl, rfl⟩) | (go_at_call 8; refine cD.mono ?_; rintro e w' ⟨rfl, rfl⟩) | (go_at_call 9; refine cA.mono ?_; rintro e w9 ⟨rfl, hg⟩))
    go_ret
    exact ⟨rfl, g1.then hg⟩
end Go.Proofs.Ytppjjlooocigdaa
