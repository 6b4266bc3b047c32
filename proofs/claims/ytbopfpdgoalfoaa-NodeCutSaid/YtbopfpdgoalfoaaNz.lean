/- NodeCut. -/
import Derived.Test.YtbopfpdgoalfoaaNy
namespace Go.Proofs.Ytbopfpdgoalfoaa
open Go.RowKit
set_option linter.unusedVariables false
set_option linter.unusedSimpArgs false
attribute [local go_sem ↓] Go.wp_at_zero Go.wp_at_succ

/-- A form one of whose bytes is another one is no form of that node. -/
theorem other_byte {lf : Bool} {K V : List Nat} {j : Nat} {x by_ : UInt8} (hj : (formN lf K V)[j]? = some x) (hb : by_ ≠ 0) : takeN ((formN lf K V).set j (x ^^^ by_)) ≠ (0, lf, K, V) := by
  intro h
  obtain ⟨-, -, -, z, hz, -⟩ := took_node h
  have hl := congrArg List.length hz
  rw [List.length_set, List.length_append] at hl
  have hz0 : z = [] := List.eq_nil_of_length_eq_zero (by omega)
  rw [hz0, List.append_nil] at hz
  have hlt := (List.getElem?_eq_some_iff.1 hj).1
  have h2 : ((formN lf K V).set j (x ^^^ by_))[j]? = some (x ^^^ by_) := List.getElem?_set_self hlt
  rw [hz, hj] at h2
  have h3 : x = x ^^^ by_ := Option.some.inj h2
  have h4 : x ^^^ x = x ^^^ (x ^^^ by_) := congrArg (x ^^^ ·) h3
  rw [UInt8.xor_self, ← UInt8.xor_assoc, UInt8.xor_self, UInt8.zero_xor] at h4
  exact hb h4.symm
theorem same_byte {l : List UInt8} {j : Nat} {x : UInt8} (hj : l[j]? = some x) : l.set j (x ^^^ 0) = l := by
  rw [UInt8.xor_zero]
  obtain ⟨h, rfl⟩ := List.getElem?_eq_some_iff.1 hj
  exact List.set_getElem_self h
theorem sameB_iff {lf lf' : Bool} {K V K' V' : List Nat} : sameB lf lf' K V K' V' = true ↔ lf = lf' ∧ K = K' ∧ V = V' := by
  unfold sameB
  simp [and_assoc]
theorem byte_of {F : List UInt8} {n j : Nat} (hl : F.length = n) (hj : j < n) : ∃ x, F[j]? = some x ∧ (bts F)[j]? = some (.int .u8 (v8 x)) :=
  ⟨F[j]'(by omega), List.getElem?_eq_getElem (by omega), bts_get8 F j (by omega)⟩
set_option maxRecDepth 20000 in
set_option maxHeartbeats 4000000 in
theorem cut_core (lf : Bool) (ka : Option Addr) (kl kc : Nat) (va : Option Addr) (vl vc : Nat) (K V : List Nat) (p : Nat) (b : UInt8) (w : World) (h : RdN w ka kc va vc K V) (hk : K.length = kl) (hv : V.length = vl) (hbK : ∀ x ∈ K, x < 2 ^ 64) (hbV : ∀ x ∈ V, x < 2 ^ 64) (hp : p < 65536) :
    Calls Try.prog 6 #[.agg #[.bool lf, .slice ka kl kc, .slice va vl vc], .int .u16 (p : Int), .int .u8 (v8 b)] w fun e w' => e = .returned (.bool true) ∧ Chg [] w w' := by
  have g0 := Chg.alloc [] w (.cells #[.bool lf, .slice ka kl kc, .slice va vl vc] 24)
  obtain ⟨c0, c1, c2⟩ := laid3 w (.bool lf) (.slice ka kl kc) (.slice va vl vc) 24
  have HK := mkHid hk
  have HV := mkHid hv
  have h1 := h.keep g0
  go_enter Try.func6, Try.ntmps6
  clear hk hv
  go_wp2_with fail
  generalize w.alloc (.cells #[.bool lf, .slice ka kl kc, .slice va vl vc] 24) = w1 at *
  generalize hnb0 : w.heap.size = nb at *
  have HNB := mkHid hnb0
  clear hnb0
  cases hm : mayB K V with
  | false =>
    refine (put_node_no lf ka kl kc va vl vc K V w1 h1 HK.out HV.out hm).mono ?_
    rintro e w2 ⟨rfl, g2⟩
    have d0 := g2.cellv c0 (by simp)
    have d1 := g2.cellv c1 (by simp)
    have d2 := g2.cellv c2 (by simp)
    have h2 := h1.keep g2
    have q2 := g0.then g2
    clear c0 c1 c2 h1 g0 g2
    go_wp2_with fail
    refine (awake_any w2).mono ?_
    rintro e w3 ⟨rfl, g3⟩
    have c0 := g3.cellv d0 (by simp)
    have c1 := g3.cellv d1 (by simp)
    have c2 := g3.cellv d2 (by simp)
    have h3 := h2.keep g3
    have q3 := q2.then g3
    clear d0 d1 d2 h2 q2 g3
    go_wp2_with fail
    have cM := may_any lf ka kl kc va vl vc K V w3 h3 HK.out HV.out
    rw [hm] at cM
    refine cM.mono ?_
    rintro e w4 ⟨rfl, g4⟩
    go_wp2_with fail
    go_ret
    exact ⟨rfl, q3.then g4⟩
  | true =>
    refine (put_node lf ka kl kc va vl vc K V w1 h1 HK.out HV.out hbK hbV hm).mono ?_
    rintro e w2 ⟨a, c, rfl, hr, g2⟩
    have TC := fun j (hj : j < (formN lf K V).length) => take_cut hm hbK hbV hj (lf := lf)
    have TF := take_form hm hbK hbV [] (lf := lf)
    rw [List.append_nil] at TF
    have OB := fun j (x by_ : UInt8) (hj : (formN lf K V)[j]? = some x) (hb : by_ ≠ 0) => other_byte hj hb
    have hpos : 0 < (formN lf K V).length := by
      have := form_len (lf := lf) (follows_of hm hbK hbV).len
      omega
    have hbound : (formN lf K V).length ≤ 140737488351232 := by
      have := form_len (lf := lf) (follows_of hm hbK hbV).len
      have := may_len hm
      omega
    have d0 := g2.cellv c0 (by simp)
    have d1 := g2.cellv c1 (by simp)
    have d2 := g2.cellv c2 (by simp)
    have h2 := h1.keep g2
    have q2 := g0.then g2
    generalize formN lf K V = F at *
    have HTC := mkHid TC
    have HTF := mkHid TF
    have HOB := mkHid OB
    clear TC TF OB c0 c1 c2 h1 g0 g2
    have hfl := hr.len
    rw [bts_length] at hfl
    generalize hz : F.length = fl at *
    have HFL := mkHid hz
    have HFB := mkHid hbound
    clear hz hfl hbound
    have hj : p % fl < fl := Nat.mod_lt _ hpos
    have hmod : Int.tmod (p : Int) (fl : Int) = ((p % fl : Nat) : Int) := by rw [Int.tmod_eq_emod_of_nonneg (by omega)]; omega
    generalize p % fl = j at *
    have hne : ((fl : Int) == 0) = false := by simp; omega
    have hlc := hr.le
    have r1 := fun u => run_take_k (P := Try.prog) (t := 26) (e := 5) a fl c j Try.underlying26 (by kernel_rfl) (by omega : j ≤ c) u
    have hm0 := hr.max
    go_wp2_with fail
    have ct := take_any a j c (F.take j) w2 (by rw [← bts_take]; exact hr.reads.take j) (by rw [List.length_take, HFL.out]; omega) (by omega) hr.max
    rw [HTC.out j hj] at ct
    refine ct.mono ?_
    rintro e w3 ⟨⟨ea, eac, eb, ebc, rfl, -, -, -⟩, g3⟩
    dsimp only [List.length_nil]
    have gN := g3.then (Chg.alloc [] w3 (.cells #[.bool false, .slice ea 0 eac, .slice eb 0 ebc] 24))
    have gNE := gN.then (Chg.alloc [] _ (.cells #[] 5))
    have r4 := hr.reads.keep gNE
    have d0' := gN.cellv d0 (by simp)
    have d1' := gN.cellv d1 (by simp)
    have d2' := gN.cellv d2 (by simp)
    have q4 := q2.then gN
    have h4 := h2.keep gN
    have hnb3 : nb < w3.heap.size := Nat.lt_of_lt_of_le (block_lt_of_cell d0) g3.size
    have hfb : (bts F).length = fl := by rw [bts_length]; exact HFL.out
    have hsz : w3.heap.size ≤ ((w3.alloc (.cells #[.bool false, .slice ea 0 eac, .slice eb 0 ebc] 24)).alloc (.cells #[] 5)).heap.size := by simp; omega
    have hml : fl ≤ maxLen := Nat.le_trans hlc hm0
    have hfl2 : fl ≤ 140737488351232 := by have := HFB.out; omega
    have H4 := mkHid (And.intro h4 (And.intro r4 (And.intro hfb hsz)))
    clear ct r1 hr d0 d1 d2 g3 gN gNE q2 h2 h4 r4 hfb hsz
    go_wp2_with (at_builtin; refine wpList_append_k _ rfl (.tmp 43) (.tmp 44) 26 rfl 5 1 eltB w3.heap.size _ 0 0 [] rfl (Room.nil _ _ _) H4.out.2.2.2 a fl c (bts F) rfl H4.out.2.1 H4.out.2.2.1 (bts_one _) (by omega) (by omega) ?_; intro ya yc w5 r5 g5 f5; simp only [Nat.zero_add, List.nil_append] at r5; rw [fp_zero] at g5; have G5 := (Chg.alloc [] _ (.cells #[] 5)).then g5; have e0 := G5.cellv d0' (by simp); have e1 := G5.cellv d1' (by simp); have e2 := G5.cellv d2' (by simp); have q5 := q4.then G5; have H5 := mkHid (And.intro (H4.out.1.keep G5) q5); obtain ⟨x, hx, mx⟩ : ∃ x, F[j]? = some x ∧ (bts F)[j]? = some (.int .u8 (v8 x)) := byte_of HFL.out hj; obtain ⟨yb, yo, rfl, zy, _⟩ := reads_lt r5.reads j _ mx; have fy := r5.cell j hj; have hxor := x8 x b; have hgy := Chg.setCell w5 ⟨yb, yo + j, none⟩ (.int .u8 (v8 (x ^^^ b))); have r6 := r5.set j hj (.int .u8 (v8 (x ^^^ b))); rw [bts_set] at r6; have hyb : w3.heap.size ≤ yb := (r5.lt yb (by rw [fp_some _ _ _ (Nat.lt_of_lt_of_le hpos r5.le)]; simp)).1; have H6 := mkHid (And.intro r6 (And.intro hgy (And.intro hyb hx))); clear d0' d1' d2' r5 g5 f5 G5 q4 q5 mx r6 hgy hyb)
    obtain ⟨r6, hgy, hyb, hx⟩ := H6.out
    have hnin : nb ∉ [yb] := by simp; omega
    have s0 := hgy.cellv e0 hnin
    have s1 := hgy.cellv e1 hnin
    have s2 := hgy.cellv e2 hnin
    have hfresh : ∀ q, q ∈ [yb] → q < w.heap.size → q ∈ ([] : List Nat) := fun q hq hlt => by simp at hq; have := HNB.out; omega
    have q6 := H5.out.2.trans hgy (U := []) (by simp) hfresh
    have n6 : RdN (w5.setCell ⟨yb, yo + j, none⟩ (.int .u8 (v8 (x ^^^ b)))) ka kc va vc K V := by
      have hN := H5.out.1
      refine ⟨?_, ?_, hN.ck, hN.cv, hN.bk, hN.bv, hN.xk, hN.xv⟩
      · exact h.rk.keep q6
      · exact h.rv.keep q6
    have ct := take_any (some ⟨yb, yo, none⟩) fl yc (F.set j (x ^^^ b)) _ r6.reads (by rw [List.length_set]; exact HFL.out) r6.le r6.max
    clear e0 e1 e2 zy fy r6 hgy hnin H6 H4 H5 hyb
    generalize w5.setCell ⟨yb, yo + j, none⟩ (.int .u8 (v8 (x ^^^ b))) = w6 at *
    have hob := HOB.out j x b hx
    have hsb := same_byte hx
    have htf : takeN F = (0, lf, K, V) := HTF.out.trans (if_pos rfl)
    have hz : b = 0 → takeN (F.set j (x ^^^ b)) = (0, lf, K, V) := by rintro rfl; rw [hsb]; exact htf
    have EV := took_even (F.set j (x ^^^ b))
    have TL := took_len (l := F.set j (x ^^^ b))
    clear hsb htf
    generalize takeN (F.set j (x ^^^ b)) = r at *
    obtain ⟨er, lf', K', V'⟩ := r
    dsimp only at EV TL
    refine ct.mono ?_
    rintro e w7 ⟨⟨ma, mac, mb, mbc, rfl, rk, rv, -⟩, g7⟩
    dsimp only at rk rv ⊢
    rw [← EV] at rv ⊢
    generalize hkl' : K'.length = kl' at *
    have gM := Chg.alloc [] w7 (.cells #[.bool lf', .slice ma kl' mac, .slice mb kl' mbc] 24)
    obtain ⟨l0, l1, l2⟩ := laid3 w7 (.bool lf') (.slice ma kl' mac) (.slice mb kl' mbc) 24
    have gg := g7.then gM
    have e0 := gg.cellv s0 (by simp)
    have e1 := gg.cellv s1 (by simp)
    have e2 := gg.cellv s2 (by simp)
    have rk8 := rk.chg gM (by simp)
    have rv8 := rv.chg gM (by simp)
    have q8 := q6.then gg
    have n8 := n6.keep gg
    have nM : RdN (w7.alloc (.cells #[.bool lf', .slice ma kl' mac, .slice mb kl' mbc] 24)) ma mac mb mbc K' V' := ⟨rk8.reads, rv8.reads, by rw [hkl']; exact rk8.le, by rw [← EV]; exact rv8.le, by rw [hkl']; omega, by rw [← EV]; omega, rk8.max, rv8.max⟩
    have hk8 := HK.out
    have hv8 := HV.out
    have cS := fun (u : World) (g : Chg [] (w7.alloc (.cells #[.bool lf', .slice ma kl' mac, .slice mb kl' mbc] 24)) u) => same_any lf' ma kl' mac mb kl' mbc K' V' lf ka kl kc va vl vc K V u (nM.keep g) hkl' EV.symm (n8.keep g) hk8 hv8
    have CS := mkHid cS
    have hsame : sameB lf' lf K' V' K V = true → er = 0 → (er, lf', K', V') = ((0 : Int), lf, K, V) := by
      intro hs he
      obtain ⟨rfl, rfl, rfl⟩ := sameB_iff.1 hs
      rw [he]
    by_cases hb : b = 0
    · have hv0 : (v8 b == 0) = true := by rw [hb]; rfl
      have hr := hz hb
      simp only [Prod.mk.injEq] at hr
      obtain ⟨rfl, rfl, rfl, rfl⟩ := hr
      rw [same_self] at cS
      have CS := mkHid cS
      clear cS hz hob hsame rk rv rk8 rv8 s0 s1 s2 n6 n8 nM hkl' EV ct g7 gM gg q6
      go_wp2_with fail
      generalize w7.alloc (.cells #[.bool lf', .slice ma kl' mac, .slice mb kl' mbc] 24) = w8 at *
      generalize w7.heap.size = mn at *
      refine (awake_any w8).mono ?_
      rintro e w9 ⟨rfl, g9⟩
      have s0 := g9.cellv e0 (by simp)
      have s1 := g9.cellv e1 (by simp)
      have s2 := g9.cellv e2 (by simp)
      have m0 := g9.cellv l0 (by simp)
      have m1 := g9.cellv l1 (by simp)
      have m2 := g9.cellv l2 (by simp)
      clear e0 e1 e2 l0 l1 l2
      go_wp2_with fail
      refine (CS.out w9 g9).mono ?_
      rintro e wa ⟨rfl, ga⟩
      go_wp2_with fail
      go_ret
      exact ⟨rfl, (q8.then g9).then ga⟩
    · have hv0 : (v8 b == 0) = false := by
        have h0 : b.toNat ≠ 0 := fun e => hb (UInt8.toNat_inj.1 (by simpa using e))
        unfold v8
        simp
        omega
      have hr := hob hb
      clear cS hz hob rk rv rk8 rv8 s0 s1 s2 n6 n8 nM hkl' EV ct g7 gM gg q6
      go_wp2_with fail
      generalize w7.alloc (.cells #[.bool lf', .slice ma kl' mac, .slice mb kl' mbc] 24) = w8 at *
      generalize w7.heap.size = mn at *
      refine (awake_any w8).mono ?_
      rintro e w9 ⟨rfl, g9⟩
      have s0 := g9.cellv e0 (by simp)
      have s1 := g9.cellv e1 (by simp)
      have s2 := g9.cellv e2 (by simp)
      have m0 := g9.cellv l0 (by simp)
      have m1 := g9.cellv l1 (by simp)
      have m2 := g9.cellv l2 (by simp)
      clear e0 e1 e2 l0 l1 l2
      by_cases he : er = 0
      · have hf : sameB lf' lf K' V' K V = false := by
          cases hq : sameB lf' lf K' V' K V with
          | false => rfl
          | true => exact absurd (hsame hq he) hr
        subst he
        have HF := mkHid hf
        clear hf hsame hr
        go_wp2_with fail
        have cc := CS.out w9 g9
        rw [HF.out] at cc
        refine cc.mono ?_
        rintro e wa ⟨rfl, ga⟩
        go_wp2_with fail
        go_ret
        exact ⟨rfl, (q8.then g9).then ga⟩
      · have hne2 : (er != 0) = true := by simp; exact he
        clear hsame hr
        go_wp2_with fail
        go_ret
        exact ⟨rfl, q8.then g9⟩
end Go.Proofs.Ytbopfpdgoalfoaa
