/- The package: Join, copied, part, replaced, Insert, Set, Remove. -/
import Derived.Test.YtlaeonemlodhmaaIo
import Derived.Test.YtlaeonemlodhmaaIj
namespace Go.Proofs.Ytlaeonemlodhmaa
open Go.RowKit
set_option linter.unusedVariables false
set_option linter.unusedSimpArgs false
attribute [local go_sem ↓] Go.wp_at_zero Go.wp_at_succ

theorem ch_out {B : Nat} {lf : Bool} {X Y : List Nat} {e : Ending} {w' : World} (h : ChOut B lf (RL X) (RL Y) e w') : NOut B lf X Y e w' := by
  obtain ⟨x, y, lo, hi, lo', hi', rfl, ⟨a, c, rfl, r, m⟩, ⟨a', c', rfl, r', m'⟩, ⟨b1, b2, b3, b4⟩, d⟩ := h
  exact ⟨a, c, a', c', rfl, ⟨r.mono b1, r'.mono b2, fun q hq hm => by have := (r.lt q hq).1; have := m q hq; have := (r'.lt q hm).1; have := m' q hm; omega⟩⟩
theorem rd_take {w : World} {ka : Option Addr} {kc : Nat} {va : Option Addr} {vc : Nat} {K V : List Nat} (h : RdN w ka kc va vc K V) (t : Nat) : Reads w ka (uvs (K.take t)) ∧ Reads w va (uvs (V.take t)) := by
  have h1 := h.rk.take t
  have h2 := h.rv.take t
  rw [uvs_take] at h1 h2
  exact ⟨h1, h2⟩
theorem enters_join : Enters Try.prog 45 := enters_of Try.func45 (by kernel_rfl) rfl
theorem enters_ins : Enters Try.prog 38 := enters_of Try.func38 (by kernel_rfl) rfl
theorem enters_rep : Enters Try.prog 47 := enters_of Try.func47 (by kernel_rfl) rfl
theorem enters_part : Enters Try.prog 48 := enters_of Try.func48 (by kernel_rfl) rfl
section
variable (lf : Bool) (ka : Option Addr) (kl kc : Nat) (va : Option Addr) (vl vc : Nat) (K V : List Nat) (lf' : Bool) (ka' : Option Addr) (kl' kc' : Nat) (va' : Option Addr) (vl' vc' : Nat) (K' V' : List Nat) (w : World) (h : RdN w ka kc va vc K V) (hk : K.length = kl) (hv : V.length = vl) (h' : RdN w ka' kc' va' vc' K' V') (hk' : K'.length = kl') (hv' : V'.length = vl')
include h hk hv h' hk' hv'
/-- What a change with Join's closure makes. -/
theorem changed_join (hb : np K V + np K' V' ≤ 1000000000) : Calls Try.prog 36 #[.agg #[.bool lf, .slice ka kl kc, .slice va vl vc], .agg #[.bool lf', .slice ka' kl' kc', .slice va' vl' vc'], .func (.func 45) #[] #[]] w fun e w' => NOut w.heap.size lf (tkK K V ++ tkK K' V') (tkV K V ++ tkV K' V') e w' ∧ Chg [] w w' := by
  obtain ⟨P, hP⟩ : ∃ P, np K V = P := ⟨_, rfl⟩
  obtain ⟨P', hP'⟩ : ∃ P, np K' V' = P := ⟨_, rfl⟩
  have l1 := tk_lens (K := K) (V := V)
  have l2 := tk_lens (K := K') (V := V')
  have n1 := np_le (K := K) (V := V)
  have n2 := np_le (K := K') (V := V')
  have ck := h.ck
  have cv := h.cv
  have ck' := h'.ck
  have cv' := h'.cv
  refine (changed_any lf ka kl kc va vl vc lf' ka' kl' kc' va' vl' vc' _ _ enters_join P P' (RL (tkK K V ++ tkK K' V')) (RL (tkV K V ++ tkV K' V')) w (by rw [min_np hk hv, hP]) (by rw [min_np hk' hv', hP']) (by omega) (by omega) (by omega) (by omega) (staysR _ _) (staysR _ _) (fun u g => ?_) (fun u g => ?_)).mono ?_
  · exact joinclo_any ka P kc (tkK K V) ka' P' kc' (tkK K' V') u (rd_take (h.keep g) _).1 (by omega) (rd_take (h'.keep g) _).1 (by omega) (by omega)
  · exact joinclo_any va P vc (tkV K V) va' P' vc' (tkV K' V') u (rd_take (h.keep g) _).2 (by omega) (rd_take (h'.keep g) _).2 (by omega) (by omega)
  · rintro e w' ⟨hc, hg⟩
    exact ⟨ch_out hc, hg⟩
/-- What a change with Insert's closure makes: others' pairs at a place. -/
theorem changed_ins (a xb : Nat) (hx : w.cell? ⟨xb, 0, none⟩ = some (.int .i64 (a : Int))) (ha : a ≤ np K V) (hb : np K V + np K' V' ≤ 1000000000) : Calls Try.prog 36 #[.agg #[.bool lf, .slice ka kl kc, .slice va vl vc], .agg #[.bool lf', .slice ka' kl' kc', .slice va' vl' vc'], .func (.func 38) #[] #[.pointer (some ⟨xb, 0, none⟩)]] w fun e w' => NOut w.heap.size lf (sub K 0 a ++ (tkK K' V' ++ sub K a (np K V))) (sub V 0 a ++ (tkV K' V' ++ sub V a (np K V))) e w' ∧ Chg [] w w' := by
  obtain ⟨P, hP⟩ : ∃ P, np K V = P := ⟨_, rfl⟩
  obtain ⟨P', hP'⟩ : ∃ P, np K' V' = P := ⟨_, rfl⟩
  have l1 := tk_lens (K := K) (V := V)
  have l2 := tk_lens (K := K') (V := V')
  have n1 := np_le (K := K) (V := V)
  have n2 := np_le (K := K') (V := V')
  have ck := h.ck
  have cv := h.cv
  have ck' := h'.ck
  have cv' := h'.cv
  have eK : sub K 0 a = (tkK K V).take a := by unfold tkK; rw [sub_zero, List.take_take, Nat.min_eq_left ha]
  have eV : sub V 0 a = (tkV K V).take a := by unfold tkV; rw [sub_zero, List.take_take, Nat.min_eq_left ha]
  rw [eK, eV]
  refine (changed_any lf ka kl kc va vl vc lf' ka' kl' kc' va' vl' vc' _ _ enters_ins P P' (RL ((tkK K V).take a ++ (tkK K' V' ++ sub K a (np K V)))) (RL ((tkV K V).take a ++ (tkV K' V' ++ sub V a (np K V)))) w (by rw [min_np hk hv, hP]) (by rw [min_np hk' hv', hP']) (by omega) (by omega) (by omega) (by omega) (staysR _ _) (staysR _ _) (fun u g => ?_) (fun u g => ?_)).mono ?_
  · exact insclo_any ka P kc (tkK K V) ka' P' kc' (tkK K' V') a xb u (rd_take (h.keep g) _).1 (by omega) (by omega) h.xk (rd_take (h'.keep g) _).1 (by omega) (g.cellv hx (by simp)) (by omega) (by omega)
  · exact insclo_any va P vc (tkV K V) va' P' vc' (tkV K' V') a xb u (rd_take (h.keep g) _).2 (by omega) (by omega) h.xv (rd_take (h'.keep g) _).2 (by omega) (g.cellv hx (by simp)) (by omega) (by omega)
  · rintro e w' ⟨hc, hg⟩
    exact ⟨ch_out hc, hg⟩
/-- What a change with replaced's closure makes: others' pairs in the place of the one there. -/
theorem changed_rep (a xb : Nat) (hx : w.cell? ⟨xb, 0, none⟩ = some (.int .i64 (a : Int))) (ha : a < np K V) (hb : np K V + np K' V' ≤ 1000000000) : Calls Try.prog 36 #[.agg #[.bool lf, .slice ka kl kc, .slice va vl vc], .agg #[.bool lf', .slice ka' kl' kc', .slice va' vl' vc'], .func (.func 47) #[] #[.pointer (some ⟨xb, 0, none⟩)]] w fun e w' => NOut w.heap.size lf (sub K 0 a ++ (tkK K' V' ++ sub K (a + 1) (np K V))) (sub V 0 a ++ (tkV K' V' ++ sub V (a + 1) (np K V))) e w' ∧ Chg [] w w' := by
  obtain ⟨P, hP⟩ : ∃ P, np K V = P := ⟨_, rfl⟩
  obtain ⟨P', hP'⟩ : ∃ P, np K' V' = P := ⟨_, rfl⟩
  have l1 := tk_lens (K := K) (V := V)
  have l2 := tk_lens (K := K') (V := V')
  have n1 := np_le (K := K) (V := V)
  have n2 := np_le (K := K') (V := V')
  have ck := h.ck
  have cv := h.cv
  have ck' := h'.ck
  have cv' := h'.cv
  have eK : sub K 0 a = (tkK K V).take a := by unfold tkK; rw [sub_zero, List.take_take, Nat.min_eq_left (Nat.le_of_lt ha)]
  have eV : sub V 0 a = (tkV K V).take a := by unfold tkV; rw [sub_zero, List.take_take, Nat.min_eq_left (Nat.le_of_lt ha)]
  rw [eK, eV]
  refine (changed_any lf ka kl kc va vl vc lf' ka' kl' kc' va' vl' vc' _ _ enters_rep P P' (RL ((tkK K V).take a ++ (tkK K' V' ++ sub K (a + 1) (np K V)))) (RL ((tkV K V).take a ++ (tkV K' V' ++ sub V (a + 1) (np K V)))) w (by rw [min_np hk hv, hP]) (by rw [min_np hk' hv', hP']) (by omega) (by omega) (by omega) (by omega) (staysR _ _) (staysR _ _) (fun u g => ?_) (fun u g => ?_)).mono ?_
  · exact repclo_any ka P kc (tkK K V) ka' P' kc' (tkK K' V') a xb u (rd_take (h.keep g) _).1 (by omega) (by omega) h.xk (rd_take (h'.keep g) _).1 (by omega) (g.cellv hx (by simp)) (by omega) (by omega)
  · exact repclo_any va P vc (tkV K V) va' P' vc' (tkV K' V') a xb u (rd_take (h.keep g) _).2 (by omega) (by omega) h.xv (rd_take (h'.keep g) _).2 (by omega) (g.cellv hx (by simp)) (by omega) (by omega)
  · rintro e w' ⟨hc, hg⟩
    exact ⟨ch_out hc, hg⟩
end
theorem nil_rd (w : World) : RdN w none 0 none 0 [] [] := ⟨Reads.nil _ _, Reads.nil _ _, by decide, by decide, by decide, by decide, by decide, by decide⟩
theorem tk_nil : tkK [] [] = [] ∧ tkV [] [] = [] := ⟨rfl, rfl⟩
set_option maxRecDepth 20000 in
set_option maxHeartbeats 1000000 in
theorem join_any (lf : Bool) (ka : Option Addr) (kl kc : Nat) (va : Option Addr) (vl vc : Nat) (K V : List Nat) (lf' : Bool) (ka' : Option Addr) (kl' kc' : Nat) (va' : Option Addr) (vl' vc' : Nat) (K' V' : List Nat) (w : World) (h : RdN w ka kc va vc K V) (hk : K.length = kl) (hv : V.length = vl) (h' : RdN w ka' kc' va' vc' K' V') (hk' : K'.length = kl') (hv' : V'.length = vl') (hb : np K V + np K' V' ≤ 1000000000) :
    Calls Try.prog 25 #[.agg #[.bool lf, .slice ka kl kc, .slice va vl vc], .agg #[.bool lf', .slice ka' kl' kc', .slice va' vl' vc']] w fun e w' => NOut w.heap.size lf (tkK K V ++ tkK K' V') (tkV K V ++ tkV K' V') e w' ∧ Chg [] w w' := by
  obtain ⟨w1, hw1⟩ : ∃ w1, w1 = (((w.alloc (.cells #[.bool lf, .slice ka kl kc, .slice va vl vc] 24)).alloc (.cells #[.bool lf', .slice ka' kl' kc', .slice va' vl' vc'] 24)).alloc (.cells #[.bool false, .slice none 0 0, .slice none 0 0] 24)) := ⟨_, rfl⟩
  have a0 : w1.cell? ⟨w.heap.size, 0, none⟩ = some (.bool lf) := by rw [hw1]; simp [go_sem]
  have a1 : w1.cell? ⟨w.heap.size, 1, none⟩ = some (.slice ka kl kc) := by rw [hw1]; simp [go_sem]
  have a2 : w1.cell? ⟨w.heap.size, 2, none⟩ = some (.slice va vl vc) := by rw [hw1]; simp [go_sem]
  have b0 : w1.cell? ⟨w.heap.size + 1, 0, none⟩ = some (.bool lf') := by rw [hw1]; simp [go_sem]
  have b1 : w1.cell? ⟨w.heap.size + 1, 1, none⟩ = some (.slice ka' kl' kc') := by rw [hw1]; simp [go_sem]
  have b2 : w1.cell? ⟨w.heap.size + 1, 2, none⟩ = some (.slice va' vl' vc') := by rw [hw1]; simp [go_sem]
  have t0 : w1.there (w.heap.size + 1 + 1) 0 3 := fun j hj => by
    rw [hw1]
    match j, hj with
    | 0, _ => simp [go_sem]
    | 1, _ => simp [go_sem]
    | 2, _ => simp [go_sem]
  have g0 : Chg [] w w1 := by rw [hw1]; exact ((Chg.alloc [] w _).then (Chg.alloc [] _ _)).then (Chg.alloc [] _ _)
  have hz : w1.heap.size = w.heap.size + 3 := by rw [hw1]; simp
  have HE := mkHid (And.intro a0 (And.intro a1 (And.intro a2 (And.intro b0 (And.intro b1 (And.intro b2 (And.intro t0 (And.intro g0 (hz)))))))))
  clear a0 a1 a2 b0 b1 b2 t0 g0 hz
  have cC := fun (u : World) (g : Chg [] w u) => changed_join lf ka kl kc va vl vc K V lf' ka' kl' kc' va' vl' vc' K' V' u (h.keep g) hk hv (h'.keep g) hk' hv' hb
  generalize tkK K V ++ tkK K' V' = X at *
  generalize tkV K V ++ tkV K' V' = Y at *
  have CC := mkHid cC
  clear cC h hk hv h' hk' hv' hb
  go_enter Try.func25, Try.ntmps25
  go_wp2_with fail
  rw [← hw1]
  clear hw1
  obtain ⟨a0, a1, a2, b0, b1, b2, t0, g0, hz⟩ := HE.out
  clear HE
  obtain ⟨B1, hB1⟩ : ∃ b, w.heap.size + 1 = b := ⟨_, rfl⟩
  rw [hB1] at b0 b1 b2 t0 ⊢
  obtain ⟨R, hR⟩ : ∃ b, B1 + 1 = b := ⟨_, rfl⟩
  rw [hR] at t0 ⊢
  have HR := mkHid (show w.heap.size + 1 = B1 ∧ B1 + 1 = R ∧ R + 1 = w1.heap.size by omega)
  clear hz hB1 hR
  go_wp2_with fail
  refine (CC.out w1 g0).mono ?_
  rintro e w2 ⟨⟨pa, pc, qa, qc, rfl, hr⟩, gW⟩
  obtain ⟨v0, v1, v2, i0, i1, i2, j0, j1, j2⟩ := there3 (there_chg t0 gW (by simp))
  have gZ := three_chg w2 R (.bool lf) (.slice pa (X).length pc) (.slice qa (Y).length qc)
  have hR1 := HR.out
  have hZ := hr.chg gZ (fun q hq => by simp at hq; have := g0.size; skip; omega)
  have gF := (g0.then gW).trans gZ (U := []) (by simp) (fun q hq hlt => by simp at hq; omega)
  have HF := mkHid (And.intro hZ gF)
  clear hZ gF gZ hr gW
  go_wp2_with fail
  refine bodyPost_ret (v := .agg #[.bool lf, .slice pa (X).length pc, .slice qa (Y).length qc]) (by simp [results, Try.results25, go_sem, i0, i1, i2]) rfl ⟨⟨pa, pc, qa, qc, rfl, HF.out.1.mono (by have := g0.size; skip; omega)⟩, HF.out.2⟩
set_option maxRecDepth 20000 in
set_option maxHeartbeats 1000000 in
theorem copied_any (lf : Bool) (ka : Option Addr) (kl kc : Nat) (va : Option Addr) (vl vc : Nat) (K V : List Nat) (w : World) (h : RdN w ka kc va vc K V) (hk : K.length = kl) (hv : V.length = vl) (hb : np K V ≤ 1000000000) :
    Calls Try.prog 43 #[.agg #[.bool lf, .slice ka kl kc, .slice va vl vc]] w fun e w' => NOut w.heap.size lf (tkK K V) (tkV K V) e w' ∧ Chg [] w w' := by
  obtain ⟨w1, hw1⟩ : ∃ w1, w1 = ((w.alloc (.cells #[.bool lf, .slice ka kl kc, .slice va vl vc] 24)).alloc (.cells #[.bool false, .slice none 0 0, .slice none 0 0] 24)) := ⟨_, rfl⟩
  have a0 : w1.cell? ⟨w.heap.size, 0, none⟩ = some (.bool lf) := by rw [hw1]; simp [go_sem]
  have a1 : w1.cell? ⟨w.heap.size, 1, none⟩ = some (.slice ka kl kc) := by rw [hw1]; simp [go_sem]
  have a2 : w1.cell? ⟨w.heap.size, 2, none⟩ = some (.slice va vl vc) := by rw [hw1]; simp [go_sem]
  have t0 : w1.there (w.heap.size + 1) 0 3 := fun j hj => by
    rw [hw1]
    match j, hj with
    | 0, _ => simp [go_sem]
    | 1, _ => simp [go_sem]
    | 2, _ => simp [go_sem]
  have g0 : Chg [] w w1 := by rw [hw1]; exact (Chg.alloc [] w _).then (Chg.alloc [] _ _)
  have hz : w1.heap.size = w.heap.size + 2 := by rw [hw1]; simp
  have HE := mkHid (And.intro a0 (And.intro a1 (And.intro a2 (And.intro t0 (And.intro g0 (hz))))))
  clear a0 a1 a2 t0 g0 hz
  have cC := fun (u : World) (g : Chg [] w u) => join_any lf ka kl kc va vl vc K V false none 0 0 none 0 0 [] [] u (h.keep g) hk hv (nil_rd u) rfl rfl (by have : np [] [] = 0 := rfl; omega)
  rw [tk_nil.1, tk_nil.2, List.append_nil, List.append_nil] at cC
  generalize tkK K V = X at *
  generalize tkV K V = Y at *
  have CC := mkHid cC
  clear cC h hk hv hb
  go_enter Try.func43, Try.ntmps43
  go_wp2_with fail
  rw [← hw1]
  clear hw1
  obtain ⟨a0, a1, a2, t0, g0, hz⟩ := HE.out
  clear HE
  obtain ⟨R, hR⟩ : ∃ b, w.heap.size + 1 = b := ⟨_, rfl⟩
  rw [hR] at t0 ⊢
  have HR := mkHid (show w.heap.size + 1 = R ∧ R + 1 = w1.heap.size by omega)
  clear hz hR
  go_wp2_with fail
  refine (CC.out w1 g0).mono ?_
  rintro e w2 ⟨⟨pa, pc, qa, qc, rfl, hr⟩, gW⟩
  obtain ⟨v0, v1, v2, i0, i1, i2, j0, j1, j2⟩ := there3 (there_chg t0 gW (by simp))
  have gZ := three_chg w2 R (.bool lf) (.slice pa (X).length pc) (.slice qa (Y).length qc)
  have hR1 := HR.out
  have hZ := hr.chg gZ (fun q hq => by simp at hq; have := g0.size; skip; omega)
  have gF := (g0.then gW).trans gZ (U := []) (by simp) (fun q hq hlt => by simp at hq; omega)
  have HF := mkHid (And.intro hZ gF)
  clear hZ gF gZ hr gW
  go_wp2_with fail
  refine bodyPost_ret (v := .agg #[.bool lf, .slice pa (X).length pc, .slice qa (Y).length qc]) (by simp [results, Try.results43, go_sem, i0, i1, i2]) rfl ⟨⟨pa, pc, qa, qc, rfl, HF.out.1.mono (by have := g0.size; skip; omega)⟩, HF.out.2⟩
set_option maxRecDepth 20000 in
set_option maxHeartbeats 1000000 in
theorem part_any (lf : Bool) (ka : Option Addr) (kl kc : Nat) (va : Option Addr) (vl vc : Nat) (f t d : Nat) (w : World) (hft : f ≤ t) (htk : t ≤ kl) (htv : t ≤ vl) (hkc : kl ≤ kc) (hvc : vl ≤ vc) (hd : t - f = d) :
    Calls Try.prog 44 #[.agg #[.bool lf, .slice ka kl kc, .slice va vl vc], .int .i64 (f : Int), .int .i64 (t : Int)] w fun e w' => e = .returned (.agg #[.bool lf, .slice (cut ka t f) d d, .slice (cut va t f) d d]) ∧ Chg [] w w' := by
  obtain ⟨w1, hw1⟩ : ∃ w1, w1 = ((((w.alloc (.cells #[.bool lf, .slice ka kl kc, .slice va vl vc] 24)).alloc (.cells #[.int .i64 (f : Int)] 3)).alloc (.cells #[.int .i64 (t : Int)] 3)).alloc (.cells #[.bool false, .slice none 0 0, .slice none 0 0] 24)) := ⟨_, rfl⟩
  have a0 : w1.cell? ⟨w.heap.size, 0, none⟩ = some (.bool lf) := by rw [hw1]; simp [go_sem]
  have a1 : w1.cell? ⟨w.heap.size, 1, none⟩ = some (.slice ka kl kc) := by rw [hw1]; simp [go_sem]
  have a2 : w1.cell? ⟨w.heap.size, 2, none⟩ = some (.slice va vl vc) := by rw [hw1]; simp [go_sem]
  have b0 : w1.cell? ⟨w.heap.size + 1, 0, none⟩ = some (.int .i64 (f : Int)) := by rw [hw1]; simp [go_sem]
  have c0 : w1.cell? ⟨w.heap.size + 1 + 1, 0, none⟩ = some (.int .i64 (t : Int)) := by rw [hw1]; simp [go_sem]
  have t0 : w1.there (w.heap.size + 1 + 1 + 1) 0 3 := fun j hj => by
    rw [hw1]
    match j, hj with
    | 0, _ => simp [go_sem]
    | 1, _ => simp [go_sem]
    | 2, _ => simp [go_sem]
  have g0 : Chg [] w w1 := by rw [hw1]; exact (((Chg.alloc [] w _).then (Chg.alloc [] _ _)).then (Chg.alloc [] _ _)).then (Chg.alloc [] _ _)
  have hz : w1.heap.size = w.heap.size + 4 := by rw [hw1]; simp
  have HE := mkHid (And.intro a0 (And.intro a1 (And.intro a2 (And.intro b0 (And.intro c0 (And.intro t0 (And.intro g0 (hz))))))))
  clear a0 a1 a2 b0 c0 t0 g0 hz
  have cC : ∀ (xb yb : Nat) (u : World), w.heap.size ≤ u.heap.size → u.cell? ⟨xb, 0, none⟩ = some (.int .i64 (f : Int)) → u.cell? ⟨yb, 0, none⟩ = some (.int .i64 (t : Int)) → Calls Try.prog 36 #[.agg #[.bool lf, .slice ka kl kc, .slice va vl vc], .agg #[.bool false, .slice none 0 0, .slice none 0 0], .func (.func 48) #[] #[.pointer (some ⟨xb, 0, none⟩), .pointer (some ⟨yb, 0, none⟩)]] u fun e u' => e = .returned (.agg #[.bool lf, .slice (cut ka t f) d d, .slice (cut va t f) d d]) ∧ Chg [] u u' := by
    intro xb yb u _ hx hy
    refine (changed_any lf ka kl kc va vl vc false none 0 0 none 0 0 _ _ enters_part (min kl vl) 0 (IsV (.slice (cut ka t f) (t - f) (t - f))) (IsV (.slice (cut va t f) (t - f) (t - f))) u rfl rfl (by omega) (by omega) (by omega) (by omega) (staysV _ _ _ _) (staysV _ _ _ _) (fun u2 g => ?_) (fun u2 g => ?_)).mono ?_
    · exact partclo_any ka (min kl vl) kc none 0 0 f t xb yb u2 hft (by omega) (g.cellv hx (by simp)) (g.cellv hy (by simp))
    · exact partclo_any va (min kl vl) vc none 0 0 f t xb yb u2 hft (by omega) (g.cellv hx (by simp)) (g.cellv hy (by simp))
    · rintro e w' ⟨⟨x, y, _, _, _, _, rfl, ex, ey, -⟩, hg⟩
      exact ⟨by rw [show x = _ from ex, show y = _ from ey, hd], hg⟩
  have CC := mkHid cC
  clear cC htk htv hkc hvc hd
  go_enter Try.func44, Try.ntmps44
  go_wp2_with fail
  rw [← hw1]
  clear hw1
  obtain ⟨a0, a1, a2, b0, c0, t0, g0, hz⟩ := HE.out
  clear HE
  obtain ⟨B1, hB1⟩ : ∃ b, w.heap.size + 1 = b := ⟨_, rfl⟩
  rw [hB1] at b0 c0 t0 ⊢
  obtain ⟨B2, hB2⟩ : ∃ b, B1 + 1 = b := ⟨_, rfl⟩
  rw [hB2] at c0 t0 ⊢
  obtain ⟨R, hR⟩ : ∃ b, B2 + 1 = b := ⟨_, rfl⟩
  rw [hR] at t0 ⊢
  have HR := mkHid (show w.heap.size + 1 = B1 ∧ B1 + 1 = B2 ∧ B2 + 1 = R ∧ R + 1 = w1.heap.size by omega)
  clear hz hB1 hB2 hR
  go_wp2_with fail
  refine (CC.out B1 B2 w1 g0.size b0 c0).mono ?_
  rintro e w2 ⟨rfl, gW⟩
  obtain ⟨v0, v1, v2, i0, i1, i2, j0, j1, j2⟩ := there3 (there_chg t0 gW (by simp))
  have gZ := three_chg w2 R (.bool lf) (.slice (cut ka t f) d d) (.slice (cut va t f) d d)
  have hR1 := HR.out
  have gF := (g0.then gW).trans gZ (U := []) (by simp) (fun q hq hlt => by simp at hq; omega)
  clear gZ gW
  go_wp2_with fail
  exact bodyPost_ret (v := .agg #[.bool lf, .slice (cut ka t f) d d, .slice (cut va t f) d d]) (by simp [results, Try.results44, go_sem, i0, i1, i2]) rfl ⟨rfl, gF⟩
end Go.Proofs.Ytlaeonemlodhmaa
