/- The law's own rising. -/
import Derived.Test.YtlaeonemlodhmaaIza
import Derived.Test.YtlaeonemlodhmaaIt
namespace Go.Proofs.Ytlaeonemlodhmaa
open Go.RowKit
set_option linter.unusedVariables false
set_option linter.unusedSimpArgs false
attribute [local go_sem ↓] Go.wp_at_zero Go.wp_at_succ

/-- Each above the one ahead. -/
def Rising (L : List Nat) : Prop := L.Pairwise (· < ·)
theorem ins_rising {L : List Nat} {y a : Nat} (h : Rising L) (h1 : ∀ z ∈ sub L 0 a, z < y) (h2 : ∀ z ∈ L.drop a, y < z) : Rising (sub L 0 a ++ ([y] ++ L.drop a)) := by
  have e : sub L 0 a = L.take a := by unfold sub; rw [List.drop_zero]
  unfold Rising at *
  rw [e] at *
  refine List.pairwise_append.2 ⟨h.sublist (List.take_sublist _ _), ?_, fun z hz t ht => ?_⟩
  · exact List.pairwise_cons.2 ⟨fun z hz => h2 z (by simpa using hz), h.sublist (List.drop_sublist _ _)⟩
  · have hz1 := h1 z hz
    rcases List.mem_append.1 ht with ht | ht
    · rw [List.mem_singleton.1 ht]; exact hz1
    · have := h2 t ht; omega
theorem above_drop {L : List Nat} {y a x : Nat} (h : Rising L) (hx : L[a]? = some x) (hy : y < x) : ∀ z ∈ L.drop a, y < z := by
  obtain ⟨hl, rfl⟩ := List.getElem?_eq_some_iff.1 hx
  intro z hz
  have h3 : (L.drop a).Pairwise (· < ·) := (show L.Pairwise (· < ·) from h).sublist (List.drop_sublist _ _)
  rw [List.drop_eq_getElem_cons hl] at hz h3
  rcases List.mem_cons.1 hz with rfl | hz
  · exact hy
  · have := (List.pairwise_cons.1 h3).1 z hz; omega
theorem below_next {L : List Nat} {y a x : Nat} (h : ∀ z ∈ sub L 0 a, z < y) (hx : L[a]? = some x) (hy : x < y) : ∀ z ∈ sub L 0 (a + 1), z < y := by
  obtain ⟨hl, rfl⟩ := List.getElem?_eq_some_iff.1 hx
  intro z hz
  unfold sub at hz h
  rw [List.take_succ_eq_append_getElem hl] at hz
  simp only [List.drop_zero] at hz h
  rcases List.mem_append.1 hz with hz | hz
  · exact h z hz
  · rw [List.mem_singleton.1 hz]; exact hy
/-- A list that is read. -/
def RdL (L : List Nat) : Pr := fun x lo hi u => ∃ a c, x = .slice a L.length c ∧ Reads u a (uvs L)
theorem keepRd (L : List Nat) : Keeps (RdL L) := fun _ _ _ _ _ g h => by
  obtain ⟨a, c, e, r⟩ := h
  exact ⟨a, c, e, r.keep g⟩
theorem depRd {L : List Nat} {x : Value} {u : World} (h : ∃ lo hi, RdL L x lo hi u) : ∃ a c, x = .slice a L.length c ∧ Reads u a (uvs L) := by
  obtain ⟨_, _, h⟩ := h
  exact h
/-- Nothing is appended. -/
theorem run_append_no {P : Program} (w : World) (t ty e : TypeId) (bytes : Nat) (helt : Elt P t e bytes) (b n c : Nat) (hnc : n ≤ c) (ax : Option Addr) (cx : Nat) :
    (Builtin.append_ #[t, t] ty #[.slice (some ⟨b, 0, none⟩) n c, .slice ax 0 cx]).run P w = .ok (.slice (some ⟨b, 0, none⟩) n c) w := by
  obtain ⟨ht, i, z, hi, hz, hsize, hby, hzs⟩ := helt
  have hf : (Builtin.firstCells i.size 0 (.slice ax 0 cx)).run P w = .ok #[] w := by
    cases ax with
    | none => rw [run_firstCells_none]
    | some ad => exact run_firstCells_some (P := P) w i.size 0 ad 0 cx [] (by simp) (fun j u hu => by simp at hu)
  have hst := run_storeCells_cells (P := P) b (0 + n * i.size) [] 0 w (fun j hj => by simp at hj) (fun j hj => by simp at hj) (by simp)
  simp only [Nat.add_zero] at hst
  simp [Builtin.append_, run_underlying ht, sizeOf, typeInfo, hi, Builtin.lenOf, hnc, hf, Addr.add_lit]
  simp [hsize] at hst ⊢
  first | exact hst | simp [hst, World.setCells] | simp [storeCells]
theorem run_take3 {ao : Option Addr} {n c a : Nat} (hac : a ≤ c) (u : World) : (Instr.slice 22 (.slice ao n c) none (some (.int .i64 (a : Int))) (some (.int .i64 (a : Int)))).run Try.prog u = .ok (.slice (cut ao a 0) a a) u := by
  have hs : (Try.prog.info? 25).map (·.size) = some 1 := by kernel_rfl
  obtain ⟨i, hi, hi1⟩ := Option.map_eq_some_iff.1 hs
  have he : Try.prog.elem 22 = 25 := by simp [Program.elem, Try.underlying22]
  rw [run_slice_hm u 22 _ n c (by rw [he]; exact Try.underlying22) .i64 .i64 (a : Int) (a : Int) (by omega) (by omega) (by omega), he]
  simp [sizeOf, typeInfo, hi, hi1, sliced, cut]
/-- Other keys, in memory of their own. -/
theorem NBlk.keys {w u : World} {R nb B : Nat} {lf : Bool} {ka : Option Addr} {kc : Nat} {K KM : List Nat} (h : NBlk w R nb B lf ka kc none 0 K []) (g : Chg [] w u) {a : Option Addr} {c B' : Nat} (r : Room u B' a KM.length c (uvs KM)) (hB : w.heap.size ≤ B') :
    NBlk (u.setCell ⟨nb, 1, none⟩ (.slice a KM.length c)) R nb B lf a c none 0 KM [] := by
  have hu := h.keep g
  have r1 := r.mono (Nat.le_trans h.hB hB)
  have g1 := Chg.setCell u ⟨nb, 1, none⟩ (.slice a KM.length c)
  refine ⟨setN_other hu.c0 (by decide), World.cell?_setCell_same _ _ _ hu.c1, setN_other hu.c2 (by decide), by simp only [World.frozen?_setCell]; exact hu.f1, by simp only [World.frozen?_setCell]; exact hu.f2, r1.chg g1 (fun q hq hm => ?_), Room.nil _ _ _, fun q hq => by simp [fp_zero], there_chg hu.th g1 (by simpa using h.ne), h.hR, h.hn, h.ne, ?_⟩
  · have := (r1.lt q hq).1; have := h.hn; simp at hm; omega
  · have := hu.hB; simp; omega
set_option maxRecDepth 20000 in
set_option maxHeartbeats 8000000 in
theorem rising_any (ao : Option Addr) (n c : Nat) (XS : List Nat) (w : World) (h : Reads w ao (uvs XS)) (hn : XS.length = n) : Calls Try.prog 29 #[.slice ao n c] w fun e w' => (∃ L, Rising L ∧ L.length ≤ 200 ∧ NOut w.heap.size false L (ones L.length) e w') ∧ Chg [] w w' := by
  have N0 := start_node w false
  have G0 : Chg [] w ((w.alloc (.cells #[.bool false, .slice none 0 0, .slice none 0 0] 24)).alloc (.cells #[.bool false, .slice none 0 0, .slice none 0 0] 24)) := (Chg.alloc [] w _).then (Chg.alloc [] _ _)
  have HN := mkHid hn
  have HG := mkHid (And.intro N0 G0)
  clear N0 G0 hn
  go_enter Try.func29, Try.ntmps29
  go_wp2_with fail
  obtain ⟨N0, G0⟩ := HG.out
  clear HG
  generalize (w.alloc (.cells #[.bool false, .slice none 0 0, .slice none 0 0] 24)).alloc (.cells #[.bool false, .slice none 0 0, .slice none 0 0] 24) = w2 at *
  obtain ⟨nb, hnb⟩ : ∃ b, w.heap.size + 1 = b := ⟨_, rfl⟩
  rw [hnb] at N0 ⊢
  obtain ⟨B, hBB⟩ : ∃ b, w.heap.size + 2 = b := ⟨_, rfl⟩
  rw [hBB] at N0
  obtain ⟨R, hRR⟩ : ∃ b, w.heap.size = b := ⟨_, rfl⟩
  rw [hRR] at N0 ⊢
  have HB := mkHid (show w.heap.size = R ∧ R + 1 = nb ∧ R + 2 = B by omega)
  clear hnb hBB hRR
  go_loopw [11] (fun iv wr => ∃ (i : Nat) (L : List Nat) (ka : Option Addr) (kc : Nat), iv = .int .i64 i ∧ i ≤ n ∧ i ≤ 200 ∧ L.length ≤ i ∧ Rising L ∧ NBlk wr R nb B false ka kc none 0 L [] ∧ Chg [] w wr) (fun iv _ => n - (intOf iv).toNat)
  case atStart => exact ⟨0, [], none, 0, rfl, Nat.zero_le _, Nat.zero_le _, Nat.zero_le _, List.Pairwise.nil, N0, G0⟩
  case round =>
    clear N0 G0
    obtain ⟨i, L, ka, kc, rfl, hin, hi2, hLi, hR, hN, hg⟩ := hrel
    obtain ⟨k, hk⟩ : ∃ k, L.length = k := ⟨_, rfl⟩
    have c0 := hN.c0
    have c1 := hN.c1
    have c2 := hN.c2
    rw [hk] at c1
    by_cases hlt : i < n
    · have d1 : decide (i < n) = true := decide_eq_true hlt
      have d2 : decide ((i : Int) < (n : Int)) = true := decide_eq_true (by omega)
      obtain ⟨y, hy⟩ : ∃ y, XS[i]? = some y := ⟨_, List.getElem?_eq_getElem (by rw [HN.out]; exact hlt)⟩
      obtain ⟨sb, so, rfl, ck, _⟩ := reads_lt (h.keep hg) i _ (uvs_get hy)
      clear hy
      by_cases h2 : i = 200
      · have d5 : ((i : Int) == 200) = true := by rw [h2]; rfl
        have d6 : decide ((i : Int) = 200) = true := decide_eq_true (by omega)
        have d7 : decide (i = 200) = true := decide_eq_true h2
        have H2 := mkHid h2
        clear h2
        have HT := mkHid (show Rising L ∧ L.length = k ∧ k ≤ 200 from ⟨hR, hk, by omega⟩)
        clear hR hk hLi hin hi2
        go_wp2_with fail
        go_loopw [66] (fun jv wz => ∃ (j : Nat) (va : Option Addr) (vc : Nat), jv = .int .i64 j ∧ j ≤ k ∧ NBlk wz R nb B false ka kc va vc L (ones j) ∧ Chg [] w wz) (fun jv _ => k - (intOf jv).toNat)
        case atStart => exact ⟨0, none, 0, rfl, Nat.zero_le _, hN, hg⟩
        case round =>
          clear hN hg c0 c1 c2
          obtain ⟨j, va, vc, rfl, hjk, hM, hgz⟩ := hrel
          by_cases hlt2 : j < k
          · have d3 : decide (j < k) = true := decide_eq_true hlt2
            have d4 : decide ((j : Int) < (k : Int)) = true := decide_eq_true (by omega)
            have eV := (ones_succ j).symm
            have lV := ones_len j
            obtain ⟨j1, hj1⟩ : ∃ j1, j + 1 = j1 := ⟨_, rfl⟩
            simp only [hj1] at eV
            have q1 : (j : Int) + 1 = (j1 : Int) := by omega
            have hj200 : j ≤ 200 := by have := HT.out; omega
            have q2 : IntKind.i64.wrap (j1 : Int) = (j1 : Int) := by rw [IntKind.wrap_i64]; omega
            have q3 : IntKind.u64.wrap (j1 : Int) = (j1 : Int) := by rw [IntKind.wrap_u64]; omega
            have q4 : IntKind.u64.wrap (j : Int) = (j : Int) := by rw [IntKind.wrap_u64]; omega
            generalize ones j = VL at *
            generalize hVM : ones j1 = VM at eV
            have c0 := hM.c0
            have c1 := hM.c1
            have c2 := hM.c2
            rw [lV] at c2
            have hrv := hM.rv
            rw [lV] at hrv
            have hnf : nb ∉ fp va vc := fun hm => by have := (hM.rv.lt _ hm).1; have := hM.hn; omega
            have HQ := mkHid (And.intro eV (And.intro hVM (And.intro lV hj1)))
            clear eV lV hVM hj1
            go_wp2_with (at_builtin; refine wpList_append_1 _ rfl (.tmp 70) (.tmp 74) 22 rfl 25 8 eltU B va j vc (uvs VL) rfl hrv hM.hB (.int .u64 (j1 : Int)) 1 rfl rfl (by unfold maxLen; omega) (by omega) ?_; intro a4 c4 w4 hr4 hg4 hf4; have k1 := hg4.cellv c2 hnf; have f1 := (hg4.frozen (p := ⟨nb, 2, none⟩) (block_lt_of_cell c2) hnf).trans hM.f2)
            have NV := hM.value (x := j1) (by rw [HQ.out.2.2.1]; exact hr4) hg4 hf4
            have GV := hM.turned hgz (by have := HB.out; omega) hg4 (fun q hq => by have := (hM.rv.lt q hq).1; have := HB.out; omega) 2 (.slice a4 (VL.length + 1) c4)
            rw [HQ.out.2.2.1, HQ.out.1] at NV
            rw [HQ.out.2.2.1] at GV
            exact ⟨⟨j1, a4, c4, by first | rfl | (have := HQ.out.2.2.2; go_num), by have := HQ.out.2.2.2; omega, by rw [HQ.out.2.1]; exact NV, GV⟩, by simp [intOf]; have := HQ.out.2.2.2; omega⟩
          · have hke : j = k := by omega
            subst hke
            have d3 : decide (j < j) = false := decide_eq_false hlt2
            have d4 : decide ((j : Int) < (j : Int)) = false := decide_eq_false (by omega)
            have n0 := hM.c0
            have n1 := hM.c1
            have n2 := hM.c2
            obtain ⟨v0, v1, v2, r0, r1, r2, q0, q1, q2⟩ := there3 hM.th
            have HMM := mkHid (And.intro hM hgz)
            clear hM hgz
            go_wp2_with fail
            obtain ⟨hR', hLj, h200⟩ := HT.out
            subst hLj
            refine bodyPost_ret (v := .agg #[.bool false, .slice ka L.length kc, .slice va (ones L.length).length vc]) (by simp [results, Try.results29, go_sem, r0, r1, r2]) rfl ⟨⟨L, hR', h200, HMM.out.1.out (w := w) (by have := HB.out; omega) _ _ _⟩, three _ _ R (by have := HB.out; omega) HMM.out.2 _ _ _⟩
      · have d5 : ((i : Int) == 200) = false := by rw [beq_eq_false_iff_ne]; omega
        have d6 : decide ((i : Int) = 200) = false := decide_eq_false (by omega)
        have d7 : decide (i = 200) = false := decide_eq_false h2
        go_wp2_with fail
        go_loopw [6] (fun av wz => ∃ a : Nat, av = .int .i64 a ∧ a ≤ k ∧ (∀ z ∈ sub L 0 a, z < y) ∧ wr = wz) (fun av _ => k - (intOf av).toNat)
        case atStart => exact ⟨0, rfl, Nat.zero_le _, fun z hz => by simp [sub] at hz, rfl⟩
        case round =>
          obtain ⟨a, rfl, hak, hlo, rfl⟩ := hrel
          by_cases hal : a < k
          · have d8 : decide (a < k) = true := decide_eq_true hal
            have d9 : decide ((a : Int) < (k : Int)) = true := decide_eq_true (by omega)
            obtain ⟨x, hx⟩ : ∃ x, L[a]? = some x := ⟨_, List.getElem?_eq_getElem (by omega)⟩
            obtain ⟨xb, xo, rfl, cx, _⟩ := reads_lt hN.rk.reads a _ (uvs_get hx)
            by_cases hxy : x < y
            · have d10 : decide ((x : Int) < (y : Int)) = true := decide_eq_true (by omega)
              have d11 : decide (x < y) = true := decide_eq_true hxy
              have hnx := below_next hlo hx hxy
              have HNX := mkHid hnx
              clear hnx hx hlo
              go_wp2_with fail
              go_roundw
              case rel => exact ⟨a + 1, by go_num, by omega, HNX.out, by first | rfl | trivial⟩
              case measure => simp [intOf]; omega
            · have d10 : decide ((x : Int) < (y : Int)) = false := decide_eq_false (by omega)
              have d11 : decide (x < y) = false := decide_eq_false hxy
              by_cases hxe : x = y
              · have d12 : ((x : Int) == (y : Int)) = true := by rw [hxe]; exact beq_self_eq_true _
                have d13 : decide ((x : Int) = (y : Int)) = true := decide_eq_true (by omega)
                have d14 : (x == y) = true := by rw [hxe]; exact beq_self_eq_true _
                have HX := mkHid hxe
                clear hxe
                go_wp2_with fail
                go_roundw
                case rel => exact ⟨i + 1, L, _, kc, by go_num, by omega, by omega, by omega, hR, hN, hg⟩
                case measure => simp [intOf]; omega
              · have d12 : ((x : Int) == (y : Int)) = false := by rw [beq_eq_false_iff_ne]; omega
                have d13 : decide ((x : Int) = (y : Int)) = false := decide_eq_false (by omega)
                have d14 : (x == y) = false := by rw [beq_eq_false_iff_ne]; exact hxe
                have hhi : ∀ z ∈ L.drop a, y < z := above_drop hR hx (by omega)
                clear hx
                obtain ⟨M1, hM1⟩ : ∃ M, sub L 0 a = M := ⟨_, rfl⟩
                obtain ⟨M2, hM2⟩ : ∃ M, [y] ++ L.drop a = M := ⟨_, rfl⟩
                have hRI : Rising (M1 ++ M2) := by rw [← hM1, ← hM2]; exact ins_rising hR hlo hhi
                have HRI := mkHid hRI
                have lM1 : M1.length = a := by rw [← hM1, sub_len (by omega)]; omega
                have lM2 : M2.length = (1 + (k - a)) := by rw [← hM2]; simp; omega
                have HM := mkHid (show M1.length = a ∧ M2.length = (1 + (k - a)) ∧ sub L 0 a = M1 ∧ L.length = k ∧ uvs M2 = [.int .u64 (y : Int)] ++ uvs (L.drop a) from ⟨lM1, lM2, hM1, hk, by rw [← hM2, uvs_append]; rfl⟩)
                have hkc := hN.rk.le
                rw [hk] at hkc
                have HRD := mkHid (show (∀ u : World, Chg [] wr u → Reads u (cut (some ⟨xb, xo, none⟩) a 0) (uvs M1)) ∧ (∀ u : World, Chg [] wr u → Reads u (cut (some ⟨xb, xo, none⟩) kc a) (uvs (L.drop a))) from ⟨fun u g => by rw [← hM1]; exact reads_half1 (hN.rk.reads.keep g), fun u g => by have := (hN.rk.reads.keep g).cut kc a (by rw [uvs_len]; omega); rwa [uvs_drop] at this⟩)
                have HS := mkHid (show (∀ u : World, (Instr.slice 22 (.slice (some ⟨xb, xo, none⟩) k kc) none (some (.int .i64 (a : Int))) (some (.int .i64 (a : Int)))).run Try.prog u = .ok (.slice (cut (some ⟨xb, xo, none⟩) a 0) a a) u) ∧ (∀ u : World, (Instr.slice 22 (.slice (some ⟨xb, xo, none⟩) k kc) (some (.int .i64 (a : Int))) none none).run Try.prog u = .ok (.slice (cut (some ⟨xb, xo, none⟩) kc a) (k - a) (kc - a)) u) from ⟨fun u => run_take3 (by omega) u, fun u => by have := run_from_k (e := 25) (some ⟨xb, xo, none⟩) k kc a Try.underlying22 (by kernel_rfl) (by omega) u; simpa using this⟩)
                have HNN := mkHid (And.intro hN hg)
                clear hRI lM1 lM2 hM1 hM2 hN hg hlo hhi hR hkc
                go_wp2_with fail
                refine region_made 13 [IsV (.pointer (some ⟨nb, 1, none⟩)), IsV (.slice (some ⟨xb, xo, none⟩) k kc), IsV (.int .i64 (a : Int)), IsV (.int .i64 (a : Int)), IsV (.slice (cut (some ⟨xb, xo, none⟩) a 0) a a), IsV (.int .u64 (y : Int)), IsRow 1 [.int .u64 (y : Int)], IsV (.pointer (some ⟨nb, 1, none⟩)), IsV (.slice (some ⟨xb, xo, none⟩) k kc), IsV (.int .i64 (a : Int)), IsV (.slice (cut (some ⟨xb, xo, none⟩) kc a) (k - a) (kc - a)), RdL M2, RL (M1 ++ M2)] (by kernel_rfl) (by kernel_rfl) (by kernel_rfl) (by decide) (of_decide_eq_true (by kernel_rfl)) ⟨keepV _, keepV _, keepV _, keepV _, keepV _, keepV _, keepRow _ _, keepV _, keepV _, keepV _, keepV _, keepRd _, keepR _, trivial⟩ ?_ ?_
                · refine ⟨?_, ?_, ?_, ?_, ?_, ?_, ?_, ?_, ?_, ?_, ?_, ?_, ?_, trivial⟩
                  · intro v u hg' hd K hK
                    clear hd
                    have hk := hK.out (.pointer (some ⟨nb, 1, none⟩)) u (Chg.refl _ _) rfl
                    clear hK
                    simp only [List.toList_toArray, List.take_succ_cons, List.take_zero, List.drop_succ_cons, List.drop_zero, putAll, Act.put, List.setIfInBounds_toArray, List.set_cons_zero, List.set_cons_succ, Nat.zero_add, Nat.reduceAdd] at hk ⊢
                    go_simp
                    exact hk
                  · intro v u hg' hd K hK
                    have h0 : ∃ lo hi, IsV (.pointer (some ⟨nb, 1, none⟩)) (v 0) lo hi u := dep hd 0 (by kernel_rfl)
                    have e0 : v 0 = .pointer (some ⟨nb, 1, none⟩) := depV h0
                    have hz := (Chg.drew [] wr).then hg'
                    have x1 := hz.cellv c1 (by simp)
                    clear hd
                    have hk := hK.out (.slice (some ⟨xb, xo, none⟩) k kc) u (Chg.refl _ _) rfl
                    clear hK
                    simp only [List.toList_toArray, List.take_succ_cons, List.take_zero, List.drop_succ_cons, List.drop_zero, putAll, Act.put, List.setIfInBounds_toArray, List.set_cons_zero, List.set_cons_succ, Nat.zero_add, Nat.reduceAdd, e0] at hk ⊢
                    go_simp
                    exact hk
                  · intro v u hg' hd K hK
                    clear hd
                    have hk := hK.out (.int .i64 (a : Int)) u (Chg.refl _ _) rfl
                    clear hK
                    simp only [List.toList_toArray, List.take_succ_cons, List.take_zero, List.drop_succ_cons, List.drop_zero, putAll, Act.put, List.setIfInBounds_toArray, List.set_cons_zero, List.set_cons_succ, Nat.zero_add, Nat.reduceAdd] at hk ⊢
                    go_simp
                    exact hk
                  · intro v u hg' hd K hK
                    clear hd
                    have hk := hK.out (.int .i64 (a : Int)) u (Chg.refl _ _) rfl
                    clear hK
                    simp only [List.toList_toArray, List.take_succ_cons, List.take_zero, List.drop_succ_cons, List.drop_zero, putAll, Act.put, List.setIfInBounds_toArray, List.set_cons_zero, List.set_cons_succ, Nat.zero_add, Nat.reduceAdd] at hk ⊢
                    go_simp
                    exact hk
                  · intro v u hg' hd K hK
                    have h1 : ∃ lo hi, IsV (.slice (some ⟨xb, xo, none⟩) k kc) (v 1) lo hi u := dep hd 1 (by kernel_rfl)
                    have e1 : v 1 = .slice (some ⟨xb, xo, none⟩) k kc := depV h1
                    have h2 : ∃ lo hi, IsV (.int .i64 (a : Int)) (v 2) lo hi u := dep hd 2 (by kernel_rfl)
                    have e2 : v 2 = .int .i64 (a : Int) := depV h2
                    have h3 : ∃ lo hi, IsV (.int .i64 (a : Int)) (v 3) lo hi u := dep hd 3 (by kernel_rfl)
                    have e3 : v 3 = .int .i64 (a : Int) := depV h3
                    have q1 := HS.out.1
                    clear hd
                    have hk := hK.out (.slice (cut (some ⟨xb, xo, none⟩) a 0) a a) u (Chg.refl _ _) rfl
                    clear hK
                    simp only [List.toList_toArray, List.take_succ_cons, List.take_zero, List.drop_succ_cons, List.drop_zero, putAll, Act.put, List.setIfInBounds_toArray, List.set_cons_zero, List.set_cons_succ, Nat.zero_add, Nat.reduceAdd, e1, e2, e3] at hk ⊢
                    go_simp
                    exact hk
                  · intro v u hg' hd K hK
                    clear hd
                    have hk := hK.out (.int .u64 (y : Int)) u (Chg.refl _ _) rfl
                    clear hK
                    simp only [List.toList_toArray, List.take_succ_cons, List.take_zero, List.drop_succ_cons, List.drop_zero, putAll, Act.put, List.setIfInBounds_toArray, List.set_cons_zero, List.set_cons_succ, Nat.zero_add, Nat.reduceAdd] at hk ⊢
                    go_simp
                    exact hk
                  · intro v u hg' hd K hK
                    have h5 : ∃ lo hi, IsV (.int .u64 (y : Int)) (v 5) lo hi u := dep hd 5 (by kernel_rfl)
                    have e5 : v 5 = .int .u64 (y : Int) := depV h5
                    clear hd
                    have hk := hK.out (.slice (some ⟨u.heap.size, 0, none⟩) 1 1) _ (Chg.alloc [] u (.cells #[.int .u64 (y : Int)] 25)) ⟨rfl, Reads.new u #[.int .u64 (y : Int)] 25⟩
                    clear hK
                    simp only [List.toList_toArray, List.take_succ_cons, List.take_zero, List.drop_succ_cons, List.drop_zero, putAll, Act.put, List.setIfInBounds_toArray, List.set_cons_zero, List.set_cons_succ, Nat.zero_add, Nat.reduceAdd, e5] at hk ⊢
                    go_simp
                    exact hk
                  · intro v u hg' hd K hK
                    clear hd
                    have hk := hK.out (.pointer (some ⟨nb, 1, none⟩)) u (Chg.refl _ _) rfl
                    clear hK
                    simp only [List.toList_toArray, List.take_succ_cons, List.take_zero, List.drop_succ_cons, List.drop_zero, putAll, Act.put, List.setIfInBounds_toArray, List.set_cons_zero, List.set_cons_succ, Nat.zero_add, Nat.reduceAdd] at hk ⊢
                    go_simp
                    exact hk
                  · intro v u hg' hd K hK
                    have h7 : ∃ lo hi, IsV (.pointer (some ⟨nb, 1, none⟩)) (v 7) lo hi u := dep hd 7 (by kernel_rfl)
                    have e7 : v 7 = .pointer (some ⟨nb, 1, none⟩) := depV h7
                    have hz := (Chg.drew [] wr).then hg'
                    have x1 := hz.cellv c1 (by simp)
                    clear hd
                    have hk := hK.out (.slice (some ⟨xb, xo, none⟩) k kc) u (Chg.refl _ _) rfl
                    clear hK
                    simp only [List.toList_toArray, List.take_succ_cons, List.take_zero, List.drop_succ_cons, List.drop_zero, putAll, Act.put, List.setIfInBounds_toArray, List.set_cons_zero, List.set_cons_succ, Nat.zero_add, Nat.reduceAdd, e7] at hk ⊢
                    go_simp
                    exact hk
                  · intro v u hg' hd K hK
                    clear hd
                    have hk := hK.out (.int .i64 (a : Int)) u (Chg.refl _ _) rfl
                    clear hK
                    simp only [List.toList_toArray, List.take_succ_cons, List.take_zero, List.drop_succ_cons, List.drop_zero, putAll, Act.put, List.setIfInBounds_toArray, List.set_cons_zero, List.set_cons_succ, Nat.zero_add, Nat.reduceAdd] at hk ⊢
                    go_simp
                    exact hk
                  · intro v u hg' hd K hK
                    have h8 : ∃ lo hi, IsV (.slice (some ⟨xb, xo, none⟩) k kc) (v 8) lo hi u := dep hd 8 (by kernel_rfl)
                    have e8 : v 8 = .slice (some ⟨xb, xo, none⟩) k kc := depV h8
                    have h9 : ∃ lo hi, IsV (.int .i64 (a : Int)) (v 9) lo hi u := dep hd 9 (by kernel_rfl)
                    have e9 : v 9 = .int .i64 (a : Int) := depV h9
                    have q1 := HS.out.2
                    clear hd
                    have hk := hK.out (.slice (cut (some ⟨xb, xo, none⟩) kc a) (k - a) (kc - a)) u (Chg.refl _ _) rfl
                    clear hK
                    simp only [List.toList_toArray, List.take_succ_cons, List.take_zero, List.drop_succ_cons, List.drop_zero, putAll, Act.put, List.setIfInBounds_toArray, List.set_cons_zero, List.set_cons_succ, Nat.zero_add, Nat.reduceAdd, e8, e9] at hk ⊢
                    go_simp
                    exact hk
                  · intro v u hg' hd K hK
                    obtain ⟨b6, e6, hrow⟩ := depRow (show ∃ lo hi, IsRow 1 [.int .u64 (y : Int)] (v 6) lo hi u from dep hd 6 (by kernel_rfl))
                    have e10 : v 10 = .slice (cut (some ⟨xb, xo, none⟩) kc a) (k - a) (kc - a) := depV (show ∃ lo hi, IsV (.slice (cut (some ⟨xb, xo, none⟩) kc a) (k - a) (kc - a)) (v 10) lo hi u from dep hd 10 (by kernel_rfl))
                    have hz := (Chg.drew [] wr).then hg'
                    clear hd
                    simp only [List.toList_toArray, List.take_succ_cons, List.take_zero, List.drop_succ_cons, List.drop_zero, putAll, Act.put, List.setIfInBounds_toArray, List.set_cons_zero, List.set_cons_succ, Nat.zero_add, Nat.reduceAdd, e6, e10] at hK ⊢
                    refine oper_append_new (.tmp 54) (.tmp 58) 22 rfl 25 8 eltU u.heap.size _ 1 1 [.int .u64 (y : Int)] rfl hrow rfl (Nat.le_refl _) _ (k - a) (kc - a) (uvs (L.drop a)) rfl (HRD.out.2 u hz) (by rw [uvs_len, List.length_drop, HM.out.2.2.2.1]) (by omega) (by unfold maxLen; omega) (by omega) ?_
                    intro c' w' r g'
                    have hk9 := hK.out (.slice (some ⟨u.heap.size, 0, none⟩) (1 + (k - a)) c') w' g' ⟨_, c', by rw [HM.out.2.1], by rw [HM.out.2.2.2.2]; exact r.reads⟩
                    simp only [Act.put, List.setIfInBounds_toArray, List.set_cons_zero, List.set_cons_succ] at hk9 ⊢
                    exact hk9
                  · intro v u hg' hd K hK
                    have e4 : v 4 = .slice (cut (some ⟨xb, xo, none⟩) a 0) a a := depV (show ∃ lo hi, IsV (.slice (cut (some ⟨xb, xo, none⟩) a 0) a a) (v 4) lo hi u from dep hd 4 (by kernel_rfl))
                    obtain ⟨b11, c11, e11, hr11⟩ := depRd (show ∃ lo hi, RdL M2 (v 11) lo hi u from dep hd 11 (by kernel_rfl))
                    have hz := (Chg.drew [] wr).then hg'
                    clear hd
                    rw [HM.out.2.1] at e11
                    simp only [List.toList_toArray, List.take_succ_cons, List.take_zero, List.drop_succ_cons, List.drop_zero, putAll, Act.put, List.setIfInBounds_toArray, List.set_cons_zero, List.set_cons_succ, Nat.zero_add, Nat.reduceAdd, e4, e11] at hK ⊢
                    refine oper_append_new (.tmp 52) (.tmp 59) 22 rfl 25 8 eltU u.heap.size _ a a (uvs M1) rfl (HRD.out.1 u hz) (by rw [uvs_len, HM.out.1]) (Nat.le_refl _) _ (1 + (k - a)) c11 (uvs M2) rfl hr11 (by rw [uvs_len, HM.out.2.1]) (by omega) (by unfold maxLen; omega) (by omega) ?_
                    intro c' w' r g'
                    rw [← uvs_append] at r
                    have hlen : (M1 ++ M2).length = a + (1 + (k - a)) := by rw [List.length_append, HM.out.1, HM.out.2.1]
                    have hk9 := hK.out (.slice (some ⟨u.heap.size, 0, none⟩) (a + (1 + (k - a))) c') w' g' ⟨_, c', by rw [hlen], by rw [hlen]; exact r, fun q hq => (r.lt q hq).2⟩
                    simp only [Act.put, List.setIfInBounds_toArray, List.set_cons_zero, List.set_cons_succ] at hk9 ⊢
                    exact hk9
                · intro v u lo hi hg hall hbd hdj
                  have e0 : v 0 = .pointer (some ⟨nb, 1, none⟩) := hall 0 (by decide)
                  have e1 : v 1 = .slice (some ⟨xb, xo, none⟩) k kc := hall 1 (by decide)
                  have e2 : v 2 = .int .i64 (a : Int) := hall 2 (by decide)
                  have e3 : v 3 = .int .i64 (a : Int) := hall 3 (by decide)
                  have e4 : v 4 = .slice (cut (some ⟨xb, xo, none⟩) a 0) a a := hall 4 (by decide)
                  have e5 : v 5 = .int .u64 (y : Int) := hall 5 (by decide)
                  have e7 : v 7 = .pointer (some ⟨nb, 1, none⟩) := hall 7 (by decide)
                  have e8 : v 8 = .slice (some ⟨xb, xo, none⟩) k kc := hall 8 (by decide)
                  have e9 : v 9 = .int .i64 (a : Int) := hall 9 (by decide)
                  have e10 : v 10 = .slice (cut (some ⟨xb, xo, none⟩) kc a) (k - a) (kc - a) := hall 10 (by decide)
                  obtain ⟨e6, -⟩ : IsRow 1 [.int .u64 (y : Int)] (v 6) (lo 6) (hi 6) u := hall 6 (by decide)
                  obtain ⟨ma, mc, e11, -⟩ : RdL M2 (v 11) (lo 11) (hi 11) u := hall 11 (by decide)
                  obtain ⟨xa, xc, e12, xr, -⟩ : RL (M1 ++ M2) (v 12) (lo 12) (hi 12) u := hall 12 (by decide)
                  have b12 := (hbd 12 (by decide)).1
                  clear hall hbd hdj
                  have hz := (Chg.drew [] wr).then hg
                  have NK := HNN.out.1.keys hz xr b12
                  obtain ⟨ml, hml⟩ : ∃ l, (M1 ++ M2).length = l := ⟨_, rfl⟩
                  rw [hml] at e12 NK
                  clear hml
                  have GK := (HNN.out.2.then hz).trans (Chg.setCell u ⟨nb, 1, none⟩ (.slice xa ml xc)) (U := []) (by simp) (fun q hq hlt => by simp at hq; have := HB.out; omega)
                  have z1 := hz.cellv c1 (by simp)
                  have y1 := (hz.frozen (p := ⟨nb, 1, none⟩) (block_lt_of_cell c1) (by simp)).trans HNN.out.1.f1
                  have HF := mkHid (And.intro NK GK)
                  clear NK GK xr b12 hz hg c0 c1 c2
                  simp only [List.toList_toArray, List.take_succ_cons, List.take_zero, List.drop_succ_cons, List.drop_zero, putAll, Act.put, List.setIfInBounds_toArray, List.set_cons_zero, List.set_cons_succ, Nat.zero_add, Nat.reduceAdd, e0, e1, e2, e3, e4, e5, e6, e7, e8, e9, e10, e11, e12]
                  go_wp2_with fail
                  go_roundw
                  case rel =>
                    exact ⟨i + 1, M1 ++ M2, xa, xc, by go_num, by omega, by omega, by rw [List.length_append, HM.out.1, HM.out.2.1]; omega, HRI.out, HF.out.1, HF.out.2⟩
                  case measure => simp [intOf]; omega
          · have hae : a = k := by omega
            subst hae
            have d8 : decide (a < a) = false := decide_eq_false hal
            have d9 : decide ((a : Int) < (a : Int)) = false := decide_eq_false (by omega)
            have hhi : ∀ z ∈ L.drop a, y < z := fun z hz => by rw [List.drop_eq_nil_of_le (by omega)] at hz; simp at hz
            obtain ⟨M1, hM1⟩ : ∃ M, sub L 0 a = M := ⟨_, rfl⟩
            obtain ⟨M2, hM2⟩ : ∃ M, [y] ++ L.drop a = M := ⟨_, rfl⟩
            have hRI : Rising (M1 ++ M2) := by rw [← hM1, ← hM2]; exact ins_rising hR hlo hhi
            have HRI := mkHid hRI
            have lM1 : M1.length = a := by rw [← hM1, sub_len (by omega)]; omega
            have lM2 : M2.length = 1 := by rw [← hM2]; simp; omega
            have HM := mkHid (show M1.length = a ∧ M2.length = 1 ∧ sub L 0 a = M1 ∧ L.length = a ∧ uvs M2 = [.int .u64 (y : Int)] from ⟨lM1, lM2, hM1, hk, by rw [← hM2, uvs_append, List.drop_eq_nil_of_le (by omega)]; rfl⟩)
            have hkc := hN.rk.le
            rw [hk] at hkc
            have HRD := mkHid (show (∀ u : World, Chg [] wr u → Reads u (cut ka a 0) (uvs M1)) ∧ (∀ u : World, Chg [] wr u → Reads u (cut ka kc a) (uvs (L.drop a))) from ⟨fun u g => by rw [← hM1]; exact reads_half1 (hN.rk.reads.keep g), fun u g => by have := (hN.rk.reads.keep g).cut kc a (by rw [uvs_len]; omega); rwa [uvs_drop] at this⟩)
            have HS := mkHid (show (∀ u : World, (Instr.slice 22 (.slice ka a kc) none (some (.int .i64 (a : Int))) (some (.int .i64 (a : Int)))).run Try.prog u = .ok (.slice (cut ka a 0) a a) u) ∧ (∀ u : World, (Instr.slice 22 (.slice ka a kc) (some (.int .i64 (a : Int))) none none).run Try.prog u = .ok (.slice (cut ka kc a) 0 (kc - a)) u) from ⟨fun u => run_take3 (by omega) u, fun u => by have := run_from_k (e := 25) ka a kc a Try.underlying22 (by kernel_rfl) (by omega) u; simpa using this⟩)
            have HNN := mkHid (And.intro hN hg)
            clear hRI lM1 lM2 hM1 hM2 hN hg hlo hhi hR hkc
            go_wp2_with fail
            refine region_made 13 [IsV (.pointer (some ⟨nb, 1, none⟩)), IsV (.slice ka a kc), IsV (.int .i64 (a : Int)), IsV (.int .i64 (a : Int)), IsV (.slice (cut ka a 0) a a), IsV (.int .u64 (y : Int)), IsRow 1 [.int .u64 (y : Int)], IsV (.pointer (some ⟨nb, 1, none⟩)), IsV (.slice ka a kc), IsV (.int .i64 (a : Int)), IsV (.slice (cut ka kc a) 0 (kc - a)), RdL M2, RL (M1 ++ M2)] (by kernel_rfl) (by kernel_rfl) (by kernel_rfl) (by decide) (of_decide_eq_true (by kernel_rfl)) ⟨keepV _, keepV _, keepV _, keepV _, keepV _, keepV _, keepRow _ _, keepV _, keepV _, keepV _, keepV _, keepRd _, keepR _, trivial⟩ ?_ ?_
            · refine ⟨?_, ?_, ?_, ?_, ?_, ?_, ?_, ?_, ?_, ?_, ?_, ?_, ?_, trivial⟩
              · intro v u hg' hd K hK
                clear hd
                have hk := hK.out (.pointer (some ⟨nb, 1, none⟩)) u (Chg.refl _ _) rfl
                clear hK
                simp only [List.toList_toArray, List.take_succ_cons, List.take_zero, List.drop_succ_cons, List.drop_zero, putAll, Act.put, List.setIfInBounds_toArray, List.set_cons_zero, List.set_cons_succ, Nat.zero_add, Nat.reduceAdd] at hk ⊢
                go_simp
                exact hk
              · intro v u hg' hd K hK
                have h0 : ∃ lo hi, IsV (.pointer (some ⟨nb, 1, none⟩)) (v 0) lo hi u := dep hd 0 (by kernel_rfl)
                have e0 : v 0 = .pointer (some ⟨nb, 1, none⟩) := depV h0
                have hz := (Chg.drew [] wr).then hg'
                have x1 := hz.cellv c1 (by simp)
                clear hd
                have hk := hK.out (.slice ka a kc) u (Chg.refl _ _) rfl
                clear hK
                simp only [List.toList_toArray, List.take_succ_cons, List.take_zero, List.drop_succ_cons, List.drop_zero, putAll, Act.put, List.setIfInBounds_toArray, List.set_cons_zero, List.set_cons_succ, Nat.zero_add, Nat.reduceAdd, e0] at hk ⊢
                go_simp
                exact hk
              · intro v u hg' hd K hK
                clear hd
                have hk := hK.out (.int .i64 (a : Int)) u (Chg.refl _ _) rfl
                clear hK
                simp only [List.toList_toArray, List.take_succ_cons, List.take_zero, List.drop_succ_cons, List.drop_zero, putAll, Act.put, List.setIfInBounds_toArray, List.set_cons_zero, List.set_cons_succ, Nat.zero_add, Nat.reduceAdd] at hk ⊢
                go_simp
                exact hk
              · intro v u hg' hd K hK
                clear hd
                have hk := hK.out (.int .i64 (a : Int)) u (Chg.refl _ _) rfl
                clear hK
                simp only [List.toList_toArray, List.take_succ_cons, List.take_zero, List.drop_succ_cons, List.drop_zero, putAll, Act.put, List.setIfInBounds_toArray, List.set_cons_zero, List.set_cons_succ, Nat.zero_add, Nat.reduceAdd] at hk ⊢
                go_simp
                exact hk
              · intro v u hg' hd K hK
                have h1 : ∃ lo hi, IsV (.slice ka a kc) (v 1) lo hi u := dep hd 1 (by kernel_rfl)
                have e1 : v 1 = .slice ka a kc := depV h1
                have h2 : ∃ lo hi, IsV (.int .i64 (a : Int)) (v 2) lo hi u := dep hd 2 (by kernel_rfl)
                have e2 : v 2 = .int .i64 (a : Int) := depV h2
                have h3 : ∃ lo hi, IsV (.int .i64 (a : Int)) (v 3) lo hi u := dep hd 3 (by kernel_rfl)
                have e3 : v 3 = .int .i64 (a : Int) := depV h3
                have q1 := HS.out.1
                clear hd
                have hk := hK.out (.slice (cut ka a 0) a a) u (Chg.refl _ _) rfl
                clear hK
                simp only [List.toList_toArray, List.take_succ_cons, List.take_zero, List.drop_succ_cons, List.drop_zero, putAll, Act.put, List.setIfInBounds_toArray, List.set_cons_zero, List.set_cons_succ, Nat.zero_add, Nat.reduceAdd, e1, e2, e3] at hk ⊢
                go_simp
                exact hk
              · intro v u hg' hd K hK
                clear hd
                have hk := hK.out (.int .u64 (y : Int)) u (Chg.refl _ _) rfl
                clear hK
                simp only [List.toList_toArray, List.take_succ_cons, List.take_zero, List.drop_succ_cons, List.drop_zero, putAll, Act.put, List.setIfInBounds_toArray, List.set_cons_zero, List.set_cons_succ, Nat.zero_add, Nat.reduceAdd] at hk ⊢
                go_simp
                exact hk
              · intro v u hg' hd K hK
                have h5 : ∃ lo hi, IsV (.int .u64 (y : Int)) (v 5) lo hi u := dep hd 5 (by kernel_rfl)
                have e5 : v 5 = .int .u64 (y : Int) := depV h5
                clear hd
                have hk := hK.out (.slice (some ⟨u.heap.size, 0, none⟩) 1 1) _ (Chg.alloc [] u (.cells #[.int .u64 (y : Int)] 25)) ⟨rfl, Reads.new u #[.int .u64 (y : Int)] 25⟩
                clear hK
                simp only [List.toList_toArray, List.take_succ_cons, List.take_zero, List.drop_succ_cons, List.drop_zero, putAll, Act.put, List.setIfInBounds_toArray, List.set_cons_zero, List.set_cons_succ, Nat.zero_add, Nat.reduceAdd, e5] at hk ⊢
                go_simp
                exact hk
              · intro v u hg' hd K hK
                clear hd
                have hk := hK.out (.pointer (some ⟨nb, 1, none⟩)) u (Chg.refl _ _) rfl
                clear hK
                simp only [List.toList_toArray, List.take_succ_cons, List.take_zero, List.drop_succ_cons, List.drop_zero, putAll, Act.put, List.setIfInBounds_toArray, List.set_cons_zero, List.set_cons_succ, Nat.zero_add, Nat.reduceAdd] at hk ⊢
                go_simp
                exact hk
              · intro v u hg' hd K hK
                have h7 : ∃ lo hi, IsV (.pointer (some ⟨nb, 1, none⟩)) (v 7) lo hi u := dep hd 7 (by kernel_rfl)
                have e7 : v 7 = .pointer (some ⟨nb, 1, none⟩) := depV h7
                have hz := (Chg.drew [] wr).then hg'
                have x1 := hz.cellv c1 (by simp)
                clear hd
                have hk := hK.out (.slice ka a kc) u (Chg.refl _ _) rfl
                clear hK
                simp only [List.toList_toArray, List.take_succ_cons, List.take_zero, List.drop_succ_cons, List.drop_zero, putAll, Act.put, List.setIfInBounds_toArray, List.set_cons_zero, List.set_cons_succ, Nat.zero_add, Nat.reduceAdd, e7] at hk ⊢
                go_simp
                exact hk
              · intro v u hg' hd K hK
                clear hd
                have hk := hK.out (.int .i64 (a : Int)) u (Chg.refl _ _) rfl
                clear hK
                simp only [List.toList_toArray, List.take_succ_cons, List.take_zero, List.drop_succ_cons, List.drop_zero, putAll, Act.put, List.setIfInBounds_toArray, List.set_cons_zero, List.set_cons_succ, Nat.zero_add, Nat.reduceAdd] at hk ⊢
                go_simp
                exact hk
              · intro v u hg' hd K hK
                have h8 : ∃ lo hi, IsV (.slice ka a kc) (v 8) lo hi u := dep hd 8 (by kernel_rfl)
                have e8 : v 8 = .slice ka a kc := depV h8
                have h9 : ∃ lo hi, IsV (.int .i64 (a : Int)) (v 9) lo hi u := dep hd 9 (by kernel_rfl)
                have e9 : v 9 = .int .i64 (a : Int) := depV h9
                have q1 := HS.out.2
                clear hd
                have hk := hK.out (.slice (cut ka kc a) 0 (kc - a)) u (Chg.refl _ _) rfl
                clear hK
                simp only [List.toList_toArray, List.take_succ_cons, List.take_zero, List.drop_succ_cons, List.drop_zero, putAll, Act.put, List.setIfInBounds_toArray, List.set_cons_zero, List.set_cons_succ, Nat.zero_add, Nat.reduceAdd, e8, e9] at hk ⊢
                go_simp
                exact hk
              · intro v u hg' hd K hK
                obtain ⟨b6, e6, hrow⟩ := depRow (show ∃ lo hi, IsRow 1 [.int .u64 (y : Int)] (v 6) lo hi u from dep hd 6 (by kernel_rfl))
                have e10 : v 10 = .slice (cut ka kc a) 0 (kc - a) := depV (show ∃ lo hi, IsV (.slice (cut ka kc a) 0 (kc - a)) (v 10) lo hi u from dep hd 10 (by kernel_rfl))
                have hz := (Chg.drew [] wr).then hg'
                clear hd
                simp only [List.toList_toArray, List.take_succ_cons, List.take_zero, List.drop_succ_cons, List.drop_zero, putAll, Act.put, List.setIfInBounds_toArray, List.set_cons_zero, List.set_cons_succ, Nat.zero_add, Nat.reduceAdd, e6, e10] at hK ⊢
                have hk9 := hK.out (.slice (some ⟨b6, 0, none⟩) 1 1) u (Chg.refl _ _) ⟨_, 1, by rw [HM.out.2.1], by rw [HM.out.2.2.2.2]; exact hrow⟩
                exact oper_append_run (.tmp 54) (.tmp 58) 22 rfl _ _ rfl rfl _ _ (run_append_no u _ _ _ 8 eltU b6 1 1 (Nat.le_refl _) _ _) hk9
              · intro v u hg' hd K hK
                have e4 : v 4 = .slice (cut ka a 0) a a := depV (show ∃ lo hi, IsV (.slice (cut ka a 0) a a) (v 4) lo hi u from dep hd 4 (by kernel_rfl))
                obtain ⟨b11, c11, e11, hr11⟩ := depRd (show ∃ lo hi, RdL M2 (v 11) lo hi u from dep hd 11 (by kernel_rfl))
                have hz := (Chg.drew [] wr).then hg'
                clear hd
                rw [HM.out.2.1] at e11
                simp only [List.toList_toArray, List.take_succ_cons, List.take_zero, List.drop_succ_cons, List.drop_zero, putAll, Act.put, List.setIfInBounds_toArray, List.set_cons_zero, List.set_cons_succ, Nat.zero_add, Nat.reduceAdd, e4, e11] at hK ⊢
                refine oper_append_new (.tmp 52) (.tmp 59) 22 rfl 25 8 eltU u.heap.size _ a a (uvs M1) rfl (HRD.out.1 u hz) (by rw [uvs_len, HM.out.1]) (Nat.le_refl _) _ 1 c11 (uvs M2) rfl hr11 (by rw [uvs_len, HM.out.2.1]) (by omega) (by unfold maxLen; omega) (by omega) ?_
                intro c' w' r g'
                rw [← uvs_append] at r
                have hlen : (M1 ++ M2).length = a + 1 := by rw [List.length_append, HM.out.1, HM.out.2.1]
                have hk9 := hK.out (.slice (some ⟨u.heap.size, 0, none⟩) (a + 1) c') w' g' ⟨_, c', by rw [hlen], by rw [hlen]; exact r, fun q hq => (r.lt q hq).2⟩
                simp only [Act.put, List.setIfInBounds_toArray, List.set_cons_zero, List.set_cons_succ] at hk9 ⊢
                exact hk9
            · intro v u lo hi hg hall hbd hdj
              have e0 : v 0 = .pointer (some ⟨nb, 1, none⟩) := hall 0 (by decide)
              have e1 : v 1 = .slice ka a kc := hall 1 (by decide)
              have e2 : v 2 = .int .i64 (a : Int) := hall 2 (by decide)
              have e3 : v 3 = .int .i64 (a : Int) := hall 3 (by decide)
              have e4 : v 4 = .slice (cut ka a 0) a a := hall 4 (by decide)
              have e5 : v 5 = .int .u64 (y : Int) := hall 5 (by decide)
              have e7 : v 7 = .pointer (some ⟨nb, 1, none⟩) := hall 7 (by decide)
              have e8 : v 8 = .slice ka a kc := hall 8 (by decide)
              have e9 : v 9 = .int .i64 (a : Int) := hall 9 (by decide)
              have e10 : v 10 = .slice (cut ka kc a) 0 (kc - a) := hall 10 (by decide)
              obtain ⟨e6, -⟩ : IsRow 1 [.int .u64 (y : Int)] (v 6) (lo 6) (hi 6) u := hall 6 (by decide)
              obtain ⟨ma, mc, e11, -⟩ : RdL M2 (v 11) (lo 11) (hi 11) u := hall 11 (by decide)
              obtain ⟨xa, xc, e12, xr, -⟩ : RL (M1 ++ M2) (v 12) (lo 12) (hi 12) u := hall 12 (by decide)
              have b12 := (hbd 12 (by decide)).1
              clear hall hbd hdj
              have hz := (Chg.drew [] wr).then hg
              have NK := HNN.out.1.keys hz xr b12
              obtain ⟨ml, hml⟩ : ∃ l, (M1 ++ M2).length = l := ⟨_, rfl⟩
              rw [hml] at e12 NK
              clear hml
              have GK := (HNN.out.2.then hz).trans (Chg.setCell u ⟨nb, 1, none⟩ (.slice xa ml xc)) (U := []) (by simp) (fun q hq hlt => by simp at hq; have := HB.out; omega)
              have z1 := hz.cellv c1 (by simp)
              have y1 := (hz.frozen (p := ⟨nb, 1, none⟩) (block_lt_of_cell c1) (by simp)).trans HNN.out.1.f1
              have HF := mkHid (And.intro NK GK)
              clear NK GK xr b12 hz hg c0 c1 c2
              simp only [List.toList_toArray, List.take_succ_cons, List.take_zero, List.drop_succ_cons, List.drop_zero, putAll, Act.put, List.setIfInBounds_toArray, List.set_cons_zero, List.set_cons_succ, Nat.zero_add, Nat.reduceAdd, e0, e1, e2, e3, e4, e5, e6, e7, e8, e9, e10, e11, e12]
              go_wp2_with fail
              go_roundw
              case rel =>
                exact ⟨i + 1, M1 ++ M2, xa, xc, by go_num, by omega, by omega, by rw [List.length_append, HM.out.1, HM.out.2.1]; omega, HRI.out, HF.out.1, HF.out.2⟩
              case measure => simp [intOf]; omega
    · have d1 : decide (i < n) = false := decide_eq_false hlt
      have d2 : decide ((i : Int) < (n : Int)) = false := decide_eq_false (by omega)
      have HT := mkHid (show Rising L ∧ L.length = k ∧ k ≤ 200 from ⟨hR, hk, by omega⟩)
      clear hR hk hLi hin hi2
      go_wp2_with fail
      go_loopw [66] (fun jv wz => ∃ (j : Nat) (va : Option Addr) (vc : Nat), jv = .int .i64 j ∧ j ≤ k ∧ NBlk wz R nb B false ka kc va vc L (ones j) ∧ Chg [] w wz) (fun jv _ => k - (intOf jv).toNat)
      case atStart => exact ⟨0, none, 0, rfl, Nat.zero_le _, hN, hg⟩
      case round =>
        clear hN hg c0 c1 c2
        obtain ⟨j, va, vc, rfl, hjk, hM, hgz⟩ := hrel
        by_cases hlt2 : j < k
        · have d3 : decide (j < k) = true := decide_eq_true hlt2
          have d4 : decide ((j : Int) < (k : Int)) = true := decide_eq_true (by omega)
          have eV := (ones_succ j).symm
          have lV := ones_len j
          obtain ⟨j1, hj1⟩ : ∃ j1, j + 1 = j1 := ⟨_, rfl⟩
          simp only [hj1] at eV
          have q1 : (j : Int) + 1 = (j1 : Int) := by omega
          have hj200 : j ≤ 200 := by have := HT.out; omega
          have q2 : IntKind.i64.wrap (j1 : Int) = (j1 : Int) := by rw [IntKind.wrap_i64]; omega
          have q3 : IntKind.u64.wrap (j1 : Int) = (j1 : Int) := by rw [IntKind.wrap_u64]; omega
          have q4 : IntKind.u64.wrap (j : Int) = (j : Int) := by rw [IntKind.wrap_u64]; omega
          generalize ones j = VL at *
          generalize hVM : ones j1 = VM at eV
          have c0 := hM.c0
          have c1 := hM.c1
          have c2 := hM.c2
          rw [lV] at c2
          have hrv := hM.rv
          rw [lV] at hrv
          have hnf : nb ∉ fp va vc := fun hm => by have := (hM.rv.lt _ hm).1; have := hM.hn; omega
          have HQ := mkHid (And.intro eV (And.intro hVM (And.intro lV hj1)))
          clear eV lV hVM hj1
          go_wp2_with (at_builtin; refine wpList_append_1 _ rfl (.tmp 70) (.tmp 74) 22 rfl 25 8 eltU B va j vc (uvs VL) rfl hrv hM.hB (.int .u64 (j1 : Int)) 1 rfl rfl (by unfold maxLen; omega) (by omega) ?_; intro a4 c4 w4 hr4 hg4 hf4; have k1 := hg4.cellv c2 hnf; have f1 := (hg4.frozen (p := ⟨nb, 2, none⟩) (block_lt_of_cell c2) hnf).trans hM.f2)
          have NV := hM.value (x := j1) (by rw [HQ.out.2.2.1]; exact hr4) hg4 hf4
          have GV := hM.turned hgz (by have := HB.out; omega) hg4 (fun q hq => by have := (hM.rv.lt q hq).1; have := HB.out; omega) 2 (.slice a4 (VL.length + 1) c4)
          rw [HQ.out.2.2.1, HQ.out.1] at NV
          rw [HQ.out.2.2.1] at GV
          exact ⟨⟨j1, a4, c4, by first | rfl | (have := HQ.out.2.2.2; go_num), by have := HQ.out.2.2.2; omega, by rw [HQ.out.2.1]; exact NV, GV⟩, by simp [intOf]; have := HQ.out.2.2.2; omega⟩
        · have hke : j = k := by omega
          subst hke
          have d3 : decide (j < j) = false := decide_eq_false hlt2
          have d4 : decide ((j : Int) < (j : Int)) = false := decide_eq_false (by omega)
          have n0 := hM.c0
          have n1 := hM.c1
          have n2 := hM.c2
          obtain ⟨v0, v1, v2, r0, r1, r2, q0, q1, q2⟩ := there3 hM.th
          have HMM := mkHid (And.intro hM hgz)
          clear hM hgz
          go_wp2_with fail
          obtain ⟨hR', hLj, h200⟩ := HT.out
          subst hLj
          refine bodyPost_ret (v := .agg #[.bool false, .slice ka L.length kc, .slice va (ones L.length).length vc]) (by simp [results, Try.results29, go_sem, r0, r1, r2]) rfl ⟨⟨L, hR', h200, HMM.out.1.out (w := w) (by have := HB.out; omega) _ _ _⟩, three _ _ R (by have := HB.out; omega) HMM.out.2 _ _ _⟩
end Go.Proofs.Ytlaeonemlodhmaa
