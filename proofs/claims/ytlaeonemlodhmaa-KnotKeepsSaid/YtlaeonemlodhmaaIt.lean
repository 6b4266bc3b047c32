/- The law's own List. -/
import Derived.Test.YtlaeonemlodhmaaIn
import Derived.Test.YtlaeonemlodhmaaM2
namespace Go.Proofs.Ytlaeonemlodhmaa
open Go.RowKit
set_option linter.unusedVariables false
set_option linter.unusedSimpArgs false
attribute [local go_sem ↓] Go.wp_at_zero Go.wp_at_succ

/-- It stays what it is where blocks of S turn, below B. -/
def KeepS (S : List Nat) (B : Nat) (p : Pr) : Prop := ∀ x lo hi u u', B ≤ lo → Chg S u u' → p x lo hi u → p x lo hi u'
def AllKeepS (S : List Nat) (B : Nat) : List Pr → Prop
  | [] => True
  | p :: l => KeepS S B p ∧ AllKeepS S B l
theorem AllKeepS.get {S : List Nat} {B : Nat} : ∀ {l : List Pr}, AllKeepS S B l → ∀ i, KeepS S B (prAt l i)
  | [], _, i => fun _ _ _ _ _ _ _ _ => by simp [prAt]
  | p :: l, h, 0 => h.1
  | p :: l, h, i + 1 => AllKeepS.get h.2 i
def anyP : Pr := fun _ _ _ _ => True
theorem prAt_set (l : List Pr) (p : Pr) {i j : Nat} (h : j ≠ i) : prAt (l.set i p) j = prAt l j := by
  unfold prAt
  rw [List.getD_eq_getElem?_getD, List.getD_eq_getElem?_getD, List.getElem?_set_ne (Ne.symm h)]
def twoT (ik iv : Nat) (SK SV : List Nat) (i : Nat) : List Nat := if i = ik then SK else if i = iv then SV else []
theorem turns_hk {l : List Pr} {m B ik iv : Nat} {SK SV : List Nat} (h0 : AllKeep l) (hK : AllKeepS SK B (l.set ik anyP)) (hV : AllKeepS SV B (l.set iv anyP)) : ∀ i j, i < m → j < m → i ≠ j → ∀ x lo hi u u', B ≤ lo → Chg (twoT ik iv SK SV i) u u' → prAt l j x lo hi u → prAt l j x lo hi u' := by
  intro i j _ _ hne x lo hi u u' hlo g p
  unfold twoT at g
  split at g
  · rename_i e
    subst e
    have := hK.get j x lo hi u u' hlo g
    rw [prAt_set l anyP (Ne.symm hne)] at this
    exact this p
  · split at g
    · rename_i e
      subst e
      have := hV.get j x lo hi u u' hlo g
      rw [prAt_set l anyP (Ne.symm hne)] at this
      exact this p
    · exact h0.get j x lo hi u u' g p
theorem keepSV (S : List Nat) (B : Nat) (c : Value) : KeepS S B (IsV c) := fun _ _ _ _ _ _ _ h => h
theorem keepSA (S : List Nat) (B : Nat) : KeepS S B anyP := fun _ _ _ _ _ _ _ _ => trivial
theorem keepSRow {S : List Nat} {B : Nat} (hS : ∀ q ∈ S, q < B) (n : Nat) (xs : List Value) : KeepS S B (IsRow n xs) := fun _ lo _ _ _ hlo g h => ⟨h.1, h.2.chg g (fun q hq hm => by simp [blk] at hq; subst hq; have := hS _ hm; omega)⟩
/-- A list that was appended to: where it was, or in memory of its own. -/
def ApL (S : List Nat) (B : Nat) (L : List Nat) : Pr := fun x lo hi u => ∃ a c, x = .slice a L.length c ∧ Room u B a L.length c (uvs L) ∧ (fp a c = S ∨ ∀ q ∈ fp a c, lo ≤ q ∧ q < hi)
theorem keepAp (S : List Nat) (B : Nat) (L : List Nat) : Keeps (ApL S B L) := fun _ _ _ _ _ g h => by
  obtain ⟨a, c, e, r, d⟩ := h
  exact ⟨a, c, e, r.chg g (by simp), d⟩
theorem keepSAp {S T : List Nat} {B B' : Nat} (hd : ∀ q ∈ S, q ∉ T) (hT : ∀ q ∈ T, q < B') (L : List Nat) : KeepS T B' (ApL S B L) := fun _ lo _ _ _ hlo g h => by
  obtain ⟨a, c, e, r, d⟩ := h
  refine ⟨a, c, e, r.chg g (fun q hq hm => ?_), d⟩
  rcases d with d | d
  · rw [d] at hq; exact hd q hq hm
  · have := (d q hq).1; have := hT q hm; omega
/-- Places and one. -/
def ones (k : Nat) : List Nat := (List.range k).map (· + 1)
theorem ones_succ (k : Nat) : ones (k + 1) = ones k ++ [k + 1] := by unfold ones; rw [List.range_succ, List.map_append]; rfl
theorem ones_len (k : Nat) : (ones k).length = k := by simp [ones]
theorem oper_append_run {P : Program} {o : Oper} {a : Act} {w : World} {K : Act → World → Prop} {Q : Exit → Act → World → Prop} (s x : Operand) (t : TypeId)
    (ho : o.op = .call { callee := .builtin .append, args := #[s, x], argTypes := #[t, t] }) (sv xv : Value) (hs : a.eval s = sv) (hx : a.eval x = xv) (r : Value) (u : World) (hr : (Builtin.append_ #[t, t] o.type #[sv, xv]).run P w = .ok r u) (hK : K (a.put o.dst r) u) : Oper.wp P o a w K Q := by
  unfold Oper.wp execOp
  simp only [ho, resolve, invoke, builtin, Sem.run_bind, Sem.run_pure, Result.andThen_ok, List.map_toArray, List.map_cons, List.map_nil, hs, hx, hr]
  exact hK
theorem ap_step {P : Program} {t e ty : TypeId} (helt : Elt P t e 8) {u : World} {B : Nat} {a : Option Addr} {c k b : Nat} {L M : List Nat} {y : Nat} (hr : Room u B a L.length c (uvs L)) (hB : B ≤ u.heap.size) (hl : L.length = k) (hk : k ≤ 100000) (hrow : Reads u (some ⟨b, 0, none⟩) [.int .u64 (y : Int)]) (hM : L ++ [y] = M) :
    ∃ x u', (Builtin.append_ #[t, t] ty #[.slice a k c, .slice (some ⟨b, 0, none⟩) 1 1]).run P u = .ok x u' ∧ ApL (fp a c) B M x u.heap.size u'.heap.size u' ∧ Chg (fp a c) u u' := by
  rw [hl] at hr
  obtain ⟨ao, co, u', h1, r, g, f⟩ := run_append_k (P := P) u t ty e 8 helt B a k c (uvs L) hr hB (some ⟨b, 0, none⟩) 1 1 [.int .u64 (y : Int)] hrow rfl (by simp [Value.oneCell']) (by unfold maxLen; omega) (by omega)
  have eM : M.length = k + 1 := by rw [← hM, List.length_append, hl]; rfl
  have eu : uvs M = uvs L ++ [.int .u64 (y : Int)] := by rw [← hM, uvs_append]; rfl
  refine ⟨_, u', h1, ⟨ao, co, by rw [eM], by rw [eM, eu]; exact r, f.imp id (fun e q hq => ?_)⟩, g⟩
  have hlt := (r.lt q hq).2
  rw [e] at hq
  simp at hq
  exact ⟨by omega, hlt⟩
/-- A key and a value more, both stored. -/
theorem NBlk.both {w u : World} {R nb B : Nat} {lf : Bool} {ka : Option Addr} {kc : Nat} {va : Option Addr} {vc : Nat} {K V KM VM : List Nat} (h : NBlk w R nb B lf ka kc va vc K V) (g : Chg (fp ka kc ++ fp va vc) w u) {a c a' c'} (r : Room u B a KM.length c (uvs KM)) (r' : Room u B a' VM.length c' (uvs VM)) (dj : ∀ q, q ∈ fp a c → q ∉ fp a' c') :
    NBlk ((u.setCell ⟨nb, 1, none⟩ (.slice a KM.length c)).setCell ⟨nb, 2, none⟩ (.slice a' VM.length c')) R nb B lf a c a' c' KM VM := by
  have g1 := Chg.setCell u ⟨nb, 1, none⟩ (.slice a KM.length c)
  have g2 := Chg.setCell (u.setCell ⟨nb, 1, none⟩ (.slice a KM.length c)) ⟨nb, 2, none⟩ (.slice a' VM.length c')
  have off : ∀ b, b < B → b ∉ fp ka kc ++ fp va vc := fun b hb hm => by
    rcases List.mem_append.1 hm with hm | hm
    · have := (h.rk.lt b hm).1; omega
    · have := (h.rv.lt b hm).1; omega
  have c0 := g.cellv h.c0 (off nb h.hn)
  have c1 := g.cellv h.c1 (off nb h.hn)
  have c2 := g.cellv h.c2 (off nb h.hn)
  have f1 := (g.frozen (p := ⟨nb, 1, none⟩) (block_lt_of_cell h.c1) (off nb h.hn)).trans h.f1
  have f2 := (g.frozen (p := ⟨nb, 2, none⟩) (block_lt_of_cell h.c2) (off nb h.hn)).trans h.f2
  have n1 : ∀ q, q ∈ fp a c → q ≠ nb := fun q hq e => by have := (r.lt q hq).1; have := h.hn; omega
  have n2 : ∀ q, q ∈ fp a' c' → q ≠ nb := fun q hq e => by have := (r'.lt q hq).1; have := h.hn; omega
  refine ⟨setN_other (setN_other c0 (by decide)) (by decide), setN_other (World.cell?_setCell_same _ _ _ c1) (by decide), World.cell?_setCell_same _ _ _ (setN_other c2 (by decide)), by simp only [World.frozen?_setCell]; exact f1, by simp only [World.frozen?_setCell]; exact f2, (r.chg g1 (fun q hq hm => n1 q hq (by simpa using hm))).chg g2 (fun q hq hm => n1 q hq (by simpa using hm)), (r'.chg g1 (fun q hq hm => n2 q hq (by simpa using hm))).chg g2 (fun q hq hm => n2 q hq (by simpa using hm)), dj, there_chg (there_chg (there_chg h.th g (off R h.hR)) g1 (by simpa using h.ne)) g2 (by simpa using h.ne), h.hR, h.hn, h.ne, ?_⟩
  have := g.size
  have := h.hB
  simp
  omega
set_option maxRecDepth 20000 in
set_option maxHeartbeats 4000000 in
theorem list_any (ao : Option Addr) (n c : Nat) (L : List Nat) (w : World) (h : Reads w ao (uvs L)) (hn : L.length = n) (hb : n ≤ 100000) : Calls Try.prog 30 #[.slice ao n c] w fun e w' => NOut w.heap.size false L (ones n) e w' ∧ Chg [] w w' := by
  have N0 := start_node w false
  have G0 : Chg [] w ((w.alloc (.cells #[.bool false, .slice none 0 0, .slice none 0 0] 24)).alloc (.cells #[.bool false, .slice none 0 0, .slice none 0 0] 24)) := (Chg.alloc [] w _).then (Chg.alloc [] _ _)
  have HN := mkHid hn
  have HG := mkHid (And.intro N0 G0)
  clear N0 G0 hn
  go_enter Try.func30, Try.ntmps30
  go_wp2_with fail
  obtain ⟨N0, G0⟩ := HG.out
  clear HG
  generalize (w.alloc (.cells #[.bool false, .slice none 0 0, .slice none 0 0] 24)).alloc (.cells #[.bool false, .slice none 0 0, .slice none 0 0] 24) = w2 at *
  obtain ⟨nb, hnb⟩ : ∃ b, w.heap.size + 1 = b := ⟨_, rfl⟩
  rw [hnb] at N0 ⊢
  obtain ⟨B, hBB⟩ : ∃ b, w.heap.size + 2 = b := ⟨_, rfl⟩
  rw [hBB] at N0
  obtain ⟨R, hRR⟩ : ∃ b, w.heap.size = b := ⟨_, rfl⟩
  rw [hRR] at N0 ⊢
  have HB := mkHid (show w.heap.size = R ∧ R + 1 = nb ∧ R + 2 = B by omega)
  clear hnb hBB hRR
  go_loopw [9] (fun iv wr => ∃ (k : Nat) (ka va : Option Addr) (kc vc : Nat), iv = .int .i64 k ∧ k ≤ n ∧ NBlk wr R nb B false ka kc va vc (L.take k) (ones k) ∧ Chg [] w wr) (fun iv _ => n - (intOf iv).toNat)
  case atStart => exact ⟨0, none, none, 0, 0, rfl, Nat.zero_le _, N0, G0⟩
  case round =>
    clear N0 G0
    obtain ⟨k, ka, va, kc, vc, rfl, hkn, hN, hg⟩ := hrel
    by_cases hlt : k < n
    · have d1 : decide (k < n) = true := decide_eq_true hlt
      have d2 : decide ((k : Int) < (n : Int)) = true := decide_eq_true (by omega)
      obtain ⟨y, hy⟩ : ∃ y, L[k]? = some y := ⟨_, List.getElem?_eq_getElem (by rw [HN.out]; exact hlt)⟩
      obtain ⟨sb, so, rfl, ck, _⟩ := reads_lt (h.keep hg) k _ (uvs_get hy)
      have eK : L.take k ++ [y] = L.take (k + 1) := by
        obtain ⟨hl, rfl⟩ := List.getElem?_eq_some_iff.1 hy
        exact (List.take_succ_eq_append_getElem hl).symm
      have eV := (ones_succ k).symm
      have lK : (L.take k).length = k := by rw [List.length_take, HN.out]; omega
      have lV := ones_len k
      obtain ⟨k1, hk1⟩ : ∃ k1, k + 1 = k1 := ⟨_, rfl⟩
      simp only [hk1] at eK eV
      have HW := mkHid (show (k : Int) + 1 = (k1 : Int) ∧ IntKind.i64.wrap (k1 : Int) = (k1 : Int) ∧ IntKind.u64.wrap (k1 : Int) = (k1 : Int) from ⟨by omega, by rw [IntKind.wrap_i64]; omega, by rw [IntKind.wrap_u64]; omega⟩)
      generalize L.take k = KL at *
      generalize ones k = VL at *
      generalize hKM : L.take k1 = KM at eK
      generalize hVM : ones k1 = VM at eV
      have HKM := mkHid (And.intro hKM hVM)
      clear hKM hVM
      have c0 := hN.c0
      have c1 := hN.c1
      have c2 := hN.c2
      rw [lK] at c1
      rw [lV] at c2
      have f1 := hN.f1
      have f2 := hN.f2
      have hrk := hN.rk
      have hrv := hN.rv
      have hK0 := mkHid (And.intro eK (And.intro eV (And.intro lK (And.intro lV hk1))))
      have hlk := fun q hq => hN.rk.lt q hq
      have hlv := fun q hq => hN.rv.lt q hq
      have hnK : nb ∉ fp ka kc := fun hm => by have := (hlk _ hm).1; have := hN.hn; omega
      have hnV : nb ∉ fp va vc := fun hm => by have := (hlv _ hm).1; have := hN.hn; omega
      have HNN := mkHid (And.intro hN hg)
      have HR := mkHid (And.intro hrk hrv)
      have HLQ := mkHid (And.intro hlk (And.intro hlv (And.intro hnK hnV)))
      have HSQ := mkHid (show (∀ q ∈ fp ka kc, q < wr.heap.size) ∧ (∀ q ∈ fp va vc, q < wr.heap.size) ∧ (∀ q ∈ fp ka kc, q ∉ fp va vc) ∧ ∀ q ∈ fp va vc, q ∉ fp ka kc from ⟨fun q hq => (hlk q hq).2, fun q hq => (hlv q hq).2, fun q hq => hN.dj q hq, fun q hq hm => hN.dj q hm hq⟩)
      clear hN hg eK eV lK lV hk1 hy hrk hrv hlk hlv hnK hnV
      go_wp2_with fail
      refine region_turns 13 [IsV (.pointer (some ⟨nb, 1, none⟩)), IsV (.slice ka k kc), IsV (.int .u64 (y : Int)), IsRow 1 [.int .u64 (y : Int)], ApL (fp ka kc) B KM, IsV (.pointer (some ⟨nb, 2, none⟩)), IsV (.slice va k vc), IsV (.int .i64 (k : Int)), IsV (.int .i64 (k1 : Int)), IsV (.int .u64 (k1 : Int)), IsRow 1 [.int .u64 (k1 : Int)], ApL (fp va vc) B VM, IsV (.pointer (some ⟨nb, 1, none⟩))] (by kernel_rfl) (by kernel_rfl) (by kernel_rfl) (by decide) (of_decide_eq_true (by kernel_rfl)) (twoT 4 11 (fp ka kc) (fp va vc)) (turns_hk ⟨keepV _, keepV _, keepV _, keepRow _ _, keepAp _ _ _, keepV _, keepV _, keepV _, keepV _, keepV _, keepRow _ _, keepAp _ _ _, keepV _, trivial⟩ ⟨keepSV _ _ _, keepSV _ _ _, keepSV _ _ _, keepSRow HSQ.out.1 _ _, keepSA _ _, keepSV _ _ _, keepSV _ _ _, keepSV _ _ _, keepSV _ _ _, keepSV _ _ _, keepSRow HSQ.out.1 _ _, keepSAp HSQ.out.2.2.2 HSQ.out.1 _, keepSV _ _ _, trivial⟩ ⟨keepSV _ _ _, keepSV _ _ _, keepSV _ _ _, keepSRow HSQ.out.2.1 _ _, keepSAp HSQ.out.2.2.1 HSQ.out.2.1 _, keepSV _ _ _, keepSV _ _ _, keepSV _ _ _, keepSV _ _ _, keepSV _ _ _, keepSRow HSQ.out.2.1 _ _, keepSA _ _, keepSV _ _ _, trivial⟩) ?_ ?_
      · refine ⟨?_, ?_, ?_, ?_, ?_, ?_, ?_, ?_, ?_, ?_, ?_, ?_, ?_, trivial⟩
        · intro v u hg hd K hK
          clear hd
          have hk := hK.out (.pointer (some ⟨nb, 1, none⟩)) u (Chg.refl _ _) rfl
          clear hK hg
          simp only [List.toList_toArray, List.take_succ_cons, List.take_zero, List.drop_succ_cons, List.drop_zero, putAll, Act.put, List.setIfInBounds_toArray, List.set_cons_zero, List.set_cons_succ, Nat.zero_add, Nat.reduceAdd] at hk ⊢
          go_simp
          exact hk
        · intro v u hg hd K hK
          have h0 : ∃ lo hi, IsV (.pointer (some ⟨nb, 1, none⟩)) (v 0) lo hi u := dep hd 0 (by kernel_rfl)
          have e0 : v 0 = .pointer (some ⟨nb, 1, none⟩) := depV h0
          have hz := hg (fp ka kc ++ fp va vc) (fun j _ _ q hq => by unfold twoT at hq; split at hq; exact List.mem_append_left _ hq; split at hq; exact List.mem_append_right _ hq; simp at hq)
          have x1 := hz.cellv ((Chg.drew [] wr).cellv c1 (by simp)) (fun hm => by rcases List.mem_append.1 hm with hm | hm; exact HLQ.out.2.2.1 hm; exact HLQ.out.2.2.2 hm)
          clear hd
          have hk := hK.out (.slice ka k kc) u (Chg.refl _ _) rfl
          clear hK hg
          simp only [List.toList_toArray, List.take_succ_cons, List.take_zero, List.drop_succ_cons, List.drop_zero, putAll, Act.put, List.setIfInBounds_toArray, List.set_cons_zero, List.set_cons_succ, Nat.zero_add, Nat.reduceAdd, e0] at hk ⊢
          go_simp
          exact hk
        · intro v u hg hd K hK
          clear hd
          have hk := hK.out (.int .u64 (y : Int)) u (Chg.refl _ _) rfl
          clear hK hg
          simp only [List.toList_toArray, List.take_succ_cons, List.take_zero, List.drop_succ_cons, List.drop_zero, putAll, Act.put, List.setIfInBounds_toArray, List.set_cons_zero, List.set_cons_succ, Nat.zero_add, Nat.reduceAdd] at hk ⊢
          go_simp
          exact hk
        · intro v u hg hd K hK
          have h2 : ∃ lo hi, IsV (.int .u64 (y : Int)) (v 2) lo hi u := dep hd 2 (by kernel_rfl)
          have e2 : v 2 = .int .u64 (y : Int) := depV h2
          clear hd
          have hk := hK.out (.slice (some ⟨u.heap.size, 0, none⟩) 1 1) _ (Chg.alloc _ u (.cells #[.int .u64 (y : Int)] 25)) ⟨rfl, Reads.new u #[.int .u64 (y : Int)] 25⟩
          clear hK hg
          simp only [List.toList_toArray, List.take_succ_cons, List.take_zero, List.drop_succ_cons, List.drop_zero, putAll, Act.put, List.setIfInBounds_toArray, List.set_cons_zero, List.set_cons_succ, Nat.zero_add, Nat.reduceAdd, e2] at hk ⊢
          go_simp
          exact hk
        · intro v u hg hd K hK
          have h1 : ∃ lo hi, IsV (.slice ka k kc) (v 1) lo hi u := dep hd 1 (by kernel_rfl)
          have e1 : v 1 = .slice ka k kc := depV h1
          obtain ⟨b3, e3, hrow⟩ := depRow (show ∃ lo hi, IsRow 1 [.int .u64 (y : Int)] (v 3) lo hi u from dep hd 3 (by kernel_rfl))
          clear hd
          have hz := hg (fp va vc) (fun j _ hj q hq => by unfold twoT at hq; rw [if_neg hj] at hq; split at hq; exact hq; simp at hq)
          have hr := (HR.out.1.chg (Chg.drew [] wr) (by simp)).chg hz (fun q hq hm => HNN.out.1.dj q hq hm)
          have hB := Nat.le_trans HNN.out.1.hB (Nat.le_trans (Chg.drew [] wr).size hz.size)
          obtain ⟨x9, u9, hrun, hx9, g9⟩ := ap_step (ty := 22) eltU hr hB hK0.out.2.2.1 (by omega) hrow hK0.out.1
          have hk := hK.out x9 u9 g9 hx9
          clear hK hg
          simp only [List.toList_toArray, List.take_succ_cons, List.take_zero, List.drop_succ_cons, List.drop_zero, putAll, Act.put, List.setIfInBounds_toArray, List.set_cons_zero, List.set_cons_succ, Nat.zero_add, Nat.reduceAdd, e1, e3] at hk ⊢
          exact oper_append_run (.tmp 15) (.tmp 17) 22 rfl _ _ rfl rfl x9 u9 hrun hk
        · intro v u hg hd K hK
          clear hd
          have hk := hK.out (.pointer (some ⟨nb, 2, none⟩)) u (Chg.refl _ _) rfl
          clear hK hg
          simp only [List.toList_toArray, List.take_succ_cons, List.take_zero, List.drop_succ_cons, List.drop_zero, putAll, Act.put, List.setIfInBounds_toArray, List.set_cons_zero, List.set_cons_succ, Nat.zero_add, Nat.reduceAdd] at hk ⊢
          go_simp
          exact hk
        · intro v u hg hd K hK
          have h5 : ∃ lo hi, IsV (.pointer (some ⟨nb, 2, none⟩)) (v 5) lo hi u := dep hd 5 (by kernel_rfl)
          have e5 : v 5 = .pointer (some ⟨nb, 2, none⟩) := depV h5
          have hz := hg (fp ka kc ++ fp va vc) (fun j _ _ q hq => by unfold twoT at hq; split at hq; exact List.mem_append_left _ hq; split at hq; exact List.mem_append_right _ hq; simp at hq)
          have x2 := hz.cellv ((Chg.drew [] wr).cellv c2 (by simp)) (fun hm => by rcases List.mem_append.1 hm with hm | hm; exact HLQ.out.2.2.1 hm; exact HLQ.out.2.2.2 hm)
          clear hd
          have hk := hK.out (.slice va k vc) u (Chg.refl _ _) rfl
          clear hK hg
          simp only [List.toList_toArray, List.take_succ_cons, List.take_zero, List.drop_succ_cons, List.drop_zero, putAll, Act.put, List.setIfInBounds_toArray, List.set_cons_zero, List.set_cons_succ, Nat.zero_add, Nat.reduceAdd, e5] at hk ⊢
          go_simp
          exact hk
        · intro v u hg hd K hK
          clear hd
          have hk := hK.out (.int .i64 (k : Int)) u (Chg.refl _ _) rfl
          clear hK hg
          simp only [List.toList_toArray, List.take_succ_cons, List.take_zero, List.drop_succ_cons, List.drop_zero, putAll, Act.put, List.setIfInBounds_toArray, List.set_cons_zero, List.set_cons_succ, Nat.zero_add, Nat.reduceAdd] at hk ⊢
          go_simp
          exact hk
        · intro v u hg hd K hK
          have h7 : ∃ lo hi, IsV (.int .i64 (k : Int)) (v 7) lo hi u := dep hd 7 (by kernel_rfl)
          have e7 : v 7 = .int .i64 (k : Int) := depV h7
          have q1 := HW.out.1
          have q2 := HW.out.2.1
          clear hd
          have hk := hK.out (.int .i64 (k1 : Int)) u (Chg.refl _ _) rfl
          clear hK hg
          simp only [List.toList_toArray, List.take_succ_cons, List.take_zero, List.drop_succ_cons, List.drop_zero, putAll, Act.put, List.setIfInBounds_toArray, List.set_cons_zero, List.set_cons_succ, Nat.zero_add, Nat.reduceAdd, e7] at hk ⊢
          go_simp
          exact hk
        · intro v u hg hd K hK
          have h8 : ∃ lo hi, IsV (.int .i64 (k1 : Int)) (v 8) lo hi u := dep hd 8 (by kernel_rfl)
          have e8 : v 8 = .int .i64 (k1 : Int) := depV h8
          have q1 := HW.out.2.2
          clear hd
          have hk := hK.out (.int .u64 (k1 : Int)) u (Chg.refl _ _) rfl
          clear hK hg
          simp only [List.toList_toArray, List.take_succ_cons, List.take_zero, List.drop_succ_cons, List.drop_zero, putAll, Act.put, List.setIfInBounds_toArray, List.set_cons_zero, List.set_cons_succ, Nat.zero_add, Nat.reduceAdd, e8] at hk ⊢
          go_simp
          exact hk
        · intro v u hg hd K hK
          have h9 : ∃ lo hi, IsV (.int .u64 (k1 : Int)) (v 9) lo hi u := dep hd 9 (by kernel_rfl)
          have e9 : v 9 = .int .u64 (k1 : Int) := depV h9
          clear hd
          have hk := hK.out (.slice (some ⟨u.heap.size, 0, none⟩) 1 1) _ (Chg.alloc _ u (.cells #[.int .u64 (k1 : Int)] 25)) ⟨rfl, Reads.new u #[.int .u64 (k1 : Int)] 25⟩
          clear hK hg
          simp only [List.toList_toArray, List.take_succ_cons, List.take_zero, List.drop_succ_cons, List.drop_zero, putAll, Act.put, List.setIfInBounds_toArray, List.set_cons_zero, List.set_cons_succ, Nat.zero_add, Nat.reduceAdd, e9] at hk ⊢
          go_simp
          exact hk
        · intro v u hg hd K hK
          have h6 : ∃ lo hi, IsV (.slice va k vc) (v 6) lo hi u := dep hd 6 (by kernel_rfl)
          have e6 : v 6 = .slice va k vc := depV h6
          obtain ⟨b10, e10, hrow⟩ := depRow (show ∃ lo hi, IsRow 1 [.int .u64 (k1 : Int)] (v 10) lo hi u from dep hd 10 (by kernel_rfl))
          clear hd
          have hz := hg (fp ka kc) (fun j _ hj q hq => by by_cases e : j = 4; (subst e; exact hq); (unfold twoT at hq; rw [if_neg e, if_neg hj] at hq; simp at hq))
          have hr := (HR.out.2.chg (Chg.drew [] wr) (by simp)).chg hz (fun q hq hm => HNN.out.1.dj q hm hq)
          have hB := Nat.le_trans HNN.out.1.hB (Nat.le_trans (Chg.drew [] wr).size hz.size)
          obtain ⟨x9, u9, hrun, hx9, g9⟩ := ap_step (ty := 22) eltU hr hB hK0.out.2.2.2.1 (by omega) hrow hK0.out.2.1
          have hk := hK.out x9 u9 g9 hx9
          clear hK hg
          simp only [List.toList_toArray, List.take_succ_cons, List.take_zero, List.drop_succ_cons, List.drop_zero, putAll, Act.put, List.setIfInBounds_toArray, List.set_cons_zero, List.set_cons_succ, Nat.zero_add, Nat.reduceAdd, e6, e10] at hk ⊢
          exact oper_append_run (.tmp 20) (.tmp 24) 22 rfl _ _ rfl rfl x9 u9 hrun hk
        · intro v u hg hd K hK
          clear hd
          have hk := hK.out (.pointer (some ⟨nb, 1, none⟩)) u (Chg.refl _ _) rfl
          clear hK hg
          simp only [List.toList_toArray, List.take_succ_cons, List.take_zero, List.drop_succ_cons, List.drop_zero, putAll, Act.put, List.setIfInBounds_toArray, List.set_cons_zero, List.set_cons_succ, Nat.zero_add, Nat.reduceAdd] at hk ⊢
          go_simp
          exact hk
      · intro v u lo hi hg hall hbd hdj
        have e0 : v 0 = .pointer (some ⟨nb, 1, none⟩) := hall 0 (by decide)
        have e1 : v 1 = .slice ka k kc := hall 1 (by decide)
        have e2 : v 2 = .int .u64 (y : Int) := hall 2 (by decide)
        have e5 : v 5 = .pointer (some ⟨nb, 2, none⟩) := hall 5 (by decide)
        have e6 : v 6 = .slice va k vc := hall 6 (by decide)
        have e7 : v 7 = .int .i64 (k : Int) := hall 7 (by decide)
        have e8 : v 8 = .int .i64 (k1 : Int) := hall 8 (by decide)
        have e9 : v 9 = .int .u64 (k1 : Int) := hall 9 (by decide)
        have e12 : v 12 = .pointer (some ⟨nb, 1, none⟩) := hall 12 (by decide)
        obtain ⟨e3, -⟩ : IsRow 1 [.int .u64 (y : Int)] (v 3) (lo 3) (hi 3) u := hall 3 (by decide)
        obtain ⟨e10, -⟩ : IsRow 1 [.int .u64 (k1 : Int)] (v 10) (lo 10) (hi 10) u := hall 10 (by decide)
        obtain ⟨a4, k4, e4, r4, d4⟩ : ApL (fp ka kc) B KM (v 4) (lo 4) (hi 4) u := hall 4 (by decide)
        obtain ⟨a5, k5, e11, r5, d5⟩ : ApL (fp va vc) B VM (v 11) (lo 11) (hi 11) u := hall 11 (by decide)
        have b4 := (hbd 4 (by decide)).1
        have b5 := (hbd 11 (by decide)).1
        have d45 := hdj 4 11 (by decide) (by decide) (by decide)
        have hgA := hg (fp ka kc ++ fp va vc) (fun j _ q hq => by unfold twoT at hq; split at hq; exact List.mem_append_left _ hq; split at hq; exact List.mem_append_right _ hq; simp at hq)
        have hgB := (Chg.drew (fp ka kc ++ fp va vc) wr).trans hgA (U := fp ka kc ++ fp va vc) (fun _ h _ => h) (fun _ h _ => h)
        have hdj9 : ∀ q, q ∈ fp a4 k4 → q ∉ fp a5 k5 := fun q hq hm => by
          rcases d4 with d4 | d4
          · rw [d4] at hq
            rcases d5 with d5 | d5
            · rw [d5] at hm; exact HNN.out.1.dj q hq hm
            · have := (d5 q hm).1; have := HSQ.out.1 q hq; omega
          · rcases d5 with d5 | d5
            · rw [d5] at hm; have := (d4 q hq).1; have := HSQ.out.2.1 q hm; omega
            · have := d4 q hq; have := d5 q hm; omega
        have NB := HNN.out.1.both hgB r4 r5 hdj9
        have hw9 := HNN.out.2.size
        have hge : ∀ q, q ∈ fp ka kc ++ fp va vc → w.heap.size ≤ q := fun q hq => by
          rcases List.mem_append.1 hq with hq | hq
          · have := (HLQ.out.1 q hq).1; have := HB.out; omega
          · have := (HLQ.out.2.1 q hq).1; have := HB.out; omega
        have GB := ((HNN.out.2.trans hgB (U := []) (by simp) (fun q hq hlt => by have := hge q hq; omega)).trans (Chg.setCell u ⟨nb, 1, none⟩ (.slice a4 KM.length k4)) (U := []) (by simp) (fun q hq hlt => by simp at hq; have := HB.out; omega)).trans (Chg.setCell _ ⟨nb, 2, none⟩ (.slice a5 VM.length k5)) (U := []) (by simp) (fun q hq hlt => by simp at hq; have := HB.out; omega)
        have off : nb ∉ fp ka kc ++ fp va vc := fun hm => by rcases List.mem_append.1 hm with hm | hm; exact HLQ.out.2.2.1 hm; exact HLQ.out.2.2.2 hm
        have z0 := hgB.cellv c0 off
        have z1 := hgB.cellv c1 off
        have z2 := hgB.cellv c2 off
        have y1 := (hgB.frozen (p := ⟨nb, 1, none⟩) (block_lt_of_cell c1) off).trans f1
        have y2 := (hgB.frozen (p := ⟨nb, 2, none⟩) (block_lt_of_cell c2) off).trans f2
        have HF := mkHid (And.intro NB GB)
        clear NB GB hgA hgB hdj9 r4 r5 d4 d5 b4 b5 d45 hg hall hbd hdj off hge hw9 c0 c1 c2 f1 f2
        simp only [List.toList_toArray, List.take_succ_cons, List.take_zero, List.drop_succ_cons, List.drop_zero, putAll, Act.put, List.setIfInBounds_toArray, List.set_cons_zero, List.set_cons_succ, Nat.zero_add, Nat.reduceAdd, e0, e1, e2, e3, e4, e5, e6, e7, e8, e9, e10, e11, e12]
        go_wp2_with fail
        exact ⟨⟨k1, _, _, _, _, by first | rfl | (rw [hK0.out.2.2.2.2]) | (have := hK0.out.2.2.2.2; go_num), by have := hK0.out.2.2.2.2; omega, by rw [HKM.out.1, HKM.out.2]; exact HF.out.1, HF.out.2⟩, by simp [intOf]; have := hK0.out.2.2.2.2; omega⟩
    · have hke : k = n := by omega
      subst hke
      have d1 : decide (k < k) = false := decide_eq_false hlt
      have d2 : decide ((k : Int) < (k : Int)) = false := decide_eq_false (by omega)
      have hLk : L.take k = L := by rw [← HN.out]; exact List.take_length
      rw [hLk] at hN
      have n0 := hN.c0
      have n1 := hN.c1
      have n2 := hN.c2
      obtain ⟨v0, v1, v2, r0, r1, r2, q0, q1, q2⟩ := there3 hN.th
      have HNN := mkHid (And.intro hN hg)
      clear hN hg hLk
      go_wp2_with fail
      refine bodyPost_ret (v := .agg #[.bool false, .slice ka L.length kc, .slice va (ones k).length vc]) (by simp [results, Try.results30, go_sem, r0, r1, r2]) rfl ⟨HNN.out.1.out (by have := HB.out; omega) _ _ _, three w wr R (by have := HB.out; omega) HNN.out.2 _ _ _⟩
end Go.Proofs.Ytlaeonemlodhmaa
