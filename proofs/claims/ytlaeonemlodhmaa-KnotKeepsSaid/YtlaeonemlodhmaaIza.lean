/- KnotParts. -/
import Derived.Test.YtlaeonemlodhmaaIy
import Derived.Test.YtlaeonemlodhmaaIs
namespace Go.Proofs.Ytlaeonemlodhmaa
open Go.RowKit
set_option linter.unusedVariables false
set_option linter.unusedSimpArgs false
attribute [local go_sem ↓] Go.wp_at_zero Go.wp_at_succ

/-- A variable of three cells. -/
structure Bx (u : World) (b : Nat) (x y z : Value) : Prop where
  c0 : u.cell? ⟨b, 0, none⟩ = some x
  c1 : u.cell? ⟨b, 1, none⟩ = some y
  c2 : u.cell? ⟨b, 2, none⟩ = some z
theorem Bx.keep {u u' : World} {b : Nat} {x y z : Value} (h : Bx u b x y z) (g : Chg [] u u') : Bx u' b x y z := ⟨g.cellv h.c0 (by simp), g.cellv h.c1 (by simp), g.cellv h.c2 (by simp)⟩
theorem Bx.lt {u : World} {b : Nat} {x y z : Value} (h : Bx u b x y z) : b < u.heap.size := block_lt_of_cell h.c0
theorem Bx.off {u : World} {b r i : Nat} {x y z v : Value} (h : Bx u b x y z) (hn : b ≠ r) : Bx (u.setCell ⟨r, i, none⟩ v) b x y z := by
  have g := Chg.setCell u ⟨r, i, none⟩ v
  exact ⟨g.cellv h.c0 (by simpa using hn), g.cellv h.c1 (by simpa using hn), g.cellv h.c2 (by simpa using hn)⟩
theorem Bx.turn {u u' : World} {b : Nat} {lf : Bool} {a a' : Option Addr} {n c n' c' : Nat} (h : Bx u b (.bool lf) (.slice a n c) (.slice a' n' c')) (t : Turn64 u u') : Bx u' b (.bool lf) (.slice a n c) (.slice a' n' c') := ⟨t.bool h.c0, t.slice h.c1, t.slice h.c2⟩
theorem Bx.old {w w' : World} {S : List Nat} {b : Nat} {x y z : Value} (h : Bx w b x y z) (g : Chg S w w') (hS : ∀ q ∈ S, w.heap.size ≤ q) : Bx w' b x y z := ⟨cell_old g hS h.c0, cell_old g hS h.c1, cell_old g hS h.c2⟩
/-- Numbers stay numbers. -/
def Ints (w w' : World) : Prop := ∀ p z, w.cell? p = some (.int .u64 z) → (∃ z', w'.cell? p = some (.int .u64 z')) ∧ w'.frozen? p = w.frozen? p
theorem Ints.of_turn {w w' : World} (t : Turn64 w w') : Ints w w' := fun p z h => by
  obtain ⟨h1, h2⟩ := t p _ h
  rcases h1 with h1 | ⟨_, z', _, h1⟩
  · exact ⟨⟨z, h1⟩, h2⟩
  · exact ⟨⟨z', h1⟩, h2⟩
theorem Ints.of_chg {w w' : World} (g : Chg [] w w') : Ints w w' := Ints.of_turn (Turn64.of_chg g)
/-- A slice's cell is written: no number is. -/
theorem ints_set {w : World} {a : Addr} {b : Option Addr} {n c : Nat} (h : w.cell? a = some (.slice b n c)) (v : Value) (p : Addr) (k : IntKind) (z : Int) (hp : w.cell? p = some (.int k z)) : (w.setCell a v).cell? p = some (.int k z) := by
  rw [World.cell?_setCell_other _ _ _ _ (fun e => by rw [← e, h] at hp; cases hp)]
  exact hp
theorem Ints.set {w : World} {a : Addr} {b : Option Addr} {n c : Nat} (h : w.cell? a = some (.slice b n c)) (v : Value) : Ints w (w.setCell a v) := fun p z hp => ⟨⟨z, ints_set h v p .u64 z hp⟩, World.frozen?_setCell ..⟩
theorem reads_set {w : World} {a : Addr} {b : Option Addr} {n c : Nat} (h : w.cell? a = some (.slice b n c)) (v : Value) {ao : Option Addr} {L : List Nat} (hr : Reads w ao (uvs L)) : Reads (w.setCell a v) ao (uvs L) := fun hx => by
  obtain ⟨b', o, e, hc⟩ := hr hx
  refine ⟨b', o, e, fun j u hu => ?_⟩
  have hcj := hc j u hu
  obtain ⟨x, _, rfl⟩ := List.mem_map.1 (List.mem_of_getElem? hu)
  exact ints_set h v _ _ _ hcj
theorem RdN.set {w : World} {a : Addr} {b : Option Addr} {n c : Nat} (h : w.cell? a = some (.slice b n c)) (v : Value) {ka : Option Addr} {kc : Nat} {va : Option Addr} {vc : Nat} {K V : List Nat} (r : RdN w ka kc va vc K V) : RdN (w.setCell a v) ka kc va vc K V := ⟨reads_set h v r.rk, reads_set h v r.rv, r.ck, r.cv, r.bk, r.bv, r.xk, r.xv⟩
theorem Wr.ints {w w' : World} {a : Option Addr} {n : Nat} (h : Wr w a n) (t : Ints w w') : Wr w' a n := fun hn => by
  obtain ⟨b, o, e, hc⟩ := h hn
  refine ⟨b, o, e, fun j hj => ?_⟩
  obtain ⟨⟨z, hz⟩, hf⟩ := hc j hj
  obtain ⟨t1, t2⟩ := t _ _ hz
  exact ⟨t1, t2.trans hf⟩
/-- A node that may be spoilt, in memory from block M on. -/
structure Sp (u : World) (M : Nat) (a : Option Addr) (n : Nat) (a' : Option Addr) (n' : Nat) : Prop where
  wk : Wr u a n
  wv : Wr u a' n'
  lo : ∀ q ∈ wb a n ++ wb a' n', M ≤ q
theorem Sp.ints {w w' : World} {M : Nat} {a : Option Addr} {n : Nat} {a' : Option Addr} {n' : Nat} (h : Sp w M a n a' n') (t : Ints w w') : Sp w' M a n a' n' := ⟨h.wk.ints t, h.wv.ints t, h.lo⟩
theorem spoil_sp (lf : Bool) {w : World} {M : Nat} {a : Option Addr} {n c : Nat} {a' : Option Addr} {n' c' : Nat} (h : Sp w M a n a' n') (hk : n ≤ 1000000000) (hv : n' ≤ 1000000000) : Calls Try.prog 23 #[.agg #[.bool lf, .slice a n c, .slice a' n' c']] w fun e w' => e = .returned (.tuple #[]) ∧ (∃ S, Chg S w w' ∧ ∀ q ∈ S, M ≤ q) ∧ Turn64 w w' := by
  refine (spoil_any lf a n c a' n' c' w h.wk h.wv hk hv).mono ?_
  rintro e w' ⟨rfl, g, t⟩
  exact ⟨rfl, ⟨_, g, h.lo⟩, t⟩
/-- Halves: what they read, that they may be spoilt. -/
theorem wr_cut {w : World} {B : Nat} {a : Option Addr} {c f d P : Nat} {L : List Nat} (h : Room w B a L.length c (uvs L)) (hL : L.length = P) (hf : f + d ≤ P) (q : Nat) (hq : q = f + d ∨ q = P) : Wr w (cut a q f) d := fun hd => by
  obtain ⟨b, o, rfl, hB, hs, hv⟩ := h.at_ (by have := h.le; omega)
  have e : cut (some ⟨b, o, none⟩) q f = some ⟨b, o + f, none⟩ := by unfold cut; rw [if_neg (by omega), Option.map_some, Addr.add_lit]
  refine ⟨b, o + f, e, fun j hj => ?_⟩
  rw [Nat.add_assoc]
  refine ⟨?_, (hs (f + j) (by have := h.le; omega)).2⟩
  obtain ⟨x, hx⟩ : ∃ x, L[f + j]? = some x := ⟨_, List.getElem?_eq_getElem (by omega)⟩
  exact ⟨_, hv _ _ (uvs_get hx)⟩
theorem wb_cut {a : Option Addr} {c f d q : Nat} {p : Nat} (hc : d ≤ c) (h : p ∈ wb (cut a q f) d) : p ∈ fp a c := by
  unfold wb at h
  split at h
  · simp at h
  · rw [blk_cut] at h
    unfold fp
    rw [if_neg (by omega)]
    exact h
theorem reads_half1 {w : World} {a : Option Addr} {L : List Nat} {m : Nat} (h : Reads w a (uvs L)) : Reads w (cut a m 0) (uvs (sub L 0 m)) := by
  intro hx
  have hl : 0 < L.length := by
    rw [uvs_len] at hx
    unfold sub at hx
    simp at hx
    have := hx
    omega
  obtain ⟨b, o, rfl, hc⟩ := h (by rw [uvs_len]; exact hl)
  have hm : 0 < m := by
    rw [uvs_len] at hx
    unfold sub at hx
    simp at hx
    omega
  have e : cut (some ⟨b, o, none⟩) m 0 = some ⟨b, o, none⟩ := by unfold cut; rw [if_neg (by omega), Option.map_some, Addr.add_lit, Nat.add_zero]
  refine ⟨b, o, e, fun j u hu => ?_⟩
  have h1 := h.take m
  rw [uvs_take] at h1
  exact h1.cell j u hu
theorem sub_self {L : List Nat} {P f : Nat} (h : L.length = P) : sub L f P = L.drop f := by unfold sub; rw [← h, List.take_length]
theorem reads_half2 {w : World} {a : Option Addr} {L : List Nat} {m P : Nat} (h : Reads w a (uvs L)) (hP : L.length = P) : Reads w (cut a P m) (uvs (sub L m P)) := by
  have := h.cut P m (by rw [uvs_len, hP]; exact Nat.le_refl _)
  rw [uvs_drop] at this
  rw [sub_self hP]
  exact this
theorem sub_tk {K V : List Nat} {P m : Nat} (hP : np K V = P) (hm : m ≤ P) : sub (tkK K V) 0 m = sub K 0 m ∧ sub (tkV K V) 0 m = sub V 0 m ∧ sub (tkK K V) m P = sub K m P ∧ sub (tkV K V) m P = sub V m P := by
  unfold tkK tkV sub
  rw [hP]
  refine ⟨?_, ?_, ?_, ?_⟩
  · rw [List.take_take, Nat.min_eq_left hm]
  · rw [List.take_take, Nat.min_eq_left hm]
  · rw [List.take_take, Nat.min_self]
  · rw [List.take_take, Nat.min_self]
/-- The two halves of a node in memory of its own. -/
structure Halves (w : World) (M : Nat) (pa : Option Addr) (qa : Option Addr) (P m d : Nat) (X Y : List Nat) : Prop where
  r1 : RdN w (cut pa m 0) m (cut qa m 0) m (sub X 0 m) (sub Y 0 m)
  r2 : RdN w (cut pa P m) d (cut qa P m) d (sub X m P) (sub Y m P)
  s1 : Sp w M (cut pa m 0) m (cut qa m 0) m
  s2 : Sp w M (cut pa P m) d (cut qa P m) d
theorem halves_of {w : World} {B M : Nat} {pa : Option Addr} {pc : Nat} {qa : Option Addr} {qc : Nat} {X Y : List Nat} {P m d : Nat} (h : RmN w B pa pc qa qc X Y) (hM : M ≤ B) (lX : X.length = P) (lY : Y.length = P) (hm : m ≤ P) (hd : P - m = d) (hb : P ≤ 1000000000) : Halves w M pa qa P m d X Y := by
  have kc := h.rk.le
  have vc := h.rv.le
  have l1 := sub_len (L := X) (f := 0) (t := m) (by omega)
  have l2 := sub_len (L := Y) (f := 0) (t := m) (by omega)
  have l3 := sub_len (L := X) (f := m) (t := P) (by omega)
  have l4 := sub_len (L := Y) (f := m) (t := P) (by omega)
  refine ⟨⟨reads_half1 h.rk.reads, reads_half1 h.rv.reads, by omega, by omega, by omega, by omega, by unfold maxLen; omega, by unfold maxLen; omega⟩, ⟨reads_half2 h.rk.reads lX, reads_half2 h.rv.reads lY, by omega, by omega, by omega, by omega, by unfold maxLen; omega, by unfold maxLen; omega⟩,
    ⟨wr_cut h.rk lX (by omega) m (Or.inl (by omega)), wr_cut h.rv lY (by omega) m (Or.inl (by omega)), fun q hq => ?_⟩, ⟨wr_cut h.rk lX (by omega) P (Or.inr rfl), wr_cut h.rv lY (by omega) P (Or.inr rfl), fun q hq => ?_⟩⟩
  · rcases List.mem_append.1 hq with hq | hq
    · exact Nat.le_trans hM (h.rk.lt q (wb_cut (by omega) hq)).1
    · exact Nat.le_trans hM (h.rv.lt q (wb_cut (by omega) hq)).1
  · rcases List.mem_append.1 hq with hq | hq
    · exact Nat.le_trans hM (h.rk.lt q (wb_cut (by omega) hq)).1
    · exact Nat.le_trans hM (h.rv.lt q (wb_cut (by omega) hq)).1
theorem Halves.keep {w w' : World} {M : Nat} {pa qa : Option Addr} {P m d : Nat} {X Y : List Nat} (h : Halves w M pa qa P m d X Y) (g : Chg [] w w') : Halves w' M pa qa P m d X Y := ⟨h.r1.keep g, h.r2.keep g, h.s1.ints (Ints.of_chg g), h.s2.ints (Ints.of_chg g)⟩
theorem sp_of {w : World} {B M : Nat} {pa : Option Addr} {pc : Nat} {qa : Option Addr} {qc : Nat} {X Y : List Nat} {n n' : Nat} (h : RmN w B pa pc qa qc X Y) (hM : M ≤ B) (hn : X.length = n) (hn' : Y.length = n') : Sp w M pa n qa n' := by
  subst hn hn'
  refine ⟨wr_of h.rk, wr_of h.rv, fun q hq => ?_⟩
  rcases List.mem_append.1 hq with hq | hq
  · exact Nat.le_trans hM (h.rk.lt q (wb_fp h.rk.le hq)).1
  · exact Nat.le_trans hM (h.rv.lt q (wb_fp h.rv.le hq)).1
theorem split_as (lf : Bool) (ka : Option Addr) (kl kc : Nat) (va : Option Addr) (vl vc : Nat) (K V : List Nat) (w : World) (h : RdN w ka kc va vc K V) (hk : K.length = kl) (hv : V.length = vl) (M P m d : Nat) (X Y : List Nat) (hM : M ≤ w.heap.size) (hP : np K V = P) (hm : half P = m) (hd : P - m = d) (hX : tkK K V = X) (hY : tkV K V = Y) (hb : P ≤ 1000000000) : Calls Try.prog 24 #[.agg #[.bool lf, .slice ka kl kc, .slice va vl vc]] w fun e w' => (∃ pa qa, e = .returned (.tuple #[.agg #[.bool lf, .slice (cut pa m 0) m m, .slice (cut qa m 0) m m], .agg #[.bool lf, .slice (cut pa P m) d d, .slice (cut qa P m) d d]]) ∧ Halves w' M pa qa P m d X Y) ∧ Chg [] w w' := by
  have l1 := tk_lens (K := K) (V := V)
  rw [hX, hY, hP] at l1
  refine (split_any lf ka kl kc va vl vc K V w h hk hv (by omega)).mono ?_
  rintro e w' ⟨⟨pa, pc, qa, qc, rfl, r⟩, g⟩
  rw [hX, hY] at r
  have hmP : m ≤ P := by rw [← hm]; unfold half; omega
  refine ⟨⟨pa, qa, by rw [hX, l1.1, hm, hd], halves_of r hM l1.1 l1.2 hmP hd hb⟩, g⟩
theorem even_as (lf : Bool) (ka : Option Addr) (kl kc : Nat) (va : Option Addr) (vl vc : Nat) (K V : List Nat) (lf' : Bool) (ka' : Option Addr) (kl' kc' : Nat) (va' : Option Addr) (vl' vc' : Nat) (K' V' : List Nat) (w : World) (h : RdN w ka kc va vc K V) (hk : K.length = kl) (hv : V.length = vl) (h' : RdN w ka' kc' va' vc' K' V') (hk' : K'.length = kl') (hv' : V'.length = vl') (M P m d : Nat) (X Y : List Nat) (hM : M ≤ w.heap.size) (hP : np K V + np K' V' = P) (hm : half P = m) (hd : P - m = d) (hX : tkK K V ++ tkK K' V' = X) (hY : tkV K V ++ tkV K' V' = Y) (hb : P ≤ 1000000000) : Calls Try.prog 26 #[.agg #[.bool lf, .slice ka kl kc, .slice va vl vc], .agg #[.bool lf', .slice ka' kl' kc', .slice va' vl' vc']] w fun e w' => (∃ pa qa, e = .returned (.tuple #[.agg #[.bool lf, .slice (cut pa m 0) m m, .slice (cut qa m 0) m m], .agg #[.bool lf, .slice (cut pa P m) d d, .slice (cut qa P m) d d]]) ∧ Halves w' M pa qa P m d X Y) ∧ Chg [] w w' := by
  have l1 := tk_lens (K := K) (V := V)
  have l2 := tk_lens (K := K') (V := V')
  have lX : X.length = P := by rw [← hX, List.length_append]; omega
  have lY : Y.length = P := by rw [← hY, List.length_append]; omega
  refine (even_any lf ka kl kc va vl vc K V lf' ka' kl' kc' va' vl' vc' K' V' w h hk hv h' hk' hv' (by omega)).mono ?_
  rintro e w' ⟨⟨pa, pc, qa, qc, rfl, r⟩, g⟩
  rw [hX, hY] at r
  have hmP : m ≤ P := by rw [← hm]; unfold half; omega
  refine ⟨⟨pa, qa, by rw [hX, lX, hm, hd], halves_of r hM lX lY hmP hd hb⟩, g⟩
theorem rsplit_as (lf : Bool) (ka : Option Addr) (kl kc : Nat) (va : Option Addr) (vl vc : Nat) (K V : List Nat) (w : World) (h : RdN w ka kc va vc K V) (hk : K.length = kl) (hv : V.length = vl) (P m d : Nat) (X1 Y1 X2 Y2 : List Nat) (hP : np K V = P) (hm : half P = m) (hd : P - m = d) (e1 : sub K 0 m = X1) (e2 : sub V 0 m = Y1) (e3 : sub K m P = X2) (e4 : sub V m P = Y2) (hb : P ≤ 100000000) : Calls Try.prog 27 #[.agg #[.bool lf, .slice ka kl kc, .slice va vl vc]] w fun e w' => (∃ ra rc rb rd sa sc sb sd, e = .returned (.tuple #[.agg #[.bool lf, .slice ra m rc, .slice rb m rd], .agg #[.bool lf, .slice sa d sc, .slice sb d sd]]) ∧ RdN w' ra rc rb rd X1 Y1 ∧ RdN w' sa sc sb sd X2 Y2) ∧ Chg [] w w' := by
  have hmP : m ≤ P := by rw [← hm]; unfold half; omega
  have n1 := np_le (K := K) (V := V)
  have l1 := sub_len (L := K) (f := 0) (t := m) (by omega)
  have l2 := sub_len (L := V) (f := 0) (t := m) (by omega)
  have l3 := sub_len (L := K) (f := m) (t := P) (by omega)
  have l4 := sub_len (L := V) (f := m) (t := P) (by omega)
  have hc := rsplit_any lf ka kl kc va vl vc K V w h hk hv (by omega)
  rw [hP, hm, e1, e2, e3, e4] at hc
  rw [e1] at l1
  rw [e2] at l2
  rw [e3] at l3
  rw [e4] at l4
  refine hc.mono ?_
  rintro e w' ⟨⟨ra, rc, rb, rd, sa, sc, sb, sd, rfl, r, r'⟩, g⟩
  refine ⟨⟨ra, rc, rb, rd, sa, sc, sb, sd, ?_, r.rd (by omega) (by omega), r'.rd (by omega) (by omega)⟩, g⟩
  rw [l1, l2, l3, l4, hd, Nat.sub_zero]
theorem rjoin_as (lf : Bool) (ka : Option Addr) (kl kc : Nat) (va : Option Addr) (vl vc : Nat) (K V : List Nat) (lf' : Bool) (ka' : Option Addr) (kl' kc' : Nat) (va' : Option Addr) (vl' vc' : Nat) (K' V' : List Nat) (w : World) (h : RdN w ka kc va vc K V) (hk : K.length = kl) (hv : V.length = vl) (h' : RdN w ka' kc' va' vc' K' V') (hk' : K'.length = kl') (hv' : V'.length = vl') (P : Nat) (X Y : List Nat) (hP : np K V + np K' V' = P) (hX : tkK K V ++ tkK K' V' = X) (hY : tkV K V ++ tkV K' V' = Y) (hb : P ≤ 1000000000) : Calls Try.prog 28 #[.agg #[.bool lf, .slice ka kl kc, .slice va vl vc], .agg #[.bool lf', .slice ka' kl' kc', .slice va' vl' vc']] w fun e w' => (∃ ra rc rb rd, e = .returned (.agg #[.bool lf, .slice ra P rc, .slice rb P rd]) ∧ RdN w' ra rc rb rd X Y) ∧ Chg [] w w' := by
  have l1 := tk_lens (K := K) (V := V)
  have l2 := tk_lens (K := K') (V := V')
  have lX : X.length = P := by rw [← hX, List.length_append]; omega
  have lY : Y.length = P := by rw [← hY, List.length_append]; omega
  have hc := rjoin_any lf ka kl kc va vl vc K V lf' ka' kl' kc' va' vl' vc' K' V' w h hk hv h' hk' hv' (by omega)
  rw [hX, hY] at hc
  refine hc.mono ?_
  rintro e w' ⟨⟨ra, rc, rb, rd, rfl, r⟩, g⟩
  exact ⟨⟨ra, rc, rb, rd, by rw [lX, lY], r.rd (by omega) (by omega)⟩, g⟩
theorem join_as (lf : Bool) (ka : Option Addr) (kl kc : Nat) (va : Option Addr) (vl vc : Nat) (K V : List Nat) (lf' : Bool) (ka' : Option Addr) (kl' kc' : Nat) (va' : Option Addr) (vl' vc' : Nat) (K' V' : List Nat) (w : World) (h : RdN w ka kc va vc K V) (hk : K.length = kl) (hv : V.length = vl) (h' : RdN w ka' kc' va' vc' K' V') (hk' : K'.length = kl') (hv' : V'.length = vl') (M P : Nat) (X Y : List Nat) (hM : M ≤ w.heap.size) (hP : np K V + np K' V' = P) (hX : tkK K V ++ tkK K' V' = X) (hY : tkV K V ++ tkV K' V' = Y) (hb : P ≤ 1000000000) : Calls Try.prog 25 #[.agg #[.bool lf, .slice ka kl kc, .slice va vl vc], .agg #[.bool lf', .slice ka' kl' kc', .slice va' vl' vc']] w fun e w' => (∃ ra rc rb rd, e = .returned (.agg #[.bool lf, .slice ra P rc, .slice rb P rd]) ∧ RdN w' ra rc rb rd X Y ∧ Sp w' M ra P rb P) ∧ Chg [] w w' := by
  have l1 := tk_lens (K := K) (V := V)
  have l2 := tk_lens (K := K') (V := V')
  have lX : X.length = P := by rw [← hX, List.length_append]; omega
  have lY : Y.length = P := by rw [← hY, List.length_append]; omega
  have hc := join_any lf ka kl kc va vl vc K V lf' ka' kl' kc' va' vl' vc' K' V' w h hk hv h' hk' hv' (by omega)
  rw [hX, hY] at hc
  refine hc.mono ?_
  rintro e w' ⟨⟨ra, rc, rb, rd, rfl, r⟩, g⟩
  exact ⟨⟨ra, rc, rb, rd, by rw [lX, lY], r.rd (by omega) (by omega), sp_of r hM lX lY⟩, g⟩
end Go.Proofs.Ytlaeonemlodhmaa
