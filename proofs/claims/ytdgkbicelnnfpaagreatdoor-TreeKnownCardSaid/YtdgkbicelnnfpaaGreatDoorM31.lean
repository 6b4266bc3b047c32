/- Texts Tr, Ts, Tt of the library, joined. -/
import Derived.Test.YtdgkbicelnnfpaaGreatDoorM30
import Derived.Test.YtdgkbicelnnfpaaGreatDoorM29
import Derived.Recover
/- inserted: the way on which a key gets a value (where no node but the root has too many pairs, and there is room). -/
namespace Go.Proofs.YtdgkbicelnnfpaaGreatDoor
set_option maxRecDepth 200000
open Go.RowKit
set_option linter.unusedVariables false
set_option linter.unusedSimpArgs false
attribute [local go_sem ↓] Go.wp_at_zero Go.wp_at_succ

/-- What comes of a step: few pairs, or a root that is split. -/
def comeK (C : List UInt8) (s : WaySt) (i : Nat) : Out WaySt :=
  match s.2.2.1[i]? with
  | none => .stuck
  | some x =>
    if x.node.K.length ≤ 8 then .ok (s.1, s.2.1, s.2.2.1, keptV s.2.2.2.1 x, s.2.2.2.2) else
    if i = 0 ∧ x.node.K.length = x.node.V.length ∧ x.node.K.length ≤ 100 then
      match makeA s.1 C s.2.1 x.node.hi with
      | .ok (N1, X1, t) =>
        match makeA N1 C X1 (topN (x.node.lo.K.getD 0 0) (x.node.hi.K.getD 0 0) x.t t) with
        | .ok (N2, X2, t2) => .ok (N2, X2, s.2.2.1, keptV s.2.2.2.1 ⟨x.t, x.was, x.node.lo, x.pl⟩, t2)
        | _ => .stuck
      | _ => .stuck
    else .stuck
def leafed (L : List AS) (key val : Nat) : Out (List AS × Nat × Bool) :=
  match L[L.length - 1]? with
  | none => .stuck
  | some x => .ok (L.set (L.length - 1) ⟨x.t, x.was, (if x.node.is key then x.node.rem (x.node.find key) else x.node).ins (x.node.find key) key val, x.pl⟩, (if x.node.is key then x.node.V.getD (x.node.find key) 0 else 0), x.node.is key)
/-- What a call that changes a tree does: counts, nodes, the root, what was told. -/
def insertedA (N C : List UInt8) (X : Nat → Option Nd) (root key val : Nat) : Out (List UInt8 × (Nat → Option Nd) × Nat × Nat × Bool) :=
  match downA N C X root key with
  | .stuck => .stuck
  | .full => .full
  | .ok (N1, X1, L) =>
    match leafed L key val, L[0]? with
    | .ok (L2, od, th), some y =>
      match upA (comeK C) (N1, X1, L2, [], y.t) with
      | .stuck => .stuck
      | .full => .full
      | .ok (N2, X2, _, _, rt) => .ok (N2, X2, rt, od, th)
    | _, _ => .stuck
/-- A way, as a value. -/
def wayV (sb : Nat) (a1 : Option Addr) (l1 c1 : Nat) (a2 : Option Addr) (l2 c2 rt od : Nat) (th : Bool) : Value := .agg #[.pointer (some ⟨sb, 0, none⟩), .slice a1 l1 c1, .slice a2 l2 c2, .int .u64 (rt : Int), .int .u64 (od : Int), .bool th]
theorem comeK_cases (C : List UInt8) (s : WaySt) (i : Nat) (h : comeK C s i ≠ .stuck) : ∃ x, s.2.2.1[i]? = some x ∧ ((x.node.K.length ≤ 8 ∧ comeK C s i = .ok (s.1, s.2.1, s.2.2.1, keptV s.2.2.2.1 x, s.2.2.2.2)) ∨
    (¬ x.node.K.length ≤ 8 ∧ i = 0 ∧ x.node.sq ∧ ∃ N1 X1 t N2 X2 t2, makeA s.1 C s.2.1 x.node.hi = .ok (N1, X1, t) ∧ makeA N1 C X1 (topN (x.node.lo.K.getD 0 0) (x.node.hi.K.getD 0 0) x.t t) = .ok (N2, X2, t2) ∧ comeK C s i = .ok (N2, X2, s.2.2.1, keptV s.2.2.2.1 ⟨x.t, x.was, x.node.lo, x.pl⟩, t2))) := by
  unfold comeK at h ⊢
  cases hx : s.2.2.1[i]? with
  | none => rw [hx] at h; exact absurd rfl h
  | some x =>
    rw [hx] at h
    dsimp only at h ⊢
    refine ⟨x, rfl, ?_⟩
    by_cases h8 : x.node.K.length ≤ 8
    · exact Or.inl ⟨h8, by rw [if_pos h8]⟩
    · rw [if_neg h8] at h ⊢
      by_cases hc : i = 0 ∧ x.node.K.length = x.node.V.length ∧ x.node.K.length ≤ 100
      · rw [if_pos hc] at h ⊢
        refine Or.inr ⟨h8, hc.1, hc.2, ?_⟩
        cases h1 : makeA s.1 C s.2.1 x.node.hi with
        | stuck => rw [h1] at h; exact absurd rfl h
        | full => rw [h1] at h; exact absurd rfl h
        | ok m1 =>
          obtain ⟨N1, X1, t⟩ := m1
          rw [h1] at h
          dsimp only at h ⊢
          cases h2 : makeA N1 C X1 (topN (x.node.lo.K.getD 0 0) (x.node.hi.K.getD 0 0) x.t t) with
          | stuck => rw [h2] at h; exact absurd rfl h
          | full => rw [h2] at h; exact absurd rfl h
          | ok m2 =>
            obtain ⟨N2, X2, t2⟩ := m2
            exact ⟨N1, X1, t, N2, X2, t2, rfl, h2, rfl⟩
      · rw [if_neg hc] at h; exact absurd rfl h
theorem kept_mem {V : List AS} {x y : AS} (h : y ∈ keptV V x) : y ∈ V ∨ y = x := by
  unfold keptV at h
  split at h
  · exact Or.inl h
  · exact (List.mem_append.1 h).imp id (fun q => by simpa using q)
theorem kept_len (V : List AS) (x : AS) : (keptV V x).length ≤ V.length + 1 := by
  unfold keptV
  split
  · omega
  · simp
def InsPost (w0 w : World) (tag : Nat → Nat) (sb rb n : Nat) (C : List UInt8) (u : Nat) (r : Out (List UInt8 × (Nat → Option Nd) × Nat × Nat × Bool)) (e : Ending) (w' : World) : Prop :=
  match r with
  | .stuck => True
  | .full => e = Thrown 8 ∧ ∃ (tag' : Nat → Nat) (N' : List UInt8) (X' : Nat → Option Nd), HasX w0 w' tag' sb rb n N' C X' u ∧ Mv tag tag' w w'
  | .ok (N', X', rt, od, th) => ∃ (a1 : Option Addr) (l1 c1 : Nat) (a2 : Option Addr) (l2 c2 : Nat), e = .returned (wayV sb a1 l1 c1 a2 l2 c2 rt od th) ∧ ∃ (tag' : Nat → Nat), HasX w0 w' tag' sb rb n N' C X' u ∧ Mv tag tag' w w'
theorem mv_of {w w' : World} {tag tag' : Nat → Nat} {S : List Nat} (m : Mvb S tag tag' w w') {w1 : World} {t1 : Nat → Nat} (m0 : Mv t1 tag w1 w) (hS : ∀ k, k ∈ S → w1.heap.size ≤ k) : Mv t1 tag' w1 w' := by
  have h := (m0.b []).trans (U := []) m (by simp) (fun k hk hlt => by have := hS k hk; omega)
  obtain ⟨T, hT, h1⟩ := h.c
  exact ⟨⟨T, hT, fun k hk => (h1 k hk).elim Or.inl (fun q => q.elim Or.inr (by simp))⟩, h.o, h.d⟩
def wayZ : Array Value := #[.pointer none, .slice none 0 0, .slice none 0 0, .int .u64 0, .int .u64 0, .bool false]
theorem new6 (w : World) (t : TypeId) : (w.alloc (.cells wayZ t)).there w.heap.size 0 6 := fun j hj => by
  refine ⟨?_, frozen_of_row _ _ _ _ _ (heap_alloc_last w _)⟩
  rw [cell_of_row _ _ _ _ _ _ (heap_alloc_last w _), Nat.zero_add]
  match j, hj with
  | 0, _ => rfl
  | 1, _ => rfl
  | 2, _ => rfl
  | 3, _ => rfl
  | 4, _ => rfl
  | 5, _ => rfl
theorem cells6 {w : World} {b : Nat} (h : w.there b 0 6) : (∃ v0 v1 v2 v3 v4 v5, w.cell? ⟨b, 0, none⟩ = some v0 ∧ w.cell? ⟨b, 1, none⟩ = some v1 ∧ w.cell? ⟨b, 2, none⟩ = some v2 ∧ w.cell? ⟨b, 3, none⟩ = some v3 ∧ w.cell? ⟨b, 4, none⟩ = some v4 ∧ w.cell? ⟨b, 5, none⟩ = some v5) ∧
    w.frozen? ⟨b, 0, none⟩ = false ∧ w.frozen? ⟨b, 1, none⟩ = false ∧ w.frozen? ⟨b, 2, none⟩ = false ∧ w.frozen? ⟨b, 3, none⟩ = false ∧ w.frozen? ⟨b, 4, none⟩ = false ∧ w.frozen? ⟨b, 5, none⟩ = false := by
  have f : ∀ j, j < 6 → ∃ v, w.cell? ⟨b, j, none⟩ = some v := fun j hj => by
    obtain ⟨v, r⟩ := Option.isSome_iff_exists.1 (h j hj).1
    rw [Nat.zero_add] at r
    exact ⟨v, r⟩
  have g : ∀ j, j < 6 → w.frozen? ⟨b, j, none⟩ = false := fun j hj => by
    have := (h j hj).2
    rwa [Nat.zero_add] at this
  obtain ⟨v0, r0⟩ := f 0 (by decide)
  obtain ⟨v1, r1⟩ := f 1 (by decide)
  obtain ⟨v2, r2⟩ := f 2 (by decide)
  obtain ⟨v3, r3⟩ := f 3 (by decide)
  obtain ⟨v4, r4⟩ := f 4 (by decide)
  obtain ⟨v5, r5⟩ := f 5 (by decide)
  exact ⟨⟨v0, v1, v2, v3, v4, v5, r0, r1, r2, r3, r4, r5⟩, g 0 (by decide), g 1 (by decide), g 2 (by decide), g 3 (by decide), g 4 (by decide), g 5 (by decide)⟩
theorem six_chg (w : World) (b : Nat) (x0 x1 x2 x3 x4 x5 : Value) : Chg [b] w ((((((w.setCell ⟨b, 0, none⟩ x0).setCell ⟨b, 1, none⟩ x1).setCell ⟨b, 2, none⟩ x2).setCell ⟨b, 3, none⟩ x3).setCell ⟨b, 4, none⟩ x4).setCell ⟨b, 5, none⟩ x5) := by
  have f : ∀ {a c : World} (i : Nat) (x : Value), Chg [b] a c → Chg [b] a (c.setCell ⟨b, i, none⟩ x) := fun i x g => g.trans (Chg.setCell _ ⟨b, i, none⟩ x) (fun _ h _ => h) (fun _ h _ => h)
  exact f 5 x5 (f 4 x4 (f 3 x3 (f 2 x2 (f 1 x1 (Chg.setCell w ⟨b, 0, none⟩ x0)))))
section
variable {w0 w : World} {tag : Nat → Nat} {sb rb n : Nat} {N C : List UInt8} {X : Nat → Option Nd} {u : Nat}
theorem grown_enters : ∀ (args : Array Value) (w : World), (callFunc 113 args).run Tryz.prog w = .ok (.enter 113 args) w := enters_of Tryz.func113 (by kernel_rfl) rfl
set_option maxHeartbeats 2000000 in
theorem inserted_any (hT : Tab w0) (h : HasX w0 w tag sb rb n N C X u) (root key val : Nat) (hkey : key < 2 ^ 64) (hval : val < 2 ^ 64) (hu : u ≤ 70000000) (r : Out (List UInt8 × (Nat → Option Nd) × Nat × Nat × Bool)) (hr : insertedA N C X root key val = r) (hne : r ≠ .stuck) :
    Calls Tryz.prog 59 #[.pointer (some ⟨sb, 0, none⟩), .int .u64 (root : Int), .int .u64 (key : Int), .int .u64 (val : Int)] w (InsPost w0 w tag sb rb n C (u + 4000) r) := by
  have g0 := Chg.alloc [] w (.cells wayZ 124)
  have h0 := h.keep g0
  have t0 := new6 w 124
  have tb := h.hi _ (Nat.le_refl _)
  have M0 := Mv.made g0 h.hi
  have hz0 : (w.alloc (.cells wayZ 124)).heap.size = w.heap.size + 1 := by simp
  unfold insertedA at hr
  obtain ⟨dr, hdr⟩ : ∃ dr, downA N C X root key = dr := ⟨_, rfl⟩
  rw [hdr] at hr
  have HT := mkHid hT
  go_enter Tryz.func59, Tryz.ntmps59
  go_wp2_with fail
  unfold wayZ at h0 t0 M0 hz0 g0
  generalize (w.alloc (.cells #[.pointer none, .slice none 0 0, .slice none 0 0, .int .u64 0, .int .u64 0, .bool false] 124)) = w1 at *
  cases dr with
  | stuck => exact absurd hr.symm hne
  | full =>
    have hr : Out.full = r := hr
    subst hr
    refine (down_anyT hT h0 root key hkey (by omega) .full hdr (by simp)).mono ?_
    rintro e w2 ⟨rfl, tag2, N2, X2, h2, m2⟩
    exact end_thrown rfl ⟨rfl, tag2, N2, X2, h2.mono (by omega), M0.trans m2⟩
  | ok dq =>
    obtain ⟨N1, X1, L⟩ := dq
    dsimp only at hr
    refine (down_anyT hT h0 root key hkey (by omega) _ hdr (by simp)).mono ?_
    rintro e w2 ⟨wb, a1, c1, S, rt, rfl, rfl, ⟨y, hy, hyt⟩, hSn, hSl, hwb, hfp, tag2, h2, m2, W2⟩
    have hwr1 : w.heap.size < w1.heap.size := by omega
    have t2 := m2.there t0 tb
    have b2 := m2.four tb hwr1
    have M2 := M0.trans m2
    obtain ⟨k, hk⟩ : ∃ k, S.length = k + 1 := ⟨S.length - 1, by have := (List.getElem?_eq_some_iff.1 hy).1; omega⟩
    obtain ⟨x, hx⟩ : ∃ x, S[k]? = some x := ⟨_, List.getElem?_eq_getElem (by omega)⟩
    have hxs := hSn x (List.mem_of_getElem? hx)
    have cT := take_anyT h2 W2 k hk (by omega) x hx hxs.2 key
    obtain ⟨fi, hfi⟩ : ∃ fi, x.node.nd.find key = fi := ⟨_, rfl⟩
    obtain ⟨is, his⟩ : ∃ is, x.node.nd.is key = is := ⟨_, rfl⟩
    rw [hfi, his] at cT
    have hfl : fi ≤ x.node.K.length := by rw [← hfi]; exact find_le key
    have hil : is = true → fi < x.node.K.length := fun e => by
      have := is_lt (his.trans e)
      rw [hfi] at this
      exact this.1
    have HB := mkHid (And.intro hwb hfp)
    have HFI := mkHid (And.intro hfi his)
    have HK := mkHid hk
    clear hwb hfp hfi his
    go_wp2_with fail
    refine cT.mono ?_
    rintro e w3 ⟨rfl, tag3, q, h3, m3, W3, hqn⟩
    obtain ⟨od9, hod9⟩ : ∃ od9, (if is = true then x.node.nd.V.getD fi 0 else 0) = od9 := ⟨_, rfl⟩
    rw [hod9, Bool.or_false] at W3
    have HOD := mkHid hod9
    clear hod9
    have hkS : S.length = k + 1 := HK.out
    have hx3 : (S.set k { x with node := q })[k]? = some { x with node := q } := List.getElem?_set_self (by omega)
    have cL := leaf_any W3 k (by rw [List.length_set]; exact hkS) (by omega)
    have m03 : Mv tag tag3 w w3 := mv_of m3 M2 (fun j hj => by
      rcases List.mem_cons.1 hj with rfl | h9
      · have := HB.out.1; omega
      · have := HB.out.2 j h9; omega)
    have nb : w.heap.size ∉ wb :: fp a1 c1 := fun hm => by
      rcases List.mem_cons.1 hm with e9 | h9
      · have := HB.out.1; omega
      · have := HB.out.2 _ h9; omega
    have t3 : w3.there w.heap.size 0 6 := by
      obtain ⟨T, hT3, h1⟩ := m3.c
      exact there_chg t2 hT3 (fun hm => (h1 _ hm).elim (by omega) (fun q => q.elim (by omega) nb))
    have b3 := m3.four b2 (there_lt t2 (by decide))
    clear cT h2 m2 W2 M2 t2 b2 m3
    go_wp2_with fail
    refine cL.mono ?_
    rintro e w4 ⟨b, o, rfl, rfl, g4⟩
    have h4 := h3.keep g4
    have W4 := W3.keep g4
    have m04 := m03.then g4
    have t4 := there_chg t3 g4 (by simp)
    obtain ⟨b', o', e', st4, hbf⟩ := W4.r1.step hx3
    cases e'
    have nq4 := (W4.r1.nd _ (List.mem_of_getElem? hx3)).2
    dsimp only at nq4
    have hsq : q.nd.sq ∧ fi ≤ q.K.length := by
      cases is with
      | false =>
        rw [if_neg (by simp)] at hqn
        refine ⟨by rw [hqn]; exact hxs.2, ?_⟩
        rw [show q.K = x.node.K from congrArg Nd.K hqn]
        exact hfl
      | true =>
        rw [if_pos rfl] at hqn
        have h1 := hil rfl
        have h2 := hxs.2.1
        have h3 := hxs.2.2
        have e1 : q.K = x.node.K.eraseIdx fi := congrArg Nd.K hqn
        have e2 : q.V = x.node.V.eraseIdx fi := congrArg Nd.V hqn
        have l1 : q.K.length = x.node.K.length - 1 := by rw [e1, List.length_eraseIdx, if_pos h1]
        have l2 : q.V.length = x.node.V.length - 1 := by rw [e2, List.length_eraseIdx, if_pos (by have : x.node.K.length = x.node.V.length := h2; omega)]
        have h2' : x.node.K.length = x.node.V.length := h2
        have h3' : x.node.K.length ≤ 100 := h3
        exact ⟨⟨show q.K.length = q.V.length by omega, show q.K.length ≤ 100 by omega⟩, by omega⟩
    have cI := kinsN h4 q nq4 hsq.1 fi key val hsq.2 hkey hval
    unfold CN.val at cI
    obtain ⟨⟨e0, e1, e2, e3, e4, e5, e6, e7⟩, -⟩ := st4.all
    dsimp only at e0 e1 e2 e3 e4 e5 e6 e7
    have tb4 := W4.r1.tg b hbf
    clear cL h3 W3 m03 t3 g4
    go_wp2_with fail
    refine cI.mono ?_
    rintro e w5 ⟨q', rfl, hq'n, tag5, h5, m5, nq5⟩
    have W5 := W4.mv m5
    have m05 := m04.trans m5
    have st5 := st4.mv m5 tb4
    have t5 := m5.there t4 b3
    have b5 := m5.four b3 (there_lt t4 (by decide))
    obtain ⟨W6, g6⟩ := W5.wr hx3 nq5
    rw [List.set_set] at W6
    dsimp only at W6 g6
    obtain ⟨⟨f0, f1, f2, f3, f4, f5, f6, f7⟩, z0, z1, z2, z3, z4, z5, z6, z7⟩ := st5.all
    dsimp only at f0 f1 f2 f3 f4 f5 f6 f7
    obtain ⟨w6, hw6⟩ : ∃ w6, w6 = wr3 w5 b (o + k * 8) q' := ⟨_, rfl⟩
    rw [← hw6] at W6 g6
    have hS6 : ∀ j, j ∈ fp (some ⟨b, o, none⟩) c1 → tag5 j = 4 := W5.r1.tg
    have h6 := h5.wrote g6 hS6
    have m06 := m05.wrote g6 (fun j hj => by have := HB.out.2 j hj; omega)
    have t6 := there_chg t5 g6 (fun hm => nb (List.mem_cons_of_mem _ hm))
    have HW6 := mkHid hw6
    unfold CN.val
    have hy6 : (S.set k { t := x.t, was := x.was, node := q', pl := x.pl }).length = k + 1 := by rw [List.length_set]; exact hkS
    have hleaf : leafed (S.map CS.abs) key val = .ok ((S.set k { t := x.t, was := x.was, node := q', pl := x.pl }).map CS.abs, od9, is) := by
      rw [← HOD.out]
      unfold leafed
      rw [List.length_map, hkS, Nat.add_sub_cancel, List.getElem?_map, hx]
      dsimp only [Option.map_some]
      rw [show x.abs.node.find key = fi from HFI.out.1, show x.abs.node.is key = is from HFI.out.2, List.map_set]
      have e9 : CS.abs { t := x.t, was := x.was, node := q', pl := x.pl } = ⟨x.t, x.was.nd, q'.nd, x.pl⟩ := rfl
      rw [e9, hq'n, hqn]
      rfl
    have hroot : (S.map CS.abs)[0]? = some y.abs := by rw [List.getElem?_map, hy]; rfl
    rw [hleaf, hroot] at hr
    dsimp only at hr
    rw [show y.abs.t = rt from hyt] at hr
    obtain ⟨ur, hur⟩ : ∃ ur, upA (comeK C) (N1, X1, (S.set k { t := x.t, was := x.was, node := q', pl := x.pl }).map CS.abs, [], rt) = ur := ⟨_, rfl⟩
    rw [hur] at hr
    have htS : ∀ z, z ∈ (S.set k { t := x.t, was := x.was, node := q', pl := x.pl }).map CS.abs → z.t < n := fun z hz => by
      obtain ⟨z', hz', rfl⟩ := List.mem_map.1 hz
      rcases List.mem_or_eq_of_mem_set hz' with h9 | rfl
      · exact (hSn z' h9).1
      · exact hxs.1
    have hrtn : rt < 2 ^ 64 := by
      have := (hSn y (List.mem_of_getElem? hy)).1
      have := h.lens
      omega
    have HUR := mkHid hur
    have HR := mkHid hr
    have HMB := mkHid (And.intro m06 nb)
    have HTS := mkHid htS
    have HH6 := mkHid (And.intro h6 W6)
    clear hur hr htS hleaf hroot hw6 hqn hq'n m06 nb h5 W5 m05 t5 cI st4 st5 nq4 nq5 hS6 g6 h4 W4 m04 t4 hx3 h0 t0 M0 h6 W6
    have W6 := HH6.out.2
    have h6 := HH6.out.1
    have cU := fun (rr : Out WaySt) (hrr : upA (comeK C) (N1, X1, (S.set k { t := x.t, was := x.was, node := q', pl := x.pl }).map CS.abs, [], rt) = rr) (hrn : rr ≠ .stuck) => up_anyT HT.out h6 W6 (by omega) 2 (by decide) (by omega) (by omega) hrtn 113 grown_enters (comeK C) (fun _ s => (∀ z, z ∈ s.2.2.1 → z.t < n) ∧ ∀ z, z ∈ s.2.2.2.1 → z.t < n) (fun i s s' hI hc => by
        obtain ⟨x1, hx1, ⟨-, hc1⟩ | ⟨-, -, -, _, _, _, _, _, _, -, -, hc1⟩⟩ := comeK_cases C s i (by rw [hc]; simp)
        all_goals
          rw [hc1] at hc
          cases hc
          exact ⟨hI.1, fun z hz => (kept_mem hz).elim (hI.2 z) (fun e => e ▸ hI.1 x1 (List.mem_of_getElem? hx1))⟩) (fun i s s' hI hc => by
        obtain ⟨x1, hx1, ⟨-, hc1⟩ | ⟨-, -, -, _, _, _, _, _, _, -, -, hc1⟩⟩ := comeK_cases C s i (by rw [hc]; simp)
        · rw [hc1] at hc
          cases hc
          exact ⟨rfl, by have := kept_len s.2.2.2.1 x1; dsimp only; omega⟩
        · rw [hc1] at hc
          cases hc
          exact ⟨rfl, by have := kept_len s.2.2.2.1 ⟨x1.t, x1.was, x1.node.lo, x1.pl⟩; dsimp only; omega⟩) (fun s hs => hs.2) (fun i w1 tg N1 X1 u1 b2 d2 S1 V1 rt1 hi hS1 hV1 hI hr1 hu1 hX1 hW1 hne1 => by
        obtain ⟨x1, hx1, ⟨h81, hc1⟩ | ⟨h81, hi0, hsq1, N3, X3, t3, N4, X4, t4, hm1, hm2, hc1⟩⟩ := comeK_cases C (N1, X1, S1.map CS.abs, V1.map CS.abs, rt1) i hne1
        · have e1 : grownA N1 C X1 (S1.map CS.abs) (V1.map CS.abs) rt1 i = comeK C (N1, X1, S1.map CS.abs, V1.map CS.abs, rt1) i := by
            rw [hc1]
            unfold grownA
            dsimp only at hx1
            rw [hx1]
            dsimp only
            rw [if_pos h81]
          refine grown_few HT.out hX1 hW1 hu1 i hi hS1 (by omega) hr1 (fun s hs => ?_) _ e1 hne1
          dsimp only at hx1
          rw [List.getElem?_map, hs] at hx1
          cases hx1
          exact h81
        · rw [hc1]
          dsimp only at hx1 hm1 hm2
          rw [List.getElem?_map] at hx1
          obtain ⟨s1, hs1, hxs1⟩ : ∃ s1, S1[i]? = some s1 ∧ s1.abs = x1 := by
            cases hs : S1[i]? with
            | none => rw [hs] at hx1; cases hx1
            | some s1 => rw [hs] at hx1; exact ⟨s1, rfl, by cases hx1; rfl⟩
          subst hxs1
          exact grown_top HT.out hX1 hW1 hu1 i hi0 hi hS1 (by omega) s1 hs1 ⟨hI.1 _ (List.mem_map_of_mem (List.mem_of_getElem? hs1)), hsq1⟩ h81 N3 X3 t3 hm1 N4 X4 t4 hm2) ⟨HTS.out, by simp⟩ rfl rr hrr hrn
    have hsp : _ = _ := HW6.out
    unfold wr3 at hsp
    have HSP := mkHid hsp
    clear hsp
    obtain ⟨m06, nb⟩ := HMB.out
    have HM := mkHid (And.intro m06 nb)
    clear m06 nb
    cases ur with
    | stuck => exact absurd HR.out.symm hne
    | full =>
      have cU1 := cU .full HUR.out (by simp)
      have hr : Out.full = r := HR.out
      subst hr
      clear cU
      go_wp2_with fail
      rw [← HSP.out]
      refine cU1.mono ?_
      rintro e w7 ⟨rfl, tag7, N7, X7, h7, m7⟩
      refine end_thrown rfl ⟨rfl, tag7, N7, X7, h7.mono (by omega), mv_of m7 HM.out.1 (fun j hj => ?_)⟩
      rcases List.mem_cons.1 hj with rfl | h9
      · have := HB.out.1; omega
      · rcases List.mem_append.1 h9 with h8 | h8
        · have := HB.out.2 j h8; omega
        · simp [fp_zero] at h8
    | ok uq =>
      obtain ⟨N7, X7, L7, V7, r7⟩ := uq
      have cU1 := cU _ HUR.out (by simp)
      have hr : Out.ok (N7, X7, r7, od9, is) = r := HR.out
      subst hr
      clear cU
      go_wp2_with fail
      rw [← HSP.out]
      refine cU1.mono ?_
      rintro e w7 ⟨rfl, tag7, a2', c2', S7, V7', h7, m7, W7, eS, eV, hf7, hrt7⟩
      have hjj : ∀ j, j ∈ wb :: (fp (some ⟨b, o, none⟩) c1 ++ fp none 0) → w.heap.size + 1 ≤ j := fun j hj => by
        rcases List.mem_cons.1 hj with rfl | h9
        · have := HB.out.1; omega
        · rcases List.mem_append.1 h9 with h8 | h8
          · have := HB.out.2 j h8; omega
          · simp [fp_zero] at h8
      have m07 := mv_of m7 HM.out.1 (fun j hj => by have := hjj j hj; omega)
      have t7 : w7.there w.heap.size 0 6 := by
        obtain ⟨T, hT7, h1⟩ := m7.c
        exact there_chg t6 hT7 (fun hm => (h1 _ hm).elim (by omega) (fun q => q.elim (by omega) (fun hm => by have := hjj _ hm; omega)))
      have b7 := m7.four b5 (there_lt t6 (by decide))
      obtain ⟨⟨v0, v1, v2, v3, v4, v5, r0, r1, r2, r3, r4, r5⟩, y0, y1, y2, y3, y4, y5⟩ := cells6 t7
      have p0 := W7.p0
      have p1 := W7.p1
      have p2 := W7.p2
      have p3 := W7.p3
      have p4 := W7.p4
      have p5 := W7.p5
      have H7 := mkHid (And.intro h7 (And.intro m07 b7))
      clear h7 m7 W7 eS eV hf7 m07 t7
      go_wp2_with fail
      refine bodyPost_ret (v := wayV sb (some ⟨b, o, none⟩) S7.length c1 a2' V7'.length c2' r7 od9 is) (by simp [results, Tryz.results59, go_sem, r0, r1, r2, r3, r4, r5, wayV]) rfl ?_
      obtain ⟨h7, m07, b7⟩ := H7.out
      have G := six_chg w7 w.heap.size (.pointer (some ⟨sb, 0, none⟩)) (.slice (some ⟨b, o, none⟩) S7.length c1) (.slice a2' V7'.length c2') (.int .u64 (r7 : Int)) (.int .u64 (od9 : Int)) (.bool is)
      exact ⟨some ⟨b, o, none⟩, S7.length, c1, a2', V7'.length, c2', rfl, tag7, (h7.wrote G (fun j hj => by simp at hj; subst hj; exact b7)).mono (by omega), m07.wrote G (fun j hj => by simp at hj; omega)⟩
end
end Go.Proofs.YtdgkbicelnnfpaaGreatDoor

/- whole: what is done on the way, where nothing fails. -/
namespace Go.Proofs.YtdgkbicelnnfpaaGreatDoor
set_option maxRecDepth 200000
open Go.RowKit
set_option linter.unusedVariables false
set_option linter.unusedSimpArgs false
attribute [local go_sem ↓] Go.wp_at_zero Go.wp_at_succ

section
variable {w0 w : World} {tag : Nat → Nat} {sb rb n : Nat} {N C : List UInt8} {X : Nat → Option Nd} {u : Nat}
theorem x_copy (h : HasX w0 w tag sb rb n N C X u) : Calls Tryz.prog 105 #[.pointer (some ⟨rb, 0, none⟩)] w fun e w' => ∃ xb, e = .returned (.pointer (some ⟨xb, 0, none⟩)) ∧ Chg [] w w' := by
  obtain ⟨Y, h1, h2⟩ := h
  obtain ⟨nb, cb, sp, Fs, r1, -⟩ := h1.r
  refine (rcopy_any w0.heap.size rb nb cb sp Fs n N C w r1).mono ?_
  rintro e w' ⟨rb', nb', cb', sb', Fs', he, hr, hg⟩
  exact ⟨rb', he, hg⟩
theorem catch_idle (a b c : Option Addr) (w : World) : CallsD Tryz.prog 106 #[.pointer a, .pointer b, .pointer c] .returning w fun e u' w' => e = .returned (.tuple #[]) ∧ u' = .returning ∧ w' = w := by
  refine callsD_of_wpS Tryz.func106 rfl fun c₀ cs hu => ?_
  apply wpS_seq
  apply wpS_region
  simp [wpOpsS, go_sem, recoverD, hu, Tryz.ntmps106, Exit.thenS]
  apply wpS_seq
  apply wpS_region
  simp [wpOpsS, go_sem, Exit.thenS]
  refine wpS_cond (t := false) (by simp [Act.eval]) ?_
  simp only [Bool.false_eq_true, if_false]
  refine wpS_of_wp (wp_skip ?_)
  cases c₀
  simp_all [bodyPostS, results, Tryz.results106]
set_option maxHeartbeats 1000000 in
theorem whole_ok (h : HasX w0 w tag sb rb n N C X u) (hu : u ≤ 80000000) (g : Nat) (caps : Array Value) (hg : ∀ (args : Array Value) (w : World), (callFunc g args).run Tryz.prog w = .ok (.enter g args) w) (N' : List UInt8) (X' : Nat → Option Nd) (rt od : Nat) (th : Bool) (u' : Nat)
    (hdo : ∀ (w1 : World) (tg : Nat → Nat), HasX w0 w1 tg sb rb n N C X u → Mv tag tg w w1 → Calls Tryz.prog g caps w1 (InsPost w0 w1 tg sb rb n C u' (.ok (N', X', rt, od, th)))) :
    Calls Tryz.prog 57 #[.pointer (some ⟨sb, 0, none⟩), .func (.func g) #[] caps] w fun e w' => ∃ (a1 : Option Addr) (l1 c1 : Nat) (a2 : Option Addr) (l2 c2 : Nat), e = .returned (.tuple #[wayV sb a1 l1 c1 a2 l2 c2 rt od th, .int .i64 0]) ∧ ∃ (tag' : Nat → Nat), HasX w0 w' tag' sb rb n N' C X' u' ∧ Mv tag tag' w w' := by
  have hmf : ∀ (fn : Fn) (first cap : Array Value) (w : World), (Instr.makeFunc fn first cap).run Tryz.prog w = .ok (.func fn first cap) w := fun _ _ _ _ => rfl
  have HD := mkHid hdo
  have HG := mkHid hg
  have HH := mkHid h
  clear hdo hg h
  go_enter_defers Tryz.func57, Tryz.ntmps57
  go_wp2_with fail
  obtain ⟨wa, hwa⟩ : ∃ wa, wa = w.alloc (.cells #[.pointer (some ⟨sb, 0, none⟩)] 43) := ⟨_, rfl⟩
  obtain ⟨wb, hwb⟩ : ∃ wb, wb = wa.alloc (.cells wayZ 124) := ⟨_, rfl⟩
  obtain ⟨wc, hwc⟩ : ∃ wc, wc = wb.alloc (.cells #[.int .i64 0] 55) := ⟨_, rfl⟩
  have ga : Chg [] w wa := by rw [hwa]; exact Chg.alloc [] w _
  have gb : Chg [] wa wb := by rw [hwb]; exact Chg.alloc [] wa _
  have gc : Chg [] wb wc := by rw [hwc]; exact Chg.alloc [] wb _
  have sa : wa.heap.size = w.heap.size + 1 := by rw [hwa]; simp
  have sB : wb.heap.size = w.heap.size + 2 := by rw [hwb]; simp [sa]
  have sc : wc.heap.size = w.heap.size + 3 := by rw [hwc]; simp [sB]
  have la := cell_of_row wa w.heap.size 0 #[.pointer (some ⟨sb, 0, none⟩)] _ _ (by rw [hwa]; exact heap_alloc_last w _)
  have lb := new6 wa 124
  rw [← hwb, sa] at lb
  have lc := cell_of_row wc wb.heap.size 0 #[.int .i64 0] _ _ (by rw [hwc]; exact heap_alloc_last wb _)
  have lcf := frozen_of_row wc wb.heap.size 0 #[.int .i64 0] _ (by rw [hwc]; exact heap_alloc_last wb _)
  rw [sB] at lc lcf
  have G := (ga.then gb).then gc
  have la' : wc.cell? ⟨w.heap.size, 0, none⟩ = some (.pointer (some ⟨sb, 0, none⟩)) := gc.cellv (gb.cellv la (by simp)) (by simp)
  have lb' := there_chg lb gc (by simp)
  have lc' : wc.cell? ⟨w.heap.size + 2, 0, none⟩ = some (.int .i64 0) := lc
  have h := HH.out
  have h1 := h.keep G
  have M1 := Mv.made G h.hi
  have t0 := h.hi w.heap.size (Nat.le_refl _)
  have t1 := h.hi (w.heap.size + 1) (by omega)
  have t2 := h.hi (w.heap.size + 2) (by omega)
  have hsp : ((w.alloc (.cells #[.pointer (some ⟨sb, 0, none⟩)] 43)).alloc (.cells #[.pointer none, .slice none 0 0, .slice none 0 0, .int .u64 0, .int .u64 0, .bool false] 124)).alloc (.cells #[.int .i64 0] 55) = wc := by rw [hwc, hwb, hwa]; rfl
  rw [hsp]
  have HSZ := mkHid sc
  clear hsp hwc la lb lc gc
  clear hwb gb
  clear hwa ga sa sB sc
  refine (made_x h1).mono ?_
  rintro e w' ⟨rfl, rfl⟩
  have cC := x_copy h1
  have s1 := h1.s0
  clear h
  go_wp2_with fail
  refine cC.mono ?_
  rintro e w4 ⟨xb, rfl, g4⟩
  have h4 := h1.keep g4
  have M4 := M1.then g4
  have la4 := g4.cellv la' (by simp)
  have lb4 := there_chg lb' g4 (by simp)
  have lc4 := g4.cellv lc' (by simp)
  have lcf4 := (g4.frozen (p := ⟨w.heap.size + 2, 0, none⟩) (block_lt_of_cell lc') (by simp)).trans lcf
  have gd := Chg.alloc [] w4 (.cells #[.pointer (some ⟨xb, 0, none⟩)] 42)
  have h5 := h4.keep gd
  have M5 := M4.then gd
  have la5 := gd.cellv la4 (by simp)
  have lb5 := there_chg lb4 gd (by simp)
  have lc5 := gd.cellv lc4 (by simp)
  have lcf5 := (gd.frozen (p := ⟨w.heap.size + 2, 0, none⟩) (block_lt_of_cell lc4) (by simp)).trans lcf4
  have hsz5 := gd.size
  have hsz4 := g4.size
  have eg := HG.out
  clear cC h1 M1 la' lb' lc' lcf h4 M4 la4 lb4 lc4 lcf4 s1 g4 gd
  go_wp2_with fail
  generalize (w4.alloc (.cells #[.pointer (some ⟨xb, 0, none⟩)] 42)) = w5 at *
  refine (HD.out w5 tag h5 M5).mono ?_
  rintro e w6 ⟨a1, l1, c1, a2, l2, c2, rfl, tag6, h6, m6⟩
  have M6 := M5.trans m6
  have lb6 := m6.there lb5 t1
  have lc6 := m6.cellv lc5 (kt4 t2)
  obtain ⟨T6, hT6, hT6'⟩ := m6.c
  have lcf6 := (hT6.frozen (p := ⟨w.heap.size + 2, 0, none⟩) (block_lt_of_cell lc5) (fun hm => by have h9 := hT6' _ hm; dsimp only at h9; omega)).trans lcf5
  obtain ⟨⟨v0, v1, v2, v3, v4, v5, r0, r1, r2, r3, r4, r5⟩, y0, y1, y2, y3, y4, y5⟩ := cells6 lb6
  have tt1 := m6.four t1 (there_lt lb5 (by decide))
  have tt2 := m6.four t2 (block_lt_of_cell lc5)
  have H6 := mkHid (And.intro h6 (And.intro M6 (And.intro tt1 (And.intro tt2 (And.intro hsz4 hsz5)))))
  clear h6 M6 m6 lb5 lc5 lcf5 la5 h5 M5 hT6 hT6' hsz4 hsz5
  unfold wayV
  go_wp2_with fail
  refine leaves_cons (f := 106) (args := #[.pointer (some ⟨w.heap.size + 1 + 1, 0, none⟩), .pointer (some ⟨w.heap.size, 0, none⟩), .pointer (some ⟨w4.heap.size, 0, none⟩)]) (by simp) (by simp [go_sem]) ?_
  refine (catch_idle _ _ _ _).mono ?_
  rintro e u9 w'' ⟨rfl, rfl, rfl⟩
  obtain ⟨h6, M6, tt1, tt2, hsz4, hsz5⟩ := H6.out
  have hsz := HSZ.out
  have G1 := six_chg w6 (w.heap.size + 1) (.pointer (some ⟨sb, 0, none⟩)) (.slice a1 l1 c1) (.slice a2 l2 c2) (.int .u64 (rt : Int)) (.int .u64 (od : Int)) (.bool th)
  have G2 := Chg.setCell ((((((w6.setCell ⟨w.heap.size + 1, 0, none⟩ (.pointer (some ⟨sb, 0, none⟩))).setCell ⟨w.heap.size + 1, 1, none⟩ (.slice a1 l1 c1)).setCell ⟨w.heap.size + 1, 2, none⟩ (.slice a2 l2 c2)).setCell ⟨w.heap.size + 1, 3, none⟩ (.int .u64 (rt : Int))).setCell ⟨w.heap.size + 1, 4, none⟩ (.int .u64 (od : Int))).setCell ⟨w.heap.size + 1, 5, none⟩ (.bool th)) ⟨w.heap.size + 2, 0, none⟩ (.int .i64 0)
  have hh := (h6.wrote G1 (fun k hk => by simp at hk; subst hk; exact tt1)).wrote G2 (fun k hk => by simp at hk; subst hk; exact tt2)
  have mm := (M6.wrote G1 (fun k hk => by simp at hk; omega)).wrote G2 (fun k hk => by simp at hk; omega)
  have lc7 : w6.cell? ⟨w.heap.size + 1 + 1, 0, none⟩ = some (.int .i64 0) := lc6
  refine ⟨_, ?_, a1, l1, c1, a2, l2, c2, rfl, tag6, hh, mm⟩
  simp [results, Tryz.results57, go_sem, r0, r1, r2, r3, r4, r5, wayV, lc7]
end
end Go.Proofs.YtdgkbicelnnfpaaGreatDoor

/- Insert. -/
namespace Go.Proofs.YtdgkbicelnnfpaaGreatDoor
set_option maxRecDepth 200000
open Go.RowKit
set_option linter.unusedVariables false
set_option linter.unusedSimpArgs false
attribute [local go_sem ↓] Go.wp_at_zero Go.wp_at_succ

def insertA (N C : List UInt8) (X : Nat → Option Nd) (root key val : Nat) : Out (List UInt8 × (Nat → Option Nd) × Nat × Nat × Bool) :=
  if val = 0 then .stuck else
  if root = 0 then
    match makeA N C X ⟨true, [key], [val]⟩ with
    | .stuck => .stuck
    | .full => .full
    | .ok (N', X', t) => .ok (N', X', t, 0, false)
  else insertedA N C X root key val
theorem lit_roomI (w : World) (B : Nat) (hB : B ≤ w.heap.size) (cs : Array Value) (e : TypeId) (xs : List Value) (n : Nat) (hc : cs.toList = xs) (hn : xs.length = n) (hx : n ≤ maxLen) : Room (w.alloc (.cells cs e)) B (some ⟨w.heap.size, 0, none⟩) n n xs := lit_room w B hB cs e xs n hc hn hx
section
variable {w0 w : World} {tag : Nat → Nat} {sb rb n : Nat} {N C : List UInt8} {X : Nat → Option Nd} {u : Nat}
set_option maxHeartbeats 1000000 in
theorem insclo_any1 (hT : Tab w0) (h : HasX w0 w tag sb rb n N C X u) (b0 b1 b2 b3 root key val : Nat) (c0 : w.cell? ⟨b0, 0, none⟩ = some (.pointer (some ⟨sb, 0, none⟩))) (c1 : w.cell? ⟨b1, 0, none⟩ = some (.int .u64 (root : Int))) (c2 : w.cell? ⟨b2, 0, none⟩ = some (.int .u64 (key : Int))) (c3 : w.cell? ⟨b3, 0, none⟩ = some (.int .u64 (val : Int))) (hkey : key < 2 ^ 64) (hval : val < 2 ^ 64) (hu : u ≤ 70000000)
    (N' : List UInt8) (X' : Nat → Option Nd) (rt od : Nat) (th : Bool) (hr : insertedA N C X root key val = .ok (N', X', rt, od, th)) :
    Calls Tryz.prog 58 #[.pointer (some ⟨b0, 0, none⟩), .pointer (some ⟨b1, 0, none⟩), .pointer (some ⟨b2, 0, none⟩), .pointer (some ⟨b3, 0, none⟩)] w (InsPost w0 w tag sb rb n C (u + 4000) (.ok (N', X', rt, od, th))) := by
  have l0 := block_lt_of_cell c0
  have l1 := block_lt_of_cell c1
  have l2 := block_lt_of_cell c2
  have l3 := block_lt_of_cell c3
  dsimp only at l0 l1 l2 l3
  have g0 := Chg.alloc [] w (.cells wayZ 124)
  have h0 := h.keep g0
  have t0 := new6 w 124
  have tb := h.hi _ (Nat.le_refl _)
  have M0 := Mv.made g0 h.hi
  have cI := inserted_any hT h0 root key val hkey hval hu _ hr (by simp)
  have d0 := g0.cellv c0 (by simp)
  have d1 := g0.cellv c1 (by simp)
  have d2 := g0.cellv c2 (by simp)
  have d3 := g0.cellv c3 (by simp)
  unfold wayZ at g0 h0 t0 M0 cI d0 d1 d2 d3
  go_enter Tryz.func58, Tryz.ntmps58
  go_wp2_with fail
  generalize hb : w.heap.size = b at *
  have HB := mkHid hb
  clear hb
  generalize (w.alloc (.cells #[.pointer none, .slice none 0 0, .slice none 0 0, .int .u64 0, .int .u64 0, .bool false] 124)) = w1 at *
  refine cI.mono ?_
  rintro e w2 ⟨a1, k1, q1, a2, k2, q2, rfl, tag2, h2, m2⟩
  have t2 := m2.there t0 tb
  have b2' := m2.four tb (there_lt t0 (by decide))
  have M2 := M0.trans m2
  obtain ⟨⟨v0, v1, v2, v3, v4, v5, r0, r1, r2, r3, r4, r5⟩, y0, y1, y2, y3, y4, y5⟩ := cells6 t2
  have H2 := mkHid (And.intro h2 (And.intro M2 b2'))
  clear h2 M2 m2 h0 M0 t0 t2
  unfold wayV
  go_wp2_with fail
  refine bodyPost_ret (v := wayV sb a1 k1 q1 a2 k2 q2 rt od th) (by simp [results, Tryz.results58, go_sem, r0, r1, r2, r3, r4, r5, wayV]) rfl ?_
  obtain ⟨h2, M2, b2'⟩ := H2.out
  have G := six_chg w2 b (.pointer (some ⟨sb, 0, none⟩)) (.slice a1 k1 q1) (.slice a2 k2 q2) (.int .u64 (rt : Int)) (.int .u64 (od : Int)) (.bool th)
  exact ⟨a1, k1, q1, a2, k2, q2, rfl, tag2, h2.wrote G (fun j hj => by simp at hj; subst hj; exact b2'), M2.wrote G (fun j hj => by simp at hj; have := HB.out; omega)⟩
theorem insclo_enters : ∀ (args : Array Value) (w : World), (callFunc 58 args).run Tryz.prog w = .ok (.enter 58 args) w := enters_of Tryz.func58 (by kernel_rfl) rfl
def boxes4 (w : World) (x0 x1 x2 x3 : Value) (t0 t1 t2 t3 : TypeId) : World := (((w.alloc (.cells #[x0] t0)).alloc (.cells #[x1] t1)).alloc (.cells #[x2] t2)).alloc (.cells #[x3] t3)
theorem boxes4_all (w : World) (x0 x1 x2 x3 : Value) (t0 t1 t2 t3 : TypeId) : Chg [] w (boxes4 w x0 x1 x2 x3 t0 t1 t2 t3) ∧ (boxes4 w x0 x1 x2 x3 t0 t1 t2 t3).heap.size = w.heap.size + 4 ∧ (boxes4 w x0 x1 x2 x3 t0 t1 t2 t3).cell? ⟨w.heap.size, 0, none⟩ = some x0 ∧ (boxes4 w x0 x1 x2 x3 t0 t1 t2 t3).cell? ⟨w.heap.size + 1, 0, none⟩ = some x1 ∧ (boxes4 w x0 x1 x2 x3 t0 t1 t2 t3).cell? ⟨w.heap.size + 2, 0, none⟩ = some x2 ∧ (boxes4 w x0 x1 x2 x3 t0 t1 t2 t3).cell? ⟨w.heap.size + 3, 0, none⟩ = some x3 := by
  unfold boxes4
  obtain ⟨wa, hwa⟩ : ∃ wa, wa = w.alloc (.cells #[x0] t0) := ⟨_, rfl⟩
  obtain ⟨wb, hwb⟩ : ∃ wb, wb = wa.alloc (.cells #[x1] t1) := ⟨_, rfl⟩
  obtain ⟨wc, hwc⟩ : ∃ wc, wc = wb.alloc (.cells #[x2] t2) := ⟨_, rfl⟩
  obtain ⟨wd, hwd⟩ : ∃ wd, wd = wc.alloc (.cells #[x3] t3) := ⟨_, rfl⟩
  rw [← hwa, ← hwb, ← hwc, ← hwd]
  have ga : Chg [] w wa := by rw [hwa]; exact Chg.alloc [] w _
  have gb : Chg [] wa wb := by rw [hwb]; exact Chg.alloc [] wa _
  have gc : Chg [] wb wc := by rw [hwc]; exact Chg.alloc [] wb _
  have gd : Chg [] wc wd := by rw [hwd]; exact Chg.alloc [] wc _
  have sa : wa.heap.size = w.heap.size + 1 := by rw [hwa]; simp
  have sB : wb.heap.size = w.heap.size + 2 := by rw [hwb]; simp [sa]
  have sc : wc.heap.size = w.heap.size + 3 := by rw [hwc]; simp [sB]
  have sd : wd.heap.size = w.heap.size + 4 := by rw [hwd]; simp [sc]
  have la := cell_of_row wa w.heap.size 0 #[x0] _ _ (by rw [hwa]; exact heap_alloc_last w _)
  have lb := cell_of_row wb wa.heap.size 0 #[x1] _ _ (by rw [hwb]; exact heap_alloc_last wa _)
  have lc := cell_of_row wc wb.heap.size 0 #[x2] _ _ (by rw [hwc]; exact heap_alloc_last wb _)
  have ld := cell_of_row wd wc.heap.size 0 #[x3] _ _ (by rw [hwd]; exact heap_alloc_last wc _)
  rw [sa] at lb
  rw [sB] at lc
  rw [sc] at ld
  exact ⟨((ga.then gb).then gc).then gd, sd, gd.cellv (gc.cellv (gb.cellv la (by simp)) (by simp)) (by simp), gd.cellv (gc.cellv lb (by simp)) (by simp), gd.cellv lc (by simp), ld⟩
def InsOut (w0 w : World) (tag : Nat → Nat) (sb rb n : Nat) (C : List UInt8) (u : Nat) (N' : List UInt8) (X' : Nat → Option Nd) (rt od : Nat) (th : Bool) (e : Ending) (w' : World) : Prop :=
  e = .returned (.tuple #[.int .u64 (rt : Int), .int .u64 (od : Int), .bool th, .int .i64 0]) ∧ ∃ (tag' : Nat → Nat), HasX w0 w' tag' sb rb n N' C X' u ∧ Mv tag tag' w w'
set_option maxHeartbeats 600000 in
theorem insert_ok (hT : Tab w0) (h : HasX w0 w tag sb rb n N C X u) (root key val : Nat) (hkey : key < 2 ^ 64) (hval : val < 2 ^ 64) (hroot : root < 2 ^ 64) (hu : u ≤ 70000000) (N' : List UInt8) (X' : Nat → Option Nd) (rt od : Nat) (th : Bool) (hr : insertA N C X root key val = .ok (N', X', rt, od, th)) :
    Calls Tryz.prog 23 #[.pointer (some ⟨sb, 0, none⟩), .int .u64 (root : Int), .int .u64 (key : Int), .int .u64 (val : Int)] w (InsOut w0 w tag sb rb n C (u + 4000) N' X' rt od th) := by
  obtain ⟨G0, S0, k0, k1, k2, k3⟩ := boxes4_all w (.pointer (some ⟨sb, 0, none⟩)) (.int .u64 (root : Int)) (.int .u64 (key : Int)) (.int .u64 (val : Int)) 43 34 34 34
  have h1 := h.keep G0
  have M1 := Mv.made G0 h.hi
  have cM := made_x h1
  have b0 := h.hi w.heap.size (by omega)
  have b1 := h.hi (w.heap.size + 1) (by omega)
  have b2 := h.hi (w.heap.size + 2) (by omega)
  have b3 := h.hi (w.heap.size + 3) (by omega)
  unfold insertA at hr
  by_cases hv : val = 0
  · rw [if_pos hv] at hr; cases hr
  rw [if_neg hv] at hr
  have dv : ((val : Int) == 0) = false := by simpa using hv
  have hS0 := Nat.le_of_eq S0.symm
  clear S0
  unfold boxes4 at G0 hS0 k0 k1 k2 k3 h1 M1 cM
  by_cases hr0 : root = 0
  · rw [if_pos hr0] at hr
    have dr : ((root : Int) == 0) = true := by simpa using hr0
    clear hr0
    obtain ⟨mr, hmr⟩ : ∃ mr, makeA N C X ⟨true, [key], [val]⟩ = mr := ⟨_, rfl⟩
    rw [hmr] at hr
    cases mr with
    | stuck => cases hr
    | full => cases hr
    | ok mq =>
    obtain ⟨N1, X1, t1⟩ := mq
    cases hr
    go_enter Tryz.func23, Tryz.ntmps23
    go_wp2_with fail
    generalize ((((w.alloc (.cells #[.pointer (some ⟨sb, 0, none⟩)] 43)).alloc (.cells #[.int .u64 (root : Int)] 34)).alloc (.cells #[.int .u64 (key : Int)] 34)).alloc (.cells #[.int .u64 (val : Int)] 34)) = w1 at *
    refine cM.mono ?_
    rintro e w' ⟨rfl, rfl⟩
    obtain ⟨wa, hwa⟩ : ∃ wa, wa = w1.alloc (.cells #[.int .u64 (key : Int)] 34) := ⟨_, rfl⟩
    obtain ⟨wb, hwb⟩ : ∃ wb, wb = wa.alloc (.cells #[.int .u64 (val : Int)] 34) := ⟨_, rfl⟩
    have ga : Chg [] w1 wa := by rw [hwa]; exact Chg.alloc [] w1 _
    have gb : Chg [] wa wb := by rw [hwb]; exact Chg.alloc [] wa _
    have sa : wa.heap.size = w1.heap.size + 1 := by rw [hwa]; simp
    have ra : Room wa w1.heap.size (some ⟨w1.heap.size, 0, none⟩) 1 1 (uvs [key]) := by
      rw [hwa]; exact lit_roomI w1 w1.heap.size (Nat.le_refl _) #[.int .u64 (key : Int)] _ (uvs [key]) 1 rfl rfl (by unfold maxLen; omega)
    have rb' : Room wb w1.heap.size (some ⟨w1.heap.size + 1, 0, none⟩) 1 1 (uvs [val]) := by
      have := lit_roomI wa w1.heap.size (by omega) #[.int .u64 (val : Int)] 34 (uvs [val]) 1 rfl rfl (by unfold maxLen; omega)
      rw [← hwb, sa] at this
      exact this
    have rm : RmN wb w1.heap.size (some ⟨w1.heap.size, 0, none⟩) 1 (some ⟨w1.heap.size + 1, 0, none⟩) 1 [key] [val] := ⟨ra.chg gb (by simp), rb', fun q hq hm => by
      rw [fp_some _ _ _ (by decide)] at hq hm
      simp at hq hm
      omega⟩
    obtain ⟨tag2, h2, m2, n2⟩ := kn_of (lf := true) h1 rm (ga.then gb) (by simp) (by simpa using hkey) (by simpa using hval)
    have cK := make_any hT h2 ⟨true, some ⟨w1.heap.size, 0, none⟩, 1, some ⟨w1.heap.size + 1, 0, none⟩, 1, [key], [val]⟩ n2 (by omega) _ hmr (by simp)
    unfold CN.val at cK
    simp only [List.length_singleton] at cK
    have hn3 : w.heap.size + 3 < w1.heap.size := by omega
    have hn4 : w.heap.size + 3 ≠ w1.heap.size := by omega
    have hn5 : ¬ w.heap.size + 3 = w1.heap.size := by omega
    have hsp : (w1.alloc (.cells #[.int .u64 (key : Int)] 34)).alloc (.cells #[.int .u64 (val : Int)] 34) = wb := by rw [hwb, hwa]
    have HSP := mkHid hsp
    have H2 := mkHid (And.intro h2 (And.intro m2 M1))
    clear hsp h2 m2 n2 rm ra rb' ga gb sa hwb h1 M1
    clear hwa
    go_wp2_with fail
    rw [HSP.out]
    refine cK.mono ?_
    rintro e w3 ⟨rfl, ht3, tag3, h3, m3⟩
    go_wp2_with fail
    refine bodyPost_ret (v := .tuple #[.int .u64 (rt : Int), .int .u64 0, .bool false, .int .i64 0]) (by simp [results, Tryz.results23, go_sem]) rfl ?_
    exact ⟨rfl, tag3, h3.mono (by omega), (H2.out.2.2.trans H2.out.2.1).trans m3⟩
  · rw [if_neg hr0] at hr
    have dr : ((root : Int) == 0) = false := by simpa using hr0
    have hmf : ∀ (fn : Fn) (first cap : Array Value) (w : World), (Instr.makeFunc fn first cap).run Tryz.prog w = .ok (.func fn first cap) w := fun _ _ _ _ => rfl
    go_enter Tryz.func23, Tryz.ntmps23
    go_wp2_with fail
    generalize ((((w.alloc (.cells #[.pointer (some ⟨sb, 0, none⟩)] 43)).alloc (.cells #[.int .u64 (root : Int)] 34)).alloc (.cells #[.int .u64 (key : Int)] 34)).alloc (.cells #[.int .u64 (val : Int)] 34)) = w1 at *
    refine cM.mono ?_
    rintro e w' ⟨rfl, rfl⟩
    have cW := whole_ok h1 (by omega) 58 #[.pointer (some ⟨w.heap.size, 0, none⟩), .pointer (some ⟨w.heap.size + 1, 0, none⟩), .pointer (some ⟨w.heap.size + 2, 0, none⟩), .pointer (some ⟨w.heap.size + 3, 0, none⟩)] insclo_enters N' X' rt od th (u + 4000) (fun w9 tg9 h9 m9 => insclo_any1 hT h9 _ _ _ _ root key val (m9.cellv k0 (kt4 b0)) (m9.cellv k1 (kt4 b1)) (m9.cellv k2 (kt4 b2)) (m9.cellv k3 (kt4 b3)) hkey hval hu N' X' rt od th hr)
    go_wp2_with fail
    refine cW.mono ?_
    rintro e w2 ⟨a1, l1, c1, a2, l2, c2, rfl, tag2, h2, m2⟩
    have M2 := M1.trans m2
    have gx := Chg.alloc [] w2 (.cells #[.pointer (some ⟨sb, 0, none⟩), .slice a1 l1 c1, .slice a2 l2 c2, .int .u64 (rt : Int), .int .u64 (od : Int), .bool th] 124)
    have hl := heap_alloc_last w2 (.cells #[.pointer (some ⟨sb, 0, none⟩), .slice a1 l1 c1, .slice a2 l2 c2, .int .u64 (rt : Int), .int .u64 (od : Int), .bool th] 124)
    have q3 := cell_of_row _ w2.heap.size 3 _ _ _ hl
    have q4 := cell_of_row _ w2.heap.size 4 _ _ _ hl
    have q5 := cell_of_row _ w2.heap.size 5 _ _ _ hl
    simp only [List.getElem?_toArray, List.getElem?_cons_succ, List.getElem?_cons_zero] at q3 q4 q5
    have h3 := h2.keep gx
    have M3 := M2.then gx
    have H3 := mkHid (And.intro h3 M3)
    clear h2 m2 M2 gx hl h3 M3 cW
    unfold wayV
    go_wp2_with fail
    generalize (w2.alloc (.cells #[.pointer (some ⟨sb, 0, none⟩), .slice a1 l1 c1, .slice a2 l2 c2, .int .u64 (rt : Int), .int .u64 (od : Int), .bool th] 124)) = w3 at *
    go_quiet (fail)
    go_wp2_with fail
    refine bodyPost_ret (v := .tuple #[.int .u64 (rt : Int), .int .u64 (od : Int), .bool th, .int .i64 0]) (by simp [results, Tryz.results23, go_sem]) rfl ?_
    obtain ⟨h3, M3⟩ := H3.out
    exact ⟨rfl, tag2, h3.keep (Chg.drewN w3 _), M3.then (Chg.drewN w3 _)⟩
end
end Go.Proofs.YtdgkbicelnnfpaaGreatDoor
