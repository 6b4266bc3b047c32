/- Texts Jh, Ji, Jj, Jk, Jl of the library, joined. -/
import Derived.Test.YtdgkbicelnnfpaaGreatDoorM06
import Derived.Deep.RegionLaw
import Derived.Deep.DeepCutAuto
/- The cache beside its disk: one block goes, one comes. -/
namespace Go.Proofs.YtdgkbicelnnfpaaGreatDoor
open Go.RowKit Go.Maps
set_option linter.unusedVariables false
set_option linter.unusedSimpArgs false
attribute [local go_sem ↓] Go.wp_at_zero Go.wp_at_succ

/-! ### the map -/
theorem tight {w : World} {P : Program} {k : TypeId} {R : Value → Option (DataW Unit × List MemPlace)} {b n : Nat} {D : DataW Unit} (h : w.ownsMap P k R b n D) : w.ownsMap P k R b (Maps.size D) D := by
  obtain ⟨es, clock, hb, F, hs, rfl⟩ := h
  exact ⟨es, clock, hb, F, by simp [Maps.size, length_sorted], rfl⟩
theorem keyI (a : Nat) (ha : a < 1024) : keyOf Tryz.prog 3 (.int .i64 (a : Int)) = some (.int .i64 (a : Int)) := keyOf_int_mk Tryz.underlying3 (WalkArith.wf_i64 (by omega))
theorem isKey (a : Nat) (ha : a < 1024) : WideAt.IsKeyLit (.int .i64 (a : Int)) := trivial
theorem HeldAt.del {w w' : World} {mb : Nat} {E T : List Ent} {x : Ent} {D : DataW Unit} (h : HeldAt w mb E D) (p : E.Perm (x :: T)) (hn : ∀ e ∈ T, e.pl ≠ x.pl) (ho : w'.ownsMap Tryz.prog 3 ptrR mb E.length (D.del (.int .i64 x.pl))) : HeldAt w' mb T (D.del (.int .i64 x.pl)) := by
  have hx : Maps.has D (.int .i64 x.pl) = true := (h.y x (p.mem_iff.2 (by simp))).1
  have hs : Maps.size (D.del (.int .i64 x.pl)) = T.length := by
    have h1 := size_del (k := .int .i64 x.pl) (h.o.tidy (int_keyed Tryz.underlying3))
    rw [hx] at h1
    have h2 := h.s
    have h3 := p.length_eq
    simp at h1 h3
    omega
  have ho2 := tight ho
  rw [hs] at ho2
  refine ⟨ho2, hs, fun e he => ?_, fun z hz => ?_⟩
  · have hne : (Lit.int .i64 (e.pl : Int)) ≠ .int .i64 (x.pl : Int) := by
      intro h9
      simp at h9
      exact hn e he (by omega)
    have h1 := h.y e (p.mem_iff.2 (List.mem_cons_of_mem _ he))
    rw [has_del_other hne, atKey_del_other hne]
    exact h1
  · by_cases hzx : z = (x.pl : Int)
    · rw [hzx]; exact has_del_same
    · have hne : (Lit.int .i64 z) ≠ .int .i64 (x.pl : Int) := by simpa using hzx
      rw [has_del_other hne]
      refine h.n z fun e he => ?_
      rcases List.mem_cons.1 (p.mem_iff.1 he) with rfl | he
      · exact fun h9 => hzx h9.symm
      · exact hz e he
theorem HeldAt.put {w w' : World} {mb : Nat} {E : List Ent} {x : Ent} {D : DataW Unit} (h : HeldAt w mb E D) (hx : x.pl < 1024) (hn : ∀ e ∈ E, e.pl ≠ x.pl) (ho : w'.ownsMap Tryz.prog 3 ptrR mb (E.length + 1) (D.put (.int .i64 x.pl) (.lit (.int .u64 x.b)))) : HeldAt w' mb (E ++ [x]) (D.put (.int .i64 x.pl) (.lit (.int .u64 x.b))) := by
  have hhas : Maps.has D (.int .i64 x.pl) = false := h.n x.pl fun e he h9 => hn e he (by omega)
  have hs : Maps.size (D.put (.int .i64 x.pl) (.lit (.int .u64 x.b))) = (E ++ [x]).length := by
    rw [size_put (h.o.tidy (int_keyed Tryz.underlying3)), hhas, h.s]
    simp
  refine ⟨by rw [← hs]; exact tight ho, hs, fun e he => ?_, fun z hz => ?_⟩
  · rcases List.mem_append.1 he with he | he
    · have hne : (Lit.int .i64 (e.pl : Int)) ≠ .int .i64 (x.pl : Int) := by
        intro h9
        simp at h9
        exact hn e he (by omega)
      rw [has_put_other hne, atKey_put_other hne]
      exact h.y e he
    · simp at he
      subst he
      exact ⟨has_put_same h.o.isMap (isKey _ hx) _, atKey_put_same h.o.isMap (isKey _ hx) _ _⟩
  · have hzx : z ≠ (x.pl : Int) := fun h9 => hz x (by simp) h9.symm
    have hne : (Lit.int .i64 z) ≠ .int .i64 (x.pl : Int) := by simpa using hzx
    rw [has_put_other hne]
    exact h.n z fun e he => hz e (by simp [he])
theorem grown_chg {w w' : World} {b : Nat} (h : w.mapTurned w' b) : Chg [b] w w' := by simpa using Chg.grown h.grown
section
variable {P : Program} {ops : Array Oper} {rest : List Oper} {o : Oper} {a : Act} {w : World} {K : Act → World → Prop} {Q : Exit → Act → World → Prop} {X : Prop}
theorem step_delete (hg : o.guard = none) (m x : Operand) (t k : TypeId) (hop : o.op = Op.call { callee := Callee.builtin Builtin.delete, args := #[m, x], argTypes := #[t, k] })
    (e : TypeId) (Kd : Keyed P k) (ht : P.underlying t = some (.map k e)) (R : Value → Option (DataW Unit × List MemPlace)) (b n : Nat) (D : DataW Unit)
    (hm : a.eval m = .map (some b)) (hown : w.ownsMap P k R b n D) (kv : Value) (kl : Lit) (hx : a.eval x = kv) (hkey : keyOf P k kv = some kl)
    (hK : ∀ w', w'.ownsMap P k R b n (D.del kl) → w.mapTurned w' b → K (a.put o.dst (.tuple #[])) w') :
    if Region.wanted o (yielded ops a.tmps) = true then Oper.wp P o a w K Q else X := by
  have hw : Region.wanted o (yielded ops a.tmps) = true := by simp [Region.wanted, hg]
  rw [if_pos hw]
  obtain ⟨w', hrun, r1, r2⟩ := hown.drop Kd ht hkey o.type
  unfold Oper.wp execOp
  simp only [hop, resolve, invoke, builtin, Sem.run_bind, Sem.run_pure, Result.andThen_ok, List.map_toArray, List.map_cons, List.map_nil, hm, hx, hrun]
  exact hK _ r1 r2
theorem step_len (hg : o.guard = none) (m : Operand) (t : TypeId) (hop : o.op = Op.call { callee := Callee.builtin Builtin.len, args := #[m], argTypes := #[t] })
    (k e : TypeId) (ht : P.underlying t = some (.map k e)) (R : Value → Option (DataW Unit × List MemPlace)) (b n : Nat) (D : DataW Unit) (hm : a.eval m = .map (some b)) (hown : w.ownsMap P k R b n D)
    (hK : K (a.put o.dst (.int .i64 (Maps.size D))) w) : if Region.wanted o (yielded ops a.tmps) = true then Oper.wp P o a w K Q else X := by
  have hw : Region.wanted o (yielded ops a.tmps) = true := by simp [Region.wanted, hg]
  rw [if_pos hw]
  unfold Oper.wp execOp
  simp only [hop, resolve, invoke, builtin, Sem.run_bind, Sem.run_pure, Result.andThen_ok, List.map_toArray, List.map_cons, List.map_nil, hm, hown.len ht o.type]
  exact hK
end
/-- The least used block is the line's top. -/
theorem CacheAt.top {w : World} {B cb mb : Nat} {la : Option Addr} {cl : Nat} {E L : List Ent} {most uses db : Nat} (h : CacheAt w B cb mb la cl E L most uses db) (h0 : 0 < E.length) : ∃ T, L = E[0] :: T := by
  cases L with
  | nil => have := h.pm.length_eq; simp at this; rw [this] at h0; simp at h0
  | cons x T =>
    have hx : x ∈ E := h.pm.mem_iff.2 (by simp)
    have h0L : E[0] ∈ x :: T := h.pm.mem_iff.1 (List.getElem_mem h0)
    rcases List.mem_cons.1 h0L with e | he
    · exact ⟨T, by rw [e]⟩
    · have h1 := (List.pairwise_cons.1 h.so).1 _ he
      obtain ⟨i, hi, hix⟩ := List.getElem_of_mem hx
      have h2 := heap_top h.hp i hi
      rw [key_lt h0, key_lt hi, hix] at h2
      omega
end Go.Proofs.YtdgkbicelnnfpaaGreatDoor

/- The cache beside its disk: the block goes that was used the longest ago. -/
namespace Go.Proofs.YtdgkbicelnnfpaaGreatDoor
open Go.RowKit Go.Maps
set_option linter.unusedVariables false
set_option linter.unusedSimpArgs false
attribute [local go_sem ↓] Go.wp_at_zero Go.wp_at_succ

theorem CacheAt.gone {w w3 w4 : World} {B cb mb : Nat} {la : Option Addr} {cl : Nat} {E : List Ent} {most uses db : Nat} {x : Ent} {T : List Ent} (h : CacheAt w B cb mb la cl E (x :: T) most uses db) {F : List Ent} (h4 : LineAt w3 B cb la cl F) (p4 : (F ++ [x]).Perm E) (H4 : Heap F F.length) (g4 : Chg (LF cb la cl E) w w3) (q4 : Only3 cb w w3)
    {D : DataW Unit} (hD : HeldAt w mb E D) (ho : w4.ownsMap Tryz.prog 3 ptrR mb E.length (D.del (.int .i64 x.pl))) (g5 : Chg [mb] w3 w4) : CacheAt w4 B cb mb la cl F T most uses db ∧ Chg (CF cb mb la cl E) w w4 ∧ ∀ k, k ∈ LF cb la cl F → k ∈ LF cb la cl E := by
  have hpE : E.Perm (x :: T) := h.pm
  have hFT : F.Perm T := by
    have h1 : (x :: F).Perm (x :: T) := ((List.perm_append_comm (l₁ := F) (l₂ := [x])).symm.trans p4).trans hpE
    exact h1.cons_inv
  have hsub : ∀ e ∈ F, e ∈ E := fun e he => p4.mem_iff.1 (List.mem_append_left _ he)
  have hLF : ∀ k, k ∈ LF cb la cl F → k ∈ LF cb la cl E := fun k hk => by
    simp only [LF, List.mem_cons, List.mem_append, List.mem_map] at hk ⊢
    rcases hk with hk | hk | ⟨e, he, e2⟩
    · exact Or.inl hk
    · exact Or.inr (Or.inl hk)
    · exact Or.inr (Or.inr ⟨e, hsub e he, e2⟩)
  have hcm : cb ∉ [mb] := by
    simp
    intro e
    exact h.mF (by rw [← e]; simp [LF])
  have hnp := h.np
  rw [List.map_cons, List.nodup_cons] at hnp
  have hln := h4.chg g5 (fun k hk => by simp; rintro rfl; exact h.mF (hLF _ hk))
  refine ⟨⟨g5.cellv ((q4 0 (by decide)).1.trans h.c0) hcm, g5.cellv ((q4 1 (by decide)).1.trans h.c1) hcm, g5.cellv ((q4 2 (by decide)).1.trans h.c2) hcm, g5.cellv ((q4 4 (by decide)).1.trans h.c4) hcm, (g5.frozen (p := ⟨cb, 4, none⟩) (show cb < w3.heap.size from block_lt_of_cell h4.c3) hcm).trans ((q4 4 (by decide)).2.trans h.f4), hln, H4, ⟨_, (hD.del hpE (fun e he h9 => hnp.1 (List.mem_map.2 ⟨e, he, h9⟩)) ho).perm hFT⟩, hFT, (List.pairwise_cons.1 h.so).2, fun e he => h.us e (List.mem_cons_of_mem _ he), hnp.2, fun e he => h.pl e (List.mem_cons_of_mem _ he), by have := h.le; simp at this; omega, h.mo, fun hk => h.mF (hLF _ hk), h.mB⟩, ?_, hLF⟩
  exact g4.trans g5 (fun k hk _ => by simp [CF, hk]) (fun k hk _ => by simp at hk; simp [CF, hk])
theorem updL_tail {x : Ent} {T : List Ent} (hnd : ((x :: T).map Ent.b).Nodup) (y : Ent) (hy : y.b = x.b) : updL (x :: T) y = y :: T := by
  unfold updL
  rw [List.map_cons, if_pos hy.symm]
  congr 1
  rw [List.map_cons, List.nodup_cons] at hnd
  refine (List.map_congr_left fun e he => ?_).trans (List.map_id T)
  rw [if_neg (fun h9 => hnd.1 (List.mem_map.2 ⟨e, he, h9.trans hy⟩))]
  rfl
theorem pop_clean {B cb mb : Nat} {la : Option Addr} {cl : Nat} {E : List Ent} {most uses db : Nat} {x : Ent} {T : List Ent} {w2 : World} (h0 : 0 < E.length) (hnd : ((x :: T).map Ent.b).Nodup) (k : CacheAt w2 B cb mb la cl (E.set 0 x.clean) (updL (x :: T) x.clean) most uses db) :
    CacheAt w2 B cb mb la cl (E.set 0 x.clean) (x.clean :: T) most uses db ∧ Calls Tryz.prog 171 #[.iface 217 (.pointer (some ⟨cb, 3, none⟩))] w2 fun e w' => e = .returned (.iface 170 (.pointer (some ⟨x.b, 0, none⟩))) ∧ ∃ F, LineAt w' B cb la cl F ∧ (F ++ [x.clean]).Perm (E.set 0 x.clean) ∧ Heap F F.length ∧ Blk w' x.b 176 (entV x.clean F.length) ∧ Chg (LF cb la cl (E.set 0 x.clean)) w2 w' ∧ Only3 cb w2 w' := by
  rw [updL_tail hnd x.clean rfl] at k
  have h02 : 0 < (E.set 0 x.clean).length := by rw [List.length_set]; exact h0
  have hx02 : (E.set 0 x.clean)[0] = x.clean := by rw [List.getElem_set, if_pos rfl]
  have cp := hpop_any B cb _ cl (E.set 0 x.clean) w2 k.ln h02 k.hp
  rw [hx02] at cp
  exact ⟨k, cp⟩
section
variable (B cb mb : Nat) (la : Option Addr) (cl : Nat) (E : List Ent) (most uses db : Nat) (w : World) (x : Ent) (T : List Ent) (h : CacheAt w B cb mb la cl E (x :: T) most uses db)
include h
theorem cletgo_clean (hd : x.dirty = false) :
    Calls Tryz.prog 138 #[.pointer (some ⟨cb, 0, none⟩)] w fun e w' => e = .returned (.int .i64 0) ∧ ∃ F, CacheAt w' B cb mb la cl F T most uses db ∧ Chg (CF cb mb la cl E) w w' ∧ ∀ k, k ∈ LF cb la cl F → k ∈ LF cb la cl E := by
  have hlen : E.length = T.length + 1 := by have := h.pm.length_eq; simpa using this
  have h0 : 0 < E.length := by omega
  have hx0 : E[0] = x := by
    obtain ⟨T2, e⟩ := h.top h0
    simp at e
    exact e.1.symm
  obtain ⟨lb, lo, hla, hc, hlb⟩ := h.ln.cell h0
  subst hla
  have c00 := (hc 0 h0).1
  rw [Nat.add_zero] at c00
  unfold ptrV at c00
  have c3 := h.ln.c3
  have c2 := h.c2
  obtain ⟨D, hD⟩ := h.hd
  have cw := cwrite_clean 0 B cb mb _ cl E _ most uses db w h h0 (by rw [hx0]; exact hd)
  have cp := hpop_any B cb _ cl E w h.ln h0 h.hp
  rw [hx0] at c00 cw cp
  have HX := mkHid hx0
  have HL := mkHid hlen
  have ta := assert_block ⟨x.b, 0, none⟩
  have h0n : decide ((0 : Int) < E.length) = true := decide_eq_true (by omega)
  clear hc hx0 hlen
  go_enter Tryz.func138, Tryz.ntmps138
  go_wp2_with (first | (go_at_call 170; refine cw.mono ?_; rintro e w2 ⟨rfl, rfl⟩) | (go_at_call 171; refine cp.mono ?_; rintro e w3 ⟨rfl, F, h4, p4, H4, b4, g4, q4⟩))
  have c23 := (q4 2 (by decide)).1.trans c2
  have xat := b4.cell 0 _ (entV_pl x F.length)
  have hO3 := (hD.chg g4 h.mF).o
  have hxp : x.pl < 1024 := h.pl x (by simp)
  go_region_law (refine step_delete rfl (.tmp 25) (.tmp 29) 149 3 rfl 170 (int_keyed Tryz.underlying3) Tryz.underlying149 ptrR mb E.length D rfl (by first | exact hO3 | exact hO3.drew | exact hO3.drew.drew) _ (.int .i64 x.pl) rfl (keyI x.pl hxp) ?_; intro w4 ho4 hm4)
  all_goals
    go_wp2
    go_ret
    obtain ⟨r1, r2, r3⟩ := h.gone h4 p4 H4 g4 q4 hD ho4 ((Chg.drew [mb] w3).trans (grown_chg hm4) (fun _ h _ => h) (fun _ h _ => h))
    exact ⟨rfl, F, r1, r2, r3⟩
set_option maxHeartbeats 1000000 in
theorem cletgo_dirty (hd : x.dirty = true) (g : DG) (fa : Option Addr) (cf : Nat) (st : RS) (hDv : DevAt w B db g fa cf st) (hW : Whole st) (hB : B ≤ w.heap.size) (hLb : st.L.length ≤ 1000000000) (hx : ∀ k, k ∈ CF cb mb la cl E → k ∉ DF db g fa cf) :
    Calls Tryz.prog 138 #[.pointer (some ⟨cb, 0, none⟩)] w fun e w' => e = .returned (.int .i64 (write st x.pl x.bs).1) ∧ ∃ fa' cf', DevAt w' B db g fa' cf' (write st x.pl x.bs).2 ∧ Later w fa cf fa' cf' ∧ Chg (CF cb mb la cl E ++ DF db g fa cf) w w' ∧
      ((write st x.pl x.bs).1 ≠ 0 → CacheAt w' B cb mb la cl E (x :: T) most uses db) ∧ ((write st x.pl x.bs).1 = 0 → ∃ F, CacheAt w' B cb mb la cl F T most uses db ∧ ∀ k, k ∈ LF cb la cl F → k ∈ LF cb la cl E) := by
  have hlen : E.length = T.length + 1 := by have := h.pm.length_eq; simpa using this
  have h0 : 0 < E.length := by omega
  have hx0 : E[0] = x := by
    obtain ⟨T2, e⟩ := h.top h0
    simp at e
    exact e.1.symm
  have hxF : x.b ∈ CF cb mb la cl E := by
    rw [← hx0]
    simp only [CF, LF, List.mem_cons, List.mem_append, List.mem_map]
    exact Or.inr (Or.inr (Or.inr ⟨_, List.getElem_mem h0, rfl⟩))
  obtain ⟨lb, lo, hla, hc, hlb⟩ := h.ln.cell h0
  subst hla
  have c00 := (hc 0 h0).1
  rw [Nat.add_zero] at c00
  unfold ptrV at c00
  have c3 := h.ln.c3
  have cw := cwrite_dirty 0 B cb mb _ cl E _ most uses db w h h0 (by rw [hx0]; exact hd) g fa cf st hDv hW hB hLb hx
  rw [hx0] at c00 cw
  have HX := mkHid hx0
  have HL := mkHid hlen
  have ta := assert_block ⟨x.b, 0, none⟩
  have h0n : decide ((0 : Int) < E.length) = true := decide_eq_true (by omega)
  clear hc
  have hsub : ∀ w3, Chg (x.b :: DF db g fa cf) w w3 → Chg (CF cb mb (some ⟨lb, lo, none⟩) cl E ++ DF db g fa cf) w w3 := fun w3 g3 => g3.mono (fun k hk _ => by
    rcases List.mem_cons.1 hk with rfl | hk
    · exact List.mem_append_left _ hxF
    · exact List.mem_append_right _ hk)
  by_cases hv : (write st x.pl x.bs).1 = 0
  · rw [hv] at cw
    have HV := mkHid hv
    have CW := mkHid cw
    clear cw hv
    go_enter Tryz.func138, Tryz.ntmps138
    have hnd : ((x :: T).map Ent.b).Nodup := (h.pm.map _).nodup_iff.1 h.ln.nd
    have HN := mkHid hnd
    go_wp2_with (first | (go_at_call 170; refine CW.out.mono ?_; rintro e w2 ⟨rfl, fa', cf', d2, l2, g2, -, k0⟩; obtain ⟨k2, cp⟩ := pop_clean h0 HN.out (k0 rfl); clear k0) | (go_at_call 171; refine cp.mono ?_; rintro e w3 ⟨rfl, F, h4, p4, H4, b4, g4, q4⟩))
    have c23 := (q4 2 (by decide)).1.trans k2.c2
    have xat := b4.cell 0 _ (entV_pl x.clean F.length)
    obtain ⟨D, hD⟩ := k2.hd
    have hO3 := (hD.chg g4 k2.mF).o
    have hxp : x.pl < 1024 := h.pl x (by simp)
    have HF : ∀ w4, Chg [mb] w3 w4 → w4.ownsMap Tryz.prog 3 ptrR mb (E.set 0 x.clean).length (D.del (.int .i64 x.pl)) → CacheAt w4 B cb mb (some ⟨lb, lo, none⟩) cl F T most uses db ∧ Chg (CF cb mb (some ⟨lb, lo, none⟩) cl E ++ DF db g fa cf) w w4 ∧ (∀ k, k ∈ LF cb (some ⟨lb, lo, none⟩) cl F → k ∈ LF cb (some ⟨lb, lo, none⟩) cl E) ∧ DevAt w4 B db g fa' cf' (write st x.pl x.bs).2 := by
      intro w4 g5 ho4
      obtain ⟨r1, r2, r3⟩ := k2.gone h4 p4 H4 g4 q4 hD ho4 g5
      have hbE : x.clean.b = E[0].b := by rw [HX.out]; rfl
      have hcf : ∀ k, k ∈ LF cb (some ⟨lb, lo, none⟩) cl (E.set 0 x.clean) → k ∈ LF cb (some ⟨lb, lo, none⟩) cl E := fun k hk => LF_alike (by rw [set_alike h0 Ent.b hbE]) k hk
      have hcf2 : ∀ k, k ∈ CF cb mb (some ⟨lb, lo, none⟩) cl (E.set 0 x.clean) → k ∈ CF cb mb (some ⟨lb, lo, none⟩) cl E := fun k hk => by
        simp only [CF, List.mem_cons] at hk ⊢
        exact hk.imp id (hcf k)
      refine ⟨r1, (hsub _ g2).trans r2 (fun _ h _ => h) (fun k hk _ => List.mem_append_left _ (hcf2 k hk)), fun k hk => hcf k (r3 k hk), d2.chg r2 (fun k hk hm => ?_)⟩
      rcases DF_later l2 k hk with h9 | h9
      · exact hx k (hcf2 k hm) h9
      · have := (h.lt k (hcf2 k hm)).2; omega
    go_region_law (refine step_delete rfl (.tmp 25) (.tmp 29) 149 3 rfl 170 (int_keyed Tryz.underlying3) Tryz.underlying149 ptrR mb (E.set 0 x.clean).length D rfl (by first | exact hO3 | exact hO3.drew | exact hO3.drew.drew) _ (.int .i64 x.pl) rfl (keyI x.pl hxp) ?_; intro w4 ho4 hm4)
    all_goals
      go_wp2
      go_ret
      obtain ⟨r1, r2, r3, r4⟩ := HF w4 ((Chg.drew [mb] w3).trans (grown_chg hm4) (fun _ h _ => h) (fun _ h _ => h)) ho4
      exact ⟨by rw [HV.out]; rfl, fa', cf', r4, l2, r2, fun h9 => absurd HV.out h9, fun _ => ⟨F, r1, r3⟩⟩
  · have hv2 : ((write st x.pl x.bs).1 != 0) = true := by simpa using hv
    have HV := mkHid hv
    have CW := mkHid cw
    clear cw hv
    go_enter Tryz.func138, Tryz.ntmps138
    go_wp2_with (first | (go_at_call 170; refine CW.out.mono ?_; rintro e w2 ⟨rfl, fa', cf', d2, l2, g2, k2, -⟩))
    go_ret
    exact ⟨rfl, fa', cf', d2, l2, hsub _ g2, fun h9 => k2 h9, fun h9 => absurd h9 HV.out⟩
end
end Go.Proofs.YtdgkbicelnnfpaaGreatDoor

/- The cache beside its disk: room is made, a block comes. -/
namespace Go.Proofs.YtdgkbicelnnfpaaGreatDoor
open Go.RowKit Go.Maps
set_option linter.unusedVariables false
set_option linter.unusedSimpArgs false
attribute [local go_sem ↓] Go.wp_at_zero Go.wp_at_succ

def zero256 : List UInt8 := List.replicate 256 0
/-- The block that comes. -/
def fresh (b pl : Nat) : Ent := ⟨b, pl, zero256, false, 0⟩
theorem built_block (b pl : Nat) : Tryz.prog.built 176 [(0, .int .i64 (pl : Int))] = some (entV (fresh b pl) 0).toArray := by kernel_rfl
theorem CacheAt.comes {w w3 w4 : World} {B cb mb : Nat} {la la' : Option Addr} {cl cl' : Nat} {E L E' : List Ent} {most uses db : Nat} (h : CacheAt w B cb mb la cl E L most uses db) {nb pl : Nat} (hz : w.heap.size = nb) (g3 : Chg [mb] w w3) {D : DataW Unit} (hD : HeldAt w mb E D)
    (ho : w3.ownsMap Tryz.prog 3 ptrR mb (E.length + 1) (D.put (.int .i64 pl) (.lit (.int .u64 nb)))) (h4 : LineAt w4 B cb la' cl' E') (p4 : E'.Perm (E ++ [fresh nb pl])) (H4 : Heap E' E'.length) (g4 : Chg (nb :: LF cb la cl E) w3 w4) (f4 : ∀ k, k ∈ fp la' cl' → k ∈ fp la cl ∨ w3.heap.size ≤ k) (q4 : Only3 cb w3 w4)
    (hpl : pl < 1024) (hn : ∀ e ∈ L, e.pl ≠ pl) (hu : ∀ e ∈ L, 0 < e.used) (hlt : L.length < most) :
    CacheAt w4 B cb mb la' cl' E' (fresh nb pl :: L) most uses db ∧ Chg (CF cb mb la cl E) w w4 ∧ ∀ k, k ∈ CF cb mb la' cl' E' → k ∈ CF cb mb la cl E ∨ w.heap.size ≤ k := by
  have hcm : cb ∉ [mb] := by
    simp
    intro e
    exact h.mF (by rw [← e]; simp [LF])
  have hmlt := (h.lt mb (by simp [CF])).2
  have hmn : mb ∉ nb :: LF cb la cl E := by
    simp only [List.mem_cons, not_or]
    exact ⟨by omega, h.mF⟩
  have hP : E'.Perm (fresh nb pl :: L) := (p4.trans List.perm_append_comm).trans (h.pm.cons _)
  have hcell : ∀ j v, j ≠ 3 → w.cell? ⟨cb, j, none⟩ = some v → w4.cell? ⟨cb, j, none⟩ = some v := fun j v hj hv => (q4 j hj).1.trans (g3.cellv hv hcm)
  have hCF : ∀ k, k ∈ CF cb mb la' cl' E' → k ∈ CF cb mb la cl E ∨ w.heap.size ≤ k := by
    intro k hk
    simp only [CF, LF, List.mem_cons, List.mem_append, List.mem_map] at hk ⊢
    rcases hk with hk | hk | hk | ⟨e, he, e2⟩
    · exact Or.inl (Or.inl hk)
    · exact Or.inl (Or.inr (Or.inl hk))
    · rcases f4 k hk with h9 | h9
      · exact Or.inl (Or.inr (Or.inr (Or.inl h9)))
      · exact Or.inr (Nat.le_trans g3.size h9)
    · rcases List.mem_append.1 (p4.mem_iff.1 he) with he | he
      · exact Or.inl (Or.inr (Or.inr (Or.inr ⟨e, he, e2⟩)))
      · simp at he
        right
        rw [← e2, he]
        show w.heap.size ≤ nb
        omega
  have hmF : mb ∉ LF cb la' cl' E' := by
    simp only [LF, List.mem_cons, List.mem_append, List.mem_map, not_or]
    refine ⟨by simpa using fun e => hcm (by simp [e]), ?_, ?_⟩
    · intro hk
      rcases f4 mb hk with h9 | h9
      · exact h.mF (by simp [LF, h9])
      · have := g3.size; omega
    · rintro ⟨e, he, e2⟩
      rcases List.mem_append.1 (p4.mem_iff.1 he) with he | he
      · exact h.mF (by simp only [LF, List.mem_cons, List.mem_append, List.mem_map]; exact Or.inr (Or.inr ⟨e, he, e2⟩))
      · simp at he
        rw [he] at e2
        have : nb = mb := e2
        omega
  refine ⟨⟨hcell 0 _ (by decide) h.c0, hcell 1 _ (by decide) h.c1, hcell 2 _ (by decide) h.c2, hcell 4 _ (by decide) h.c4, (q4 4 (by decide)).2.trans ((g3.frozen (p := ⟨cb, 4, none⟩) (show cb < w.heap.size from block_lt_of_cell h.c4) hcm).trans h.f4), h4, H4, ⟨_, (((hD.put (x := fresh nb pl) hpl (fun e he => hn e (h.pm.mem_iff.1 he)) ho).chg g4 hmn).perm p4)⟩, hP, ?_, ?_, ?_, ?_, by simp; omega, h.mo, hmF, h.mB⟩, ?_, hCF⟩
  · exact List.pairwise_cons.2 ⟨fun e he => hu e he, h.so⟩
  · intro e he
    rcases List.mem_cons.1 he with rfl | he
    · exact Nat.zero_le _
    · exact h.us e he
  · rw [List.map_cons, List.nodup_cons]
    refine ⟨fun hm => ?_, h.np⟩
    obtain ⟨e, he, e2⟩ := List.mem_map.1 hm
    exact hn e he e2
  · intro e he
    rcases List.mem_cons.1 he with rfl | he
    · exact hpl
    · exact h.pl e he
  · refine g3.trans g4 (fun k hk _ => by simp at hk; simp [CF, hk]) (fun k hk hlt => ?_)
    rcases List.mem_cons.1 hk with rfl | hk
    · omega
    · simp [CF, hk]
section
variable (B cb mb : Nat) (la : Option Addr) (cl : Nat) (E L : List Ent) (most uses db : Nat) (w : World) (h : CacheAt w B cb mb la cl E L most uses db)
include h
set_option maxRecDepth 20000 in
theorem ctaken_room (pl : Nat) (hpl : pl < 1024) (hn : ∀ e ∈ L, e.pl ≠ pl) (hu : ∀ e ∈ L, 0 < e.used) (hB : B ≤ w.heap.size) (hlt : L.length < most) :
    Calls Tryz.prog 93 #[.pointer (some ⟨cb, 0, none⟩), .int .i64 (pl : Int)] w fun e w' => ∃ nb la' cl' E', e = .returned (.tuple #[.pointer (some ⟨nb, 0, none⟩), .int .i64 0]) ∧ w.heap.size ≤ nb ∧ CacheAt w' B cb mb la' cl' E' (fresh nb pl :: L) most uses db ∧ Chg (CF cb mb la cl E) w w' ∧ ∀ k, k ∈ CF cb mb la' cl' E' → k ∈ CF cb mb la cl E ∨ w.heap.size ≤ k := by
  obtain ⟨D, hD⟩ := h.hd
  have c0 := h.c0
  have c1 := h.c1
  have c2 := h.c2
  have hs : Maps.size D = L.length := hD.s.trans h.pm.length_eq
  have hne : ((Maps.size D : Int) == (most : Int)) = false := beq_eq_false_iff_ne.2 (by omega)
  have hne2 : (Maps.size D == most) = false := beq_eq_false_iff_ne.2 (by omega)
  have hO := hD.o
  clear hs
  go_enter Tryz.func93, Tryz.ntmps93
  go_upto_region 1 with fail
  go_cut [17] (fun v wx => v = .bool false ∧ Chg [] w wx)
  case first =>
    go_region_law (refine step_len rfl (.tmp 11) 149 rfl 3 170 Tryz.underlying149 ptrR mb E.length D rfl (by first | exact hO | exact hO.drew | exact hO.drew.drew) ?_)
    all_goals
      go_wp2_with fail
      go_meet
      exact ⟨rfl, by first | exact Chg.refl _ _ | exact Chg.drew _ _ | exact (Chg.drew _ _).then (Chg.drew _ _)⟩
  case rest =>
    obtain ⟨rfl, gx⟩ := hcut
    have h1 := h.keep gx
    have c12 := h1.c2
    have hle := h.le
    have hmo := h.mo
    have hEl := h.pm.length_eq
    have hF : ∀ (w3 : World) (nb : Nat), wc.heap.size = nb → nb < w3.heap.size → Chg [mb] wc w3 → Blk w3 nb 176 (entV (fresh nb pl) 0) → Calls Tryz.prog 139 #[.iface 217 (.pointer (some ⟨cb, 3, none⟩)), .iface 170 (.pointer (some ⟨nb, 0, none⟩))] w3 fun e w' => e = .returned (.tuple #[]) ∧ ∃ la' cl' E', LineAt w' B cb la' cl' E' ∧ E'.Perm (E ++ [fresh nb pl]) ∧ Heap E' E'.length ∧ Chg (nb :: LF cb la cl E) w3 w' ∧ (∀ k, k ∈ fp la' cl' → k ∈ fp la cl ∨ w3.heap.size ≤ k) ∧ Only3 cb w3 w' := by
      intro w3 nb hz hlt3 g3 hb3
      have hnF : nb ∉ LF cb la cl E := fun hk => by have := (h1.ln.lt nb hk).2; omega
      exact hpush_any (fresh nb pl) 0 B cb la cl E w3 (h1.ln.chg g3 (fun k hk => by simp; rintro rfl; exact h1.mF hk)) (Nat.le_trans hB (Nat.le_trans gx.size g3.size)) hb3 (show zero256.length = 256 from List.length_replicate) hnF (by show B ≤ nb; have := gx.size; omega) (by omega) h1.hp
    have HF := mkHid hF
    clear hF
    go_wp2_with (first
      | (refine wpList_build_w rfl 176 #[(0, .tmp 23)] rfl (entV (fresh 0 pl) 0) (built_block 0 pl) ?_)
      | (refine wpList_box_w rfl 176 (.tmp 24) rfl (entV (fresh 0 pl) 0) rfl ?_; intro w2 hb2 hg2 hs2; have c22 := hg2.cellv c12 (by simp); generalize hz : wc.heap.size = nb at *)
      | (at_mapUpdate; refine wpList_mapUpdate_in _ rfl (.tmp 29) (.tmp 30) (.tmp 31) 149 rfl 3 170 (int_keyed Tryz.underlying3) Tryz.underlying149 ptrR mb E.length D rfl (hD.chg (gx.then hg2) (by simp)).o (by unfold maxLen; omega) _ _ (.int .i64 pl) rfl rfl (keyI pl hpl) (.lit (.int .u64 nb)) [] (ptrR_mk nb) ?_; intro w3 ho3 hm3)
      | (go_at_call 139; refine (HF.out _ _ (by first | exact hz | rfl) (by have := (grown_chg hm3).size; omega) (hg2.trans (grown_chg hm3) (by simp) (fun _ h _ => h)) (hb2.chg (grown_chg hm3) (by simp; intro e9; have := (h1.lt mb (by simp [CF])).2; omega))).mono ?_; rintro e w4 ⟨rfl, la', cl', E', h4, p4, H4, g4, f4, q4⟩))
    go_ret2
    obtain ⟨r1, r2, r3⟩ := h1.comes hz (hg2.trans (grown_chg hm3) (by simp) (fun _ h _ => h)) (hD.chg gx (by simp)) ho3 h4 p4 H4 g4 f4 q4 hpl hn hu hlt
    exact ⟨nb, la', cl', E', rfl, by have := gx.size; omega, r1, gx.trans r2 (by simp) (fun _ h _ => h), fun k hk => (r3 k hk).imp id (fun h9 => Nat.le_trans gx.size h9)⟩
end
end Go.Proofs.YtdgkbicelnnfpaaGreatDoor

/- The cache beside its disk: room is made where there is none. -/
namespace Go.Proofs.YtdgkbicelnnfpaaGreatDoor
open Go.RowKit Go.Maps
set_option linter.unusedVariables false
set_option linter.unusedSimpArgs false
attribute [local go_sem ↓] Go.wp_at_zero Go.wp_at_succ

theorem CacheAt.push_next {wc : World} {B cb mb : Nat} {la : Option Addr} {cl : Nat} {E L : List Ent} {most uses db : Nat} (h1 : CacheAt wc B cb mb la cl E L most uses db) (hB : B ≤ wc.heap.size) (pl : Nat) :
    ∀ (w3 : World) (nb : Nat), wc.heap.size = nb → nb < w3.heap.size → Chg [mb] wc w3 → Blk w3 nb 176 (entV (fresh nb pl) 0) → Calls Tryz.prog 139 #[.iface 217 (.pointer (some ⟨cb, 3, none⟩)), .iface 170 (.pointer (some ⟨nb, 0, none⟩))] w3 fun e w' => e = .returned (.tuple #[]) ∧ ∃ la' cl' E', LineAt w' B cb la' cl' E' ∧ E'.Perm (E ++ [fresh nb pl]) ∧ Heap E' E'.length ∧ Chg (nb :: LF cb la cl E) w3 w' ∧ (∀ k, k ∈ fp la' cl' → k ∈ fp la cl ∨ w3.heap.size ≤ k) ∧ Only3 cb w3 w' := by
  intro w3 nb hz hlt3 g3 hb3
  have hle := h1.le
  have hmo := h1.mo
  have hEl := h1.pm.length_eq
  have hnF : nb ∉ LF cb la cl E := fun hk => by have := (h1.ln.lt nb hk).2; omega
  exact hpush_any (fresh nb pl) 0 B cb la cl E w3 (h1.ln.chg g3 (fun k hk => by simp; rintro rfl; exact h1.mF hk)) (Nat.le_trans hB g3.size) hb3 (show zero256.length = 256 from List.length_replicate) hnF (by show B ≤ nb; omega) (by omega) h1.hp
section
variable (B cb mb : Nat) (la : Option Addr) (cl : Nat) (E : List Ent) (most uses db : Nat) (w : World) (x : Ent) (T : List Ent) (h : CacheAt w B cb mb la cl E (x :: T) most uses db)
variable (g : DG) (fa : Option Addr) (cf : Nat) (st : RS) (hDv : DevAt w B db g fa cf st) (hW : Whole st) (hB : B ≤ w.heap.size) (hLb : st.L.length ≤ 1000000000) (hx : ∀ k, k ∈ CF cb mb la cl E → k ∉ DF db g fa cf)
include h hDv hW hB hLb hx
theorem cletgo_any :
    Calls Tryz.prog 138 #[.pointer (some ⟨cb, 0, none⟩)] w fun e w' => e = .returned (.int .i64 (wrote x st).1) ∧ ∃ fa' cf', DevAt w' B db g fa' cf' (wrote x st).2 ∧ Later w fa cf fa' cf' ∧ Chg (CF cb mb la cl E ++ DF db g fa cf) w w' ∧
      ((wrote x st).1 ≠ 0 → CacheAt w' B cb mb la cl E (x :: T) most uses db) ∧ ((wrote x st).1 = 0 → ∃ F, CacheAt w' B cb mb la cl F T most uses db ∧ ∀ k, k ∈ LF cb la cl F → k ∈ LF cb la cl E) := by
  unfold wrote
  cases hd : x.dirty
  · simp only [Bool.false_eq_true, if_false]
    refine (cletgo_clean B cb mb la cl E most uses db w x T h hd).mono ?_
    rintro e w' ⟨rfl, F, k, gk, lk⟩
    exact ⟨rfl, fa, cf, hDv.chg gk (fun k hk hm => hx k hm hk), fun k hk => Or.inl hk, gk.mono (fun k hk _ => List.mem_append_left _ hk), fun h9 => absurd rfl h9, fun _ => ⟨F, k, lk⟩⟩
  · simp only [if_true]
    exact cletgo_dirty B cb mb la cl E most uses db w x T h hd g fa cf st hDv hW hB hLb hx
set_option maxRecDepth 20000 in
set_option maxHeartbeats 1000000 in
theorem ctaken_full (pl : Nat) (hpl : pl < 1024) (hn : ∀ e ∈ T, e.pl ≠ pl) (hu : ∀ e ∈ x :: T, 0 < e.used) (hfull : (x :: T).length = most) :
    Calls Tryz.prog 93 #[.pointer (some ⟨cb, 0, none⟩), .int .i64 (pl : Int)] w fun e w' => ∃ v fa' cf' la' cl' E', e = .returned (.tuple #[v, .int .i64 (wrote x st).1]) ∧ DevAt w' B db g fa' cf' (wrote x st).2 ∧ Later w fa cf fa' cf' ∧ Chg (CF cb mb la cl E ++ DF db g fa cf) w w' ∧ (∀ k, k ∈ CF cb mb la' cl' E' → k ∈ CF cb mb la cl E ∨ w.heap.size ≤ k) ∧ (∀ k, k ∈ CF cb mb la' cl' E' → k ∉ DF db g fa' cf') ∧
      ((wrote x st).1 ≠ 0 → CacheAt w' B cb mb la' cl' E' (x :: T) most uses db) ∧ ((wrote x st).1 = 0 → ∃ nb, v = .pointer (some ⟨nb, 0, none⟩) ∧ w.heap.size ≤ nb ∧ CacheAt w' B cb mb la' cl' E' (fresh nb pl :: T) most uses db) := by
  obtain ⟨D, hD⟩ := h.hd
  have c0 := h.c0
  have c1 := h.c1
  have c2 := h.c2
  have hs : Maps.size D = most := (hD.s.trans h.pm.length_eq).trans hfull
  have hO := hD.o
  have HS := mkHid hs
  have hmo := h.mo
  clear hs
  go_enter Tryz.func93, Tryz.ntmps93
  go_upto_region 1 with fail
  go_cut [17] (fun v wx => v = .bool true ∧ Chg [] w wx)
  case first =>
    have hne : ((Maps.size D : Int) == (most : Int)) = true := by rw [HS.out]; simp
    have hne2 : (Maps.size D == most) = true := by rw [HS.out]; simp
    go_region_law (refine step_len rfl (.tmp 11) 149 rfl 3 170 Tryz.underlying149 ptrR mb E.length D rfl (by first | exact hO | exact hO.drew | exact hO.drew.drew) ?_)
    all_goals
      go_wp2_with fail
      go_meet
      exact ⟨rfl, by first | exact Chg.refl _ _ | exact Chg.drew _ _ | exact (Chg.drew _ _).then (Chg.drew _ _)⟩
  case rest =>
    obtain ⟨rfl, gx⟩ := hcut
    have h1 := h.keep gx
    have d1 := hDv.keep gx
    have cG := cletgo_any B cb mb la cl E most uses db wc x T h1 g fa cf st d1 hW (Nat.le_trans hB gx.size) hLb hx
    by_cases hv : (wrote x st).1 = 0
    · rw [hv] at cG
      have HV := mkHid hv
      clear hv
      go_wp2_with (first
        | (go_at_call 138; refine cG.mono ?_; rintro e w1 ⟨rfl, fa', cf', d2, l2, g2, -, k0⟩; obtain ⟨F, kF, lF⟩ := k0 rfl; clear k0; obtain ⟨D1, hD1⟩ := kF.hd; have HF := mkHid (kF.push_next (Nat.le_trans hB (Nat.le_trans gx.size g2.size)) pl); have c12 := kF.c2; have hFl := kF.pm.length_eq; have hFle := kF.le)
        | (refine wpList_build_w rfl 176 #[(0, .tmp 23)] rfl (entV (fresh 0 pl) 0) (built_block 0 pl) ?_)
        | (refine wpList_box_w rfl 176 (.tmp 24) rfl (entV (fresh 0 pl) 0) rfl ?_; intro w2 hb2 hg2 hs2; have c22 := hg2.cellv c12 (by simp); generalize hz : w1.heap.size = nb at *)
        | (at_mapUpdate; refine wpList_mapUpdate_in _ rfl (.tmp 29) (.tmp 30) (.tmp 31) 149 rfl 3 170 (int_keyed Tryz.underlying3) Tryz.underlying149 ptrR mb F.length D1 rfl (hD1.chg hg2 (by simp)).o (by unfold maxLen; omega) _ _ (.int .i64 pl) rfl rfl (keyI pl hpl) (.lit (.int .u64 nb)) [] (ptrR_mk nb) ?_; intro w3 ho3 hm3)
        | (go_at_call 139; refine (HF.out _ _ (by first | exact hz | rfl) (by have := (grown_chg hm3).size; omega) (hg2.trans (grown_chg hm3) (by simp) (fun _ h _ => h)) (hb2.chg (grown_chg hm3) (by simp; intro e9; have := (kF.lt mb (by simp [CF])).2; omega))).mono ?_; rintro e w4 ⟨rfl, la', cl', E', h4, p4, H4, g4, f4, q4⟩))
      go_ret2
      have hTm : T.length < most := by simp at hfull; omega
      obtain ⟨r1, r2, r3⟩ := kF.comes hz (hg2.trans (grown_chg hm3) (by simp) (fun _ h _ => h)) hD1 ho3 h4 p4 H4 g4 f4 q4 hpl hn (fun e he => hu e (List.mem_cons_of_mem _ he)) hTm
      have hCF : ∀ k, k ∈ CF cb mb la cl F → k ∈ CF cb mb la cl E := fun k hk => by
        simp only [CF, List.mem_cons] at hk ⊢
        exact hk.imp id (lF k)
      have hlt1 : w.heap.size ≤ w1.heap.size := Nat.le_trans gx.size g2.size
      have gall : Chg (CF cb mb la cl E ++ DF db g fa cf) w w1 := gx.trans g2 (by simp) (fun _ h _ => h)
      have hno : ∀ k, k ∈ CF cb mb la cl F → k ∉ DF db g fa' cf' := fun k hk hm => by
        rcases DF_later l2 k hm with h9 | h9
        · exact hx k (hCF k hk) h9
        · have := (h1.lt k (hCF k hk)).2; omega
      have d4 : DevAt w4 B db g fa' cf' (wrote x st).2 := d2.chg r2 (fun k hk hm => hno k hm hk)
      refine ⟨_, fa', cf', la', cl', E', by rw [HV.out]; rfl, d4, fun k hk => (l2 k hk).imp id (fun h9 => Nat.le_trans gx.size h9), gall.trans r2 (fun _ h _ => h) (fun k hk _ => List.mem_append_left _ (hCF k hk)), fun k hk => (r3 k hk).imp (hCF k) (fun h9 => Nat.le_trans hlt1 h9), fun k hk hm => ?_, fun h9 => absurd HV.out h9, fun _ => ⟨nb, rfl, by omega, r1⟩⟩
      rcases r3 k hk with h9 | h9
      · exact hno k h9 hm
      · have := (d2.lt k hm).2; omega
    · have hv2 : ((wrote x st).1 != 0) = true := by simpa using hv
      have HV := mkHid hv
      clear hv
      go_wp2_with (first | (go_at_call 138; refine cG.mono ?_; rintro e w1 ⟨rfl, fa', cf', d2, l2, g2, k0, -⟩))
      go_ret2
      refine ⟨.pointer none, fa', cf', la, cl, E, rfl, d2, fun k hk => (l2 k hk).imp id (fun h9 => Nat.le_trans gx.size h9), gx.trans g2 (by simp) (fun _ h _ => h), fun k hk => Or.inl hk, fun k hk hm => ?_, fun h9 => k0 h9, fun h9 => absurd h9 HV.out⟩
      rcases DF_later l2 k hm with h9 | h9
      · exact hx k hk h9
      · have := (h1.lt k hk).2; omega
end
end Go.Proofs.YtdgkbicelnnfpaaGreatDoor

/- A cache as chapter 5 has it, and what the program's cache in memory is of it. -/
namespace Go.Proofs.YtdgkbicelnnfpaaGreatDoor
open Go.RowKit Go.Maps
set_option linter.unusedVariables false
set_option linter.unusedSimpArgs false
attribute [local go_sem ↓] Go.wp_at_zero Go.wp_at_succ

/-- A block that a cache holds. -/
structure KE where
  pl : Nat
  bs : List UInt8
  dirty : Bool
def absE (e : Ent) : KE := ⟨e.pl, e.bs, e.dirty⟩
def kfind (K : List KE) (a : Nat) : Option KE := K.find? (fun e => e.pl == a)
def kdrop (K : List KE) (a : Nat) : List KE := K.filter (fun e => e.pl != a)
def kwrote (h : KE) (st : RS) : Int × RS := if h.dirty then write st h.pl h.bs else (0, st)
/-- Room for a block that is not held: what is told; the cache, the disk behind it. -/
def kroom (n : Nat) (K : List KE) (st : RS) : Int × List KE × RS :=
  if K.length < n then (0, K, st) else match K with
  | [] => (0, [], st)
  | h :: T => if (kwrote h st).1 = 0 then (0, T, (kwrote h st).2) else ((kwrote h st).1, h :: T, (kwrote h st).2)
theorem kroom_room {n : Nat} {K : List KE} {st : RS} (h : K.length < n) : kroom n K st = (0, K, st) := by unfold kroom; rw [if_pos h]
theorem kroom_ok {n : Nat} {h : KE} {T : List KE} {st : RS} (hf : n ≤ (h :: T).length) (hv : (kwrote h st).1 = 0) : kroom n (h :: T) st = (0, T, (kwrote h st).2) := by unfold kroom; rw [if_neg (by omega)]; simp only [hv, if_true]
theorem kroom_no {n : Nat} {h : KE} {T : List KE} {st : RS} (hf : n ≤ (h :: T).length) (hv : (kwrote h st).1 ≠ 0) : kroom n (h :: T) st = ((kwrote h st).1, h :: T, (kwrote h st).2) := by unfold kroom; rw [if_neg (by omega)]; simp only [hv, if_false]
theorem kfind_none {K : List KE} {a : Nat} (h : kfind K a = none) : ∀ e ∈ K, e.pl ≠ a := fun e he => by
  have := List.find?_eq_none.1 h e he
  simpa using this
theorem kfind_some {K : List KE} {a : Nat} {x : KE} (h : kfind K a = some x) : x ∈ K ∧ x.pl = a := ⟨List.mem_of_find?_eq_some h, by have := List.find?_some h; simpa using this⟩
theorem pl_inj {L : List Ent} (h : (L.map Ent.pl).Nodup) {x y : Ent} (hx : x ∈ L) (hy : y ∈ L) (e : x.pl = y.pl) : x = y := by
  obtain ⟨i, hi, rfl⟩ := List.getElem_of_mem hx
  obtain ⟨j, hj, rfl⟩ := List.getElem_of_mem hy
  have := (List.getElem_inj (xs := L.map Ent.pl) (i := i) (j := j) (h₀ := by simpa using hi) (h₁ := by simpa using hj) h).1 (by simpa using e)
  subst this
  rfl
theorem abs_used {L : List Ent} (hb : (L.map Ent.b).Nodup) (hp : (L.map Ent.pl).Nodup) {x : Ent} (hx : x ∈ L) (u : Nat) : (used L x u).map absE = kdrop (L.map absE) x.pl ++ [absE x] := by
  unfold used kdrop
  rw [List.map_append, List.filter_map]
  congr 2
  refine List.filter_congr fun e he => ?_
  show (e.b != x.b) = (e.pl != x.pl)
  by_cases h : e = x
  · rw [h]; simp
  · have h1 : e.b ≠ x.b := fun h9 => h (b_inj hb he hx h9)
    have h2 : e.pl ≠ x.pl := fun h9 => h (pl_inj hp he hx h9)
    rw [bne_iff_ne.2 h1, bne_iff_ne.2 h2]
theorem abs_find {L : List Ent} {a : Nat} {h : KE} (hf : kfind (L.map absE) a = some h) : ∃ x ∈ L, absE x = h ∧ x.pl = a := by
  obtain ⟨h1, h2⟩ := kfind_some hf
  obtain ⟨x, hx, rfl⟩ := List.mem_map.1 h1
  exact ⟨x, hx, rfl, h2⟩
theorem CacheAt.spot {w : World} {B cb mb : Nat} {la : Option Addr} {cl : Nat} {E L : List Ent} {most uses db : Nat} (h : CacheAt w B cb mb la cl E L most uses db) {x : Ent} (hx : x ∈ L) : ∃ i, ∃ hi : i < E.length, E[i] = x := by
  obtain ⟨i, hi, e⟩ := List.getElem_of_mem (h.pm.mem_iff.2 hx)
  exact ⟨i, hi, e⟩
theorem CacheAt.bnd {w : World} {B cb mb : Nat} {la : Option Addr} {cl : Nat} {E L : List Ent} {most uses db : Nat} (h : CacheAt w B cb mb la cl E L most uses db) : (L.map Ent.b).Nodup := (h.pm.map _).nodup_iff.1 h.ln.nd
theorem CacheAt.mem {w : World} {B cb mb : Nat} {la : Option Addr} {cl : Nat} {E L : List Ent} {most uses db : Nat} (h : CacheAt w B cb mb la cl E L most uses db) {x : Ent} (hx : x ∈ L) : x.b ∈ CF cb mb la cl E ∧ x.bs.length = 256 := by
  have hE := h.pm.mem_iff.2 hx
  refine ⟨?_, h.ln.bl x hE⟩
  simp only [CF, LF, List.mem_cons, List.mem_append, List.mem_map]
  exact Or.inr (Or.inr (Or.inr ⟨x, hE, rfl⟩))

/-- The disk and the cache over it that a law holds, blocks R beside them. -/
structure Pair (w0 w : World) (R : Nat → Prop) (db : Nat) (g : DG) (fa : Option Addr) (cf : Nat) (st : RS) (cb mb : Nat) (la : Option Addr) (cl : Nat) (E L : List Ent) (most uses : Nat) : Prop where
  d : DevAt w w0.heap.size db g fa cf st
  k : CacheAt w w0.heap.size cb mb la cl E L most uses db
  u : ∀ e ∈ L, 0 < e.used
  c : Chg [] w0 w
  W : Whole st
  x : ∀ k, k ∈ CF cb mb la cl E → k ∉ DF db g fa cf
  r : ∀ k, R k → k ∉ CF cb mb la cl E ∧ k ∉ DF db g fa cf ∧ k < w.heap.size
/-- Nothing of R turned. -/
def Off (R : Nat → Prop) (w w' : World) : Prop := ∃ S, Chg S w w' ∧ ∀ k, k ∈ S → ¬ R k
theorem Off.keep {R : Nat → Prop} {w w' : World} (c : Chg [] w w') : Off R w w' := ⟨[], c, by simp⟩
theorem Off.trans {R : Nat → Prop} {a b c : World} (h : Off R a b) (g : Off R b c) : Off R a c := by
  obtain ⟨S, hS, h1⟩ := h
  obtain ⟨T, hT, h2⟩ := g
  exact ⟨S ++ T, hS.trans hT (fun k hk _ => List.mem_append_left _ hk) (fun k hk _ => List.mem_append_right _ hk), fun k hk => (List.mem_append.1 hk).elim (h1 k) (h2 k)⟩
theorem Off.less {R R' : Nat → Prop} {w w' : World} (h : Off R w w') (hR : ∀ k, R' k → R k) : Off R' w w' := by
  obtain ⟨S, hS, h1⟩ := h
  exact ⟨S, hS, fun k hk h9 => h1 k hk (hR k h9)⟩
theorem Pair.off {w0 w w' : World} {R : Nat → Prop} {db : Nat} {g : DG} {fa : Option Addr} {cf : Nat} {st : RS} {cb mb : Nat} {la : Option Addr} {cl : Nat} {E L : List Ent} {most uses : Nat} (h : Pair w0 w R db g fa cf st cb mb la cl E L most uses) (c : Chg (CF cb mb la cl E ++ DF db g fa cf) w w') : Off R w w' :=
  ⟨_, c, fun k hk h9 => (List.mem_append.1 hk).elim (h.r k h9).1 (h.r k h9).2.1⟩
/-- Both have gone on. -/
theorem Pair.go {w0 w w' : World} {R : Nat → Prop} {db : Nat} {g : DG} {fa fa' : Option Addr} {cf cf' : Nat} {st st' : RS} {cb mb : Nat} {la la' : Option Addr} {cl cl' : Nat} {E L E' L' : List Ent} {most uses uses' : Nat} (h : Pair w0 w R db g fa cf st cb mb la cl E L most uses)
    (d : DevAt w' w0.heap.size db g fa' cf' st') (k : CacheAt w' w0.heap.size cb mb la' cl' E' L' most uses' db) (u : ∀ e ∈ L', 0 < e.used) (c : Chg (CF cb mb la cl E ++ DF db g fa cf) w w') (W : Whole st') (x : ∀ k, k ∈ CF cb mb la' cl' E' → k ∉ DF db g fa' cf')
    (lc : ∀ k, k ∈ CF cb mb la' cl' E' → k ∈ CF cb mb la cl E ∨ w.heap.size ≤ k) (ld : ∀ k, k ∈ DF db g fa' cf' → k ∈ DF db g fa cf ∨ w.heap.size ≤ k) : Pair w0 w' R db g fa' cf' st' cb mb la' cl' E' L' most uses' :=
  ⟨d, k, u, h.c.trans c (by simp) (fun q hq hlt => by
    rcases List.mem_append.1 hq with h9 | h9
    · have := (h.k.lt q h9).1; omega
    · have := (h.d.lt q h9).1; omega), W, x, fun q hq => ⟨fun h9 => (lc q h9).elim (h.r q hq).1 (fun h8 => by have := (h.r q hq).2.2; omega), fun h9 => (ld q h9).elim (h.r q hq).2.1 (fun h8 => by have := (h.r q hq).2.2; omega), Nat.lt_of_lt_of_le (h.r q hq).2.2 c.size⟩⟩
theorem Pair.keep {w0 w w' : World} {R : Nat → Prop} {db : Nat} {g : DG} {fa : Option Addr} {cf : Nat} {st : RS} {cb mb : Nat} {la : Option Addr} {cl : Nat} {E L : List Ent} {most uses : Nat} (h : Pair w0 w R db g fa cf st cb mb la cl E L most uses) (c : Chg [] w w') : Pair w0 w' R db g fa cf st cb mb la cl E L most uses :=
  h.go (h.d.keep c) (h.k.keep c) h.u (c.mono (by simp)) h.W h.x (fun _ h => Or.inl h) (fun _ h => Or.inl h)
theorem Pair.add {w0 w w' : World} {R R' : Nat → Prop} {db : Nat} {g : DG} {fa : Option Addr} {cf : Nat} {st : RS} {cb mb : Nat} {la : Option Addr} {cl : Nat} {E L : List Ent} {most uses : Nat} (h : Pair w0 w R db g fa cf st cb mb la cl E L most uses) (c : Chg [] w w') (hR : ∀ k, R' k → R k ∨ (w.heap.size ≤ k ∧ k < w'.heap.size)) : Pair w0 w' R' db g fa cf st cb mb la cl E L most uses := by
  have h1 := h.keep c
  refine ⟨h1.d, h1.k, h1.u, h1.c, h1.W, h1.x, fun k hk => ?_⟩
  rcases hR k hk with h9 | ⟨h9, h8⟩
  · exact h1.r k h9
  · exact ⟨fun hm => by have := (h.k.lt k hm).2; omega, fun hm => by have := (h.d.lt k hm).2; omega, h8⟩
theorem Pair.less {w0 w : World} {R R' : Nat → Prop} {db : Nat} {g : DG} {fa : Option Addr} {cf : Nat} {st : RS} {cb mb : Nat} {la : Option Addr} {cl : Nat} {E L : List Ent} {most uses : Nat} (h : Pair w0 w R db g fa cf st cb mb la cl E L most uses) (hR : ∀ k, R' k → R k) : Pair w0 w R' db g fa cf st cb mb la cl E L most uses :=
  ⟨h.d, h.k, h.u, h.c, h.W, h.x, fun k hk => h.r k (hR k hk)⟩
/-- What a law writes beside them. -/
theorem Pair.chg {w0 w w' : World} {R : Nat → Prop} {db : Nat} {g : DG} {fa : Option Addr} {cf : Nat} {st : RS} {cb mb : Nat} {la : Option Addr} {cl : Nat} {E L : List Ent} {most uses : Nat} {S : List Nat} (h : Pair w0 w R db g fa cf st cb mb la cl E L most uses) (c : Chg S w w') (hS : ∀ k, k ∈ S → R k ∧ w0.heap.size ≤ k) : Pair w0 w' R db g fa cf st cb mb la cl E L most uses :=
  ⟨h.d.chg c (fun k hk hm => (h.r k (hS k hm).1).2.1 hk), h.k.chg c (fun k hk hm => (h.r k (hS k hm).1).1 hk), h.u, h.c.trans c (by simp) (fun k hk hlt => by have := (hS k hk).2; omega), h.W, h.x, fun k hk => ⟨(h.r k hk).1, (h.r k hk).2.1, Nat.lt_of_lt_of_le (h.r k hk).2.2 c.size⟩⟩
end Go.Proofs.YtdgkbicelnnfpaaGreatDoor
