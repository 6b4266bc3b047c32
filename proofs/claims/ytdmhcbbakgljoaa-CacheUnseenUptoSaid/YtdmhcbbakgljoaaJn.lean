/- The cache beside its disk: Get. -/
import Derived.Test.YtdmhcbbakgljoaaJm
namespace Go.Proofs.Ytdmhcbbakgljoaa
open Go.RowKit Go.Maps
set_option linter.unusedVariables false
set_option linter.unusedSimpArgs false
attribute [local go_sem ↓] Go.wp_at_zero Go.wp_at_succ

theorem zeroP (w : World) : (zeroValue 62).run Try.prog w = .ok (.pointer none) w := by kernel_rfl
section
variable (w : World) {ops : Array Oper} {rest : List Oper} {o : Oper} {a : Act} {Q : Exit → Act → World → Prop}
theorem wpList_lookup_held (hg : o.guard = none) (m x : Operand) (hop : o.op = Op.lookup 54 m x true) {mb : Nat} {E : List Ent} {D : DataW Unit} (hD : HeldAt w mb E D) (hm : a.eval m = .map (some mb)) {y : Ent} (hy : y ∈ E) (hpl : y.pl < 1024) (hx : a.eval x = .int .i64 (y.pl : Int))
    (hK : wpList Try.prog ops Q rest (a.put o.dst (.tuple #[.pointer (some ⟨y.b, 0, none⟩), .bool true])) w) : wpList Try.prog ops Q (o :: rest) a w := by
  refine wpList_lookup_own_ok w hg m x 54 hop 3 62 (int_keyed Try.underlying3) Try.underlying54 ptrR (zeroP w) .nil [] rfl mb E.length D hm hD.o _ (.int .i64 y.pl) hx (keyI y.pl hpl) ?_
  intro v ps hv
  obtain ⟨h1, h2⟩ := hD.y y hy
  rw [h2] at hv
  rw [ptrR_inv hv, h1]
  exact hK
theorem wpList_lookup_none (hg : o.guard = none) (m x : Operand) (hop : o.op = Op.lookup 54 m x true) {mb : Nat} {E : List Ent} {D : DataW Unit} (hD : HeldAt w mb E D) (hm : a.eval m = .map (some mb)) {pl : Nat} (hn : ∀ e ∈ E, e.pl ≠ pl) (hpl : pl < 1024) (hx : a.eval x = .int .i64 (pl : Int))
    (hK : wpList Try.prog ops Q rest (a.put o.dst (.tuple #[.pointer none, .bool false])) w) : wpList Try.prog ops Q (o :: rest) a w := by
  refine wpList_plain hg fun K' hK' => ?_
  have hhas := hD.n pl (fun e he h9 => hn e he (by omega))
  obtain ⟨v, ps, hrun, hv⟩ := hD.o.look_ok (int_keyed Try.underlying3) Try.underlying54 (zeroP w) (zd := .nil) (zp := []) rfl (keyI pl hpl)
  rw [atKey_of_not_has hhas] at hv
  have hv2 : v = .pointer none := by
    unfold ptrR at hv
    split at hv
    · simp at hv
    · rfl
    · cases hv
  rw [hv2, hhas] at hrun
  unfold Oper.wp
  simp [execOp, hop, hm, hx, hrun, Result.andThen]
  exact hK' _ _ hK
theorem wpList_lookup_bare (hg : o.guard = none) (m x : Operand) (hop : o.op = Op.lookup 54 m x false) {mb : Nat} {E : List Ent} {D : DataW Unit} (hD : HeldAt w mb E D) (hm : a.eval m = .map (some mb)) {y : Ent} (hy : y ∈ E) (hpl : y.pl < 1024) (hx : a.eval x = .int .i64 (y.pl : Int))
    (hK : wpList Try.prog ops Q rest (a.put o.dst (.pointer (some ⟨y.b, 0, none⟩))) w) : wpList Try.prog ops Q (o :: rest) a w := by
  refine wpList_plain hg fun K' hK' => ?_
  obtain ⟨v, ps, hrun, hv⟩ := hD.o.lookup (int_keyed Try.underlying3) Try.underlying54 (zeroP w) (zd := .nil) (zp := []) rfl (keyI y.pl hpl)
  obtain ⟨h1, h2⟩ := hD.y y hy
  rw [h2] at hv
  rw [ptrR_inv hv] at hrun
  unfold Oper.wp
  simp [execOp, hop, hm, hx, hrun, Result.andThen]
  exact hK' _ _ hK
end
/-- Bytes in new memory. -/
theorem own_copy (w1 : World) (bs : List UInt8) (hl : bs.length = 256) : Room ((w1.alloc (.cells (madeCells #[.int .u8 0] 256) 5)).setCells w1.heap.size 0 (bts bs)) w1.heap.size (some ⟨w1.heap.size, 0, none⟩) 256 256 (bts bs) ∧ Chg [] w1 ((w1.alloc (.cells (madeCells #[.int .u8 0] 256) 5)).setCells w1.heap.size 0 (bts bs)) ∧ w1.heap.size < ((w1.alloc (.cells (madeCells #[.int .u8 0] 256) 5)).setCells w1.heap.size 0 (bts bs)).heap.size := by
  have hr0 := made_room w1 5 (.int .u8 0) 256 (by decide)
  have hr := hr0.sets (bts bs) 0 (by rw [bts_length, hl]; omega)
  have e1 : (List.replicate 256 (Value.int .u8 0)).drop (0 + (bts bs).length) = [] := by rw [bts_length, hl]; rfl
  rw [e1, List.take_zero, List.nil_append, List.append_nil] at hr
  refine ⟨hr, (Chg.alloc [] w1 _).trans (Chg.setCells w1.heap.size (bts bs) 0 _) (by simp) (fun k hk hlt => by simp at hk; omega), by rw [size_setCells]; simp⟩
theorem ent_reads {w : World} {b : Nat} {t : TypeId} {e : Ent} {i : Nat} (h : Blk w b t (entV e i)) (hl : e.bs.length = 256) : Reads w (some ⟨b, 1, none⟩) (bts e.bs) := fun _ => ⟨b, 1, rfl, fun j v hv => h.cell (1 + j) v (entV_bs hl j v hv)⟩
theorem cget_err (z : Int) (w0 w : World) (R : Nat → Prop) (db : Nat) (g : DG) (fa : Option Addr) (cf : Nat) (st : RS) (cb mb : Nat) (la : Option Addr) (cl : Nat) (E L : List Ent) (most uses : Nat) (h : Pair w0 w R db g fa cf st cb mb la cl E L most uses) (hw : whyN st z ≠ 0) :
    Calls Try.prog 12 #[.pointer (some ⟨cb, 0, none⟩), .int .i64 z] w fun e w' => e = .returned (.tuple #[.slice none 0 0, .int .i64 (whyN st z)]) ∧ w = w' := by
  have e1 : (whyN st z != 0) = true := by simpa using hw
  have d := h.d
  have c0 := h.k.c0
  have hW := h.W
  go_enter Try.func12, Try.ntmps12
  go_wp2_with (first | (go_at_call 26; refine (casked_any cb db w0.heap.size g fa cf st w d c0 z hW).mono ?_; rintro e w' ⟨rfl, rfl⟩))
  go_ret2
  exact ⟨rfl, rfl⟩
theorem why_at {st : RS} {z : Int} (hW : Whole st) (hw : whyN st z = 0) : ∃ a : Nat, z = a ∧ a < st.count ∧ a < 1024 := by
  have hc := hW.2
  unfold whyN at hw
  split at hw
  · omega
  · split at hw
    · omega
    · exact ⟨z.toNat, by omega, by omega, by omega⟩
set_option maxRecDepth 20000 in
set_option maxHeartbeats 1000000 in
theorem cget_held (x : Ent) (w0 w : World) (R : Nat → Prop) (db : Nat) (g : DG) (fa : Option Addr) (cf : Nat) (st : RS) (cb mb : Nat) (la : Option Addr) (cl : Nat) (E L : List Ent) (most uses : Nat) (h : Pair w0 w R db g fa cf st cb mb la cl E L most uses) (hw : whyN st x.pl = 0) (hx : x ∈ L) (hu : uses < 9223372036854775807) :
    Calls Try.prog 12 #[.pointer (some ⟨cb, 0, none⟩), .int .i64 (x.pl : Int)] w fun e w' => ∃ rb E', e = .returned (.tuple #[.slice (some ⟨rb, 0, none⟩) 256 256, .int .i64 0]) ∧ Pair w0 w' (fun k => R k ∨ k = rb) db g fa cf st cb mb la cl E' (used L x (uses + 1)) most (uses + 1) ∧ Room w' w.heap.size (some ⟨rb, 0, none⟩) 256 256 (bts x.bs) ∧ Off R w w' := by
  have d := h.d
  have c0 := h.k.c0
  have c2 := h.k.c2
  have hW := h.W
  obtain ⟨D, hD⟩ := h.k.hd
  have hpl := h.k.pl x hx
  have hxE := h.k.pm.mem_iff.2 hx
  have hxl := (h.k.mem hx).2
  have Hw := mkHid hw
  have cU := cuse_L w0.heap.size cb mb la cl E L most uses db w h.k x hx hu
  have hmk : ∀ u : World, (Instr.makeSlice 31 (.int .i64 256) (.int .i64 256)).run Try.prog u = .ok (.slice (some ⟨u.heap.size, 0, none⟩) 256 256) (u.alloc (.cells (madeCells #[.int .u8 0] 256) 5)) := hmk 256 (by decide)
  clear hw
  go_enter Try.func12, Try.ntmps12
  go_wp2_with (first
    | (go_at_call 26; refine (casked_any cb db w0.heap.size g fa cf st w d c0 _ hW).mono ?_; rw [Hw.out]; rintro e w' ⟨rfl, rfl⟩)
    | (at_lookup; refine wpList_lookup_held w rfl (.tmp 22) (.tmp 23) rfl hD rfl hxE hpl rfl ?_)
    | (go_at_call 28; refine cU.mono ?_; rintro e w1 ⟨rfl, E1, k1, g1, l1⟩; obtain ⟨i1, b1⟩ := k1.blk (x := x.now (uses + 1)) (List.mem_append_right _ (by simp)); have rd1 := ent_reads b1 hxl)
    | (refine wpList_copy_k rfl (.tmp 60) (.tmp 64) 31 31 5 rfl Try.underlying31 oneB w1.heap.size 0 256 256 (some ⟨x.b, 1, none⟩) 256 256 (bts x.bs) rfl rfl (rd1.keep (Chg.alloc [] w1 _)) (by rw [bts_length]; exact hxl) ((made_room w1 5 (.int .u8 0) 256 (by decide)).there 0 _ (by rw [bts_length, hxl]; omega)) (bts_one _) ?_))
  go_ret2
  obtain ⟨q1, q2, q3⟩ := own_copy w1 x.bs hxl
  have gg : Chg (CF cb mb la cl E ++ DF db g fa cf) w w1 := g1.mono (fun k hk _ => List.mem_append_left _ hk)
  have p1 : Pair w0 w1 R db g fa cf st cb mb la cl E1 (used L x (uses + 1)) most (uses + 1) := h.go (d.chg g1 (fun k hk hm => h.x k hm hk)) k1 (fun e he => by
    unfold used at he
    rw [List.mem_append, List.mem_filter, List.mem_singleton] at he
    rcases he with ⟨he, _⟩ | rfl
    · exact h.u e he
    · exact Nat.succ_pos _) gg hW (fun k hk => h.x k (l1 k hk)) (fun k hk => Or.inl (l1 k hk)) (fun k hk => Or.inl hk)
  exact ⟨w1.heap.size, E1, rfl, p1.add q2 (fun k hk => hk.imp id (fun e => by rw [e]; exact ⟨Nat.le_refl _, q3⟩)), q1.mono g1.size, (h.off gg).trans (Off.keep q2)⟩
end Go.Proofs.Ytdmhcbbakgljoaa
