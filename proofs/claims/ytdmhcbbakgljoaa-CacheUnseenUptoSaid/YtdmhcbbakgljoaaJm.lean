/- The cache beside its disk: a use, and room for a block, as chapter 5 has them. -/
import Derived.Test.YtdmhcbbakgljoaaJl
namespace Go.Proofs.Ytdmhcbbakgljoaa
open Go.RowKit Go.Maps
set_option linter.unusedVariables false
set_option linter.unusedSimpArgs false
attribute [local go_sem ↓] Go.wp_at_zero Go.wp_at_succ

section
variable (B cb mb : Nat) (la : Option Addr) (cl : Nat) (E L : List Ent) (most uses db : Nat) (w : World) (h : CacheAt w B cb mb la cl E L most uses db)
include h
theorem cuse_L (x : Ent) (hx : x ∈ L) (hu : uses < 9223372036854775807) :
    Calls Try.prog 28 #[.pointer (some ⟨cb, 0, none⟩), .pointer (some ⟨x.b, 0, none⟩)] w fun e w' => e = .returned (.tuple #[]) ∧ ∃ E', CacheAt w' B cb mb la cl E' (used L x (uses + 1)) most (uses + 1) db ∧ Chg (CF cb mb la cl E) w w' ∧ ∀ k, k ∈ CF cb mb la cl E' → k ∈ CF cb mb la cl E := by
  obtain ⟨i, hi, e⟩ := h.spot hx
  have c := cuse_any i B cb mb la cl E L most uses db w h hi hu
  rw [e] at c
  refine c.mono ?_
  rintro e w' ⟨he, E', k, g⟩
  refine ⟨he, E', k, g.mono (fun k hk _ => by simp [CF, hk]), fun q hq => ?_⟩
  simp only [CF, LF, List.mem_cons, List.mem_append, List.mem_map] at hq ⊢
  rcases hq with hq | hq | hq | ⟨y, hy, rfl⟩
  · exact Or.inl hq
  · exact Or.inr (Or.inl hq)
  · exact Or.inr (Or.inr (Or.inl hq))
  · refine Or.inr (Or.inr (Or.inr ?_))
    have hy2 := k.pm.mem_iff.1 hy
    unfold used at hy2
    rw [List.mem_append, List.mem_filter, List.mem_singleton] at hy2
    rcases hy2 with ⟨h9, _⟩ | rfl
    · exact ⟨y, h.pm.mem_iff.2 h9, rfl⟩
    · exact ⟨x, h.pm.mem_iff.2 hx, rfl⟩
end
/-- Room for a block, and the block, without its bytes yet. -/
theorem ctaken_any (B cb mb : Nat) (la : Option Addr) (cl : Nat) (E L : List Ent) (most uses db : Nat) (w : World) (h : CacheAt w B cb mb la cl E L most uses db)
    (g : DG) (fa : Option Addr) (cf : Nat) (st : RS) (hDv : DevAt w B db g fa cf st) (hW : Whole st) (hB : B ≤ w.heap.size) (hLb : st.L.length ≤ 1000000000) (hx : ∀ k, k ∈ CF cb mb la cl E → k ∉ DF db g fa cf)
    (pl : Nat) (hpl : pl < 1024) (hn : ∀ e ∈ L, e.pl ≠ pl) (hu : ∀ e ∈ L, 0 < e.used) :
    Calls Try.prog 27 #[.pointer (some ⟨cb, 0, none⟩), .int .i64 (pl : Int)] w fun e w' => ∃ v fa' cf' la' cl' E', e = .returned (.tuple #[v, .int .i64 (kroom most (L.map absE) st).1]) ∧ DevAt w' B db g fa' cf' (kroom most (L.map absE) st).2.2 ∧ Later w fa cf fa' cf' ∧ Chg (CF cb mb la cl E ++ DF db g fa cf) w w' ∧ (∀ k, k ∈ CF cb mb la' cl' E' → k ∈ CF cb mb la cl E ∨ w.heap.size ≤ k) ∧ (∀ k, k ∈ CF cb mb la' cl' E' → k ∉ DF db g fa' cf') ∧
      ((kroom most (L.map absE) st).1 ≠ 0 → CacheAt w' B cb mb la' cl' E' L most uses db ∧ (kroom most (L.map absE) st).2.1 = L.map absE) ∧
      ((kroom most (L.map absE) st).1 = 0 → ∃ nb L1, v = .pointer (some ⟨nb, 0, none⟩) ∧ w.heap.size ≤ nb ∧ CacheAt w' B cb mb la' cl' E' (fresh nb pl :: L1) most uses db ∧ L1.map absE = (kroom most (L.map absE) st).2.1 ∧ ∀ e ∈ L1, e ∈ L) := by
  by_cases hlt : L.length < most
  · rw [kroom_room (by simpa using hlt)]
    refine (ctaken_room B cb mb la cl E L most uses db w h pl hpl hn hu hB hlt).mono ?_
    rintro e w' ⟨nb, la', cl', E', he, hnb, k, gk, lk⟩
    refine ⟨_, fa, cf, la', cl', E', he, hDv.chg gk (fun q hq hm => hx q hm hq), fun q hq => Or.inl hq, gk.mono (fun q hq _ => List.mem_append_left _ hq), lk, fun q hq hm => ?_, fun h9 => absurd rfl h9, fun _ => ⟨nb, L, rfl, hnb, k, rfl, fun e he => he⟩⟩
    rcases lk q hq with h9 | h9
    · exact hx q h9 hm
    · have := (hDv.lt q hm).2; omega
  · have hle := h.le
    have hmo := h.mo
    cases L with
    | nil => simp at hlt; omega
    | cons x T =>
      have hf : (x :: T).length = most := by omega
      have hkw : ∀ st, kwrote (absE x) st = wrote x st := fun st => rfl
      have c := ctaken_full B cb mb la cl E most uses db w x T h g fa cf st hDv hW hB hLb hx pl hpl (fun e he => hn e (List.mem_cons_of_mem _ he)) hu hf
      by_cases hv : (wrote x st).1 = 0
      · rw [List.map_cons, kroom_ok (by simp at hf ⊢; omega) (by rw [hkw]; exact hv), hkw]
        refine c.mono ?_
        rintro e w' ⟨v, fa', cf', la', cl', E', he, d, l, gg, lk, xk, k0, k1⟩
        rw [hv] at he
        obtain ⟨nb, hv2, hnb, k⟩ := k1 hv
        exact ⟨v, fa', cf', la', cl', E', he, d, l, gg, lk, xk, fun h9 => absurd rfl h9, fun _ => ⟨nb, T, hv2, hnb, k, rfl, fun e he => List.mem_cons_of_mem _ he⟩⟩
      · rw [List.map_cons, kroom_no (by simp at hf ⊢; omega) (by rw [hkw]; exact hv), hkw]
        refine c.mono ?_
        rintro e w' ⟨v, fa', cf', la', cl', E', he, d, l, gg, lk, xk, k0, k1⟩
        exact ⟨v, fa', cf', la', cl', E', he, d, l, gg, lk, xk, fun h9 => ⟨k0 h9, rfl⟩, fun h9 => absurd h9 hv⟩
/-- The bytes of a block are written. -/
theorem CacheAt.bytes {w : World} {B cb mb : Nat} {la : Option Addr} {cl : Nat} {E L : List Ent} {most uses db : Nat} (h : CacheAt w B cb mb la cl E L most uses db) {x : Ent} (hx : x ∈ L) (bs : List UInt8) (hl : bs.length = 256) :
    ∃ E', CacheAt (w.setCells x.b 1 (bts bs)) B cb mb la cl E' (updL L ⟨x.b, x.pl, bs, x.dirty, x.used⟩) most uses db ∧ ∀ k, k ∈ CF cb mb la cl E' → k ∈ CF cb mb la cl E := by
  obtain ⟨i, hi, e⟩ := h.spot hx
  have hbl := (h.mem hx).2
  have hb := h.ln.e i hi
  rw [e] at hb
  have h1 := Blk.sets (bts bs) 1 w _ hb (by rw [bts_length, hl, entV_len hbl]; omega)
  have h2 : (entV x i).take 1 ++ (bts bs ++ (entV x i).drop (1 + (bts bs).length)) = entV ⟨x.b, x.pl, bs, x.dirty, x.used⟩ i := by
    unfold entV
    rw [bts_length, hl, show 1 + 256 = 256 + 1 from rfl, List.drop_succ_cons, List.drop_left' (by rw [bts_length, hbl])]
    rfl
  rw [h2] at h1
  refine ⟨_, h.upd hi (x := ⟨x.b, x.pl, bs, x.dirty, x.used⟩) (by rw [e]) (by rw [e]) (by rw [e]) hl (by rw [e]; exact Chg.setCells x.b _ 1 w) (by rw [e]; exact h1), fun k hk => ?_⟩
  simp only [CF, List.mem_cons] at hk ⊢
  exact hk.imp id (LF_alike (by rw [set_alike hi Ent.b (by rw [e])]) k)
/-- A block is dirty from now on. -/
theorem CacheAt.dirties {w : World} {B cb mb : Nat} {la : Option Addr} {cl : Nat} {E L : List Ent} {most uses db : Nat} (h : CacheAt w B cb mb la cl E L most uses db) {x : Ent} (hx : x ∈ L) (t : Bool) :
    ∃ E', CacheAt (w.setCell ⟨x.b, 257, none⟩ (.bool t)) B cb mb la cl E' (updL L ⟨x.b, x.pl, x.bs, t, x.used⟩) most uses db ∧ ∀ k, k ∈ CF cb mb la cl E' → k ∈ CF cb mb la cl E := by
  obtain ⟨i, hi, e⟩ := h.spot hx
  have hbl := (h.mem hx).2
  have hb := h.ln.e i hi
  rw [e] at hb
  have h1 := hb.set1 257 (.bool t)
  rw [entV_setDirty hbl] at h1
  refine ⟨_, h.upd hi (x := ⟨x.b, x.pl, x.bs, t, x.used⟩) (by rw [e]) (by rw [e]) (by rw [e]) hbl (by rw [e]; exact Chg.setCell w ⟨x.b, 257, none⟩ _) (by rw [e]; exact h1), fun k hk => ?_⟩
  simp only [CF, List.mem_cons] at hk ⊢
  exact hk.imp id (LF_alike (by rw [set_alike hi Ent.b (by rw [e])]) k)
theorem CacheAt.blk {w : World} {B cb mb : Nat} {la : Option Addr} {cl : Nat} {E L : List Ent} {most uses db : Nat} (h : CacheAt w B cb mb la cl E L most uses db) {x : Ent} (hx : x ∈ L) : ∃ i : Nat, Blk w x.b 68 (entV x i) := by
  obtain ⟨i, hi, e⟩ := h.spot hx
  have hb := h.ln.e i hi
  rw [e] at hb
  exact ⟨i, hb⟩
theorem updL_mem {L : List Ent} {x y : Ent} (hx : x ∈ L) (hb : y.b = x.b) : y ∈ updL L y := by
  unfold updL
  exact List.mem_map.2 ⟨x, hx, by rw [if_pos hb.symm]⟩
theorem updL_used {L : List Ent} {x y : Ent} (u : Nat) (hb : y.b = x.b) : (used (updL L y) y u).map absE = (L.filter (fun e => e.b != x.b)).map absE ++ [absE y] := by
  unfold used updL
  rw [List.map_append, List.filter_map]
  congr 1
  induction L with
  | nil => rfl
  | cons e L ih =>
    have hc : ((fun e => e.b != y.b) ∘ fun e => if e.b = y.b then y else e) e = (e.b != x.b) := by
      show ((if e.b = y.b then y else e).b != y.b) = (e.b != x.b)
      by_cases h : e.b = y.b
      · rw [if_pos h, h, hb]
      · rw [if_neg h, hb]
    rw [List.filter_cons, List.filter_cons, hc]
    split
    · rename_i h
      rw [List.map_cons, List.map_cons, List.map_cons, ih, if_neg (by rw [hb]; simpa using h)]
    · exact ih
end Go.Proofs.Ytdmhcbbakgljoaa
