/- Texts Tu, Tv, Tw, Tza, Tzb of the library, joined. -/
import Derived.Test.YtdgkbicelnnfpaaGreatDoorM31
/- Lookup. -/
namespace Go.Proofs.YtdgkbicelnnfpaaGreatDoor
set_option maxRecDepth 200000
open Go.RowKit
set_option linter.unusedVariables false
set_option linter.unusedSimpArgs false
attribute [local go_sem ↓] Go.wp_at_zero Go.wp_at_succ

def Nd.at_ (m : Nd) (key : Nat) : Nat × Bool := if m.is key = true then (m.V.getD (m.find key) 0, true) else (0, false)
def lookL (X : Nat → Option Nd) (key : Nat) : Nat → Nat → Option (Nat × Bool)
  | 0, _ => none
  | f + 1, a => match X a with
    | none => none
    | some m => if m.lf = true then some (m.at_ key) else match m.V[m.child key]? with
      | none => none
      | some v => lookL X key f v
def lookA (X : Nat → Option Nd) (root key : Nat) : Option (Nat × Bool) := if root = 0 then some (0, false) else lookL X key 12 root
section
variable {w0 w : World} {tag : Nat → Nat} {sb rb n : Nat} {N C : List UInt8} {X : Nat → Option Nd} {u : Nat}
theorem found_any (h : HasX w0 w tag sb rb n N C X u) (q : CN) (hq : NdAt w tag q) (key : Nat) (v : Nat) (b : Bool) (hv : q.nd.at_ key = (v, b)) : Calls Tryz.prog 64 #[q.val, .int .u64 (key : Int)] w fun e w' => e = .returned (.tuple #[.int .u64 (v : Int), .bool b, .int .i64 0]) ∧ Chg [] w w' := by
  obtain ⟨fi, hfi⟩ : ∃ fi, q.nd.find key = fi := ⟨_, rfl⟩
  obtain ⟨is, his⟩ : ∃ is, q.nd.is key = is := ⟨_, rfl⟩
  have HIS : Hid (is = true → fi < q.V.length) := mkHid fun e => by
    have := is_lt (his.trans e)
    rw [hfi] at this
    exact this.2.1
  unfold Nd.at_ at hv
  rw [hfi, his] at hv
  have h0 := h.keep (Chg.alloc [] w (.cells #[.bool q.lf, .slice q.ka q.K.length q.kc, .slice q.va q.V.length q.vc] 53))
  have n0 := hq.keep (Chg.alloc [] w (.cells #[.bool q.lf, .slice q.ka q.K.length q.kc, .slice q.va q.V.length q.vc] 53))
  have cF := kfindN h0 q n0 key
  rw [hfi, his] at cF
  obtain ⟨l0, l1, l2⟩ := laid3 w (.bool q.lf) (.slice q.ka q.K.length q.kc) (.slice q.va q.V.length q.vc) 53
  have g0 := Chg.alloc [] w (.cells #[.bool q.lf, .slice q.ka q.K.length q.kc, .slice q.va q.V.length q.vc] 53)
  have HF := mkHid (And.intro hfi his)
  clear hfi his
  obtain ⟨lf, ka, kc, va, vc, K, V⟩ := q
  unfold CN.val at cF ⊢
  dsimp only at *
  cases is with
  | false =>
    rw [if_neg (by simp)] at hv
    cases hv
    go_enter Tryz.func64, Tryz.ntmps64
    go_wp2_with fail
    generalize (w.alloc (.cells #[.bool lf, .slice ka K.length kc, .slice va V.length vc] 53)) = w1 at *
    refine cF.mono ?_
    rintro e w2 ⟨rfl, g2⟩
    go_wp2_with fail
    refine bodyPost_ret (v := .tuple #[.int .u64 0, .bool false, .int .i64 0]) (by simp [results, Tryz.results64, go_sem]) rfl ?_
    exact ⟨rfl, g0.then g2⟩
  | true =>
    rw [if_pos rfl] at hv
    have hlt := HIS.out rfl
    have hget : V[fi]? = some V[fi] := List.getElem?_eq_getElem hlt
    have hvv : V[fi] = v := by
      have := congrArg Prod.fst hv
      dsimp only [CN.nd] at this
      rw [List.getD_eq_getElem?_getD, hget] at this
      exact this
    have hbb : true = b := congrArg Prod.snd hv
    subst hbb
    rw [hvv] at hget
    obtain ⟨vb, vo, rfl, hcell⟩ := n0.rd.rv (by simp only [uvs_len]; omega)
    have hx1 := hcell fi _ (uvs_get hget)
    have hcv : V.length ≤ vc := n0.rd.cv
    clear hcell hget hvv hv
    go_enter Tryz.func64, Tryz.ntmps64
    go_wp2_with fail
    generalize (w.alloc (.cells #[.bool lf, .slice ka K.length kc, .slice (some ⟨vb, vo, none⟩) V.length vc] 53)) = w1 at *
    refine cF.mono ?_
    rintro e w2 ⟨rfl, g2⟩
    have hx2 := g2.cellv hx1 (by simp)
    have m2 := g2.cellv l2 (by simp)
    go_wp2_with fail
    refine bodyPost_ret (v := .tuple #[.int .u64 (v : Int), .bool true, .int .i64 0]) (by simp [results, Tryz.results64, go_sem]) rfl ?_
    exact ⟨rfl, g0.then g2⟩
def LookOut (w0 w : World) (tag : Nat → Nat) (sb rb n : Nat) (N C : List UInt8) (X : Nat → Option Nd) (u v : Nat) (b : Bool) (e : Ending) (w' : World) : Prop :=
  e = .returned (.tuple #[.int .u64 (v : Int), .bool b, .int .i64 0]) ∧ ∃ (tag' : Nat → Nat), HasX w0 w' tag' sb rb n N C X u ∧ Mv tag tag' w w'
set_option maxHeartbeats 1000000 in
theorem lookup_any (hT : Tab w0) (h : HasX w0 w tag sb rb n N C X u) (root key : Nat) (hu : u ≤ 80000000) (v : Nat) (b : Bool) (hr : lookA X root key = some (v, b)) :
    Calls Tryz.prog 26 #[.pointer (some ⟨sb, 0, none⟩), .int .u64 (root : Int), .int .u64 (key : Int)] w (LookOut w0 w tag sb rb n N C X (u + 12) v b) := by
  have cM := made_x h
  unfold lookA at hr
  by_cases hr0 : root = 0
  · rw [if_pos hr0] at hr
    have dr : ((root : Int) == 0) = true := by simpa using hr0
    clear hr0
    cases hr
    go_enter Tryz.func26, Tryz.ntmps26
    go_wp2_with (first | (go_at_call 53; refine cM.mono ?_; rintro e w' ⟨rfl, rfl⟩))
    refine bodyPost_ret (v := .tuple #[.int .u64 0, .bool false, .int .i64 0]) (by simp [results, Tryz.results26, go_sem]) rfl ?_
    exact ⟨rfl, tag, h.mono (by omega), Mv.made (Chg.refl [] w) h.hi⟩
  · rw [if_neg hr0] at hr
    have dr : ((root : Int) == 0) = false := by simpa using hr0
    have HT := mkHid hT
    have HR := mkHid hr
    have HH := mkHid h
    clear hT hr h
    go_enter Tryz.func26, Tryz.ntmps26
    go_wp2_with (first | (go_at_call 53; refine cM.mono ?_; rintro e w' ⟨rfl, rfl⟩))
    go_loopw [9, 10, 11, 18] (fun at9 _ _ ix wr => ∃ (t a : Nat) (tg : Nat → Nat), ix = .int .i64 t ∧ at9 = .int .u64 a ∧ t ≤ 12 ∧ HasX w0 wr tg sb rb n N C X (u + t) ∧ Mv tag tg w wr ∧ lookL X key (12 - t) a = some (v, b)) (fun _ _ _ ix _ => 12 - natAt ix)
    case atStart => exact ⟨0, root, tag, rfl, rfl, by omega, HH.out, Mv.made (Chg.refl [] w) HH.out.hi, HR.out⟩
    case round =>
      obtain ⟨t, a, tg, rfl, rfl, ht, hX, hM, hl⟩ := hrel
      by_cases hlt : t < 12
      · obtain ⟨f, hf⟩ : ∃ f, 12 - t = f + 1 := ⟨11 - t, by omega⟩
        rw [hf] at hl
        unfold lookL at hl
        have dlt : decide ((t : Int) < 12) = true := decide_eq_true (by omega)
        cases hXa : X a with
        | none => rw [hXa] at hl; cases hl
        | some m =>
        rw [hXa] at hl
        dsimp only at hl
        have cL := load_x HT.out hX a m hXa (by omega)
        have hgood := (hX.lt hXa).2
        have HF := mkHid hf
        clear hf hXa
        go_wp2_with fail
        refine cL.mono ?_
        rintro e w2 ⟨q, rfl, hqm, tg2, h2, m2, n2⟩
        subst hqm
        have M2 := hM.trans m2
        have gx := Chg.alloc [] w2 (.cells #[.bool q.lf, .slice q.ka q.K.length q.kc, .slice q.va q.V.length q.vc] 53)
        obtain ⟨l0, l1, l2⟩ := laid3 w2 (.bool q.lf) (.slice q.ka q.K.length q.kc) (.slice q.va q.V.length q.vc) 53
        have h3 := h2.keep gx
        have M3 := M2.then gx
        have n3 := n2.keep gx
        unfold CN.val
        obtain ⟨lf, ka, kc, va, vc, K, V⟩ := q
        dsimp only at *
        clear h2 m2 M2 n2 gx hX hM cL cM
        cases lf with
        | true =>
          rw [show (CN.nd ⟨true, ka, kc, va, vc, K, V⟩).lf = true from rfl, if_pos rfl] at hl
          have hl : (CN.nd ⟨true, ka, kc, va, vc, K, V⟩).at_ key = (v, b) := by simpa using hl
          have cF := found_any h3 ⟨true, ka, kc, va, vc, K, V⟩ n3 key v b hl
          unfold CN.val at cF
          try dsimp only at cF
          have H3 := mkHid (And.intro h3 M3)
          clear h3 M3 n3
          go_wp2_with fail
          generalize (w2.alloc (.cells #[.bool true, .slice ka K.length kc, .slice va V.length vc] 53)) = w3 at *
          refine cF.mono ?_
          rintro e w4 ⟨rfl, g4⟩
          go_wp2_with fail
          refine bodyPost_ret (v := .tuple #[.int .u64 (v : Int), .bool b, .int .i64 0]) (by simp [results, Tryz.results26, go_sem]) rfl ?_
          exact ⟨rfl, tg2, (H3.out.1.keep g4).mono (by omega), H3.out.2.then g4⟩
        | false =>
          rw [show (CN.nd ⟨false, ka, kc, va, vc, K, V⟩).lf = false from rfl, if_neg (by simp)] at hl
          obtain ⟨pl, hpl⟩ : ∃ pl, (CN.nd ⟨false, ka, kc, va, vc, K, V⟩).child key = pl := ⟨_, rfl⟩
          rw [hpl, show (CN.nd ⟨false, ka, kc, va, vc, K, V⟩).V = V from rfl] at hl
          cases hv : V[pl]? with
          | none => rw [hv] at hl; cases hl
          | some c =>
          rw [hv] at hl
          dsimp only at hl
          obtain ⟨vb, vo, rfl, hcell⟩ := n3.rd.rv (by have := (List.getElem?_eq_some_iff.1 hv).1; simp only [uvs_len]; omega)
          have hx1 := hcell pl _ (uvs_get hv)
          have hcv : V.length ≤ vc := n3.rd.cv
          have hpV : pl < V.length := (List.getElem?_eq_some_iff.1 hv).1
          have cC := fun (w9 : World) (g9 : Chg [] _ w9) => kchildN (h3.keep g9) ⟨false, ka, kc, some ⟨vb, vo, none⟩, vc, K, V⟩ (n3.keep g9) key
          have H3 := mkHid (And.intro h3 (And.intro M3 hl))
          unfold CN.val at cC
          try dsimp only at cC
          simp only [hpl] at cC
          clear h3 M3 n3 hl hcell hv hpl
          go_wp2_with fail
          generalize (w2.alloc (.cells #[.bool false, .slice ka K.length kc, .slice (some ⟨vb, vo, none⟩) V.length vc] 53)) = w3 at *
          have HC := mkHid cC
          have HX1 := mkHid (And.intro hx1 l2)
          clear cC
          go_region_law (first
            | (go_simp; go_at_call 65; refine (HC.out _ (by first | exact Chg.drew [] w3 | exact Chg.refl [] w3)).mono ?_; rintro e w5 ⟨rfl, g5⟩; have hx5 := g5.cellv ((Chg.drew [] w3).cellv HX1.out.1 (by simp)) (by simp); have l25 := g5.cellv ((Chg.drew [] w3).cellv HX1.out.2 (by simp)) (by simp)))
          all_goals
            obtain ⟨h3, M3, hl⟩ := H3.out
            have g35 := (Chg.drew [] w3).then g5
            go_wp2_with fail
            go_roundw
            case rel => exact ⟨t + 1, c, tg2, by go_num, rfl, by omega, h3.keep g35, M3.then g35, by rw [show 12 - (t + 1) = f by have := HF.out; omega]; exact hl⟩
            case measure => simp [natAt]; omega
      · exfalso
        rw [show 12 - t = 0 by omega] at hl
        simp [lookL] at hl
end
end Go.Proofs.YtdgkbicelnnfpaaGreatDoor

/- New; the law's bench. -/
namespace Go.Proofs.YtdgkbicelnnfpaaGreatDoor
set_option maxRecDepth 200000
open Go.RowKit
set_option linter.unusedVariables false
set_option linter.unusedSimpArgs false
attribute [local go_sem ↓] Go.wp_at_zero Go.wp_at_succ

theorem tnew_yes (r c : Nat) (w : World) : Calls Tryz.prog 32 #[.pointer (some ⟨r, 0, none⟩), .pointer (some ⟨c, 0, none⟩)] w fun e w' => e = .returned (.pointer (some ⟨w.heap.size, 0, none⟩)) ∧ w' = w.alloc (.cells #[.pointer (some ⟨r, 0, none⟩), .pointer (some ⟨c, 0, none⟩)] 118) := by
  go_enter Tryz.func32, Tryz.ntmps32
  go_wp2
  go_ret
  exact ⟨rfl, rfl⟩
def cnt0 (n : Nat) : List UInt8 := ((List.replicate n 0).set 0 1).set 1 1
theorem cnt0_len (n : Nat) : (cnt0 n).length = n := by simp [cnt0]
def MadeOut (w : World) (ps : List Nat) (n : Nat) (e : Ending) (w' : World) : Prop :=
  ∃ xb sb rb, e = .returned (.pointer (some ⟨xb, 0, none⟩)) ∧ w'.cell? ⟨xb, 0, none⟩ = some (.pointer (some ⟨rb, 0, none⟩)) ∧ w'.cell? ⟨xb, 1, none⟩ = some (.pointer (some ⟨sb, 0, none⟩)) ∧ w.heap.size ≤ xb ∧ ∃ (tag : Nat → Nat), tag xb = 4 ∧ (∀ k, k ∈ ps → k < w.heap.size → tag k = 5) ∧ HasX w w' tag sb rb n (cnt0 n) (cnt0 n) (fun _ => none) 0
theorem has_new {w w' : World} (ps : List Nat) {n m db : Nat} {g : DG} {cb mb rb nb c2 sp sb : Nat} {Fs : List Nat} (hn : 1 ≤ n ∧ n ≤ 1024) (hm : 1 ≤ m) (hp : Pair w w' (fun k => k ∈ rb :: nb :: c2 :: Fs) db g none 0 (RS.new n) cb mb none 0 [] [] m 0) (hr : RfsAt w' w.heap.size rb nb c2 sp Fs n (cnt0 n) (cnt0 n)) (hs0 : w'.cell? ⟨sb, 0, none⟩ = some (.pointer (some ⟨rb, 0, none⟩))) (hs1 : w'.cell? ⟨sb, 1, none⟩ = some (.pointer (some ⟨cb, 0, none⟩)))
    (hsb : w.heap.size ≤ sb) (h1 : sb ∉ rb :: nb :: c2 :: Fs) (h2 : sb ∉ CF cb mb none 0 []) (h3 : sb ∉ DF db g none 0) {xb : Nat} (hxb : w.heap.size ≤ xb) (x1 : xb ∉ rb :: nb :: c2 :: Fs) (x2 : xb ∉ CF cb mb none 0 []) (x3 : xb ∉ DF db g none 0) (x4 : xb ≠ sb) :
    ∃ (tag : Nat → Nat), tag xb = 4 ∧ (∀ k, k ∈ ps → k < w.heap.size → tag k = 5) ∧ HasX w w' tag sb rb n (cnt0 n) (cnt0 n) (fun _ => none) 0 := by
  have hsl : sb < w'.heap.size := block_lt_of_cell hs0
  refine ⟨fun k => if k < w.heap.size then (if k ∈ ps then 5 else 0) else if k ∈ rb :: nb :: c2 :: Fs then 1 else if k ∈ CF cb mb none 0 [] ++ DF db g none 0 then 2 else if k = sb then 3 else 4, ?_, fun k hk hlt => (if_pos hlt).trans (if_pos hk), fun a => reads (RS.new n) a 4, ⟨⟨nb, c2, sp, Fs, hr, fun k hk => ?_⟩, ⟨cb, ⟨db, g, none, 0, RS.new n, mb, none, 0, [], [], m, 0, ⟨hp.d, hp.k, hp.u, hp.c, hp.W, hp.x, fun k hk => ?_⟩, ⟨by simp, by simp, by simp, by simp, rfl, rfl, rfl⟩, hm, by simp, by simp, by simp [RS.new], fun a ha => ?_, fun a ha => ?_⟩, hs1⟩, hs0, ?_, ⟨fun k hk => ?_, fun k hk => ?_⟩⟩, fun a q hq => by cases hq⟩
  · dsimp only
    rw [if_neg (by omega), if_neg x1, if_neg (fun h => (List.mem_append.1 h).elim x2 x3), if_neg x4]
  · dsimp only
    rw [if_neg (by have := (hr.lt k hk).1; omega), if_pos hk]
  · obtain ⟨ha, hb⟩ := hk
    dsimp only at hb
    by_cases h9 : k < w.heap.size
    · exact ⟨fun hm => by have := (hp.k.lt k hm).1; omega, fun hm => by have := (hp.d.lt k hm).1; omega, ha⟩
    · rw [if_neg h9] at hb
      by_cases h8 : k ∈ rb :: nb :: c2 :: Fs
      · exact hp.r k h8
      · rw [if_neg h8] at hb
        by_cases h7 : k ∈ CF cb mb none 0 [] ++ DF db g none 0
        · rw [if_pos h7] at hb; exact absurd rfl hb
        · exact ⟨fun hm => h7 (List.mem_append_left _ hm), fun hm => h7 (List.mem_append_right _ hm), ha⟩
  · exact kval_none rfl
  · have hW := hp.W
    exact reads_len (RS.new n) a 4 (by have := hW.1; simp [RS.new] at this ⊢; omega) hp.d.lS (fun f hf => (hp.d.lL f hf).1)
  · first | rw [if_neg (by omega), if_neg h1, if_neg (fun h => (List.mem_append.1 h).elim h2 h3), if_pos rfl] | (dsimp only; rw [if_neg (by omega), if_neg h1, if_neg (fun h => (List.mem_append.1 h).elim h2 h3), if_pos rfl])
  · try dsimp only
    rw [if_pos hk]
    by_cases h9 : k ∈ ps
    · rw [if_pos h9]; exact Or.inr rfl
    · rw [if_neg h9]; exact Or.inl rfl
  · skip
    try dsimp only
    have hww := hp.c.size
    rw [if_neg (by omega), if_neg (fun hm => by have := (hr.lt k hm).2; omega), if_neg (fun hm => (List.mem_append.1 hm).elim (fun h => by have := (hp.k.lt k h).2; omega) (fun h => by have := (hp.d.lt k h).2; omega)), if_neg (by omega)]
theorem two_cells (w : World) (a b : Value) (e : TypeId) : (w.alloc (.cells #[a, b] e)).cell? ⟨w.heap.size, 0, none⟩ = some a ∧ (w.alloc (.cells #[a, b] e)).cell? ⟨w.heap.size, 1, none⟩ = some b := by
  have hcc := fun j => cell_of_row (w.alloc (.cells #[a, b] e)) w.heap.size j #[a, b] e (0, 0) (heap_alloc_last w (.cells #[a, b] e))
  exact ⟨by rw [hcc 0]; rfl, by rw [hcc 1]; rfl⟩
theorem made_out (ps : List Nat) {w w4 : World} {n m db : Nat} {g : DG} {cb mb rb nb c2 sp : Nat} {Fs : List Nat} (hn : 1 ≤ n ∧ n ≤ 1024) (hm : 1 ≤ m) (hp : Pair w w4 (fun k => k ∈ rb :: nb :: c2 :: Fs) db g none 0 (RS.new n) cb mb none 0 [] [] m 0) (hr : RfsAt w4 w.heap.size rb nb c2 sp Fs n (cnt0 n) (cnt0 n)) :
    MadeOut w ps n (.returned (.pointer (some ⟨w4.heap.size + 1, 0, none⟩))) ((w4.alloc (.cells #[.pointer (some ⟨rb, 0, none⟩), .pointer (some ⟨cb, 0, none⟩)] 118)).alloc (.cells #[.pointer (some ⟨rb, 0, none⟩), .pointer (some ⟨w4.heap.size, 0, none⟩)] 45)) := by
  have g5 := Chg.alloc [] w4 (.cells #[.pointer (some ⟨rb, 0, none⟩), .pointer (some ⟨cb, 0, none⟩)] 118)
  obtain ⟨s0, s1⟩ := two_cells w4 (.pointer (some ⟨rb, 0, none⟩)) (.pointer (some ⟨cb, 0, none⟩)) 118
  have z5 : (w4.alloc (.cells #[.pointer (some ⟨rb, 0, none⟩), .pointer (some ⟨cb, 0, none⟩)] 118)).heap.size = w4.heap.size + 1 := by simp
  generalize w4.alloc (.cells #[.pointer (some ⟨rb, 0, none⟩), .pointer (some ⟨cb, 0, none⟩)] 118) = w5 at *
  have g6 := Chg.alloc [] w5 (.cells #[.pointer (some ⟨rb, 0, none⟩), .pointer (some ⟨w4.heap.size, 0, none⟩)] 45)
  obtain ⟨x0, x1⟩ := two_cells w5 (.pointer (some ⟨rb, 0, none⟩)) (.pointer (some ⟨w4.heap.size, 0, none⟩)) 45
  have hsz := hp.c.size
  have hR : ∀ k, w4.heap.size ≤ k → k ∉ rb :: nb :: c2 :: Fs := fun k hk hm => by have := (hr.lt k hm).2; omega
  have hC : ∀ k, w4.heap.size ≤ k → k ∉ CF cb mb none 0 [] := fun k hk hm => by have := (hp.k.lt k hm).2; omega
  have hD : ∀ k, w4.heap.size ≤ k → k ∉ DF db g none 0 := fun k hk hm => by have := (hp.d.lt k hm).2; omega
  have g56 := g5.then g6
  rw [z5] at x0 x1
  exact ⟨w4.heap.size + 1, w4.heap.size, rb, rfl, x0, x1, by omega, has_new ps hn hm (hp.keep g56) (hr.keep g56) (g6.cellv s0 (by simp)) (g6.cellv s1 (by simp)) hsz (hR _ (Nat.le_refl _)) (hC _ (Nat.le_refl _)) (hD _ (Nat.le_refl _)) (by omega) (hR _ (by omega)) (hC _ (by omega)) (hD _ (by omega)) (by omega)⟩
set_option maxHeartbeats 1000000 in
theorem made_bench (ps : List Nat) (n m : Nat) (hn : 2 ≤ n ∧ n < 1000) (hm : 1 ≤ m ∧ m ≤ 1000) (w : World) : Calls Tryz.prog 9 #[.int .i64 (n : Int), .int .i64 (m : Int)] w (MadeOut w ps n) := by
  have cD := dnew_yes n (by omega) (by omega) w
  have hk := hmk n hn.2
  go_enter Tryz.func9, Tryz.ntmps9
  go_wp2_with fail
  refine cD.mono ?_
  rintro e w1 ⟨db, g, rfl, hd, g1⟩
  have hl : ((List.replicate n (Value.int .u8 0)).set 0 (.int .u8 1)).set 1 (.int .u8 1) = bts (cnt0 n) := by
    unfold cnt0
    rw [show (Value.int .u8 1) = .int .u8 (v8 1) from rfl, ← bts_rep, bts_set, bts_set]
  have hd0 : (0 : Int) < (n : Int) := by omega
  have hd1 : (1 : Int) < (n : Int) := by omega
  have hm2 : (((madeCells #[.int .u8 0] n).setIfInBounds 0 (.int .u8 1)).setIfInBounds 1 (.int .u8 1)).toList = bts (cnt0 n) := by
    rw [Array.toList_setIfInBounds, Array.toList_setIfInBounds, toList_madeCells_one, hl]
  have hrm := lit_room w1 w1.heap.size (Nat.le_refl _) _ 5 _ n hm2 (by rw [bts_length, cnt0_len]) (by unfold maxLen; omega)
  have G2 := Chg.alloc [] w1 (.cells (((madeCells #[.int .u8 0] n).setIfInBounds 0 (.int .u8 1)).setIfInBounds 1 (.int .u8 1)) 5)
  have cR := rnew_in (some ⟨w1.heap.size, 0, none⟩) n n (cnt0 n) _ hrm.reads (cnt0_len n) (by omega) (by omega)
  have hk1 := hk w1
  have hrz := made_room w1 5 (.int .u8 0) n (by unfold maxLen; omega)
  have f0 : (w1.alloc (.cells (madeCells #[.int .u8 0] n) 5)).frozen? ⟨w1.heap.size, 0, none⟩ = false := hrz.cell 0 (by omega)
  obtain ⟨bb, oo, eb, -, -, hcc⟩ := hrz.at_ (by omega)
  cases eb
  have c0 : (w1.alloc (.cells (madeCells #[.int .u8 0] n) 5)).cell? ⟨w1.heap.size, 0, none⟩ = some (.int .u8 0) := hcc 0 _ (by rw [List.getElem?_replicate, if_pos (by omega)])
  have hm1 : ((madeCells #[.int .u8 0] n).setIfInBounds 0 (.int .u8 1)).toList = (List.replicate n (Value.int .u8 0)).set 0 (.int .u8 1) := by
    rw [Array.toList_setIfInBounds, toList_madeCells_one]
  have hr1 := lit_room w1 w1.heap.size (Nat.le_refl _) _ 5 _ n hm1 (by simp) (by unfold maxLen; omega)
  have f1 : (w1.alloc (.cells ((madeCells #[.int .u8 0] n).setIfInBounds 0 (.int .u8 1)) 5)).frozen? ⟨w1.heap.size, 1, none⟩ = false := hr1.cell 1 (by omega)
  obtain ⟨bb, oo, eb, -, -, hcc1⟩ := hr1.at_ (by omega)
  cases eb
  have c1 : (w1.alloc (.cells ((madeCells #[.int .u8 0] n).setIfInBounds 0 (.int .u8 1)) 5)).cell? ⟨w1.heap.size, 1, none⟩ = some (.int .u8 0) := hcc1 1 _ (by rw [List.getElem?_set_ne (by omega), List.getElem?_replicate, if_pos (by omega)])
  clear hm1 hr1 hcc1
  clear hk hl hm2 hrm hrz hcc
  go_wp2_with fail
  clear c0 c1 f0 f1
  generalize w1.alloc (.cells (((madeCells #[.int .u8 0] n).setIfInBounds 0 (.int .u8 1)).setIfInBounds 1 (.int .u8 1)) 5) = w2 at *
  refine cR.mono ?_
  rintro e w3 ⟨rb, nb, c2, sp, Fs, rfl, hr, g3⟩
  have G3 := (g1.then G2).then g3
  have hd3 := (hd.keep G2).keep g3
  have cC := cnew_yes m (by omega) w w3 (fun k => k ∈ rb :: nb :: c2 :: Fs) db g none 0 (RS.new n) hd3 G3 (new_whole n (by omega)) (fun k hk => ⟨fun hm => by have := (hr.lt k hk).1; have h9 := ((hd.keep G2).lt k hm).2; omega, (hr.lt k hk).2⟩)
  clear hk1
  go_wp2_with fail
  refine cC.mono ?_
  rintro e w4 ⟨cb, mb, rfl, hp, g4⟩
  have hr4 := hr.chg g4 (by simp)
  go_wp2_with fail
  refine (tnew_yes rb cb w4).mono ?_
  rintro e w5 ⟨rfl, rfl⟩
  have ho := made_out ps (by omega) hm.1 hp (hr4.mono (g1.then G2).size)
  go_wp2_with fail
  go_ret
  exact ho
end Go.Proofs.YtdgkbicelnnfpaaGreatDoor

/- awake. -/
namespace Go.Proofs.YtdgkbicelnnfpaaGreatDoor
set_option maxRecDepth 200000
open Go.RowKit
set_option linter.unusedVariables false
set_option linter.unusedSimpArgs false
attribute [local go_sem ↓] Go.wp_at_zero Go.wp_at_succ

def okI (r : Out (List UInt8 × (Nat → Option Nd) × Nat × Nat × Bool)) : List UInt8 × (Nat → Option Nd) × Nat × Nat × Bool := match r with | .ok r => r | _ => ([], fun _ => none, 0, 0, false)
def isI (r : Out (List UInt8 × (Nat → Option Nd) × Nat × Nat × Bool)) (t o : Nat) (h : Bool) : Bool := match r with | .ok r => r.2.2.1 == t && r.2.2.2.1 == o && r.2.2.2.2 == h | _ => false
theorem isI_ok {r : Out (List UInt8 × (Nat → Option Nd) × Nat × Nat × Bool)} {t o : Nat} {h : Bool} (e : isI r t o h = true) : r = .ok ((okI r).1, (okI r).2.1, t, o, h) := by
  match r, e with
  | .ok (a, b, c, d, f), e =>
    simp only [isI, Bool.and_eq_true, beq_iff_eq] at e
    obtain ⟨⟨rfl, rfl⟩, rfl⟩ := e
    rfl
  | .stuck, e => cases e
  | .full, e => cases e
def aw0 : Out (List UInt8 × (Nat → Option Nd) × Nat × Nat × Bool) := insertA (cnt0 40) (cnt0 40) (fun _ => none) 0 5 1
def awN1 : List UInt8 := (okI aw0).1
def awN2 : List UInt8 := (incN awN1 2).2
def awN3 : List UInt8 := (incN awN2 1).2
def aw3 : Out (List UInt8 × (Nat → Option Nd) × Nat × Nat × Bool) := insertA awN3 (cnt0 40) (okI aw0).2.1 2 5 1
theorem aw0_ok : isI aw0 2 0 false = true := by decide +kernel
theorem aw1_ok : (incN awN1 2).1 = 0 := by decide +kernel
theorem aw2_ok : (incN awN2 1).1 = 0 := by decide +kernel
theorem aw3_ok : isI aw3 3 1 true = true := by decide +kernel
theorem aw4_ok : lookA (okI aw3).2.1 2 5 = some (1, true) := by decide +kernel
theorem aw5_ok : lookA (okI aw3).2.1 3 6 = some (0, false) := by decide +kernel
set_option maxHeartbeats 2000000 in
theorem awake_yes {w : World} (hT : Tab w) : Calls Tryz.prog 8 #[] w fun e w' => e = .returned (.bool true) ∧ Chg [] w w' := by
  have cM : Calls Tryz.prog 9 #[.int .i64 40, .int .i64 4] w (MadeOut w [] 40) := made_bench [] 40 4 (by omega) (by omega) w
  go_enter Tryz.func8, Tryz.ntmps8
  go_wp2_with fail
  refine cM.mono ?_
  rintro e w1 ⟨xb, sb, rb, rfl, x0, x1, hxb, tag, t4, -, h1⟩
  have lx := block_lt_of_cell x0
  have c1 : Calls Tryz.prog 23 #[.pointer (some ⟨sb, 0, none⟩), .int .u64 0, .int .u64 5, .int .u64 1] w1 (InsOut w w1 tag sb rb 40 (cnt0 40) 4000 awN1 (okI aw0).2.1 2 0 false) := insert_ok hT h1 0 5 1 (by omega) (by omega) (by omega) (by omega) _ _ 2 0 false (isI_ok aw0_ok)
  clear cM
  go_wp2_with fail
  refine c1.mono ?_
  rintro e w2 ⟨he, tag2, h2, m2⟩
  have he : e = .returned (.tuple #[.int .u64 2, .int .u64 0, .bool false, .int .i64 0]) := he
  subst he
  have x0 := m2.cellv x0 (kt4 t4)
  have x1 := m2.cellv x1 (kt4 t4)
  have t4 := m2.four t4 lx
  have lx := block_lt_of_cell x0
  have c2 := x_inc h2 2 (0, awN2) (Prod.ext aw1_ok rfl)
  dsimp only at c2
  clear c1 m2
  go_wp2_with fail
  refine c2.mono ?_
  rintro e w3 ⟨rfl, tag3, h3, m3⟩
  have x0 := m3.cellv x0 (kt4 t4)
  have x1 := m3.cellv x1 (kt4 t4)
  have t4 := m3.four t4 lx
  have lx := block_lt_of_cell x0
  have c3 := x_inc h3 1 (0, awN3) (Prod.ext aw2_ok rfl)
  dsimp only at c3
  clear c2 m3
  go_wp2_with fail
  refine c3.mono ?_
  rintro e w4 ⟨rfl, tag4, h4, m4⟩
  have x0 := m4.cellv x0 (kt4 t4)
  have x1 := m4.cellv x1 (kt4 t4)
  have t4 := m4.four t4 lx
  have lx := block_lt_of_cell x0
  have c4 : Calls Tryz.prog 23 #[.pointer (some ⟨sb, 0, none⟩), .int .u64 2, .int .u64 5, .int .u64 1] w4 (InsOut w w4 tag4 sb rb 40 (cnt0 40) 8000 (okI aw3).1 (okI aw3).2.1 3 1 true) := insert_ok hT h4 2 5 1 (by omega) (by omega) (by omega) (by omega) _ _ 3 1 true (isI_ok aw3_ok)
  clear c3 m4
  go_wp2_with fail
  refine c4.mono ?_
  rintro e w5 ⟨he, tag5, h5, m5⟩
  have he : e = .returned (.tuple #[.int .u64 3, .int .u64 1, .bool true, .int .i64 0]) := he
  subst he
  have x0 := m5.cellv x0 (kt4 t4)
  have x1 := m5.cellv x1 (kt4 t4)
  have t4 := m5.four t4 lx
  have lx := block_lt_of_cell x0
  have c5 : Calls Tryz.prog 26 #[.pointer (some ⟨sb, 0, none⟩), .int .u64 2, .int .u64 5] w5 (LookOut w w5 tag5 sb rb 40 (okI aw3).1 (cnt0 40) (okI aw3).2.1 8012 1 true) := lookup_any hT h5 2 5 (by omega) 1 true aw4_ok
  clear c4 m5
  go_wp2_with fail
  refine c5.mono ?_
  rintro e w6 ⟨he, tag6, h6, m6⟩
  have he : e = .returned (.tuple #[.int .u64 1, .bool true, .int .i64 0]) := he
  subst he
  have x0 := m6.cellv x0 (kt4 t4)
  have x1 := m6.cellv x1 (kt4 t4)
  have t4 := m6.four t4 lx
  have c6 : Calls Tryz.prog 26 #[.pointer (some ⟨sb, 0, none⟩), .int .u64 3, .int .u64 6] w6 (LookOut w w6 tag6 sb rb 40 (okI aw3).1 (cnt0 40) (okI aw3).2.1 8024 0 false) := lookup_any hT h6 3 6 (by omega) 0 false aw5_ok
  clear c5 m6
  go_wp2_with fail
  refine c6.mono ?_
  rintro e w7 ⟨he, tag7, h7, m7⟩
  have he : e = .returned (.tuple #[.int .u64 0, .bool false, .int .i64 0]) := he
  subst he
  clear c6
  go_wp2_with fail
  go_ret
  exact ⟨rfl, h7.chg⟩
end Go.Proofs.YtdgkbicelnnfpaaGreatDoor

/- Shelves that are none; what is asked that may not be; a key that is not there. -/
namespace Go.Proofs.YtdgkbicelnnfpaaGreatDoor
set_option maxRecDepth 200000
open Go.RowKit
set_option linter.unusedVariables false
set_option linter.unusedSimpArgs false
attribute [local go_sem ↓] Go.wp_at_zero Go.wp_at_succ
theorem tnew_nil (w : World) : Calls Tryz.prog 32 #[.pointer none, .pointer none] w fun e w' => e = .returned (.pointer none) ∧ w = w' := by
  go_enter Tryz.func32, Tryz.ntmps32
  go_wp2
  go_ret
  exact ⟨rfl, rfl⟩
theorem make_nil (lf : Bool) (x y : Value) (w : World) : Calls Tryz.prog 18 #[.pointer none, .agg #[.bool lf, x, y]] w fun e w' => e = .returned (.tuple #[.int .u64 0, .int .i64 2]) ∧ Chg [] w w' := by
  have g0 := Chg.alloc [] w (.cells #[.bool lf, x, y] 53)
  have cM := made_nilT (w.alloc (.cells #[.bool lf, x, y] 53))
  go_enter Tryz.func18, Tryz.ntmps18
  go_wp2_with fail
  generalize (w.alloc (.cells #[.bool lf, x, y] 53)) = w1 at *
  refine cM.mono ?_
  rintro e w' ⟨rfl, rfl⟩
  go_wp2_with fail
  go_ret2
  exact ⟨rfl, g0⟩
theorem save_nil (a : Nat) (lf : Bool) (x y : Value) (w : World) : Calls Tryz.prog 16 #[.pointer none, .int .u64 (a : Int), .agg #[.bool lf, x, y]] w fun e w' => e = .returned (.int .i64 2) ∧ Chg [] w w' := by
  have g0 := Chg.alloc [] w (.cells #[.bool lf, x, y] 53)
  have cM := asked_nilT a (w.alloc (.cells #[.bool lf, x, y] 53))
  go_enter Tryz.func16, Tryz.ntmps16
  go_wp2_with fail
  generalize (w.alloc (.cells #[.bool lf, x, y] 53)) = w1 at *
  refine cM.mono ?_
  rintro e w' ⟨rfl, rfl⟩
  go_wp2_with fail
  go_ret
  exact ⟨rfl, g0⟩
theorem lookup_nil (root key : Nat) (w : World) : Calls Tryz.prog 26 #[.pointer none, .int .u64 (root : Int), .int .u64 (key : Int)] w fun e w' => e = .returned (.tuple #[.int .u64 0, .bool false, .int .i64 2]) ∧ Chg [] w w' := by
  have cM := made_nilT w
  go_enter Tryz.func26, Tryz.ntmps26
  go_wp2_with fail
  refine cM.mono ?_
  rintro e w' ⟨rfl, rfl⟩
  go_wp2_with fail
  refine bodyPost_ret (v := .tuple #[.int .u64 0, .bool false, .int .i64 2]) (by simp [results, Tryz.results26, go_sem]) rfl ?_
  exact ⟨rfl, Chg.refl [] w⟩
theorem insert_nil (root key val : Nat) (w : World) : Calls Tryz.prog 23 #[.pointer none, .int .u64 (root : Int), .int .u64 (key : Int), .int .u64 (val : Int)] w fun e w' => e = .returned (.tuple #[.int .u64 0, .int .u64 0, .bool false, .int .i64 2]) ∧ Chg [] w w' := by
  obtain ⟨G0, S0, k0, k1, k2, k3⟩ := boxes4_all w (.pointer none) (.int .u64 (root : Int)) (.int .u64 (key : Int)) (.int .u64 (val : Int)) 43 34 34 34
  have cM := made_nilT (boxes4 w (.pointer none) (.int .u64 (root : Int)) (.int .u64 (key : Int)) (.int .u64 (val : Int)) 43 34 34 34)
  clear S0
  unfold boxes4 at G0 k0 k1 k2 k3 cM
  go_enter Tryz.func23, Tryz.ntmps23
  go_wp2_with fail
  generalize ((((w.alloc (.cells #[.pointer none] 43)).alloc (.cells #[.int .u64 (root : Int)] 34)).alloc (.cells #[.int .u64 (key : Int)] 34)).alloc (.cells #[.int .u64 (val : Int)] 34)) = w1 at *
  refine cM.mono ?_
  rintro e w' ⟨rfl, rfl⟩
  go_wp2_with fail
  refine bodyPost_ret (v := .tuple #[.int .u64 0, .int .u64 0, .bool false, .int .i64 2]) (by simp [results, Tryz.results23, go_sem]) rfl ?_
  exact ⟨rfl, G0⟩
def boxes3 (w : World) (x0 x1 x2 : Value) (t0 t1 t2 : TypeId) : World := ((w.alloc (.cells #[x0] t0)).alloc (.cells #[x1] t1)).alloc (.cells #[x2] t2)
theorem boxes3_all (w : World) (x0 x1 x2 : Value) (t0 t1 t2 : TypeId) : Chg [] w (boxes3 w x0 x1 x2 t0 t1 t2) ∧ (boxes3 w x0 x1 x2 t0 t1 t2).cell? ⟨w.heap.size, 0, none⟩ = some x0 ∧ (boxes3 w x0 x1 x2 t0 t1 t2).cell? ⟨w.heap.size + 1, 0, none⟩ = some x1 ∧ (boxes3 w x0 x1 x2 t0 t1 t2).cell? ⟨w.heap.size + 2, 0, none⟩ = some x2 := by
  unfold boxes3
  obtain ⟨wa, hwa⟩ : ∃ wa, wa = w.alloc (.cells #[x0] t0) := ⟨_, rfl⟩
  obtain ⟨wb, hwb⟩ : ∃ wb, wb = wa.alloc (.cells #[x1] t1) := ⟨_, rfl⟩
  obtain ⟨wc, hwc⟩ : ∃ wc, wc = wb.alloc (.cells #[x2] t2) := ⟨_, rfl⟩
  rw [← hwa, ← hwb, ← hwc]
  have ga : Chg [] w wa := by rw [hwa]; exact Chg.alloc [] w _
  have gb : Chg [] wa wb := by rw [hwb]; exact Chg.alloc [] wa _
  have gc : Chg [] wb wc := by rw [hwc]; exact Chg.alloc [] wb _
  have sa : wa.heap.size = w.heap.size + 1 := by rw [hwa]; simp
  have sB : wb.heap.size = w.heap.size + 2 := by rw [hwb]; simp [sa]
  have la := cell_of_row wa w.heap.size 0 #[x0] _ _ (by rw [hwa]; exact heap_alloc_last w _)
  have lb := cell_of_row wb wa.heap.size 0 #[x1] _ _ (by rw [hwb]; exact heap_alloc_last wa _)
  have lc := cell_of_row wc wb.heap.size 0 #[x2] _ _ (by rw [hwc]; exact heap_alloc_last wb _)
  rw [sa] at lb
  rw [sB] at lc
  exact ⟨(ga.then gb).then gc, gc.cellv (gb.cellv la (by simp)) (by simp), gc.cellv lb (by simp), lc⟩
theorem remove_nil (root key : Nat) (w : World) : Calls Tryz.prog 25 #[.pointer none, .int .u64 (root : Int), .int .u64 (key : Int)] w fun e w' => e = .returned (.tuple #[.int .u64 0, .int .u64 0, .bool false, .int .i64 2]) ∧ Chg [] w w' := by
  obtain ⟨G0, k0, k1, k2⟩ := boxes3_all w (.pointer none) (.int .u64 (root : Int)) (.int .u64 (key : Int)) 43 34 34
  have cL := lookup_nil root key (boxes3 w (.pointer none) (.int .u64 (root : Int)) (.int .u64 (key : Int)) 43 34 34)
  unfold boxes3 at G0 k0 k1 k2 cL
  go_enter Tryz.func25, Tryz.ntmps25
  go_wp2_with fail
  generalize (((w.alloc (.cells #[.pointer none] 43)).alloc (.cells #[.int .u64 (root : Int)] 34)).alloc (.cells #[.int .u64 (key : Int)] 34)) = w1 at *
  refine cL.mono ?_
  rintro e w2 ⟨rfl, g2⟩
  go_wp2_with fail
  refine bodyPost_ret (v := .tuple #[.int .u64 0, .int .u64 0, .bool false, .int .i64 2]) (by simp [results, Tryz.results25, go_sem]) rfl ?_
  exact ⟨rfl, G0.then g2⟩
theorem load_nil (a : Nat) (w : World) : Calls Tryz.prog 17 #[.pointer none, .int .u64 (a : Int)] w fun e w' => e = .returned (.tuple #[CN.none.val, .int .i64 2]) ∧ Chg [] w w' := by
  have t0 := start_there w
  have g0 := Chg.alloc [] w (.cells #[.bool false, .slice none 0 0, .slice none 0 0] 53)
  have cA := asked_nilT a (w.alloc (.cells #[.bool false, .slice none 0 0, .slice none 0 0] 53))
  obtain ⟨⟨v0, v1, v2, r0, r1, r2⟩, q0, q1, q2⟩ := cells3 t0
  go_enter Tryz.func17, Tryz.ntmps17
  go_wp2_with fail
  generalize (w.alloc (.cells #[.bool false, .slice none 0 0, .slice none 0 0] 53)) = w1 at *
  refine cA.mono ?_
  rintro e w' ⟨rfl, rfl⟩
  go_wp2_with fail
  refine bodyPost_ret (v := .tuple #[CN.none.val, .int .i64 2]) (by simp [results, Tryz.results17, go_sem, r0, r1, r2, CN.val, CN.none]) rfl ⟨rfl, ?_⟩
  exact g0.trans (three_chg w1 w.heap.size _ _ _) (by simp) (fun k hk hlt => by simp at hk; omega)
section
variable {w0 w : World} {tag : Nat → Nat} {sb rb n : Nat} {N C : List UInt8} {X : Nat → Option Nd} {u : Nat}
theorem insert_noval (h : HasX w0 w tag sb rb n N C X u) (root key : Nat) : Calls Tryz.prog 23 #[.pointer (some ⟨sb, 0, none⟩), .int .u64 (root : Int), .int .u64 (key : Int), .int .u64 0] w fun e w' => e = .returned (.tuple #[.int .u64 0, .int .u64 0, .bool false, .int .i64 1]) ∧ Chg [] w w' := by
  obtain ⟨G0, S0, k0, k1, k2, k3⟩ := boxes4_all w (.pointer (some ⟨sb, 0, none⟩)) (.int .u64 (root : Int)) (.int .u64 (key : Int)) (.int .u64 0) 43 34 34 34
  have cM := made_x (h.keep G0)
  clear S0
  unfold boxes4 at G0 k0 k1 k2 k3 cM
  go_enter Tryz.func23, Tryz.ntmps23
  go_wp2_with fail
  generalize ((((w.alloc (.cells #[.pointer (some ⟨sb, 0, none⟩)] 43)).alloc (.cells #[.int .u64 (root : Int)] 34)).alloc (.cells #[.int .u64 (key : Int)] 34)).alloc (.cells #[.int .u64 0] 34)) = w1 at *
  refine cM.mono ?_
  rintro e w' ⟨rfl, rfl⟩
  go_wp2_with fail
  refine bodyPost_ret (v := .tuple #[.int .u64 0, .int .u64 0, .bool false, .int .i64 1]) (by simp [results, Tryz.results23, go_sem]) rfl ?_
  exact ⟨rfl, G0⟩
/-- A key that is not there: nothing is shadowed for it. -/
theorem remove_absent (hT : Tab w0) (h : HasX w0 w tag sb rb n N C X u) (root key : Nat) (hu : u ≤ 80000000) (v : Nat) (hr : lookA X root key = some (v, false)) :
    Calls Tryz.prog 25 #[.pointer (some ⟨sb, 0, none⟩), .int .u64 (root : Int), .int .u64 (key : Int)] w fun e w' => e = .returned (.tuple #[.int .u64 (root : Int), .int .u64 0, .bool false, .int .i64 0]) ∧ ∃ (tag' : Nat → Nat), HasX w0 w' tag' sb rb n N C X (u + 12) ∧ Mv tag tag' w w' := by
  obtain ⟨G0, k0, k1, k2⟩ := boxes3_all w (.pointer (some ⟨sb, 0, none⟩)) (.int .u64 (root : Int)) (.int .u64 (key : Int)) 43 34 34
  have b1 := h.hi (w.heap.size + 1) (by omega)
  have cL := lookup_any hT (h.keep G0) root key hu v false hr
  unfold boxes3 at G0 k0 k1 k2 cL
  go_enter Tryz.func25, Tryz.ntmps25
  go_wp2_with fail
  generalize (((w.alloc (.cells #[.pointer (some ⟨sb, 0, none⟩)] 43)).alloc (.cells #[.int .u64 (root : Int)] 34)).alloc (.cells #[.int .u64 (key : Int)] 34)) = w1 at *
  refine cL.mono ?_
  rintro e w2 ⟨rfl, tag2, h2, m2⟩
  have k1 := m2.cellv k1 (kt4 b1)
  go_wp2_with fail
  refine bodyPost_ret (v := .tuple #[.int .u64 (root : Int), .int .u64 0, .bool false, .int .i64 0]) (by simp [results, Tryz.results25, go_sem]) rfl ?_
  exact ⟨rfl, tag2, h2, (Mv.made G0 h.hi).trans m2⟩
end
end Go.Proofs.YtdgkbicelnnfpaaGreatDoor

/- Shadow of a shelf that is none. -/
namespace Go.Proofs.YtdgkbicelnnfpaaGreatDoor
set_option maxRecDepth 200000
open Go.RowKit
set_option linter.unusedVariables false
set_option linter.unusedSimpArgs false
attribute [local go_sem ↓] Go.wp_at_zero Go.wp_at_succ
set_option maxHeartbeats 1000000 in
theorem wholeS_nil (g : Nat) (caps : Array Value) (w : World) : Calls Tryz.prog 70 #[.pointer none, .func (.func g) #[] caps] w fun e w' => e = .returned (.tuple #[.agg stepZ, .int .i64 2]) ∧ Chg [] w w' := by
  go_enter_defers Tryz.func70, Tryz.ntmps70
  go_wp2_with fail
  obtain ⟨wa, hwa⟩ : ∃ wa, wa = w.alloc (.cells #[.pointer none] 43) := ⟨_, rfl⟩
  obtain ⟨wb, hwb⟩ : ∃ wb, wb = wa.alloc (.cells stepZ 139) := ⟨_, rfl⟩
  obtain ⟨wc, hwc⟩ : ∃ wc, wc = wb.alloc (.cells #[.int .i64 0] 55) := ⟨_, rfl⟩
  have ga : Chg [] w wa := by rw [hwa]; exact Chg.alloc [] w _
  have gb : Chg [] wa wb := by rw [hwb]; exact Chg.alloc [] wa _
  have gc : Chg [] wb wc := by rw [hwc]; exact Chg.alloc [] wb _
  have sa : wa.heap.size = w.heap.size + 1 := by rw [hwa]; simp
  have sB : wb.heap.size = w.heap.size + 2 := by rw [hwb]; simp [sa]
  have lb := fun j => cell_of_row wb wa.heap.size j stepZ _ _ (by rw [hwb]; exact heap_alloc_last wa _)
  have lb0 := gc.cellv (lb 0) (by simp)
  have lb1 := gc.cellv (lb 1) (by simp)
  have lb2 := gc.cellv (lb 2) (by simp)
  have lb3 := gc.cellv (lb 3) (by simp)
  have lb4 := gc.cellv (lb 4) (by simp)
  have lb5 := gc.cellv (lb 5) (by simp)
  have lb6 := gc.cellv (lb 6) (by simp)
  have lb7 := gc.cellv (lb 7) (by simp)
  have lz := fun j => (gc.frozen (p := ⟨wa.heap.size, j, none⟩) (show wa.heap.size < wb.heap.size by omega) (by simp)).trans (frozen_of_row wb wa.heap.size j stepZ _ (by rw [hwb]; exact heap_alloc_last wa _))
  rw [sa] at lz
  have z0 := lz 0
  have z1 := lz 1
  have z2 := lz 2
  have z3 := lz 3
  have z4 := lz 4
  have z5 := lz 5
  have z6 := lz 6
  have z7 := lz 7
  have lc := cell_of_row wc wb.heap.size 0 #[.int .i64 0] _ _ (by rw [hwc]; exact heap_alloc_last wb _)
  have lcf := frozen_of_row wc wb.heap.size 0 #[.int .i64 0] _ (by rw [hwc]; exact heap_alloc_last wb _)
  rw [sB] at lc lcf
  rw [sa] at lb0 lb1 lb2 lb3 lb4 lb5 lb6 lb7
  have G := (ga.then gb).then gc
  have hsp : ((w.alloc (.cells #[.pointer none] 43)).alloc (.cells #[.int .u64 0, .bool false, .slice none 0 0, .slice none 0 0, .bool false, .slice none 0 0, .slice none 0 0, .int .i64 0] 139)).alloc (.cells #[.int .i64 0] 55) = wc := by rw [hwc, hwb, hwa]; rfl
  rw [hsp]
  have hsz : wc.heap.size = w.heap.size + 3 := by rw [hwc]; simp [sB]
  rw [show w.heap.size + 2 = w.heap.size + 1 + 1 from rfl] at lc lcf
  simp only [stepZ] at lb0 lb1 lb2 lb3 lb4 lb5 lb6 lb7
  simp at lb0 lb1 lb2 lb3 lb4 lb5 lb6 lb7
  clear hsp hwc lb lz gc hwb gb hwa ga sa sB
  refine (made_nilT wc).mono ?_
  rintro e w' ⟨rfl, rfl⟩
  go_wp2_with fail
  have G1 : Chg [w.heap.size + 1, w.heap.size + 1 + 1] wc (((((((((wc.setCell ⟨w.heap.size + 1, 0, none⟩ (.int .u64 0)).setCell ⟨w.heap.size + 1, 1, none⟩ (.bool false)).setCell ⟨w.heap.size + 1, 2, none⟩ (.slice none 0 0)).setCell ⟨w.heap.size + 1, 3, none⟩ (.slice none 0 0)).setCell ⟨w.heap.size + 1, 4, none⟩ (.bool false)).setCell ⟨w.heap.size + 1, 5, none⟩ (.slice none 0 0)).setCell ⟨w.heap.size + 1, 6, none⟩ (.slice none 0 0)).setCell ⟨w.heap.size + 1, 7, none⟩ (.int .i64 0)).setCell ⟨w.heap.size + 1 + 1, 0, none⟩ (.int .i64 2)) := by
    have s := fun (w' : World) (j : Nat) (v : Value) => (Chg.setCell w' ⟨w.heap.size + 1, j, none⟩ v).mono (T := [w.heap.size + 1, w.heap.size + 1 + 1]) (by simp)
    have s' := fun (w' : World) (v : Value) => (Chg.setCell w' ⟨w.heap.size + 1 + 1, 0, none⟩ v).mono (T := [w.heap.size + 1, w.heap.size + 1 + 1]) (by simp)
    have t := fun {a b c : World} (x : Chg [w.heap.size + 1, w.heap.size + 1 + 1] a b) (y : Chg [w.heap.size + 1, w.heap.size + 1 + 1] b c) => x.trans y (fun _ h _ => h) (fun _ h _ => h)
    exact t (t (t (t (t (t (t (t (s _ _ _) (s _ _ _)) (s _ _ _)) (s _ _ _)) (s _ _ _)) (s _ _ _)) (s _ _ _)) (s _ _ _)) (s' _ _)
  have GE := G.trans G1 (U := []) (by simp) (fun k hk hlt => by simp at hk; omega)
  refine ⟨_, ?_, rfl, GE⟩
  simp [results, Tryz.results70, go_sem, lb0, lb1, lb2, lb3, lb4, lb5, lb6, lb7, lc, stepZ]
set_option maxHeartbeats 1000000 in
theorem shadow_nil (a : Nat) (w : World) : Calls Tryz.prog 31 #[.pointer none, .int .u64 (a : Int)] w fun e w' => e = .returned (.tuple #[.int .u64 0, CN.none.val, .int .i64 2]) ∧ Chg [] w w' := by
  have hmf : ∀ (fn : Fn) (first cap : Array Value) (w : World), (Instr.makeFunc fn first cap).run Tryz.prog w = .ok (.func fn first cap) w := fun _ _ _ _ => rfl
  go_enter Tryz.func31, Tryz.ntmps31
  obtain ⟨wa, hwa⟩ : ∃ wa, wa = w.alloc (.cells #[.pointer none] 43) := ⟨_, rfl⟩
  obtain ⟨wb, hwb⟩ : ∃ wb, wb = wa.alloc (.cells #[.int .u64 (a : Int)] 34) := ⟨_, rfl⟩
  obtain ⟨wc, hwc⟩ : ∃ wc, wc = wb.alloc (.cells #[.bool false, .slice none 0 0, .slice none 0 0] 53) := ⟨_, rfl⟩
  have ga : Chg [] w wa := by rw [hwa]; exact Chg.alloc [] w _
  have gb : Chg [] wa wb := by rw [hwb]; exact Chg.alloc [] wa _
  have gc : Chg [] wb wc := by rw [hwc]; exact Chg.alloc [] wb _
  have sa : wa.heap.size = w.heap.size + 1 := by rw [hwa]; simp
  have sB : wb.heap.size = w.heap.size + 1 + 1 := by rw [hwb]; simp [sa]
  have la := cell_of_row wa w.heap.size 0 #[.pointer none] _ _ (by rw [hwa]; exact heap_alloc_last w _)
  have k0 : wc.cell? ⟨w.heap.size, 0, none⟩ = some (.pointer none) := gc.cellv (gb.cellv la (by simp)) (by simp)
  obtain ⟨l0, l1, l2⟩ := laid3 wb (.bool false) (.slice none 0 0) (.slice none 0 0) 53
  have lz := fun j => frozen_of_row wc wb.heap.size j #[.bool false, .slice none 0 0, .slice none 0 0] _ (by rw [hwc]; exact heap_alloc_last wb _)
  rw [← hwc, sB] at l0 l1 l2
  rw [sB] at lz
  have z0 := lz 0
  have z1 := lz 1
  have z2 := lz 2
  have G := (ga.then gb).then gc
  have hsz : wc.heap.size = w.heap.size + 3 := by rw [hwc]; simp [sB]
  have cW := wholeS_nil 71 #[.pointer (some ⟨w.heap.size, 0, none⟩), .pointer (some ⟨w.heap.size + 1, 0, none⟩)] wc
  have k0' : (((w.alloc (.cells #[.pointer none] 43)).alloc (.cells #[.int .u64 (a : Int)] 34)).alloc (.cells #[.bool false, .slice none 0 0, .slice none 0 0] 53)).cell? ⟨w.heap.size, 0, none⟩ = some (.pointer none) := by rw [← hwa, ← hwb, ← hwc]; exact k0
  have hsp : ((w.alloc (.cells #[.pointer none] 43)).alloc (.cells #[.int .u64 (a : Int)] 34)).alloc (.cells #[.bool false, .slice none 0 0, .slice none 0 0] 53) = wc := by rw [hwc, hwb, hwa]
  clear hwc gc hwb gb hwa ga sa sB lz la
  go_wp2_with fail
  refine cW.mono ?_
  rintro e w2 ⟨rfl, g2⟩
  have l0 := g2.cellv l0 (by simp)
  have l1 := g2.cellv l1 (by simp)
  have l2 := g2.cellv l2 (by simp)
  have y0 := (g2.frozen (p := ⟨w.heap.size + 1 + 1, 0, none⟩) (show w.heap.size + 1 + 1 < wc.heap.size by omega) (by simp)).trans z0
  have y1 := (g2.frozen (p := ⟨w.heap.size + 1 + 1, 1, none⟩) (show w.heap.size + 1 + 1 < wc.heap.size by omega) (by simp)).trans z1
  have y2 := (g2.frozen (p := ⟨w.heap.size + 1 + 1, 2, none⟩) (show w.heap.size + 1 + 1 < wc.heap.size by omega) (by simp)).trans z2
  have g3 := Chg.alloc [] w2 (.cells stepZ 139)
  have ls := fun j => cell_of_row (w2.alloc (.cells stepZ 139)) w2.heap.size j stepZ _ _ (heap_alloc_last w2 _)
  have q0 : (w2.alloc (.cells #[.int .u64 0, .bool false, .slice none 0 0, .slice none 0 0, .bool false, .slice none 0 0, .slice none 0 0, .int .i64 0] 139)).cell? ⟨w2.heap.size, 0, none⟩ = some (.int .u64 0) := by rw [show (w2.alloc (.cells #[.int .u64 0, .bool false, .slice none 0 0, .slice none 0 0, .bool false, .slice none 0 0, .slice none 0 0, .int .i64 0] 139)) = w2.alloc (.cells stepZ 139) from rfl, ls 0]; rfl
  have q4 : (w2.alloc (.cells #[.int .u64 0, .bool false, .slice none 0 0, .slice none 0 0, .bool false, .slice none 0 0, .slice none 0 0, .int .i64 0] 139)).cell? ⟨w2.heap.size, 4, none⟩ = some (.bool false) := by rw [show (w2.alloc (.cells #[.int .u64 0, .bool false, .slice none 0 0, .slice none 0 0, .bool false, .slice none 0 0, .slice none 0 0, .int .i64 0] 139)) = w2.alloc (.cells stepZ 139) from rfl, ls 4]; rfl
  have q5 : (w2.alloc (.cells #[.int .u64 0, .bool false, .slice none 0 0, .slice none 0 0, .bool false, .slice none 0 0, .slice none 0 0, .int .i64 0] 139)).cell? ⟨w2.heap.size, 5, none⟩ = some (.slice none 0 0) := by rw [show (w2.alloc (.cells #[.int .u64 0, .bool false, .slice none 0 0, .slice none 0 0, .bool false, .slice none 0 0, .slice none 0 0, .int .i64 0] 139)) = w2.alloc (.cells stepZ 139) from rfl, ls 5]; rfl
  have q6 : (w2.alloc (.cells #[.int .u64 0, .bool false, .slice none 0 0, .slice none 0 0, .bool false, .slice none 0 0, .slice none 0 0, .int .i64 0] 139)).cell? ⟨w2.heap.size, 6, none⟩ = some (.slice none 0 0) := by rw [show (w2.alloc (.cells #[.int .u64 0, .bool false, .slice none 0 0, .slice none 0 0, .bool false, .slice none 0 0, .slice none 0 0, .int .i64 0] 139)) = w2.alloc (.cells stepZ 139) from rfl, ls 6]; rfl
  have l0 := g3.cellv l0 (by simp)
  have l1 := g3.cellv l1 (by simp)
  have l2 := g3.cellv l2 (by simp)
  have hlt := Nat.lt_of_lt_of_le (show w.heap.size + 1 + 1 < wc.heap.size by omega) g2.size
  have y0 := (g3.frozen (p := ⟨w.heap.size + 1 + 1, 0, none⟩) hlt (by simp)).trans y0
  have y1 := (g3.frozen (p := ⟨w.heap.size + 1 + 1, 1, none⟩) hlt (by simp)).trans y1
  have y2 := (g3.frozen (p := ⟨w.heap.size + 1 + 1, 2, none⟩) hlt (by simp)).trans y2
  clear ls cW hsp k0' z0 z1 z2
  unfold stepZ at g3 l0 l1 l2 y0 y1 y2
  have HG := mkHid (And.intro G (And.intro g2 g3))
  clear G g2 g3
  unfold stepZ
  go_wp2_with fail
  generalize (w2.alloc (.cells #[.int .u64 0, .bool false, .slice none 0 0, .slice none 0 0, .bool false, .slice none 0 0, .slice none 0 0, .int .i64 0] 139)) = w3 at *
  have gd := Chg.drew [] w3
  have q0 := gd.cellv q0 (by simp)
  have q4 := gd.cellv q4 (by simp)
  have q5 := gd.cellv q5 (by simp)
  have q6 := gd.cellv q6 (by simp)
  have hl3 := block_lt_of_cell l0
  have L0 := gd.cellv l0 (by simp)
  have L1 := gd.cellv l1 (by simp)
  have L2 := gd.cellv l2 (by simp)
  have y0 := (gd.frozen (p := ⟨w.heap.size + 1 + 1, 0, none⟩) hl3 (by simp)).trans y0
  have y1 := (gd.frozen (p := ⟨w.heap.size + 1 + 1, 1, none⟩) hl3 (by simp)).trans y1
  have y2 := (gd.frozen (p := ⟨w.heap.size + 1 + 1, 2, none⟩) hl3 (by simp)).trans y2
  go_region_law (fail)
  all_goals go_wp2_with fail
  all_goals
    obtain ⟨G, g2, g3⟩ := HG.out
    refine bodyPost_ret (v := .tuple #[.int .u64 0, CN.none.val, .int .i64 2]) (by simp [results, Tryz.results31, go_sem, l0, l1, l2, L0, L1, L2, CN.val, CN.none]) rfl ⟨rfl, ?_⟩
    exact (((G.then g2).then g3).then (Chg.drew [] _)).trans (three_chg _ (w.heap.size + 1 + 1) _ _ _) (by simp) (fun k hk hlt => by simp at hk; omega)
end Go.Proofs.YtdgkbicelnnfpaaGreatDoor
