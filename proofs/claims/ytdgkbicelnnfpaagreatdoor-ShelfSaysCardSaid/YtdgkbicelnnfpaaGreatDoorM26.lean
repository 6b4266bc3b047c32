/- Texts Il, Id, Ie, Th of the library, joined. -/
import Derived.Test.YtdgkbicelnnfpaaGreatDoorM25
import Derived.Test.YtdgkbicelnnfpaaGreatDoorM21
import Derived.Test.YtdgkbicelnnfpaaGreatDoorM20
import Derived.Test.YtdgkbicelnnfpaaGreatDoorM23
import Derived.Shelf.Abstract
/- The reference: Split. -/
namespace Go.Proofs.YtdgkbicelnnfpaaGreatDoor
open Go.RowKit
set_option linter.unusedVariables false
set_option linter.unusedSimpArgs false
attribute [local go_sem ↓] Go.wp_at_zero Go.wp_at_succ

/-- Where the second half begins. -/
def half (P : Nat) : Nat := P - P / 2
end Go.Proofs.YtdgkbicelnnfpaaGreatDoor

/- The package: run, by a closure; Find, Child; the reference's Child. -/
namespace Go.Proofs.YtdgkbicelnnfpaaGreatDoor
open Go.RowKit
set_option linter.unusedVariables false
set_option linter.unusedSimpArgs false
attribute [local go_sem ↓] Go.wp_at_zero Go.wp_at_succ

set_option maxRecDepth 20000 in
theorem findlit_any (b : Nat) (k x : Nat) (w : World) (hc : w.cell? ⟨b, 0, none⟩ = some (.int .u64 (x : Int))) : Calls Tryz.prog 162 #[.int .u64 (k : Int), .pointer (some ⟨b, 0, none⟩)] w fun e w' => e = .returned (.bool (decide (k < x))) ∧ w = w' := by
  go_enter Tryz.func162, Tryz.ntmps162
  go_wp2_with fail
  go_ret
  first | exact ⟨rfl, rfl⟩ | exact ⟨ret_bool' (by rw [Bool.eq_iff_iff]; simp), rfl⟩
set_option maxRecDepth 20000 in
theorem childlit_any (b : Nat) (k x : Nat) (w : World) (hc : w.cell? ⟨b, 0, none⟩ = some (.int .u64 (x : Int))) : Calls Tryz.prog 118 #[.int .u64 (k : Int), .pointer (some ⟨b, 0, none⟩)] w fun e w' => e = .returned (.bool (decide (k ≤ x))) ∧ w = w' := by
  go_enter Tryz.func118, Tryz.ntmps118
  go_wp2_with fail
  go_ret
  first | exact ⟨rfl, rfl⟩ | exact ⟨ret_bool' (by rw [Bool.eq_iff_iff]; simp), rfl⟩
set_option maxRecDepth 20000 in
set_option maxHeartbeats 1000000 in
theorem run_any (lf : Bool) (ka : Option Addr) (kl kc : Nat) (va : Option Addr) (vl vc : Nat) (K V : List Nat) (w : World) (h : RdN w ka kc va vc K V) (hk : K.length = kl) (hv : V.length = vl) (p : Nat → Bool) (g : Nat) (lb : Array Value) (he : Enters Tryz.prog g)
    (hf : ∀ (k : Nat) (w1 : World), Chg [] w w1 → Calls Tryz.prog g (#[.int .u64 (k : Int)] ++ lb) w1 fun e w' => e = .returned (.bool (p k)) ∧ w1 = w') :
    Calls Tryz.prog 117 #[.agg #[.bool lf, .slice ka kl kc, .slice va vl vc], .func (.func g) #[] lb] w fun e w' => e = .returned (.int .i64 (runN p K V : Nat)) ∧ Chg [] w w' := by
  have hkc := h.ck
  have hbk := h.bk
  have g0 := Chg.alloc [] w (.cells #[.bool lf, .slice ka kl kc, .slice va vl vc] 53)
  obtain ⟨c0, c1, c2⟩ := laid3 w (.bool lf) (.slice ka kl kc) (.slice va vl vc) 53
  have h1 := h.keep g0
  obtain ⟨P, hP⟩ : ∃ P, np K V = P := ⟨_, rfl⟩
  have cP := pairs_any lf ka kl kc va vl vc P (by rw [min_np hk hv, hP])
  have hPk : P ≤ kl := by rw [← hP, ← hk]; exact np_le.1
  have hklb : kl ≤ 140737488351232 := by omega
  have hklc : kl ≤ kc := by omega
  have HC := mkHid (And.intro c0 (And.intro c1 c2))
  have HP := mkHid hP
  have HK := mkHid hk
  have HF := mkHid hf
  have hsl := fun u : World => run_take_k (P := Tryz.prog) (t := 35) (e := 34) ka kl kc P Tryz.underlying35 (by kernel_rfl) (by omega) u
  have eg : ∀ (args : Array Value) (w : World), (callFunc g args).run Tryz.prog w = .ok (.enter g args) w := he
  clear c0 c1 c2 hk hv h hP hf he
  go_enter Tryz.func117, Tryz.ntmps117
  go_wp2_with fail
  generalize w.alloc (.cells #[.bool lf, .slice ka kl kc, .slice va vl vc] 53) = w1 at *
  generalize w.heap.size = b at *
  obtain ⟨c0, c1, c2⟩ := HC.out
  refine (cP w1).mono ?_
  rintro e w2 ⟨rfl, g2⟩
  have x1 := g2.cellv c1 (by simp)
  have gA := g0.then g2
  have hr := h1.keep g2
  go_wp2_with fail
  go_loopw [15] (fun iv wr => ∃ k : Nat, iv = .int .i64 k ∧ k ≤ runN p K V ∧ k ≤ P ∧ w2 = wr) (fun iv _ => P - (Go.RowKit.intOf iv).toNat)
  case atStart => exact ⟨0, rfl, Nat.zero_le _, Nat.zero_le _, rfl⟩
  case round =>
    obtain ⟨k, rfl, hkr, hkP, rfl⟩ := hrel
    by_cases hlt : k < P
    · have d1 : decide (k < P) = true := decide_eq_true hlt
      have d2 : decide ((k : Int) < (P : Int)) = true := decide_eq_true (by omega)
      have hkl : k < kl := by omega
      obtain ⟨y, hy⟩ : ∃ y, K[k]? = some y := ⟨_, List.getElem?_eq_getElem (by rw [HK.out]; exact hkl)⟩
      obtain ⟨kb, ko, rfl, ck, _⟩ := reads_lt hr.rk k _ (uvs_get hy)
      cases hp : p y with
      | true =>
        have hs : k + 1 ≤ runN p K V := run_step hkr (by rw [HP.out]; exact hlt) hy hp
        have HPY := mkHid hp
        clear hr hy hp
        go_wp2_with fail
        refine (HF.out y _ gA).mono ?_
        rw [HPY.out]
        rintro e w3 ⟨rfl, rfl⟩
        go_wp2_with fail
        exact ⟨⟨k + 1, by first | rfl | go_num, hs, by omega, by first | trivial | rfl⟩, by simp [Go.RowKit.intOf]; omega⟩
      | false =>
        have hs : runN p K V = k := run_stop hkr (by rw [HP.out]; exact hlt) hy hp
        have HS := mkHid hs
        have HPY := mkHid hp
        clear hr hy hp hs
        go_wp2_with fail
        refine (HF.out y _ gA).mono ?_
        rw [HPY.out]
        rintro e w3 ⟨rfl, rfl⟩
        go_wp2_with fail
        go_ret
        rw [HS.out]
        exact ⟨rfl, gA⟩
    · have hke : k = P := by omega
      have d1 : decide (k < P) = false := decide_eq_false hlt
      have d2 : decide ((k : Int) < (P : Int)) = false := decide_eq_false (by omega)
      have hs : runN p K V = P := by rw [← hke]; exact run_end hkr (by rw [HP.out]; exact hlt)
      have HS := mkHid hs
      clear hr hs hke
      go_wp2_with fail
      go_ret
      rw [HS.out]
      exact ⟨rfl, gA⟩
theorem enters_find : Enters Tryz.prog 162 := enters_of Tryz.func162 (by kernel_rfl) rfl
theorem enters_child : Enters Tryz.prog 118 := enters_of Tryz.func118 (by kernel_rfl) rfl
section
variable (lf : Bool) (ka : Option Addr) (kl kc : Nat) (va : Option Addr) (vl vc : Nat) (K V : List Nat) (w : World) (h : RdN w ka kc va vc K V) (hk : K.length = kl) (hv : V.length = vl) (x : Nat)
include h hk hv
theorem run_find (b : Nat) (hb : w.cell? ⟨b, 0, none⟩ = some (.int .u64 (x : Int))) : Calls Tryz.prog 117 #[.agg #[.bool lf, .slice ka kl kc, .slice va vl vc], .func (.func 162) #[] #[.pointer (some ⟨b, 0, none⟩)]] w fun e w' => e = .returned (.int .i64 (findN x K V : Nat)) ∧ Chg [] w w' :=
  run_any lf ka kl kc va vl vc K V w h hk hv (fun k => decide (k < x)) _ _ enters_find fun k w1 g => findlit_any b k x w1 (g.cellv hb (by simp))
theorem run_child (b : Nat) (hb : w.cell? ⟨b, 0, none⟩ = some (.int .u64 (x : Int))) : Calls Tryz.prog 117 #[.agg #[.bool lf, .slice ka kl kc, .slice va vl vc], .func (.func 118) #[] #[.pointer (some ⟨b, 0, none⟩)]] w fun e w' => e = .returned (.int .i64 (runN (fun k => decide (k ≤ x)) K V : Nat)) ∧ Chg [] w w' :=
  run_any lf ka kl kc va vl vc K V w h hk hv (fun k => decide (k ≤ x)) _ _ enters_child fun k w1 g => childlit_any b k x w1 (g.cellv hb (by simp))
end
end Go.Proofs.YtdgkbicelnnfpaaGreatDoor

/- Find, Child of the package; the reference's Child. -/
namespace Go.Proofs.YtdgkbicelnnfpaaGreatDoor
open Go.RowKit
set_option linter.unusedVariables false
set_option linter.unusedSimpArgs false
attribute [local go_sem ↓] Go.wp_at_zero Go.wp_at_succ

theorem step5 {a0 a1 a2 a3 a4 : Addr} {v0 v1 v2 v3 v4 : Value} {W u u' : World} (h : u.cell? a0 = some v0 ∧ u.cell? a1 = some v1 ∧ u.cell? a2 = some v2 ∧ u.cell? a3 = some v3 ∧ u.cell? a4 = some v4 ∧ Chg [] W u) (g : Chg [] u u') : u'.cell? a0 = some v0 ∧ u'.cell? a1 = some v1 ∧ u'.cell? a2 = some v2 ∧ u'.cell? a3 = some v3 ∧ u'.cell? a4 = some v4 ∧ Chg [] W u' :=
  ⟨g.cellv h.1 (by simp), g.cellv h.2.1 (by simp), g.cellv h.2.2.1 (by simp), g.cellv h.2.2.2.1 (by simp), g.cellv h.2.2.2.2.1 (by simp), h.2.2.2.2.2.then g⟩
theorem pick5 {p0 p1 p2 p3 p4 q : Prop} (h : p0 ∧ p1 ∧ p2 ∧ p3 ∧ p4 ∧ q) : q := h.2.2.2.2.2
/-- A node and one value more, laid. -/
theorem laid31 (w : World) (x y z u : Value) (t s : TypeId) : ((w.alloc (.cells #[x, y, z] t)).alloc (.cells #[u] s)).cell? ⟨w.heap.size, 0, none⟩ = some x ∧ ((w.alloc (.cells #[x, y, z] t)).alloc (.cells #[u] s)).cell? ⟨w.heap.size, 1, none⟩ = some y ∧ ((w.alloc (.cells #[x, y, z] t)).alloc (.cells #[u] s)).cell? ⟨w.heap.size, 2, none⟩ = some z ∧ ((w.alloc (.cells #[x, y, z] t)).alloc (.cells #[u] s)).cell? ⟨w.heap.size + 1, 0, none⟩ = some u := by
  obtain ⟨h0, h1, h2⟩ := laid3 w x y z t
  have g := Chg.alloc [] (w.alloc (.cells #[x, y, z] t)) (.cells #[u] s)
  refine ⟨g.cellv h0 (by simp), g.cellv h1 (by simp), g.cellv h2 (by simp), ?_⟩
  have hz : (w.alloc (.cells #[x, y, z] t)).heap.size = w.heap.size + 1 := by simp
  have hl := cell_of_row _ _ 0 _ _ _ (heap_alloc_last (w.alloc (.cells #[x, y, z] t)) (.cells #[u] s))
  rw [hz] at hl
  rw [hl]; rfl
set_option maxRecDepth 20000 in
set_option maxHeartbeats 1000000 in
theorem find_any (lf : Bool) (ka : Option Addr) (kl kc : Nat) (va : Option Addr) (vl vc : Nat) (K V : List Nat) (w : World) (h : RdN w ka kc va vc K V) (hk : K.length = kl) (hv : V.length = vl) (x : Nat) :
    Calls Tryz.prog 116 #[.agg #[.bool lf, .slice ka kl kc, .slice va vl vc], .int .u64 (x : Int)] w fun e w' => e = .returned (.tuple #[.int .i64 (findN x K V : Nat), .bool (isN x K V)]) ∧ Chg [] w w' := by
  have hkc := h.ck
  have hbk := h.bk
  have g0 : Chg [] w ((w.alloc (.cells #[.bool lf, .slice ka kl kc, .slice va vl vc] 53)).alloc (.cells #[.int .u64 (x : Int)] 34)) := (Chg.alloc [] w _).then (Chg.alloc [] _ _)
  obtain ⟨c0, c1, c2, c3⟩ := laid31 w (.bool lf) (.slice ka kl kc) (.slice va vl vc) (.int .u64 (x : Int)) 53 34
  have h1 := h.keep g0
  obtain ⟨P, hP⟩ : ∃ P, np K V = P := ⟨_, rfl⟩
  have cP := pairs_any lf ka kl kc va vl vc P (by rw [min_np hk hv, hP])
  have hPk : P ≤ kl := by rw [← hP, ← hk]; exact np_le.1
  have hklb : kl ≤ 140737488351232 := by omega
  have HC := mkHid (And.intro c0 (And.intro c1 (And.intro c2 c3)))
  have HP := mkHid hP
  have HK := mkHid hk
  have HV := mkHid hv
  clear c0 c1 c2 c3 hk hv h hP
  go_enter Tryz.func116, Tryz.ntmps116
  go_wp2_with fail
  generalize (w.alloc (.cells #[.bool lf, .slice ka kl kc, .slice va vl vc] 53)).alloc (.cells #[.int .u64 (x : Int)] 34) = w1 at *
  generalize w.heap.size + 1 = xb at *
  generalize w.heap.size = b at *
  obtain ⟨c0, c1, c2, c3⟩ := HC.out
  go_wp2_with fail
  refine (run_find lf ka kl kc va vl vc K V w1 h1 HK.out HV.out x xb c3).mono ?_
  rintro e w2 ⟨rfl, g2⟩
  have x0 := g2.cellv c0 (by simp)
  have x1 := g2.cellv c1 (by simp)
  have x2 := g2.cellv c2 (by simp)
  have x3 := g2.cellv c3 (by simp)
  have hr := h1.keep g2
  have gA := g0.then g2
  obtain ⟨k, hkf⟩ : ∃ k, findN x K V = k := ⟨_, rfl⟩
  have hkP : k ≤ P := by rw [← hkf, ← HP.out]; exact run_le _ _ _
  rw [hkf]
  have HF := mkHid hkf
  clear c0 c1 c2 c3 HC hkf
  by_cases hlt : k < P
  · have d1 : decide (k < P) = true := decide_eq_true hlt
    have d2 : decide ((k : Int) < (P : Int)) = true := decide_eq_true (by omega)
    have hkl : k < kl := by omega
    obtain ⟨y, hy⟩ : ∃ y, K[k]? = some y := ⟨_, List.getElem?_eq_getElem (by rw [HK.out]; exact hkl)⟩
    obtain ⟨kb, ko, rfl, ck, _⟩ := reads_lt hr.rk k _ (uvs_get hy)
    have hi : isN x K V = decide (y = x) := is_at (by rw [HF.out, HP.out]; exact hlt) (by rw [HF.out]; exact hy)
    have HI := mkHid hi
    clear hr hy hi
    by_cases hxy : y = x
    · have e3 : ((y : Int) == (x : Int)) = true := by simp; omega
      have e4 : (y == x) = true := by simp; omega
      have HX := mkHid hxy
      clear hxy
      go_wp2_with fail
      go_region_held3 (fun u => u.cell? ⟨b, 0, none⟩ = some (.bool lf) ∧ u.cell? ⟨b, 1, none⟩ = some (.slice (some ⟨kb, ko, none⟩) kl kc) ∧ u.cell? ⟨b, 2, none⟩ = some (.slice va vl vc) ∧ u.cell? ⟨kb, ko + k, none⟩ = some (.int .u64 (y : Int)) ∧ u.cell? ⟨xb, 0, none⟩ = some (.int .u64 (x : Int)) ∧ Chg [] w1 u)
        (first | exact ⟨(Chg.drew [] _).cellv x0 (by simp), (Chg.drew [] _).cellv x1 (by simp), (Chg.drew [] _).cellv x2 (by simp), (Chg.drew [] _).cellv ck (by simp), (Chg.drew [] _).cellv x3 (by simp), g2.then (Chg.drew [] _)⟩ | exact step5 (by assumption) (by assumption) | assumption)
        (first | (go_at_call 150; refine (cP _).mono ?_; rintro e w3 ⟨rfl, g3⟩))
      have hg4 : Chg [] w1 w3 := pick5 (by assumption)
      go_wp2_with fail
      go_ret2
      rw [HF.out, HI.out, decide_eq_true HX.out]
      exact ⟨rfl, g0.then hg4⟩
    · have e3 : ((y : Int) == (x : Int)) = false := by simp; omega
      have e4 : (y == x) = false := by simp; omega
      have HX := mkHid hxy
      clear hxy
      go_wp2_with fail
      go_region_held3 (fun u => u.cell? ⟨b, 0, none⟩ = some (.bool lf) ∧ u.cell? ⟨b, 1, none⟩ = some (.slice (some ⟨kb, ko, none⟩) kl kc) ∧ u.cell? ⟨b, 2, none⟩ = some (.slice va vl vc) ∧ u.cell? ⟨kb, ko + k, none⟩ = some (.int .u64 (y : Int)) ∧ u.cell? ⟨xb, 0, none⟩ = some (.int .u64 (x : Int)) ∧ Chg [] w1 u)
        (first | exact ⟨(Chg.drew [] _).cellv x0 (by simp), (Chg.drew [] _).cellv x1 (by simp), (Chg.drew [] _).cellv x2 (by simp), (Chg.drew [] _).cellv ck (by simp), (Chg.drew [] _).cellv x3 (by simp), g2.then (Chg.drew [] _)⟩ | exact step5 (by assumption) (by assumption) | assumption)
        (first | (go_at_call 150; refine (cP _).mono ?_; rintro e w3 ⟨rfl, g3⟩))
      have hg4 : Chg [] w1 w3 := pick5 (by assumption)
      go_wp2_with fail
      go_ret2
      rw [HF.out, HI.out, decide_eq_false HX.out]
      exact ⟨rfl, g0.then hg4⟩
  · have d1 : decide (k < P) = false := decide_eq_false hlt
    have d2 : decide ((k : Int) < (P : Int)) = false := decide_eq_false (by omega)
    have hi : isN x K V = false := is_end (by rw [HF.out, HP.out]; exact hlt)
    have HI := mkHid hi
    clear hr hi
    go_wp2_with fail
    refine wp_region_held_drew (S := fun u => u.cell? ⟨b, 0, none⟩ = some (.bool lf) ∧ u.cell? ⟨b, 1, none⟩ = some (.slice ka kl kc) ∧ u.cell? ⟨b, 2, none⟩ = some (.slice va vl vc) ∧ Chg [] w1 u) (by kernel_rfl) ?_ (fun hH => ?_)
    · exact ⟨(Chg.drew [] _).cellv x0 (by simp), (Chg.drew [] _).cellv x1 (by simp), (Chg.drew [] _).cellv x2 (by simp), g2.then (Chg.drew [] _)⟩
    refine wpAnyH_take (i := 0) (oi := { dst := some 10, op := _, type := _, pos := _, after := _, guard := none }) (v := ?_) rfl (by kernel_rfl) (by kernel_rfl) (by kernel_rfl) (fun _ _ _ h => h) (Or.inl ⟨by rfl, ?_⟩) hH ?_
    rotate_left
    · intro u hSu
      try dsimp only at hSu
      go_simp
      try with_reducible rfl
    try simp only [Act.put, List.setIfInBounds_toArray, List.set_cons_zero, List.set_cons_succ]
    refine wpAnyH_take (i := 1) (oi := { dst := some 11, op := _, type := _, pos := _, after := _, guard := none }) (v := ?_) rfl (by kernel_rfl) (by kernel_rfl) (by kernel_rfl) (fun _ _ _ h => h) (Or.inl ⟨by rfl, ?_⟩) hH ?_
    rotate_left
    · intro u hSu
      try dsimp only at hSu
      go_simp
      try with_reducible rfl
    try simp only [Act.put, List.setIfInBounds_toArray, List.set_cons_zero, List.set_cons_succ]
    refine wpAnyH_take (i := 2) (oi := { dst := some 12, op := _, type := _, pos := _, after := _, guard := none }) (v := ?_) rfl (by kernel_rfl) (by kernel_rfl) (by kernel_rfl) (fun _ _ _ h => h) (Or.inl ⟨by rfl, ?_⟩) hH ?_
    rotate_left
    · intro u hSu
      try dsimp only at hSu
      go_simp
      try with_reducible rfl
    try simp only [Act.put, List.setIfInBounds_toArray, List.set_cons_zero, List.set_cons_succ]
    refine wpAnyH_ready (rs := [3]) (by kernel_rfl) (by simp) ?_
    refine AllReadyH.cons (o := { dst := some 13, op := _, type := _, pos := _, after := _, guard := none }) rfl (fun K hK => ?_) AllReadyH.nil
    go_simp
    go_at_call 150
    refine (cP _).mono ?_
    rintro e w3 ⟨rfl, g3⟩
    have hS3 := step3 hH g3
    clear hH
    refine hK.out _ _ hS3 (fun hH => ?_)
    clear hK K
    try simp only [Act.put, List.setIfInBounds_toArray, List.set_cons_zero, List.set_cons_succ]
    refine wpAnyH_take (i := 4) (oi := { dst := some 14, op := _, type := _, pos := _, after := _, guard := none }) (v := ?_) rfl (by kernel_rfl) (by kernel_rfl) (by kernel_rfl) (fun _ _ _ h => h) (Or.inl ⟨by rfl, ?_⟩) hH ?_
    rotate_left
    · intro u hSu
      try dsimp only at hSu
      go_simp
      try with_reducible rfl
    try simp only [Act.put, List.setIfInBounds_toArray, List.set_cons_zero, List.set_cons_succ]
    refine wpAnyH_take (i := 5) (oi := { dst := some 15, op := _, type := _, pos := _, after := _, guard := none }) (v := ?_) rfl (by kernel_rfl) (by kernel_rfl) (by kernel_rfl) (fun _ _ _ h => h) (Or.inl ⟨by rfl, ?_⟩) hH ?_
    rotate_left
    · intro u hSu
      try dsimp only at hSu
      go_simp
      try with_reducible rfl
    try simp only [Act.put, List.setIfInBounds_toArray, List.set_cons_zero, List.set_cons_succ]
    refine wpAnyH_take (i := 6) (oi := { dst := some 16, op := _, type := _, pos := _, after := _, guard := some (5, true) }) (v := undef) rfl (by kernel_rfl) (by kernel_rfl) (by kernel_rfl) (fun _ _ _ h => h) (Or.inr ⟨by rfl, rfl⟩) hH ?_
    try simp only [Act.put, List.setIfInBounds_toArray, List.set_cons_zero, List.set_cons_succ]
    refine wpAnyH_take (i := 7) (oi := { dst := some 17, op := _, type := _, pos := _, after := _, guard := some (5, true) }) (v := undef) rfl (by kernel_rfl) (by kernel_rfl) (by kernel_rfl) (fun _ _ _ h => h) (Or.inr ⟨by rfl, rfl⟩) hH ?_
    try simp only [Act.put, List.setIfInBounds_toArray, List.set_cons_zero, List.set_cons_succ]
    refine wpAnyH_take (i := 8) (oi := { dst := some 18, op := _, type := _, pos := _, after := _, guard := some (5, true) }) (v := undef) rfl (by kernel_rfl) (by kernel_rfl) (by kernel_rfl) (fun _ _ _ h => h) (Or.inr ⟨by rfl, rfl⟩) hH ?_
    try simp only [Act.put, List.setIfInBounds_toArray, List.set_cons_zero, List.set_cons_succ]
    refine wpAnyH_take (i := 9) (oi := { dst := some 19, op := _, type := _, pos := _, after := _, guard := some (5, true) }) (v := undef) rfl (by kernel_rfl) (by kernel_rfl) (by kernel_rfl) (fun _ _ _ h => h) (Or.inr ⟨by rfl, rfl⟩) hH ?_
    try simp only [Act.put, List.setIfInBounds_toArray, List.set_cons_zero, List.set_cons_succ]
    refine wpAnyH_take (i := 10) (oi := { dst := some 20, op := _, type := _, pos := _, after := _, guard := some (5, true) }) (v := undef) rfl (by kernel_rfl) (by kernel_rfl) (by kernel_rfl) (fun _ _ _ h => h) (Or.inr ⟨by rfl, rfl⟩) hH ?_
    try simp only [Act.put, List.setIfInBounds_toArray, List.set_cons_zero, List.set_cons_succ]
    refine wpAnyH_take (i := 11) (oi := { dst := some 21, op := _, type := _, pos := _, after := _, guard := some (5, true) }) (v := undef) rfl (by kernel_rfl) (by kernel_rfl) (by kernel_rfl) (fun _ _ _ h => h) (Or.inr ⟨by rfl, rfl⟩) hH ?_
    try simp only [Act.put, List.setIfInBounds_toArray, List.set_cons_zero, List.set_cons_succ]
    refine wpAnyH_take (i := 12) (oi := { dst := some 22, op := _, type := _, pos := _, after := _, guard := some (5, true) }) (v := undef) rfl (by kernel_rfl) (by kernel_rfl) (by kernel_rfl) (fun _ _ _ h => h) (Or.inr ⟨by rfl, rfl⟩) hH ?_
    try simp only [Act.put, List.setIfInBounds_toArray, List.set_cons_zero, List.set_cons_succ]
    refine wpAnyH_take (i := 13) (oi := { dst := some 23, op := _, type := _, pos := _, after := _, guard := none }) (v := ?_) rfl (by kernel_rfl) (by kernel_rfl) (by kernel_rfl) (fun _ _ _ h => h) (Or.inl ⟨by rfl, ?_⟩) hH ?_
    rotate_left
    · intro u hSu
      try dsimp only at hSu
      go_simp
      try with_reducible rfl
    try simp only [Act.put, List.setIfInBounds_toArray, List.set_cons_zero, List.set_cons_succ]
    refine wpAnyH_take (i := 14) (oi := { dst := some 4, op := _, type := _, pos := _, after := _, guard := none }) (v := ?_) rfl (by kernel_rfl) (by kernel_rfl) (by kernel_rfl) (fun _ _ _ h => h) (Or.inl ⟨by rfl, ?_⟩) hH ?_
    rotate_left
    · intro u hSu
      try dsimp only at hSu
      go_simp
      try with_reducible rfl
    try simp only [Act.put, List.setIfInBounds_toArray, List.set_cons_zero, List.set_cons_succ]
    refine wpAnyH_take (i := 15) (oi := { dst := some 5, op := _, type := _, pos := _, after := _, guard := none }) (v := ?_) rfl (by kernel_rfl) (by kernel_rfl) (by kernel_rfl) (fun _ _ _ h => h) (Or.inl ⟨by rfl, ?_⟩) hH ?_
    rotate_left
    · intro u hSu
      try dsimp only at hSu
      go_simp
      try with_reducible rfl
    try simp only [Act.put, List.setIfInBounds_toArray, List.set_cons_zero, List.set_cons_succ]
    refine wpAnyH_done (by kernel_rfl) ?_ _
    have hg4 : Chg [] w1 w3 := pick3 hS3
    go_wp2_with fail
    go_ret2
    rw [HF.out, HI.out]
    exact ⟨rfl, g0.then hg4⟩
set_option maxRecDepth 20000 in
theorem child_any (lf : Bool) (ka : Option Addr) (kl kc : Nat) (va : Option Addr) (vl vc : Nat) (K V : List Nat) (w : World) (h : RdN w ka kc va vc K V) (hk : K.length = kl) (hv : V.length = vl) (x : Nat) :
    Calls Tryz.prog 65 #[.agg #[.bool lf, .slice ka kl kc, .slice va vl vc], .int .u64 (x : Int)] w fun e w' => e = .returned (.int .i64 (childN x K V : Nat)) ∧ Chg [] w w' := by
  have hkc := h.ck
  have hbk := h.bk
  have g0 : Chg [] w ((w.alloc (.cells #[.bool lf, .slice ka kl kc, .slice va vl vc] 53)).alloc (.cells #[.int .u64 (x : Int)] 34)) := (Chg.alloc [] w _).then (Chg.alloc [] _ _)
  obtain ⟨c0, c1, c2, c3⟩ := laid31 w (.bool lf) (.slice ka kl kc) (.slice va vl vc) (.int .u64 (x : Int)) 53 34
  have h1 := h.keep g0
  obtain ⟨P, hP⟩ : ∃ P, np K V = P := ⟨_, rfl⟩
  have cP := pairs_any lf ka kl kc va vl vc P (by rw [min_np hk hv, hP])
  have hPk : P ≤ kl := by rw [← hP, ← hk]; exact np_le.1
  have hklb : kl ≤ 140737488351232 := by omega
  have HC := mkHid (And.intro c0 (And.intro c1 (And.intro c2 c3)))
  have HP := mkHid hP
  have HK := mkHid hk
  have HV := mkHid hv
  clear c0 c1 c2 c3 hk hv h hP
  unfold childN
  obtain ⟨k, hkf⟩ : ∃ k, runN (fun k => decide (k ≤ x)) K V = k := ⟨_, rfl⟩
  have hkP : k ≤ P := by rw [← hkf, ← HP.out]; exact run_le _ _ _
  rw [hkf]
  have HF := mkHid hkf
  clear hkf
  by_cases h0 : k = 0
  · have HZ := mkHid h0
    have f1 : ((k : Int) - 1 ≤ 0) = True := eq_true (by omega)
    have f2 : ((0 : Int) ≤ (k : Int) - 1) = False := eq_false (by omega)
    have f3 : ((k : Int) ≤ 1) = True := eq_true (by omega)
    have f4 : ((1 : Int) ≤ (k : Int)) = False := eq_false (by omega)
    clear h0
    go_enter Tryz.func65, Tryz.ntmps65
    go_wp2_with fail
    generalize (w.alloc (.cells #[.bool lf, .slice ka kl kc, .slice va vl vc] 53)).alloc (.cells #[.int .u64 (x : Int)] 34) = w1 at *
    generalize w.heap.size + 1 = xb at *
    generalize w.heap.size = b at *
    obtain ⟨c0, c1, c2, c3⟩ := HC.out
    go_wp2_with fail
    refine (run_child lf ka kl kc va vl vc K V w1 h1 HK.out HV.out x xb c3).mono ?_
    rw [HF.out]
    rintro e w2 ⟨rfl, g2⟩
    go_wp2_with fail
    all_goals
      go_ret
      exact ⟨ret_int (by have := HZ.out; omega), g0.then g2⟩
  · have f1 : ((0 : Int) ≤ (k : Int) - 1) = True := eq_true (by omega)
    have f2 : ((1 : Int) ≤ (k : Int)) = True := eq_true (by omega)
    have f3 : (1 ≤ k) = True := eq_true (by omega)
    have hk1 : 1 ≤ k := by omega
    clear h0
    by_cases h9 : k = 1
    · have HZ := mkHid h9
      have f5 : ((k : Int) - 1 ≤ 0) = True := eq_true (by omega)
      have f6 : ((k : Int) ≤ 1) = True := eq_true (by omega)
      clear h9
      go_enter Tryz.func65, Tryz.ntmps65
      go_wp2_with fail
      generalize (w.alloc (.cells #[.bool lf, .slice ka kl kc, .slice va vl vc] 53)).alloc (.cells #[.int .u64 (x : Int)] 34) = w1 at *
      generalize w.heap.size + 1 = xb at *
      generalize w.heap.size = b at *
      obtain ⟨c0, c1, c2, c3⟩ := HC.out
      go_wp2_with fail
      refine (run_child lf ka kl kc va vl vc K V w1 h1 HK.out HV.out x xb c3).mono ?_
      rw [HF.out]
      rintro e w2 ⟨rfl, g2⟩
      go_wp2_with fail
      all_goals
        go_ret
        exact ⟨ret_int (by have := HZ.out; omega), g0.then g2⟩
    · have HZ := mkHid h9
      have f5 : ((k : Int) - 1 ≤ 0) = False := eq_false (by omega)
      have f6 : ((k : Int) ≤ 1) = False := eq_false (by omega)
      clear h9
      go_enter Tryz.func65, Tryz.ntmps65
      go_wp2_with fail
      generalize (w.alloc (.cells #[.bool lf, .slice ka kl kc, .slice va vl vc] 53)).alloc (.cells #[.int .u64 (x : Int)] 34) = w1 at *
      generalize w.heap.size + 1 = xb at *
      generalize w.heap.size = b at *
      obtain ⟨c0, c1, c2, c3⟩ := HC.out
      go_wp2_with fail
      refine (run_child lf ka kl kc va vl vc K V w1 h1 HK.out HV.out x xb c3).mono ?_
      rw [HF.out]
      rintro e w2 ⟨rfl, g2⟩
      go_wp2_with fail
      all_goals
        go_ret
        exact ⟨ret_int (by have := HZ.out; omega), g0.then g2⟩
end Go.Proofs.YtdgkbicelnnfpaaGreatDoor

/- What is done within a node, beside a shelf. -/
namespace Go.Proofs.YtdgkbicelnnfpaaGreatDoor
set_option maxRecDepth 200000
open Go.RowKit
set_option linter.unusedVariables false
set_option linter.unusedSimpArgs false
attribute [local go_sem ↓] Go.wp_at_zero Go.wp_at_succ

def Nd.sq (m : Nd) : Prop := m.K.length = m.V.length ∧ m.K.length ≤ 100
def insA (L : List Nat) (i x : Nat) : List Nat := L.take i ++ x :: L.drop i
def Nd.ins (m : Nd) (i x y : Nat) : Nd := ⟨m.lf, insA m.K i x, insA m.V i y⟩
def Nd.put (m : Nd) (i x y : Nat) : Nd := ⟨m.lf, m.K.set i x, m.V.set i y⟩
def Nd.rem (m : Nd) (i : Nat) : Nd := ⟨m.lf, m.K.eraseIdx i, m.V.eraseIdx i⟩
def Nd.lo (m : Nd) : Nd := ⟨m.lf, m.K.take (half m.K.length), m.V.take (half m.K.length)⟩
def Nd.hi (m : Nd) : Nd := ⟨m.lf, m.K.drop (half m.K.length), m.V.drop (half m.K.length)⟩
def Nd.find (m : Nd) (x : Nat) : Nat := findN x m.K m.V
def Nd.is (m : Nd) (x : Nat) : Bool := isN x m.K m.V
def Nd.child (m : Nd) (x : Nat) : Nat := childN x m.K m.V
theorem np_sq {m : Nd} (h : m.sq) : np m.K m.V = m.K.length := by unfold np; have := h.1; omega
theorem sub_set {L : List Nat} {i x P : Nat} (hP : L.length = P) (hi : i < P) : sub L 0 i ++ ([x] ++ sub L (i + 1) P) = L.set i x := by
  unfold sub
  rw [← hP, List.take_length, List.drop_zero, List.set_eq_take_append_cons_drop, if_pos (by omega)]
  rfl
theorem sub_ins {L : List Nat} {i x P : Nat} (hP : L.length = P) : sub L 0 i ++ ([x] ++ sub L i P) = insA L i x := by
  unfold sub insA
  rw [← hP, List.take_length, List.drop_zero]
  rfl
theorem sub_rem {L : List Nat} {i P : Nat} (hP : L.length = P) : sub L 0 i ++ sub L (i + 1) P = L.eraseIdx i := by
  unfold sub
  rw [← hP, List.take_length, List.drop_zero, List.eraseIdx_eq_take_drop_succ]
theorem mem_insA {L : List Nat} {i x : Nat} {B : Nat} (hL : ∀ y ∈ L, y < B) (hx : x < B) : ∀ y ∈ insA L i x, y < B := by
  intro y hy
  unfold insA at hy
  rcases List.mem_append.1 hy with h | h
  · exact hL y (List.mem_of_mem_take h)
  · rcases List.mem_cons.1 h with rfl | h
    · exact hx
    · exact hL y (List.mem_of_mem_drop h)
theorem mem_setA {L : List Nat} {i x : Nat} {B : Nat} (hL : ∀ y ∈ L, y < B) (hx : x < B) : ∀ y ∈ L.set i x, y < B := by
  intro y hy
  rcases List.mem_or_eq_of_mem_set hy with h | rfl
  · exact hL y h
  · exact hx
/-- A node that was made. -/
def KnOut (w0 w : World) (tag : Nat → Nat) (sb rb n : Nat) (N C : List UInt8) (X : Nat → Option Nd) (u : Nat) (m : Nd) (e : Ending) (w' : World) : Prop :=
  ∃ q : CN, e = .returned q.val ∧ q.nd = m ∧ ∃ tag', HasX w0 w' tag' sb rb n N C X u ∧ Mv tag tag' w w' ∧ NdAt w' tag' q
theorem HasX.five {w0 w : World} {tag : Nat → Nat} {sb rb n : Nat} {N C : List UInt8} {X : Nat → Option Nd} {u : Nat} (h : HasX w0 w tag sb rb n N C X u) {z : Nat} {m : CN} (g : New5 w z m) (hz : ∀ k, z ≤ k → tag k = 4) : HasX w0 w (tag5 tag z m) sb rb n N C X u := by
  obtain ⟨Y, h1, h2⟩ := h
  exact ⟨Y, h1.five g hz, h2⟩
section
variable {w0 w : World} {tag : Nat → Nat} {sb rb n : Nat} {N C : List UInt8} {X : Nat → Option Nd} {u : Nat}
theorem kn_of (h : HasX w0 w tag sb rb n N C X u) {w' : World} {lf : Bool} {K V : List Nat} {ka : Option Addr} {kc : Nat} {va : Option Addr} {vc : Nat} (r : RmN w' w.heap.size ka kc va vc K V) (g : Chg [] w w') (hl : K.length ≤ 1000 ∧ V.length ≤ 1000) (bK : ∀ x ∈ K, x < 2 ^ 64) (bV : ∀ x ∈ V, x < 2 ^ 64) :
    ∃ tag', HasX w0 w' tag' sb rb n N C X u ∧ Mv tag tag' w w' ∧ NdAt w' tag' ⟨lf, ka, kc, va, vc, K, V⟩ := by
  have n5 : New5 w' w.heap.size ⟨lf, ka, kc, va, vc, K, V⟩ := ⟨r.rk, r.rv⟩
  exact ⟨_, (h.keep g).five n5 h.hi, (Mv.made g h.hi).five n5 (Nat.le_refl _), NdAt.new n5 (by dsimp only; omega) (by dsimp only; omega) bK bV⟩
theorem kn_out (h : HasX w0 w tag sb rb n N C X u) {f : Nat} {args : Array Value} {lf : Bool} {K V : List Nat} (c : Calls Tryz.prog f args w fun e w' => NOut w.heap.size lf K V e w' ∧ Chg [] w w') (hl : K.length ≤ 1000 ∧ V.length ≤ 1000) (bK : ∀ x ∈ K, x < 2 ^ 64) (bV : ∀ x ∈ V, x < 2 ^ 64) :
    Calls Tryz.prog f args w (KnOut w0 w tag sb rb n N C X u ⟨lf, K, V⟩) := by
  refine c.mono ?_
  rintro e w' ⟨⟨ka, kc, va, vc, rfl, r⟩, g⟩
  exact ⟨⟨lf, ka, kc, va, vc, K, V⟩, rfl, rfl, kn_of h r g hl bK bV⟩
theorem kinsN (h : HasX w0 w tag sb rb n N C X u) (q : CN) (hq : NdAt w tag q) (hs : q.nd.sq) (i x y : Nat) (hi : i ≤ q.K.length) (hx : x < 2 ^ 64) (hy : y < 2 ^ 64) :
    Calls Tryz.prog 111 #[q.val, .int .i64 (i : Int), .int .u64 (x : Int), .int .u64 (y : Int)] w (KnOut w0 w tag sb rb n N C X u (q.nd.ins i x y)) := by
  have hn := np_sq hs
  obtain ⟨lf, ka, kc, va, vc, K, V⟩ := q
  unfold CN.nd at hs hn
  obtain ⟨s1, s2⟩ := hs
  dsimp only at s1 s2 hi hn
  have := insert_any lf ka K.length kc va V.length vc K V w hq.rd rfl rfl (i : Int) x y (by omega)
  rw [hn, show clampN (i : Int) K.length = i by unfold clampN; rw [if_neg (by omega), if_neg (by omega)]; omega] at this
  unfold insL at this
  rw [sub_ins rfl, sub_ins s1.symm] at this
  exact kn_out (lf := lf) (K := insA K i x) (V := insA V i y) h this (by unfold insA; simp only [List.length_append, List.length_cons, List.length_take, List.length_drop]; omega) (mem_insA hq.bK hx) (mem_insA hq.bV hy)
theorem ksetN (h : HasX w0 w tag sb rb n N C X u) (q : CN) (hq : NdAt w tag q) (hs : q.nd.sq) (i x y : Nat) (hi : i < q.K.length) (hx : x < 2 ^ 64) (hy : y < 2 ^ 64) :
    Calls Tryz.prog 176 #[q.val, .int .i64 (i : Int), .int .u64 (x : Int), .int .u64 (y : Int)] w (KnOut w0 w tag sb rb n N C X u (q.nd.put i x y)) := by
  have hn := np_sq hs
  obtain ⟨lf, ka, kc, va, vc, K, V⟩ := q
  unfold CN.nd at hs hn
  obtain ⟨s1, s2⟩ := hs
  dsimp only at s1 s2 hi hn
  have := set_any lf ka K.length kc va V.length vc K V w hq.rd rfl rfl (i : Int) x y (by omega)
  rw [hn] at this
  unfold setO setL at this
  rw [if_pos (by omega), if_pos (by omega), Int.toNat_natCast, sub_set rfl hi, sub_set s1.symm hi] at this
  exact kn_out (lf := lf) (K := K.set i x) (V := V.set i y) h this (by simp only [List.length_set]; omega) (mem_setA hq.bK hx) (mem_setA hq.bV hy)
theorem kremN (h : HasX w0 w tag sb rb n N C X u) (q : CN) (hq : NdAt w tag q) (hs : q.nd.sq) (i : Nat) (hi : i < q.K.length) :
    Calls Tryz.prog 149 #[q.val, .int .i64 (i : Int)] w (KnOut w0 w tag sb rb n N C X u (q.nd.rem i)) := by
  have hn := np_sq hs
  obtain ⟨lf, ka, kc, va, vc, K, V⟩ := q
  unfold CN.nd at hs hn
  obtain ⟨s1, s2⟩ := hs
  dsimp only at s1 s2 hi hn
  have := remove_any lf ka K.length kc va V.length vc K V w hq.rd rfl rfl (i : Int) (by omega)
  rw [hn] at this
  unfold remO remL at this
  rw [if_pos (by omega), if_pos (by omega), Int.toNat_natCast, sub_rem rfl, sub_rem s1.symm] at this
  have l1 := List.length_eraseIdx_le K i
  have l2 := List.length_eraseIdx_le V i
  exact kn_out (lf := lf) (K := K.eraseIdx i) (V := V.eraseIdx i) h this (by omega) (fun y hy => hq.bK y (List.mem_of_mem_eraseIdx hy)) (fun y hy => hq.bV y (List.mem_of_mem_eraseIdx hy))
theorem kfindN (h : HasX w0 w tag sb rb n N C X u) (q : CN) (hq : NdAt w tag q) (x : Nat) : Calls Tryz.prog 116 #[q.val, .int .u64 (x : Int)] w fun e w' => e = .returned (.tuple #[.int .i64 (q.nd.find x : Nat), .bool (q.nd.is x)]) ∧ Chg [] w w' := by
  obtain ⟨lf, ka, kc, va, vc, K, V⟩ := q
  exact find_any lf ka K.length kc va V.length vc K V w hq.rd rfl rfl x
theorem kchildN (h : HasX w0 w tag sb rb n N C X u) (q : CN) (hq : NdAt w tag q) (x : Nat) : Calls Tryz.prog 65 #[q.val, .int .u64 (x : Int)] w fun e w' => e = .returned (.int .i64 (q.nd.child x : Nat)) ∧ Chg [] w w' := by
  obtain ⟨lf, ka, kc, va, vc, K, V⟩ := q
  exact child_any lf ka K.length kc va V.length vc K V w hq.rd rfl rfl x
theorem nsame (h : HasX w0 w tag sb rb n N C X u) (q p : CN) (hq : NdAt w tag q) (hp : NdAt w tag p) :
    Calls Tryz.prog 179 #[q.val, p.val] w fun e w' => e = .returned (.bool (sameB q.lf p.lf q.K q.V p.K p.V)) ∧ Chg [] w w' := by
  obtain ⟨lf, ka, kc, va, vc, K, V⟩ := q
  obtain ⟨lf', ka', kc', va', vc', K', V'⟩ := p
  exact same_any lf ka K.length kc va V.length vc K V lf' ka' K'.length kc' va' V'.length vc' K' V' w hq.rd rfl rfl hp.rd rfl rfl
theorem nmay (h : HasX w0 w tag sb rb n N C X u) (q : CN) (hq : NdAt w tag q) : Calls Tryz.prog 54 #[q.val] w fun e w' => e = .returned (.bool (mayB q.K q.V)) ∧ Chg [] w w' := by
  obtain ⟨lf, ka, kc, va, vc, K, V⟩ := q
  exact may_any lf ka K.length kc va V.length vc K V w hq.rd rfl rfl
end
end Go.Proofs.YtdgkbicelnnfpaaGreatDoor
