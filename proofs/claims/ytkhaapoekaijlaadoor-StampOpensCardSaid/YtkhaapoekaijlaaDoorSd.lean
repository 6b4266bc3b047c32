/- The reference's Open. -/
import Derived.Test.YtkhaapoekaijlaaDoorSc
import Derived.Deep.QuietTactic
import Derived.BigQuiet
namespace Go.Proofs.YtkhaapoekaijlaaDoor
open Go.RowKit
set_option linter.unusedVariables false
set_option linter.unusedSimpArgs false

theorem be_val (k : Nat) : ∀ l : List UInt8, l.length = k → be (val l) k = l := by
  induction k with
  | zero => intro l h; rw [List.eq_nil_of_length_eq_zero h]; rfl
  | succ k ih =>
    intro l h
    rcases List.eq_nil_or_concat l with rfl | ⟨l', x, rfl⟩
    · simp at h
    · have h' : l'.length = k := by simpa using h
      have hx := x.toNat_lt
      rw [List.concat_eq_append, be_snoc, val_snoc, show (val l' * 256 + x.toNat) / 256 = val l' by omega, ih l' h']
      congr 2
      apply UInt8.toNat_inj.1
      rw [UInt8.toNat_ofNat', show (val l' * 256 + x.toNat) % 2 ^ 8 = x.toNat by omega]
theorem val_be_lt (k : Nat) : ∀ N : Nat, N < 256 ^ k → val (be N k) = N := by
  induction k with
  | zero => intro N h; have : N = 0 := by simpa using h
            subst this; rfl
  | succ k ih =>
    intro N h
    rw [be_snoc, val_snoc, ih (N / 256) (by rw [Nat.pow_succ] at h; exact Nat.div_lt_of_lt_mul (by rw [Nat.mul_comm]; exact h)), UInt8.toNat_ofNat']
    omega
theorem val_iff (l : List UInt8) (k N : Nat) (hl : l.length = k) (hN : N < 256 ^ k) : val l = N ↔ l = be N k := by
  constructor
  · rintro rfl; exact (be_val k l hl).symm
  · rintro rfl; exact val_be_lt k N hN
theorem be_drop (N a b : Nat) : (be N (a + b)).drop a = be N b := by
  induction a with
  | zero => simp
  | succ a ih => rw [Nat.add_right_comm, be, List.drop_succ_cons, ih]
theorem agree (a b : List UInt8) (s m : Nat) (h : ∀ i, i < m → a[s + i]? = b[s + i]?) : (a.drop s).take m = (b.drop s).take m := by
  apply List.ext_getElem?
  intro i
  rw [List.getElem?_take, List.getElem?_take]
  split
  · rw [List.getElem?_drop, List.getElem?_drop]; exact h i (by assumption)
  · rfl
theorem agrees (a b : List UInt8) (s m : Nat) (h : (a.drop s).take m = (b.drop s).take m) (i : Nat) (hi : i < m) : a[s + i]? = b[s + i]? := by
  have := congrArg (fun l => l[i]?) h
  simpa [List.getElem?_take, List.getElem?_drop, hi] using this
theorem seal_parts (l : List UInt8) (p kd : Nat) (h : l.length ≤ 240) : ((sealB l p kd).drop 240).take 8 = be p 8 ∧ ((sealB l p kd).drop 248).take 4 = be kd 4 := by
  have e1 : (l ++ List.replicate (240 - l.length) (0 : UInt8)).length = 240 := by rw [List.length_append, List.length_replicate]; omega
  have e2 : (l ++ List.replicate (240 - l.length) (0 : UInt8) ++ be p 8).length = 248 := by rw [List.length_append, e1, be_length]
  constructor
  · unfold sealB body
    rw [List.append_assoc, List.drop_left' e1, List.append_assoc, List.take_left' (be_length p 8)]
  · unfold sealB body
    rw [← List.append_assoc, List.append_assoc _ (be kd 4), List.drop_left' e2, List.take_left' (be_length kd 4)]

theorem Chg.drewN (w : World) (n : Nat) : Chg [] w (w.drewN n) := ⟨rfl, rfl, rfl, Nat.le_refl _, fun _ _ _ => rfl⟩
set_option maxHeartbeats 1000000 in
theorem refopen_any (ao : Option Addr) (n c : Nat) (l : List UInt8) (k : Int) (kd : Nat) (w : World) (g : Reads w ao (bts l)) (gn : l.length = n) (gc : n ≤ c) (gm : c ≤ maxLen) (hkd : kd < 256) :
    Calls Tryd.prog 12 #[.slice ao n c, .int .i64 k, .int .u8 kd] w (OpenPost w l (pn k) kd) := by
  by_cases c1 : n < 256
  · have d1 : decide ((n : Int) < 256) = true := decide_eq_true (by omega)
    have ho : opens l (pn k) kd = 4 := by unfold opens; rw [if_pos (by omega)]
    go_enter Tryd.func12, Tryd.ntmps12
    go_wp2_with fail
    go_ret2
    exact ⟨Chg.refl _ _, Or.inr ⟨by rw [ho]; decide, by rw [ho]; rfl⟩⟩
  have d1 : decide ((n : Int) < 256) = false := decide_eq_false (by omega)
  by_cases c2 : 256 < n
  · have d2 : decide ((256 : Int) < (n : Int)) = true := decide_eq_true (by omega)
    have ho : opens l (pn k) kd = 3 := by unfold opens; rw [if_neg (by omega), if_pos (by omega)]
    go_enter Tryd.func12, Tryd.ntmps12
    go_wp2_with fail
    go_ret2
    exact ⟨Chg.refl _ _, Or.inr ⟨by rw [ho]; decide, by rw [ho]; rfl⟩⟩
  obtain rfl : n = 256 := by omega
  clear c1 c2 d1
  obtain ⟨b, o, rfl, _⟩ := g (by rw [bts_length]; omega)
  have ho : opens l (pn k) kd = if val ((l.drop 252).take 4) ≠ (csum (l.take 252)).toNat then 20 else if val ((l.drop 240).take 8) ≠ pn k then 21 else if val ((l.drop 248).take 4) ≠ kd then 22 else 0 := by
    unfold opens; rw [if_neg (by omega), if_neg (by omega)]
  have hno : ∀ (C : Nat) (w' : World), opens l (pn k) kd = C → C ≠ 0 → Chg [] w w' → OpenPost w l (pn k) kd (.returned (.tuple #[.slice none 0 0, .int .i64 C])) w' := fun C w' h h0 hg => by
    subst h; exact ⟨hg, Or.inr ⟨h0, rfl⟩⟩
  have hyes : ∀ (w' : World) (ao : Option Addr) (c : Nat), opens l (pn k) kd = 0 → Chg [] w w' → Room w' w.heap.size ao 240 c (bts (l.take 240)) → OpenPost w l (pn k) kd (.returned (.tuple #[.slice ao 240 c, .int .i64 0])) w' := fun w' ao c h hg ho => by
    exact ⟨hg, Or.inl ⟨h, _, _, rfl, ho⟩⟩
  have hplt := pn_lt k
  have gtk : ∀ m, Reads w (some ⟨b, o, none⟩) (bts (l.take m)) := fun m => by rw [← bts_take]; exact g.take m
  have g240 := gtk 240
  have g252 := gtk 252
  have l240 : (l.take 240).length = 240 := by rw [List.length_take]; omega
  have l252 : (l.take 252).length = 252 := by rw [List.length_take]; omega
  have hparts := seal_parts (l.take 240) (pn k) kd (by omega)
  have hWl := seal_length (l.take 240) (pn k) kd (by omega)
  obtain ⟨S, hS⟩ : ∃ S, S = (csum (l.take 252)).toNat := ⟨_, rfl⟩
  have hSv : v32 (csum (l.take 252)) = (S : Int) := by rw [hS]; rfl
  have hSlt : S < 2 ^ 32 := by rw [hS]; exact (csum (l.take 252)).isLt
  rw [← hS] at ho
  go_enter Tryd.func12, Tryd.ntmps12
  go_wp2_with (first
    | (go_at_call 9; refine (refseal_any _ 240 c (l.take 240) k kd w g240 l240 (by decide) hkd).mono ?_; rintro e w1 ⟨aw, cw, rfl, hrw, hgw⟩)
    | (go_at_call 17; refine (refsum_any _ 252 c (l.take 252) _ (g252.keep hgw) l252 (by decide)).mono ?_; rintro e w' ⟨rfl, rfl⟩))
  have gw := hrw.reads
  generalize sealB (l.take 240) (pn k) kd = W at *
  generalize hP : pn k = P at *
  clear hrw g240
  have HS := mkHid hS
  clear hS
  have Hho := mkHid ho
  clear ho
  go_loopw [10, 11] (fun v i wr => ∃ (q p : Nat), v = .int .u32 (p : Int) ∧ Hid (p = S / 256 ^ (256 - q)) ∧ i = .int .i64 (prev q) ∧ 252 ≤ q ∧ q ≤ 256 ∧ Hid (l.drop q = be S (256 - q)) ∧ w1 = wr) (fun _ i _ => (intOf i).toNat)
  case atStart => exact ⟨256, S, by rw [HS.out], (by simp : S = S / 256 ^ (256 - 256)), rfl, by decide, by decide, (by rw [List.drop_eq_nil_of_le (by omega)]; rfl : l.drop 256 = be S (256 - 256)), rfl⟩
  case round =>
    obtain ⟨q, p, rfl, hp, rfl, hq1, hq2, hd, rfl⟩ := hrel
    by_cases hq : 252 < q
    · obtain ⟨m, rfl⟩ : ∃ m, q = m + 1 := ⟨q - 1, by omega⟩
      simp only [prev_succ]
      have hp64 : p < 2 ^ 32 := by rw [hp.out]; exact Nat.lt_of_le_of_lt (Nat.div_le_self _ _) hSlt
      have hdm : decide ((252 : Int) ≤ (m : Int)) = true := decide_eq_true (by omega)
      have hck := (g.keep hgw).cell m _ (bts_get l m (by omega))
      have hrb := rest_byte p
      have hml : m < l.length := by omega
      obtain ⟨x, hx⟩ : ∃ x, x = l[m] := ⟨_, rfl⟩
      rw [← hx] at hck
      have hdx : l.drop m = x :: l.drop (m + 1) := by rw [hx]; exact List.drop_eq_getElem_cons hml
      have Hdx := mkHid hdx
      clear hx hdx
      by_cases hxe : x = UInt8.ofNat p
      · have hdt : ((x.toNat : Int) != (p : Int) % 256) = false := bne_eq_false_iff_eq.2 (by rw [hxe]; exact hrb.symm)
        clear hrb
        go_wp2_with fail
        refine ⟨⟨m, p / 256, by go_num, ?_, rfl, by omega, by omega, ?_, by first | rfl | trivial⟩, by simp [intOf, prev]; omega⟩
        · show p / 256 = _
          rw [hp.out, Nat.div_div_eq_div_mul, ← Nat.pow_succ, show (256 - (m + 1)).succ = 256 - m by omega]
        · show l.drop m = _
          rw [Hdx.out, hd.out, hxe, show 256 - m = (256 - (m + 1)) + 1 by omega, be, ← hp.out]
      · have hdt : ((x.toNat : Int) != (p : Int) % 256) = true := bne_iff_ne.2 (by rw [hrb]; intro h; exact hxe (UInt8.toNat_inj.1 (by omega)))
        have hne : opens l P kd = 20 := by
          rw [Hho.out, if_pos]
          intro he
          have h4 : (l.drop 252).take 4 = be S 4 := (val_iff _ 4 S (by rw [List.length_take, List.length_drop]; omega) (by omega)).1 he
          rw [List.take_of_length_le (by rw [List.length_drop]; omega)] at h4
          have h5 := congrArg (fun t => t.drop (m - 252)) h4
          simp only [List.drop_drop] at h5
          rw [show 252 + (m - 252) = m by omega, show (4 : Nat) = (m - 252) + (256 - m) by omega, be_drop, Hdx.out, show 256 - m = (256 - (m + 1)) + 1 by omega, be, ← hp.out] at h5
          exact hxe (List.cons.inj h5).1
        clear hrb
        go_wp2_with fail
        go_ret2
        exact hno 20 _ hne (by decide) hgw
    · obtain rfl : q = 252 := by omega
      have hdm : decide ((252 : Int) ≤ prev 252) = false := by decide
      have hsum : val ((l.drop 252).take 4) = S := (val_iff _ 4 S (by rw [List.length_take, List.length_drop]; omega) (by omega)).2 (by rw [List.take_of_length_le (by rw [List.length_drop]; omega)]; exact hd.out)
      have ho2 : opens l P kd = if val ((l.drop 240).take 8) ≠ P then 21 else if val ((l.drop 248).take 4) ≠ kd then 22 else 0 := by rw [Hho.out, if_neg (by simpa using hsum)]
      have Hho2 := mkHid ho2
      clear ho2 Hho hd hp hsum
      go_wp2_with fail
      obtain ⟨bw, ow, rfl, _⟩ := gw (by rw [bts_length]; omega)
      go_loopw [12] (fun i wr => ∃ (q : Nat), i = .int .i64 (q : Nat) ∧ 240 ≤ q ∧ q ≤ 248 ∧ Hid (∀ t, 240 ≤ t → t < q → l[t]? = W[t]?) ∧ Chg [] w wr ∧ Reads wr (some ⟨bw, ow, none⟩) (bts W)) (fun i _ => 248 - (intOf i).toNat)
      case atStart => exact ⟨240, rfl, by decide, by decide, (fun t h1 h2 => by omega), hgw, gw⟩
      case round =>
        clear hgw gw
        obtain ⟨q, rfl, hq1, hq2, hag, hgw, gw⟩ := hrel
        by_cases hq : q < 248
        · have hdm : decide ((q : Int) < 248) = true := decide_eq_true (by omega)
          have hml : q < l.length := by omega
          have hmw : q < W.length := by omega
          have hck := (g.keep hgw).cell q _ (bts_get l q hml)
          have hcw := gw.cell q _ (bts_get W q hmw)
          have hgx : l[q]? = some l[q] := List.getElem?_eq_getElem hml
          have hgy : W[q]? = some W[q] := List.getElem?_eq_getElem hmw
          have Hgx := mkHid hgx
          have Hgy := mkHid hgy
          clear hgx hgy
          generalize l[q] = x at hck Hgx
          generalize W[q] = y at hcw Hgy
          have hone := hag.out
          by_cases hxe : x = y
          · subst hxe
            go_wp2_with fail
            go_quiet (fail)
            go_wp2_with fail
            refine ⟨⟨q + 1, by go_num, by omega, by omega, ?_, hgw.then (Chg.drewN _ _), gw.keep (Chg.drewN _ _)⟩, by simp [intOf]; omega⟩
            intro t h1 h2
            by_cases he : t = q
            · subst he
              rw [Hgx.out, Hgy.out]
            · exact hone t h1 (by omega)
          · have hdt : ((x.toNat : Int) != (y.toNat : Int)) = true := bne_iff_ne.2 (by intro h; exact hxe (UInt8.toNat_inj.1 (by omega)))
            have hne : opens l P kd = 21 := by
              rw [Hho2.out, if_pos]
              intro he
              have h4 := (val_iff _ 8 P (by rw [List.length_take, List.length_drop]; omega) (by omega)).1 he
              rw [← hparts.1] at h4
              have h5 := agrees l W 240 8 h4 (q - 240) (by omega)
              rw [show 240 + (q - 240) = q by omega, Hgx.out, Hgy.out] at h5
              exact hxe (Option.some.inj h5)
            go_wp2_with fail
            go_quiet (fail)
            go_wp2_with fail
            go_ret2
            exact hno 21 _ hne (by decide) (hgw.then (Chg.drewN _ _))
        · obtain rfl : q = 248 := by omega
          have hok : (l.drop 240).take 8 = be P 8 := by
            rw [← hparts.1]
            exact agree l W 240 8 (fun i hi => hag.out _ (by omega) (by omega))
          have hval : val ((l.drop 240).take 8) = P := (val_iff _ 8 P (by rw [List.length_take, List.length_drop]; omega) (by omega)).2 hok
          have ho3 : opens l P kd = if val ((l.drop 248).take 4) ≠ kd then 22 else 0 := by rw [Hho2.out, if_neg (by simpa using hval)]
          have Hho3 := mkHid ho3
          clear ho3 Hho2 hok hval hag
          go_wp2_with fail
          go_loopw [13] (fun i wr => ∃ (q : Nat), i = .int .i64 (q : Nat) ∧ 248 ≤ q ∧ q ≤ 252 ∧ Hid (∀ t, 248 ≤ t → t < q → l[t]? = W[t]?) ∧ Chg [] w wr ∧ Reads wr (some ⟨bw, ow, none⟩) (bts W)) (fun i _ => 252 - (intOf i).toNat)
          case atStart => exact ⟨248, rfl, by decide, by decide, (fun t h1 h2 => by omega), hgw, gw⟩
          case round =>
            clear hgw gw
            obtain ⟨q, rfl, hq1, hq2, hag, hgw, gw⟩ := hrel
            by_cases hq : q < 252
            · have hdm : decide ((q : Int) < 252) = true := decide_eq_true (by omega)
              have hml : q < l.length := by omega
              have hmw : q < W.length := by omega
              have hck := (g.keep hgw).cell q _ (bts_get l q hml)
              have hcw := gw.cell q _ (bts_get W q hmw)
              have hgx : l[q]? = some l[q] := List.getElem?_eq_getElem hml
              have hgy : W[q]? = some W[q] := List.getElem?_eq_getElem hmw
              have Hgx := mkHid hgx
              have Hgy := mkHid hgy
              clear hgx hgy
              generalize l[q] = x at hck Hgx
              generalize W[q] = y at hcw Hgy
              have hone := hag.out
              by_cases hxe : x = y
              · subst hxe
                go_wp2_with fail
                go_quiet (fail)
                go_wp2_with fail
                refine ⟨⟨q + 1, by go_num, by omega, by omega, ?_, hgw.then (Chg.drewN _ _), gw.keep (Chg.drewN _ _)⟩, by simp [intOf]; omega⟩
                intro t h1 h2
                by_cases he : t = q
                · subst he
                  rw [Hgx.out, Hgy.out]
                · exact hone t h1 (by omega)
              · have hdt : ((x.toNat : Int) != (y.toNat : Int)) = true := bne_iff_ne.2 (by intro h; exact hxe (UInt8.toNat_inj.1 (by omega)))
                have hne : opens l P kd = 22 := by
                  rw [Hho3.out, if_pos]
                  intro he
                  have h4 := (val_iff _ 4 kd (by rw [List.length_take, List.length_drop]; omega) (by omega)).1 he
                  rw [← hparts.2] at h4
                  have h5 := agrees l W 248 4 h4 (q - 248) (by omega)
                  rw [show 248 + (q - 248) = q by omega, Hgx.out, Hgy.out] at h5
                  exact hxe (Option.some.inj h5)
                go_wp2_with fail
                go_quiet (fail)
                go_wp2_with fail
                go_ret2
                exact hno 22 _ hne (by decide) (hgw.then (Chg.drewN _ _))
            · obtain rfl : q = 252 := by omega
              have hok : (l.drop 248).take 4 = be kd 4 := by
                rw [← hparts.2]
                exact agree l W 248 4 (fun i hi => hag.out _ (by omega) (by omega))
              have hval : val ((l.drop 248).take 4) = kd := (val_iff _ 4 kd (by rw [List.length_take, List.length_drop]; omega) (by omega)).2 hok
              have hz : opens l P kd = 0 := by rw [Hho3.out, if_neg (by simpa using hval)]
              clear Hho3 hok hval hag
              have hxs := (gtk 240).keep hgw
              go_wp2_with (first | (at_builtin; refine wpList_append_k _ rfl (.tmp 72) (.tmp 74) 22 rfl 5 1 eltB w.heap.size _ 0 0 [] rfl (Room.nil _ _ _) hgw.size (some ⟨b, o, none⟩) 240 c (bts (l.take 240)) rfl hxs (by rw [bts_length]; exact l240) (bts_one _) (by decide) (by decide) ?_; intro ao2 c2 w2 hr2 hc2 hf2; simp only [Nat.zero_add, List.nil_append] at hr2))
              go_ret2
              exact hyes _ _ _ hz (hgw.then hc2) hr2
end Go.Proofs.YtkhaapoekaijlaaDoor
