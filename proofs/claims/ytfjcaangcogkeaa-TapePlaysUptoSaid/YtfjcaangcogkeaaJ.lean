/- Rows of calls of a tape: the walk. -/
import Derived.Test.YtfjcaangcogkeaaI
import Derived.Deep.DeepCutAuto
import Derived.Deep.CutBlock
namespace Go.Proofs.Ytfjcaangcogkeaa
open Go.RowKit
set_option linter.unusedVariables false

/-- A call, as it lies in memory. -/
structure ActD where
  what : Int
  num : Int
  bo : Option Addr
  bn : Nat
  bc : Nat
  bl : List UInt8
  so : Option Addr
  sn : Nat
  sc : Nat
  sz : List Int
structure ActAt (w : World) (b o : Nat) (A : ActD) : Prop where
  c0 : w.cell? ⟨b, o, none⟩ = some (.int .i64 A.what)
  c1 : w.cell? ⟨b, o + 1, none⟩ = some (.int .i64 A.num)
  c2 : w.cell? ⟨b, o + 2, none⟩ = some (.slice A.bo A.bn A.bc)
  c3 : w.cell? ⟨b, o + 3, none⟩ = some (.slice A.so A.sn A.sc)
  rb : Reads w A.bo (bts A.bl)
  lb : A.bl.length = A.bn
  rs : Reads w A.so (ints A.sz)
  ls : A.sz.length = A.sn
  small : A.bn ≤ 1048576 ∧ A.sn ≤ 1048576
theorem ActAt.old {S : List Nat} {w w' : World} {b o : Nat} {A : ActD} (h : ActAt w b o A) (g : Chg S w w') (hS : ∀ k, k ∈ S → w.heap.size ≤ k) : ActAt w' b o A := by
  have hb : b < w.heap.size := block_lt_of_cell h.c0
  have hn : b ∉ S := fun hm => by have := hS b hm; omega
  exact ⟨g.cellv h.c0 hn, g.cellv h.c1 hn, g.cellv h.c2 hn, g.cellv h.c3 hn, h.rb.old g hS, h.lb, h.rs.old g hS, h.ls, h.small⟩
/-- Two tapes with the same bytes, apart from each other; a slice that the caller may write, apart from both; another that reads the same. -/
structure Two (w : World) (H tb rb : Nat) (l : List UInt8) (n : Nat) (ao : Option Addr) (c : Nat) (ro : Option Addr) (rc : Nat) : Prop where
  t : TapeAt w H tb ao n c l
  r : TapeAt w H rb ro n rc l
  apart : ∀ x, x ∈ tb :: fp ao c → x ∉ rb :: fp ro rc
theorem Two.chg {S : List Nat} {w w' : World} {H tb rb : Nat} {l : List UInt8} {n : Nat} {ao : Option Addr} {c : Nat} {ro : Option Addr} {rc : Nat} (h : Two w H tb rb l n ao c ro rc) (g : Chg S w w') (hn : ∀ k, k ∈ S → k ∉ tb :: fp ao c ∧ k ∉ rb :: fp ro rc) : Two w' H tb rb l n ao c ro rc :=
  ⟨h.t.chg g (fun k hk hS => (hn k hS).1 hk), h.r.chg g (fun k hk hS => (hn k hS).2 hk), h.apart⟩

theorem Two.lt {w : World} {H tb rb : Nat} {l : List UInt8} {n : Nat} {ao : Option Addr} {c : Nat} {ro : Option Addr} {rc : Nat} (h : Two w H tb rb l n ao c ro rc) : ∀ x, x ∈ tb :: fp ao c ∨ x ∈ rb :: fp ro rc → H ≤ x ∧ x < w.heap.size := by
  intro x hx
  refine ⟨hx.elim (h.t.ge x) (h.r.ge x), ?_⟩
  have h1 := h.t.lt
  have h2 := h.r.lt
  simp at hx
  rcases hx with (rfl | hx) | (rfl | hx)
  · omega
  · exact (h.t.room.lt _ hx).2
  · omega
  · exact (h.r.room.lt _ hx).2
/-- What is new is apart from both. -/
theorem Two.far {w : World} {H tb rb : Nat} {l : List UInt8} {n : Nat} {ao : Option Addr} {c : Nat} {ro : Option Addr} {rc : Nat} (h : Two w H tb rb l n ao c ro rc) {x : Nat} (hx : w.heap.size ≤ x) : x ∉ tb :: fp ao c ∧ x ∉ rb :: fp ro rc :=
  ⟨fun hm => by have := (h.lt x (Or.inl hm)).2; omega, fun hm => by have := (h.lt x (Or.inr hm)).2; omega⟩

theorem equal_quiet (ao : Option Addr) (n c : Nat) (bo : Option Addr) (m d : Nat) (l : List UInt8) (w : World) (q : Nat) (h1 : Reads w ao (bts l)) (hn : l.length = n) (h2 : Reads w bo (bts l)) (hm : l.length = m) :
    Calls Try.prog 11 #[.slice ao n c, .slice bo m d] (w.drewN q) fun e w' => e = .returned (.bool true) ∧ w' = w.drewN q :=
  (equal_any ao n c l bo m d l (w.drewN q) (h1.drewN q) hn (h2.drewN q) hm).mono fun _ _ h => ⟨by rw [h.1]; simp, h.2.symm⟩
theorem len_quiet (B tb : Nat) (ao : Option Addr) (n c : Nat) (l : List UInt8) (w : World) (q : Nat) (h : TapeAt w B tb ao n c l) :
    Calls Try.prog 26 #[.pointer (some ⟨tb, 0, none⟩)] (w.drewN q) fun e w' => e = .returned (.int .i64 (n : Int)) ∧ w' = w.drewN q :=
  (len_any B tb ao n c l (w.drewN q) (h.chg (Chg.drewN w q) (by simp))).mono fun _ _ h => ⟨h.1, h.2.symm⟩
set_option maxRecDepth 100000 in
set_option maxHeartbeats 8000000 in
theorem plays (a0 : Option Addr) (n0 c0 : Nat) (acts : Nat → ActD) (tot : Nat → Nat) (w : World) (gn : n0 ≤ c0) (gc : c0 ≤ maxLen)
    (ga : 0 < n0 → ∃ b o, a0 = some ⟨b, o, none⟩ ∧ ∀ i, i < n0 → ActAt w b (o + i * 4) (acts i)) (gt : ∀ i, i < n0 → tot (i + 1) = tot i + (acts i).bn) (gt2 : ∀ i, i ≤ n0 → tot i ≤ 1048576) :
    Calls Try.prog 5 #[.slice a0 n0 c0] w fun e w' => e = .returned (.bool true) ∧ Below w.heap.size w w' := by
  unfold maxLen at gc
  go_enter Try.func5, Try.ntmps5
  go_wp2_with (first | (go_at_call 16; refine (new_tape _).mono ?_; rintro e w1 ⟨tb, rfl, ht1, hg1, hlt1⟩) | (go_at_call 13; refine (awake_any _).mono ?_; rintro e w2 ⟨rfl, hg2⟩))
  obtain ⟨rb, hrb⟩ : ∃ rb, rb = w1.heap.size := ⟨_, rfl⟩
  rw [← hrb]
  have ht2 := (ht1.chg (Chg.alloc [] _ (.cells #[.slice none 0 0] 39)) (by simp)).chg hg2 (by simp)
  have hr2 : TapeAt w2 w.heap.size rb none 0 0 [] := by
    have h0 : TapeAt (w1.alloc (.cells #[.slice none 0 0] 39)) w.heap.size rb none 0 0 [] := ⟨by rw [hrb]; simp, by rw [hrb]; simp, by rw [hrb]; exact hg1.size, Room.nil _ _ _, by simp [fp_zero]⟩
    exact h0.chg hg2 (by simp)
  have hg2' : Chg [] w w2 := (hg1.then (Chg.alloc [] _ _)).then hg2
  have hne : tb ≠ rb := by omega
  have Hne := mkHid hne
  clear hne hg1 hg2 ht1 hrb hlt1
  go_loopw [31] (fun i wr => ∃ (k : Nat) (l : List UInt8) (n : Nat) (ao : Option Addr) (c : Nat) (ro : Option Addr) (rc : Nat), i = .int .i64 k ∧ k ≤ n0 ∧ k ≤ 300 ∧ n ≤ tot k ∧ Two wr w.heap.size tb rb l n ao c ro rc ∧ Chg [] w wr) (fun i _ => n0 - (intOf i).toNat)
  case atStart => exact ⟨0, [], 0, none, 0, none, 0, rfl, Nat.zero_le _, by omega, Nat.zero_le _, ⟨ht2, hr2, by simp [fp_zero]; exact Hne.out⟩, hg2'⟩
  case round =>
    obtain ⟨k, l, n, ao, c, ro, rc, rfl, hk, hk3, hnt, htwo, hgr⟩ := hrel
    by_cases hcont : k < n0 ∧ k < 300
    · obtain ⟨hlt, h300⟩ := hcont
      obtain ⟨b, o, rfl, hacts⟩ := ga (by omega)
      have hA := (hacts k hlt).old hgr (by simp)
      have arb0 := (hacts k hlt).rb
      have ars0 := (hacts k hlt).rs
      have htk := gt2 (k + 1) (by omega)
      have htk1 := gt k hlt
      have HTK := mkHid htk1
      clear hacts htk1
      generalize acts k = A at *
      obtain ⟨a0c, a1c, a2c, a3c, arb, alb, ars, als, asm⟩ := hA
      have hne3 : ((k : Int) == 300) = false := by simp; omega
      go_upto_block 2 with fail
      generalize hw3 : wr.alloc (.cells #[.int .i64 A.what, .int .i64 A.num, .slice A.bo A.bn A.bc, .slice A.so A.sn A.sc] 42) = w3
      generalize hab : wr.heap.size = ab
      have hg3 : Chg [] wr w3 := by subst hw3; exact Chg.alloc [] _ _
      have d0 : w3.cell? ⟨ab, 0, none⟩ = some (.int .i64 A.what) := by subst hw3; subst hab; simp
      have d1 : w3.cell? ⟨ab, 1, none⟩ = some (.int .i64 A.num) := by subst hw3; subst hab; simp
      have d2 : w3.cell? ⟨ab, 2, none⟩ = some (.slice A.bo A.bn A.bc) := by subst hw3; subst hab; simp
      have d3 : w3.cell? ⟨ab, 3, none⟩ = some (.slice A.so A.sn A.sc) := by subst hw3; subst hab; simp
      have hab3 : ab < w3.heap.size := block_lt_of_cell d0
      have htw3 := htwo.chg hg3 (by simp)
      have hrb3 : Reads w3 A.bo (bts A.bl) := arb.old hg3 (by simp)
      have hrs3 : Reads w3 A.so (ints A.sz) := ars.old hg3 (by simp)
      have hgr3 := hgr.then hg3
      have habn : ∀ x, x ∈ tb :: fp ao c ∨ x ∈ rb :: fp ro rc → x ≠ ab := by
        intro x hx e
        subst e
        have h1 := htwo.t.lt
        have h2 := htwo.r.lt
        simp at hx
        rcases hx with (rfl | hx) | (rfl | hx)
        · omega
        · have := (htwo.t.room.lt _ hx).2; omega
        · omega
        · have := (htwo.r.room.lt _ hx).2; omega
      clear hw3 hab a0c a1c a2c a3c
      go_cut [7, 8, 9, 10] (fun x y ok is wx => ∃ (l' : List UInt8) (n' : Nat) (ao' : Option Addr) (c' : Nat) (ro' : Option Addr) (rc' : Nat) (xo : Option Addr) (xn xc : Nat) (yo : Option Addr) (yc : Nat) (xs : List UInt8) (okb : Bool), x = .slice xo xn xc ∧ y = .slice yo xn yc ∧ ok = .bool okb ∧ is = .bool okb ∧ Room wx w.heap.size xo xn xc (bts xs) ∧ Reads wx yo (bts xs) ∧ Two wx w.heap.size tb rb l' n' ao' c' ro' rc' ∧ n' ≤ n + A.bn ∧ Chg [] w wx ∧ (∀ z, z ∈ fp xo xc → z ∉ tb :: fp ao' c' ∧ z ∉ rb :: fp ro' rc'))
      case first =>
        have hszn := A.bn
        generalize A.what = q at *
        have hB3 : w.heap.size ≤ w3.heap.size := hgr3.size
        have htl := htw3.t.len
        have hnn : n ≤ 1048576 := by have := HTK.out; omega
        have hnb : n + A.bn ≤ 1048576 := by have := HTK.out; omega
        by_cases q0 : q = 0
        · subst q0
          have hdone : ∀ w4 : World, Chg [] w3 w4 → Reads w4 A.bo (bts A.bl) := fun w4 h => arb0.old (hgr3.then h) (by simp)
          go_wp2_with (first | (at_builtin; refine wpList_append_k _ rfl (.tmp 42) (.tmp 44) 22 rfl 5 1 eltB w3.heap.size _ 0 0 [] rfl (Room.nil _ _ _) (by simp) A.bo A.bn A.bc _ rfl (hdone _ (Chg.alloc [] _ _)) (by rw [bts_length]; exact alb) (bts_one _) (by unfold maxLen; omega) (by omega) ?_; intro xo4 xc4 w4 hr4 hg4 hf4; simp only [Nat.zero_add, List.nil_append] at hr4; have hg4' : Chg [] w3 w4 := (Chg.alloc [] _ _).then hg4; have htw4 := htw3.chg hg4' (by simp)) | (go_at_call 17; refine (push_any w.heap.size tb ao n c l xo4 A.bn xc4 A.bl _ htw4.t (len_le hg4' hB3) hr4.reads alb (by omega)).mono ?_; rintro e w5 ⟨rfl, ao5, c5, ht5, hg5, hf5⟩; have ht5 := ht5.renum (m := n + A.bn) rfl (by rw [List.length_append, htl, alb]); have hr5 := htw4.r.chg hg5 (fun x hx hx' => htw4.apart x hx' hx); have d25 := hg5.cellv (hg4'.cellv d2 (by simp)) (fun hm => habn ab (Or.inl hm) rfl); have hg5' : Chg [] w w5 := (hgr3.then hg4').step hg5 htw4.t.ge) | (go_at_call 18; refine (refpush_any w.heap.size rb ro n rc l A.bo A.bn A.bc A.bl _ hr5 (len_le hg5 (len_le hg4' hB3)) (arb0.old hg5' (by simp)) alb (by omega)).mono ?_; rintro e w6 ⟨rfl, ro6, rc6, hr6, hg6, hf6⟩))
          have hr6 := hr6.renum (m := n + A.bn) rfl (by rw [List.length_append, htl, alb])
          have hg6' : Chg [] w w6 := hg5'.step hg6 htw4.r.ge
          have hs4 := hg4'.size
          have hs5 := hg5.size
          have hx4 : ∀ z, z ∈ fp xo4 xc4 → w3.heap.size ≤ z ∧ z < w4.heap.size := fun z hz => hr4.lt z hz
          have h5 : ∀ z, z ∈ fp ao5 c5 → z ∈ fp ao c ∨ z = w4.heap.size := fun z hz => by
            rcases hf5 with e | e
            · rw [e] at hz; exact Or.inl hz
            · rw [e] at hz; simp at hz; exact Or.inr hz
          have h6 : ∀ z, z ∈ fp ro6 rc6 → z ∈ fp ro rc ∨ z = w5.heap.size := fun z hz => by
            rcases hf6 with e | e
            · rw [e] at hz; exact Or.inl hz
            · rw [e] at hz; simp at hz; exact Or.inr hz
          have hw45 : w4.heap.size ∉ rb :: fp ro rc := (htw4.far (Nat.le_refl _)).2
          have hw45' : w4.heap.size < w5.heap.size ∨ ∀ z, z ∈ fp ao5 c5 → z ∈ fp ao c := by
            by_cases e : w4.heap.size ∈ fp ao5 c5
            · exact Or.inl (ht5.room.lt _ e).2
            · exact Or.inr fun z hz => (h5 z hz).elim id (fun h => absurd (h ▸ hz) e)
          have htw6 : Two w6 w.heap.size tb rb (l ++ A.bl) (n + A.bn) ao5 c5 ro6 rc6 := by
            refine ⟨ht5.chg hg6 (fun x hx hx' => ?_), hr6, fun x hx hx' => ?_⟩
            · simp at hx
              rcases hx with rfl | hx
              · exact htw4.apart _ (by simp) hx'
              · rcases h5 x hx with hx | hx
                · exact htw4.apart x (by simp [hx]) hx'
                · subst hx; exact hw45 hx'
            · simp at hx hx'
              rcases hx with rfl | hx <;> rcases hx' with hx' | hx'
              · exact htw4.apart x (by simp) (by simp [hx'])
              · rcases h6 x hx' with hx' | hx'
                · exact htw4.apart x (by simp) (by simp [hx'])
                · have := ht5.lt; omega
              · subst hx'
                rcases h5 x hx with hx | hx
                · exact htw4.apart x (by simp [hx]) (by simp)
                · exact hw45 (by simp [hx])
              · rcases h6 x hx' with h7 | h7
                · rcases h5 x hx with hx | hx
                  · exact htw4.apart x (by simp [hx]) (by simp [h7])
                  · subst hx; exact hw45 (by simp [h7])
                · have := (ht5.room.lt x hx).2; omega
          have hxd6 : ∀ z, z ∈ fp xo4 xc4 → z ∉ tb :: fp ao5 c5 ∧ z ∉ rb :: fp ro6 rc6 := by
            intro z hz
            have hz4 := hx4 z hz
            have hf := htw3.far hz4.1
            refine ⟨fun hm => ?_, fun hm => ?_⟩
            · simp at hm
              rcases hm with rfl | hm
              · exact hf.1 (by simp)
              · rcases h5 z hm with h | h
                · exact hf.1 (by simp [h])
                · omega
            · simp at hm
              rcases hm with rfl | hm
              · exact hf.2 (by simp)
              · rcases h6 z hm with h | h
                · exact hf.2 (by simp [h])
                · omega
          have hr64 : Room w6 w3.heap.size xo4 A.bn xc4 (bts A.bl) := (hr4.chg hg5 (fun z hz hz' => (htw3.far (hx4 z hz).1).1 hz')).chg hg6 (fun z hz hz' => (htw3.far (hx4 z hz).1).2 hz')
          rw [bts_u8s] at hr64
          clear h5 h6 hw45 hw45' hx4 hf5 hf6 hdone d25
          go_loopw [55] (fun i wq => ∃ (j : Nat) (zs : List Int), j ≤ A.bn ∧ i = .int .i64 j ∧ Room wq w3.heap.size xo4 A.bn xc4 (u8s zs) ∧ Two wq w.heap.size tb rb (l ++ A.bl) (n + A.bn) ao5 c5 ro6 rc6 ∧ Chg [] w wq) (fun i _ => A.bn - (intOf i).toNat)
          case atStart => exact ⟨0, _, Nat.zero_le _, rfl, hr64, htw6, hg6'⟩
          case round =>
            obtain ⟨j, zs, hj, rfl, hrr, htq, hgq⟩ := hrel
            by_cases hlt : j < A.bn
            · have hzl : zs.length = A.bn := by have := hrr.len; rwa [u8s_length] at this
              obtain ⟨bx, ox, rfl, hcr⟩ := hrr.reads (by rw [u8s_length]; omega)
              have hcell := hcr j _ (u8s_get zs j (by omega))
              have hfz := hrr.cell j hlt
              have hbm : bx ∈ fp (some (⟨bx, ox, none⟩ : Addr)) xc4 := by rw [fp_some _ _ _ (by have := hrr.le; omega)]; simp
              have hbx := (hrr.lt bx hbm).1
              have hbd := hxd6 bx hbm
              clear hcr
              go_wp2_with fail
              go_roundw
              case rel =>
                exact (hrr.set8 j hlt _).elim fun zs' hz' => ⟨j + 1, zs', by omega, by go_num, hz', htq.chg (Chg.setCell _ _ _) (fun x hx => by simp at hx; subst hx; exact hbd), hgq.step (Chg.setCell _ _ _) (fun x hx => by simp at hx; subst hx; omega)⟩
              case measure => simp [intOf]; omega
            · have : j = A.bn := by omega
              go_wp2_with fail
              go_meet
              exact ⟨_, _, _, _, _, _, none, 0, 0, none, 0, [], false, rfl, rfl, rfl, rfl, Room.nil _ _ _, Reads.nil _ _, htq, Nat.le_refl _, hgq, by simp [fp_zero]⟩
        · by_cases q1 : q = 1
          · subst q1
            generalize A.num = nm at *
            by_cases hp : 0 ≤ nm ∧ nm ≤ n
            · obtain ⟨z, rfl⟩ := Int.eq_ofNat_of_zero_le hp.1
              have hzn : z ≤ n := by omega
              go_wp2_with (first | (go_at_call 19; refine (peek_yes w.heap.size tb ao n c l z _ htw3.t hzn (by omega)).mono ?_; rintro e w4 ⟨xo4, xc4, rfl, hr4, hg4⟩; have htw4 := htw3.chg hg4 (by simp); have d14 := hg4.cellv d1 (by simp)) | (go_at_call 20; refine (refpeek_yes w.heap.size rb ro n rc l z _ htw4.r hzn (by omega)).mono ?_; rintro e w5 ⟨yo5, yc5, rfl, hr5, hg5⟩))
              go_meet
              exact ⟨l, n, ao, c, ro, rc, xo4, z, xc4, yo5, yc5, l.take z, true, rfl, rfl, rfl, rfl, (hr4.chg hg5 (by simp)).mono hB3, hr5.reads, htw4.chg hg5 (by simp), by omega, (hgr3.then hg4).then hg5, fun x hx => htw3.far (hr4.lt x hx).1⟩
            · have hp' : nm < 0 ∨ (n : Int) < nm := by omega
              go_wp2_with (first | (go_at_call 19; refine (peek_no w.heap.size tb ao n c l nm _ htw3.t hp').mono ?_; rintro e w4 ⟨rfl, rfl⟩) | (go_at_call 20; refine (refpeek_no w.heap.size rb ro n rc l nm _ htw3.r hp').mono ?_; rintro e w5 ⟨rfl, rfl⟩))
              go_meet
              exact ⟨l, n, ao, c, ro, rc, none, 0, 0, none, 0, [], false, rfl, rfl, rfl, rfl, Room.nil _ _ _, Reads.nil _ _, htw3, by omega, hgr3, by simp [fp_zero]⟩
          · by_cases q2 : q = 2
            · subst q2
              generalize A.num = nm at *
              by_cases hp : 0 ≤ nm ∧ nm ≤ n
              · obtain ⟨z, rfl⟩ := Int.eq_ofNat_of_zero_le hp.1
                have hzn : z ≤ n := by omega
                go_wp2_with (first | (go_at_call 21; refine (take_yes w.heap.size tb ao n c l z _ htw3.t hzn (by omega)).mono ?_; rintro e w4 ⟨xo4, xc4, ao4, c4, rfl, hr4, ht4, hg4, hf4⟩; have hr4r := htw3.r.chg hg4 (fun x hx hx' => by simp at hx'; subst hx'; exact htw3.apart x (by simp) hx); have d14 := hg4.cellv d1 (fun hm => by simp at hm; exact habn tb (Or.inl (by simp)) hm.symm)) | (go_at_call 22; refine (reftake_yes w.heap.size rb ro n rc l z _ (len_le hg4 hB3) hr4r hzn (by omega)).mono ?_; rintro e w5 ⟨yo5, yc5, ro5, rc5, rfl, hr5, ht5, hg5, hf5, hf6⟩))
                go_meet
                have hs4 := hg4.size
                have hrb4 := hr4r.lt
                have htrb : tb ≠ rb := fun e => htw3.apart tb (by simp) (by simp [e])
                have hfa : ∀ x, x ∈ fp ao4 c4 → x ≠ rb := fun x hx e => htw3.apart x (by simp [hf4 x hx]) (by simp [e])
                refine ⟨l.drop z, n - z, ao4, c4, ro5, rc5, xo4, z, xc4, yo5, yc5, l.take z, true, rfl, rfl, rfl, rfl, ?_, hr5.reads, ⟨ht4.chg hg5 (fun x hx hx' => ?_), ht5, fun x hx hx' => ?_⟩, by omega, (hgr3.step hg4 (by simpa using htw3.t.low)).step hg5 (by simpa using htw3.r.low), fun x hx => ⟨fun hm => ?_, fun hm => ?_⟩⟩
                · exact (hr4.chg hg5 (fun x hx hx' => by simp at hx'; subst hx'; have h1 := (hr4.lt x hx).1; have h2 := htw3.r.lt; omega)).mono hB3
                · simp at hx hx'
                  subst hx'
                  rcases hx with hx | hx
                  · exact htrb hx.symm
                  · exact hfa x hx rfl
                · simp at hx hx'
                  have h4 := ht4.lt
                  rcases hx with rfl | hx <;> rcases hx' with hx' | hx'
                  · exact htrb hx'
                  · have := hf5 x hx'; omega
                  · exact hfa x hx hx'
                  · have h1 := hf5 x hx'; have h2 := (ht4.room.lt x hx).2; omega
                · have h1 := htw3.far (hr4.lt x hx).1
                  simp at hm
                  rcases hm with rfl | hm
                  · exact h1.1 (by simp)
                  · exact h1.1 (by simp [hf4 x hm])
                · have h1 := htw3.far (hr4.lt x hx).1
                  have h2 := (hr4.lt x hx).2
                  simp at hm
                  rcases hm with rfl | hm
                  · exact h1.2 (by simp)
                  · have := hf5 x hm; omega
              · have hp' : nm < 0 ∨ (n : Int) < nm := by omega
                go_wp2_with (first | (go_at_call 21; refine (take_no w.heap.size tb ao n c l nm _ htw3.t hp').mono ?_; rintro e w4 ⟨rfl, rfl⟩) | (go_at_call 22; refine (reftake_no w.heap.size rb ro n rc l nm _ htw3.r hp').mono ?_; rintro e w5 ⟨rfl, rfl⟩))
                go_meet
                exact ⟨l, n, ao, c, ro, rc, none, 0, 0, none, 0, [], false, rfl, rfl, rfl, rfl, Room.nil _ _ _, Reads.nil _ _, htw3, by omega, hgr3, by simp [fp_zero]⟩
            · by_cases q3 : q = 3 ∨ q = 4
              · rcases q3 with rfl | rfl
                · generalize A.so = aso at *
                  generalize A.sn = asn at *
                  generalize A.sz = asz at *
                  generalize A.sc = asc at *
                  have hasn := asm.2
                  have hdone : ∀ w4 : World, Chg [] w w4 → Reads w4 aso (ints asz) := fun w4 h => ars0.old h (by simp)
                  by_cases hgood : allOk asz ∧ sumI asz ≤ n
                  · go_wp2_with (first | (at_builtin; refine wpList_append_k _ rfl (.tmp 100) (.tmp 102) 40 rfl 3 8 eltI w3.heap.size _ 0 0 [] rfl (Room.nil _ _ _) (by simp) aso asn asc _ rfl (hdone _ (hgr3.then (Chg.alloc [] _ _))) (by rw [ints_length]; exact als) (ints_one _) (by unfold maxLen; omega) (by omega) ?_; intro so4 sc4 w4 hs4 hg4 hf4; simp only [Nat.zero_add, List.nil_append] at hs4; have hg4' : Chg [] w3 w4 := (Chg.alloc [] _ _).then hg4; have htw4 := htw3.chg hg4' (by simp); have d04 := hg4'.cellv d0 (by simp)) | (go_at_call 23; refine (nums_all false w.heap.size tb ao n c l so4 asn sc4 asz _ htw4.t (by omega) hs4.reads als (by omega) hgood.1 hgood.2 (fun h0 hm => (htw3.far (hs4.lt tb (by unfold fp; rw [if_neg (by have := hs4.le; omega)]; exact hm)).1).1 (by simp))).mono ?_; rintro e w5 ⟨lo5, lc5, ao5, c5, rfl, hr5, ht5, hg5, hf5⟩; have hr5r := htw4.r.chg hg5 (fun x hx hx' => by simp at hx'; subst hx'; exact htw4.apart x (by simp) hx); have hab5 : ab ∉ [tb] := (fun hm => by simp at hm; exact habn tb (Or.inl (by simp)) hm.symm); have d05 := hg5.cellv d04 hab5; have d35 := hg5.cellv (hg4'.cellv d3 (by simp)) hab5; have hg5' : Chg [] w w5 := (hgr3.then hg4').step hg5 (by simpa using htw3.t.low)) | (go_at_call 24; refine (refnums_yes false w.heap.size rb ro n rc l aso asn asc asz _ (len_le hg5' (Nat.le_refl _)) hr5r (by omega) (hdone _ hg5') als (by omega) hgood.1 hgood.2 (fun h0 hm => by have h1 := ars0.lt (by rw [ints_length]; omega) rb hm; have h2 := htw3.r.low; omega)).mono ?_; rintro e w6 ⟨yo6, yc6, ro6, rc6, rfl, hr6, ht6, hg6, hf6, hf7⟩))
                    have hab6 : ab ∉ [rb] := fun hm => by simp at hm; exact habn rb (Or.inr (by simp)) hm.symm
                    have d36 := hg6.cellv d35 hab6
                    have hg6' : Chg [] w w6 := hg5'.step hg6 (by simpa using htw3.r.low)
                    have hs6 : Room w6 w3.heap.size so4 asn sc4 (ints asz) := (hs4.chg hg5 (fun z hz hz' => by simp at hz'; subst hz'; exact (htw3.far (hs4.lt z hz).1).1 (by simp))).chg hg6 (fun z hz hz' => by simp at hz'; subst hz'; exact (htw3.far (hs4.lt z hz).1).2 (by simp))
                    have hr56 : Room w6 w4.heap.size lo5 asn lc5 (u64s (vals asz l)) := hr5.chg hg6 (fun z hz hz' => by simp at hz'; subst hz'; exact (htw4.far (hr5.lt z hz).1).2 (by simp))
                    have ht56 := ht5.chg hg6 (fun x hx hx' => by
                      simp at hx hx'
                      subst hx'
                      rcases hx with hx | hx
                      · exact htw4.apart tb (by simp) (by simp [hx])
                      · exact htw4.apart x (by simp [hf5 x hx]) (by simp))
                    have htw6 : Two w6 w.heap.size tb rb _ _ ao5 c5 ro6 rc6 := ⟨ht56, ht6, fun x hx hx' => by
                      simp at hx hx'
                      have h5lt := ht5.lt
                      rcases hx with rfl | hx <;> rcases hx' with hx' | hx'
                      · exact htw4.apart x (by simp) (by simp [hx'])
                      · rcases hf6 x hx' with h7 | h7
                        · exact htw4.apart x (by simp) (by simp [h7])
                        · omega
                      · exact htw4.apart x (by simp [hf5 x hx]) (by simp [hx'])
                      · rcases hf6 x hx' with h7 | h7
                        · exact htw4.apart x (by simp [hf5 x hx]) (by simp [h7])
                        · have := (ht5.room.lt x hx).2; omega⟩
                    have hvl : (vals asz l).length = asn := by rw [vals_length]; exact als
                    have Hvl := mkHid hvl
                    clear hvl
                    go_loopw [125] (fun i wq => ∃ j : Nat, j ≤ asn ∧ i = .int .i64 j ∧ Chg [] w6 wq) (fun i _ => asn - (intOf i).toNat)
                    case atStart => exact ⟨0, Nat.zero_le _, rfl, Chg.refl _ _⟩
                    case round =>
                      obtain ⟨j, hj, rfl, hgq⟩ := hrel
                      by_cases hlt : j < asn
                      · obtain ⟨b1, o1, rfl, hc1⟩ := (hs6.chg hgq (by simp)).reads (by rw [ints_length]; omega)
                        obtain ⟨b2, o2, rfl, hc2⟩ := (hdone _ (hg6'.then hgq)) (by rw [ints_length]; omega)
                        have hp1 := hc1 j _ (ints_get asz j (by omega))
                        have hp2 := hc2 j _ (ints_get asz j (by omega))
                        have d3q := hgq.cellv d36 (by simp)
                        have hji : (j : Int) < (asn : Int) := by omega
                        clear hc1 hc2
                        go_wp2_with fail
                        go_quiet (fail)
                        go_wp2_with fail
                        go_roundw
                        case rel => exact ⟨j + 1, by omega, by go_num, hgq.then (Chg.drewN _ _)⟩
                        case measure => simp [intOf]; omega
                      · have : j = asn := by omega
                        go_wp2_with (first | (go_at_call 25; refine (same_yes lo5 asn lc5 yo6 yc6 (vals asz l) _ (hr56.chg hgq (by simp)).reads Hvl.out (hr6.chg hgq (by simp)).reads (by unfold maxLen; omega)).mono ?_; rintro e w7 ⟨rfl, hg7⟩))
                        go_meet
                        exact ⟨_, _, _, _, _, _, none, 0, 0, none, 0, [], true, rfl, rfl, rfl, rfl, Room.nil _ _ _, Reads.nil _ _, (htw6.chg hgq (by simp)).chg hg7 (by simp), by omega, (hg6'.then hgq).then hg7, by simp [fp_zero]⟩
                  · go_wp2_with (first | (at_builtin; refine wpList_append_k _ rfl (.tmp 100) (.tmp 102) 40 rfl 3 8 eltI w3.heap.size _ 0 0 [] rfl (Room.nil _ _ _) (by simp) aso asn asc _ rfl (hdone _ (hgr3.then (Chg.alloc [] _ _))) (by rw [ints_length]; exact als) (ints_one _) (by unfold maxLen; omega) (by omega) ?_; intro so4 sc4 w4 hs4 hg4 hf4; simp only [Nat.zero_add, List.nil_append] at hs4; have hg4' : Chg [] w3 w4 := (Chg.alloc [] _ _).then hg4; have htw4 := htw3.chg hg4' (by simp); have d04 := hg4'.cellv d0 (by simp); have d34 := hg4'.cellv d3 (by simp)) | (go_at_call 23; refine (nums_no false w.heap.size tb ao n c l so4 asn sc4 asz _ htw4.t (by omega) hs4.reads als (by omega) hgood).mono ?_; rintro e w5 ⟨rfl, rfl⟩) | (go_at_call 24; refine (refnums_no false w.heap.size rb ro n rc l aso asn asc asz _ htw4.r (by omega) (hdone _ (hgr3.then hg4')) als (by omega) hgood).mono ?_; rintro e w6 ⟨rfl, rfl⟩))
                    go_loopw [125] (fun i wq => ∃ j : Nat, j ≤ asn ∧ i = .int .i64 j ∧ Chg [] w4 wq) (fun i _ => asn - (intOf i).toNat)
                    case atStart => exact ⟨0, Nat.zero_le _, rfl, Chg.refl _ _⟩
                    case round =>
                      obtain ⟨j, hj, rfl, hgq⟩ := hrel
                      by_cases hlt : j < asn
                      · obtain ⟨b1, o1, rfl, hc1⟩ := (hs4.chg hgq (by simp)).reads (by rw [ints_length]; omega)
                        obtain ⟨b2, o2, rfl, hc2⟩ := (hdone _ ((hgr3.then hg4').then hgq)) (by rw [ints_length]; omega)
                        have hp1 := hc1 j _ (ints_get asz j (by omega))
                        have hp2 := hc2 j _ (ints_get asz j (by omega))
                        have d3q := hgq.cellv d34 (by simp)
                        have hji : (j : Int) < (asn : Int) := by omega
                        clear hc1 hc2
                        go_wp2_with fail
                        go_quiet (fail)
                        go_wp2_with fail
                        go_roundw
                        case rel => exact ⟨j + 1, by omega, by go_num, hgq.then (Chg.drewN _ _)⟩
                        case measure => simp [intOf]; omega
                      · have : j = asn := by omega
                        go_wp2_with (first | (go_at_call 25; refine (same_yes none 0 0 none 0 [] _ (Reads.nil _ _) rfl (Reads.nil _ _) (Nat.zero_le _)).mono ?_; rintro e w7 ⟨rfl, hg7⟩))
                        go_meet
                        exact ⟨_, _, _, _, _, _, none, 0, 0, none, 0, [], false, rfl, rfl, rfl, rfl, Room.nil _ _ _, Reads.nil _ _, (htw4.chg hgq (by simp)).chg hg7 (by simp), by omega, ((hgr3.then hg4').then hgq).then hg7, by simp [fp_zero]⟩
                · generalize A.so = aso at *
                  generalize A.sn = asn at *
                  generalize A.sz = asz at *
                  generalize A.sc = asc at *
                  have hasn := asm.2
                  have hdone : ∀ w4 : World, Chg [] w w4 → Reads w4 aso (ints asz) := fun w4 h => ars0.old h (by simp)
                  by_cases hgood : allOk asz ∧ sumI asz ≤ n
                  · go_wp2_with (first | (at_builtin; refine wpList_append_k _ rfl (.tmp 100) (.tmp 102) 40 rfl 3 8 eltI w3.heap.size _ 0 0 [] rfl (Room.nil _ _ _) (by simp) aso asn asc _ rfl (hdone _ (hgr3.then (Chg.alloc [] _ _))) (by rw [ints_length]; exact als) (ints_one _) (by unfold maxLen; omega) (by omega) ?_; intro so4 sc4 w4 hs4 hg4 hf4; simp only [Nat.zero_add, List.nil_append] at hs4; have hg4' : Chg [] w3 w4 := (Chg.alloc [] _ _).then hg4; have htw4 := htw3.chg hg4' (by simp); have d04 := hg4'.cellv d0 (by simp)) | (go_at_call 23; refine (nums_all true w.heap.size tb ao n c l so4 asn sc4 asz _ htw4.t (by omega) hs4.reads als (by omega) hgood.1 hgood.2 (fun h0 hm => (htw3.far (hs4.lt tb (by unfold fp; rw [if_neg (by have := hs4.le; omega)]; exact hm)).1).1 (by simp))).mono ?_; rintro e w5 ⟨lo5, lc5, ao5, c5, rfl, hr5, ht5, hg5, hf5⟩; have hr5r := htw4.r.chg hg5 (fun x hx hx' => by simp at hx'; subst hx'; exact htw4.apart x (by simp) hx); have hab5 : ab ∉ [tb] := (fun hm => by simp at hm; exact habn tb (Or.inl (by simp)) hm.symm); have d05 := hg5.cellv d04 hab5; have d35 := hg5.cellv (hg4'.cellv d3 (by simp)) hab5; have hg5' : Chg [] w w5 := (hgr3.then hg4').step hg5 (by simpa using htw3.t.low)) | (go_at_call 24; refine (refnums_yes true w.heap.size rb ro n rc l aso asn asc asz _ (len_le hg5' (Nat.le_refl _)) hr5r (by omega) (hdone _ hg5') als (by omega) hgood.1 hgood.2 (fun h0 hm => by have h1 := ars0.lt (by rw [ints_length]; omega) rb hm; have h2 := htw3.r.low; omega)).mono ?_; rintro e w6 ⟨yo6, yc6, ro6, rc6, rfl, hr6, ht6, hg6, hf6, hf7⟩))
                    have hab6 : ab ∉ [rb] := fun hm => by simp at hm; exact habn rb (Or.inr (by simp)) hm.symm
                    have d36 := hg6.cellv d35 hab6
                    have hg6' : Chg [] w w6 := hg5'.step hg6 (by simpa using htw3.r.low)
                    have hs6 : Room w6 w3.heap.size so4 asn sc4 (ints asz) := (hs4.chg hg5 (fun z hz hz' => by simp at hz'; subst hz'; exact (htw3.far (hs4.lt z hz).1).1 (by simp))).chg hg6 (fun z hz hz' => by simp at hz'; subst hz'; exact (htw3.far (hs4.lt z hz).1).2 (by simp))
                    have hr56 : Room w6 w4.heap.size lo5 asn lc5 (u64s (vals asz l)) := hr5.chg hg6 (fun z hz hz' => by simp at hz'; subst hz'; exact (htw4.far (hr5.lt z hz).1).2 (by simp))
                    have ht56 := ht5.chg hg6 (fun x hx hx' => by
                      simp at hx hx'
                      subst hx'
                      rcases hx with hx | hx
                      · exact htw4.apart tb (by simp) (by simp [hx])
                      · exact htw4.apart x (by simp [hf5 x hx]) (by simp))
                    have htw6 : Two w6 w.heap.size tb rb _ _ ao5 c5 ro6 rc6 := ⟨ht56, ht6, fun x hx hx' => by
                      simp at hx hx'
                      have h5lt := ht5.lt
                      rcases hx with rfl | hx <;> rcases hx' with hx' | hx'
                      · exact htw4.apart x (by simp) (by simp [hx'])
                      · rcases hf6 x hx' with h7 | h7
                        · exact htw4.apart x (by simp) (by simp [h7])
                        · omega
                      · exact htw4.apart x (by simp [hf5 x hx]) (by simp [hx'])
                      · rcases hf6 x hx' with h7 | h7
                        · exact htw4.apart x (by simp [hf5 x hx]) (by simp [h7])
                        · have := (ht5.room.lt x hx).2; omega⟩
                    have hvl : (vals asz l).length = asn := by rw [vals_length]; exact als
                    have Hvl := mkHid hvl
                    clear hvl
                    go_loopw [125] (fun i wq => ∃ j : Nat, j ≤ asn ∧ i = .int .i64 j ∧ Chg [] w6 wq) (fun i _ => asn - (intOf i).toNat)
                    case atStart => exact ⟨0, Nat.zero_le _, rfl, Chg.refl _ _⟩
                    case round =>
                      obtain ⟨j, hj, rfl, hgq⟩ := hrel
                      by_cases hlt : j < asn
                      · obtain ⟨b1, o1, rfl, hc1⟩ := (hs6.chg hgq (by simp)).reads (by rw [ints_length]; omega)
                        obtain ⟨b2, o2, rfl, hc2⟩ := (hdone _ (hg6'.then hgq)) (by rw [ints_length]; omega)
                        have hp1 := hc1 j _ (ints_get asz j (by omega))
                        have hp2 := hc2 j _ (ints_get asz j (by omega))
                        have d3q := hgq.cellv d36 (by simp)
                        have hji : (j : Int) < (asn : Int) := by omega
                        clear hc1 hc2
                        go_wp2_with fail
                        go_quiet (fail)
                        go_wp2_with fail
                        go_roundw
                        case rel => exact ⟨j + 1, by omega, by go_num, hgq.then (Chg.drewN _ _)⟩
                        case measure => simp [intOf]; omega
                      · have : j = asn := by omega
                        go_wp2_with (first | (go_at_call 25; refine (same_yes lo5 asn lc5 yo6 yc6 (vals asz l) _ (hr56.chg hgq (by simp)).reads Hvl.out (hr6.chg hgq (by simp)).reads (by unfold maxLen; omega)).mono ?_; rintro e w7 ⟨rfl, hg7⟩))
                        go_meet
                        exact ⟨_, _, _, _, _, _, none, 0, 0, none, 0, [], true, rfl, rfl, rfl, rfl, Room.nil _ _ _, Reads.nil _ _, (htw6.chg hgq (by simp)).chg hg7 (by simp), by omega, (hg6'.then hgq).then hg7, by simp [fp_zero]⟩
                  · go_wp2_with (first | (at_builtin; refine wpList_append_k _ rfl (.tmp 100) (.tmp 102) 40 rfl 3 8 eltI w3.heap.size _ 0 0 [] rfl (Room.nil _ _ _) (by simp) aso asn asc _ rfl (hdone _ (hgr3.then (Chg.alloc [] _ _))) (by rw [ints_length]; exact als) (ints_one _) (by unfold maxLen; omega) (by omega) ?_; intro so4 sc4 w4 hs4 hg4 hf4; simp only [Nat.zero_add, List.nil_append] at hs4; have hg4' : Chg [] w3 w4 := (Chg.alloc [] _ _).then hg4; have htw4 := htw3.chg hg4' (by simp); have d04 := hg4'.cellv d0 (by simp); have d34 := hg4'.cellv d3 (by simp)) | (go_at_call 23; refine (nums_no true w.heap.size tb ao n c l so4 asn sc4 asz _ htw4.t (by omega) hs4.reads als (by omega) hgood).mono ?_; rintro e w5 ⟨rfl, rfl⟩) | (go_at_call 24; refine (refnums_no true w.heap.size rb ro n rc l aso asn asc asz _ htw4.r (by omega) (hdone _ (hgr3.then hg4')) als (by omega) hgood).mono ?_; rintro e w6 ⟨rfl, rfl⟩))
                    go_loopw [125] (fun i wq => ∃ j : Nat, j ≤ asn ∧ i = .int .i64 j ∧ Chg [] w4 wq) (fun i _ => asn - (intOf i).toNat)
                    case atStart => exact ⟨0, Nat.zero_le _, rfl, Chg.refl _ _⟩
                    case round =>
                      obtain ⟨j, hj, rfl, hgq⟩ := hrel
                      by_cases hlt : j < asn
                      · obtain ⟨b1, o1, rfl, hc1⟩ := (hs4.chg hgq (by simp)).reads (by rw [ints_length]; omega)
                        obtain ⟨b2, o2, rfl, hc2⟩ := (hdone _ ((hgr3.then hg4').then hgq)) (by rw [ints_length]; omega)
                        have hp1 := hc1 j _ (ints_get asz j (by omega))
                        have hp2 := hc2 j _ (ints_get asz j (by omega))
                        have d3q := hgq.cellv d34 (by simp)
                        have hji : (j : Int) < (asn : Int) := by omega
                        clear hc1 hc2
                        go_wp2_with fail
                        go_quiet (fail)
                        go_wp2_with fail
                        go_roundw
                        case rel => exact ⟨j + 1, by omega, by go_num, hgq.then (Chg.drewN _ _)⟩
                        case measure => simp [intOf]; omega
                      · have : j = asn := by omega
                        go_wp2_with (first | (go_at_call 25; refine (same_yes none 0 0 none 0 [] _ (Reads.nil _ _) rfl (Reads.nil _ _) (Nat.zero_le _)).mono ?_; rintro e w7 ⟨rfl, hg7⟩))
                        go_meet
                        exact ⟨_, _, _, _, _, _, none, 0, 0, none, 0, [], false, rfl, rfl, rfl, rfl, Room.nil _ _ _, Reads.nil _ _, (htw4.chg hgq (by simp)).chg hg7 (by simp), by omega, ((hgr3.then hg4').then hgq).then hg7, by simp [fp_zero]⟩
              · have e0 : (q == 0) = false := by simp [q0]
                have e1 : (q == 1) = false := by simp [q1]
                have e2 : (q == 2) = false := by simp [q2]
                have e3 : (q == 3) = false := by simp; omega
                have e4 : (q == 4) = false := by simp; omega
                go_wp2_with fail
                go_meet
                exact ⟨l, n, ao, c, ro, rc, none, 0, 0, none, 0, [], false, rfl, rfl, rfl, rfl, Room.nil _ _ _, Reads.nil _ _, htw3, by omega, hgr3, by simp [fp_zero]⟩
      case rest =>
        obtain ⟨l', n', ao', c', ro', rc', xo, xn, xc, yo, yc, xs, okb, rfl, rfl, rfl, rfl, hx, hy, htw, hn', hgx, hxd⟩ := hcut
        have hrc := htw.r.cell
        have hxl : xs.length = xn := by have := hx.len; rwa [bts_length] at this
        have Hxl := mkHid hxl
        have hb0 : (!(okb == okb)) = false := by cases okb <;> rfl
        clear hxl
        go_wp2_with fail
        go_quiet ((first | (go_at_call 11; exact Calls.quiet_of_same (equal_quiet _ _ _ _ _ _ xs wc _ hx.reads Hxl.out hy Hxl.out)) | (go_at_call 26; exact Calls.quiet_of_same (len_quiet _ _ _ _ _ _ wc _ htw.t))))
        generalize hwq : wc.drewN nq = w8
        have hg8 : Chg [] wc w8 := by subst hwq; exact Chg.drewN _ _
        have htw8 := htw.chg hg8 (by simp)
        have hx8 := hx.chg hg8 (by simp)
        have hgx8 := hgx.then hg8
        rw [bts_u8s] at hx8
        clear hwq hrc
        have hxm := hx.max
        have hxle := hx.le
        unfold maxLen at hxm
        go_wp2_with fail
        go_loopw [164] (fun i wq => ∃ (j : Nat) (zs : List Int), j ≤ xn ∧ i = .int .i64 j ∧ Room wq w.heap.size xo xn xc (u8s zs) ∧ Two wq w.heap.size tb rb l' n' ao' c' ro' rc' ∧ Chg [] w wq) (fun i _ => xn - (intOf i).toNat)
        case atStart => exact ⟨0, _, Nat.zero_le _, rfl, hx8, htw8, hgx8⟩
        case round =>
          obtain ⟨j, zs, hj, rfl, hrr, htq, hgq⟩ := hrel
          by_cases hlt2 : j < xn
          · have hzl : zs.length = xn := by have := hrr.len; rwa [u8s_length] at this
            obtain ⟨bx, ox, rfl, hcr⟩ := hrr.reads (by rw [u8s_length]; omega)
            have hcell := hcr j _ (u8s_get zs j (by omega))
            have hfz := hrr.cell j hlt2
            have hbm : bx ∈ fp (some (⟨bx, ox, none⟩ : Addr)) xc := by rw [fp_some _ _ _ (by have := hrr.le; omega)]; simp
            have hbx := (hrr.lt bx hbm).1
            have hbd := hxd bx hbm
            clear hcr
            go_wp2_with fail
            go_roundw
            case rel =>
              exact (hrr.set8 j hlt2 _).elim fun zs' hz' => ⟨j + 1, zs', by omega, by go_num, hz', htq.chg (Chg.setCell _ _ _) (fun x hx => by simp at hx; subst hx; exact hbd), hgq.step (Chg.setCell _ _ _) (fun x hx => by simp at hx; subst hx; exact hbx)⟩
            case measure => simp [intOf]; omega
          · have : j = xn := by omega
            subst this
            go_wp2_with fail
            go_roundw
            case rel => exact ⟨k + 1, l', n', ao', c', ro', rc', by go_num, by omega, by omega, by have := HTK.out; omega, htq, hgq⟩
            case measure => simp [intOf]; omega
    · have hnk := gt2 k hk
      have hex : k = n0 ∨ k < n0 ∧ ((k : Int) == 300) = true := by
        by_cases h : k < n0
        · exact Or.inr ⟨h, by simp; omega⟩
        · exact Or.inl (by omega)
      have hrl := htwo.r
      have htl := htwo.t.len
      rcases hex with h | ⟨h, h2⟩
      · obtain rfl : k = n0 := h
        go_wp2_with (first | (go_at_call 26; refine (len_any _ _ _ _ _ _ _ htwo.t).mono ?_; rintro e w' ⟨rfl, rfl⟩) | (go_at_call 21; refine (take_yes w.heap.size tb ao n c l n _ htwo.t (Nat.le_refl _) (by omega)).mono ?_; rintro e w4 ⟨xo4, xc4, ao4, c4, rfl, hr4, ht4, hg4, hf4⟩; have hrr := hrl.chg hg4 (fun x hx hx' => by simp at hx'; subst hx'; exact htwo.apart x (by simp) hx); have hcr := hrr.cell) | (go_at_call 11; refine (equal_any _ _ _ l _ _ _ l _ (by have := hr4.reads; rwa [List.take_of_length_le (by omega)] at this) htl hrr.room.reads htl).mono ?_; rintro e w5 ⟨he, rfl⟩; simp only [decide_true] at he; subst he))
        go_ret
        exact ⟨rfl, (hgr.step hg4 (by simpa using htwo.t.low)).below (Nat.le_refl _) (by simp)⟩
      · obtain ⟨b, o, rfl, hacts⟩ := ga (by omega)
        have hA := (hacts k h).old hgr (by simp)
        clear hacts
        generalize acts k = A at *
        obtain ⟨a0c, a1c, a2c, a3c, arb, alb, ars, als, asm⟩ := hA
        go_wp2_with fail
        generalize hw3 : wr.alloc (.cells #[.int .i64 A.what, .int .i64 A.num, .slice A.bo A.bn A.bc, .slice A.so A.sn A.sc] 42) = w3
        have hg3 : Chg [] wr w3 := by subst hw3; exact Chg.alloc [] _ _
        have htw3 := htwo.chg hg3 (by simp)
        have hgr3 := hgr.then hg3
        have hrl3 := htw3.r
        clear hw3 a0c a1c a2c a3c hrl
        refine (len_any _ _ _ _ _ _ _ htw3.t).mono ?_
        rintro e w' ⟨rfl, rfl⟩
        go_wp2_with (first | (go_at_call 21; refine (take_yes w.heap.size tb ao n c l n _ htw3.t (Nat.le_refl _) (by omega)).mono ?_; rintro e w4 ⟨xo4, xc4, ao4, c4, rfl, hr4, ht4, hg4, hf4⟩; have hrr := hrl3.chg hg4 (fun x hx hx' => by simp at hx'; subst hx'; exact htwo.apart x (by simp) hx); have hcr := hrr.cell) | (go_at_call 11; refine (equal_any _ _ _ l _ _ _ l _ (by have := hr4.reads; rwa [List.take_of_length_le (by omega)] at this) htl hrr.room.reads htl).mono ?_; rintro e w5 ⟨he, rfl⟩; simp only [decide_true] at he; subst he))
        go_ret
        exact ⟨rfl, (hgr3.step hg4 (by simpa using htwo.t.low)).below (Nat.le_refl _) (by simp)⟩
end Go.Proofs.Ytfjcaangcogkeaa
