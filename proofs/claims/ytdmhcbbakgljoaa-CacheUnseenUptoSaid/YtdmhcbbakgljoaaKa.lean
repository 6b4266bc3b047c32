/- Some of the document's rows: the law's wakes. -/
import Derived.Test.YtdmhcbbakgljoaaJz
import Derived.Deep.RegionHeld3
namespace Go.Proofs.Ytdmhcbbakgljoaa
open Go.RowKit Go.Maps
set_option linter.unusedVariables false
set_option linter.unusedSimpArgs false
attribute [local go_sem ↓] Go.wp_at_zero Go.wp_at_succ

def zeroB : List UInt8 := List.replicate 256 0
section
variable (B1 B2 : List UInt8) (h1 : B1.length = 256) (h2 : B2.length = 256)
def wst1 : RS := { RS.new 4 with L := flies 1 B2 4 }
def wst2 : RS := { RS.new 4 with L := flies 1 B2 4 ++ flies 0 B1 4 }
include h1 in
theorem wk1 : kput 2 [] (RS.new 4) 0 B1 = (0, [⟨0, B1, true⟩], RS.new 4) := put_new 2 0 0 [] (RS.new 4) B1 rfl h1 rfl (by decide)
include h2 in
theorem wk2 : kput 2 [⟨0, B1, true⟩] (RS.new 4) 1 B2 = (0, [⟨0, B1, true⟩, ⟨1, B2, true⟩], RS.new 4) := put_new 2 1 0 _ (RS.new 4) B2 rfl h2 rfl (by show 1 < 2; omega)
theorem wk3 : kget 2 [⟨0, B1, true⟩, ⟨1, B2, true⟩] (RS.new 4) 0 = (0, B1, [⟨1, B2, true⟩, ⟨0, B1, true⟩], RS.new 4) := get_held 2 0 _ (RS.new 4) rfl ⟨0, B1, true⟩ rfl
include h2 in
theorem wk4 : kget 2 [⟨1, B2, true⟩, ⟨0, B1, true⟩] (RS.new 4) 2 = (0, zeroB, [⟨0, B1, true⟩, ⟨2, zeroB, false⟩], wst1 B2) := by
  have hw : write (RS.new 4) ((1 : Nat) : Int) B2 = (0, wst1 B2) := write_plain (RS.new 4) 1 B2 rfl rfl (by decide) h2
  have hr : reads (RS.new 4) 2 4 = zeroB := by decide +kernel
  have hk : kroom 2 [⟨1, B2, true⟩, ⟨0, B1, true⟩] (RS.new 4) = (0, [⟨0, B1, true⟩], wst1 B2) := by
    rw [kroom_ok (by show 2 ≤ 2; omega)] <;> (unfold kwrote; simp only [if_true]; rw [hw])
  show (if whyN (RS.new 4) 2 ≠ 0 then _ else _) = _
  rw [if_neg (by decide), hk, show (2 : Int).toNat = 2 from rfl, hr]
  rfl
theorem two_dirty (b : List UInt8) : kdirty [⟨0, B1, true⟩, ⟨2, b, false⟩] = [⟨0, B1, true⟩] := by
  unfold kdirty krising
  rw [List.mergeSort_of_pairwise (by simp)]
  rfl
theorem wk5 (b : List UInt8) : kplaces [⟨0, B1, true⟩, ⟨2, b, false⟩] = [0] := by
  unfold kplaces
  rw [two_dirty]
  rfl
include h1 in
theorem wk6 (b : List UInt8) : kflush [⟨0, B1, true⟩, ⟨2, b, false⟩] (wst1 B2) = (0, [⟨0, B1, false⟩, ⟨2, b, false⟩], wst2 B1 B2) := by
  have hw : write (wst1 B2) ((0 : Nat) : Int) B1 = (0, wst2 B1 B2) := write_plain (wst1 B2) 0 B1 rfl rfl (by show 0 < 4; omega) h1
  have hd : kdirty [⟨0, B1, true⟩, ⟨2, b, false⟩] = [⟨0, B1, true⟩] := by
    exact two_dirty B1 b
  unfold kflush
  rw [if_neg (by show ¬ (false = true); decide), hd]
  unfold kflushL
  rw [if_pos (by rw [hw]), hw]
  rfl
end
set_option maxRecDepth 20000 in
set_option maxHeartbeats 2000000 in
theorem wakes_any (w : World) : Calls Try.prog 20 #[] w fun e w' => e = .returned (.bool true) ∧ Chg [] w w' := by
  have hl1 := blockB_len 1
  have hl2 := blockB_len 2
  have q1 := wk1 (blockB 1) hl1
  have q2 := wk2 (blockB 1) (blockB 2) hl2
  have q3 := wk3 (blockB 1) (blockB 2)
  have q4 := wk4 (blockB 1) (blockB 2) hl2
  have q5 := wk5 (blockB 1) zeroB
  have q6 := wk6 (blockB 1) (blockB 2) hl1 zeroB
  have x1 : (wst1 (blockB 2)).L.length = 4 := flies_len _ _ _
  have x2 : (wst2 (blockB 1) (blockB 2)).L.length = 8 := by show (flies _ _ 4 ++ flies _ _ 4).length = 8; rw [List.length_append, flies_len, flies_len]
  generalize hB1 : blockB 1 = B1 at q1 q2 q3 q4 q5 q6 hl1 x1 x2
  generalize hB2 : blockB 2 = B2 at q2 q3 q4 q6 hl2 x1 x2
  generalize wst2 B1 B2 = s2 at q6 x2
  generalize wst1 B2 = s1 at q4 q6 x1
  go_enter Try.func20, Try.ntmps20
  go_wp2_with fail
  refine (dnew_yes 4 (by decide) (by decide) w).mono ?_
  rintro e w1 ⟨db, g, rfl, d1, g1⟩
  go_wp2_with fail
  refine (cnew_yes 2 (by decide) w w1 (fun _ => False) db g none 0 (RS.new 4) d1 g1 (new_whole 4 (by decide)) (fun k hk => hk.elim)).mono ?_
  rintro e w2 ⟨cb, mb, rfl, p2, g2⟩
  clear d1 g1 g2
  go_wp2_with fail
  refine (pair_block w w2 _ db g none 0 _ cb mb none 0 [] [] 2 0 p2 1 1 rfl).mono ?_
  rintro e w3 ⟨nb3, rfl, r3, p3, g3⟩
  rw [hB1] at r3
  clear p2 g3
  go_wp2_with fail
  refine (pair_put w w3 _ db g none 0 _ cb mb none 0 [] [] 2 0 p3 [] _ 0 0 _ 256 256 B1 _ rfl q1 (by decide) (by decide) r3.reads hl1 (fun k hk => Or.inl (Or.inr (by simpa [blk] using hk)))).mono ?_
  rintro e w4 ⟨rfl, fa4, cf4, la4, cl4, E4, L4, u4, p4, hL4, hu4, o4⟩
  clear p3 r3 q1 o4
  go_wp2_with fail
  refine (pair_block w w4 _ db g fa4 cf4 _ cb mb la4 cl4 E4 L4 2 u4 p4 2 2 rfl).mono ?_
  rintro e w5 ⟨nb5, rfl, r5, p5, g5⟩
  rw [hB2] at r5
  clear p4 g5
  go_wp2_with fail
  refine (pair_put w w5 _ db g fa4 cf4 _ cb mb la4 cl4 E4 L4 2 u4 p5 _ _ 0 1 _ 256 256 B2 _ hL4 q2 (by omega) (by decide) r5.reads hl2 (fun k hk => Or.inl (Or.inr (by simpa [blk] using hk)))).mono ?_
  rintro e w6 ⟨rfl, fa6, cf6, la6, cl6, E6, L6, u6, p6, hL6, hu6, o6⟩
  clear p5 r5 q2 o6 hL4
  go_wp2_with fail
  refine (pair_flight w w6 _ db g fa6 cf6 _ cb mb la6 cl6 E6 L6 2 u6 p6 0 rfl).mono ?_
  rintro e w' ⟨rfl, rfl⟩
  go_wp2_with fail
  refine (pair_get w w6 _ db g fa6 cf6 _ cb mb la6 cl6 E6 L6 2 u6 p6 _ _ 0 0 256 _ _ hL6 q3 (by omega) (by decide) hl1).mono ?_
  rintro e w7 ⟨ao, ac, rfl, ra7, fa7, cf7, la7, cl7, E7, L7, u7, p7, hL7, hu7, o7⟩
  clear p6 q3 o7 hL6
  go_wp2_with fail
  refine (pair_get w w7 _ db g fa7 cf7 _ cb mb la7 cl7 E7 L7 2 u7 p7 _ _ 0 2 256 _ _ hL7 q4 (by omega) (by decide) rfl).mono ?_
  rintro e w8 ⟨bo, bc, rfl, rb8, fa8, cf8, la8, cl8, E8, L8, u8, p8, hL8, hu8, o8⟩
  have ra8 := ra7.off o8 (fun k hk => Or.inr hk)
  clear p7 q4 o8 hL7 ra7
  go_wp2_with fail
  refine (pair_dirty w w8 _ db g fa8 cf8 _ cb mb la8 cl8 E8 L8 2 u8 p8 _ hL8 _ q5).mono ?_
  rintro e w9 ⟨lo, lc, rfl, rl9, p9, g9⟩
  have ra9 := ra8.chg g9 (by simp)
  have rb9 := rb8.chg g9 (by simp)
  clear p8 g9 ra8 rb8
  generalize hR : (fun k => (((((False ∨ k = nb3) ∨ k = nb5) ∨ k ∈ fp ao ac) ∨ k ∈ fp bo bc) ∨ k ∈ fp lo lc)) = R at p9
  have hRa : ∀ k, k ∈ fp ao ac → R k := fun k hk => by rw [← hR]; exact Or.inl (Or.inl (Or.inr hk))
  have hRb : ∀ k, k ∈ fp bo bc → R k := fun k hk => by rw [← hR]; exact Or.inl (Or.inr hk)
  have hRl : ∀ k, k ∈ fp lo lc → R k := fun k hk => by rw [← hR]; exact Or.inr hk
  clear hR
  obtain ⟨lb, lp, rfl, -, -, hcl⟩ := rl9.at_ (by have := rl9.le; simp at this; omega)
  have hl0 := hcl 0 (natV 0) rfl
  rw [Nat.add_zero] at hl0
  have hlR : R lb := hRl lb (by rw [fp_some _ _ _ (by have := rl9.le; simp at this; omega)]; simp)
  have cvA : ∀ (u : World) (xo : Option Addr) (xc : Nat), Reads u xo (bts B1) → (convert 31 9 (.slice xo 256 xc)).run Try.prog u = .ok (.string ⟨B1.toArray⟩) u := fun u xo xc h => run_convert_k (P := Try.prog) u 31 5 9 Try.underlying31 Try.underlying5 Try.underlying9 xo 256 xc B1 h hl1
  have cvZ : ∀ (u : World) (xo : Option Addr) (xc : Nat), Reads u xo (bts zeroB) → (convert 31 9 (.slice xo 256 xc)).run Try.prog u = .ok (.string ⟨zeroB.toArray⟩) u := fun u xo xc h => run_convert_k (P := Try.prog) u 31 5 9 Try.underlying31 Try.underlying5 Try.underlying9 xo 256 xc zeroB h rfl
  have hmz : ∀ u : World, (Instr.makeSlice 31 (.int .i64 256) (.int .i64 256)).run Try.prog u = .ok (.slice (some ⟨u.heap.size, 0, none⟩) 256 256) (u.alloc (.cells (madeCells #[.int .u8 0] 256) 5)) := hmk 256 (by decide)
  have cvM : ∀ (u : World), (convert 31 9 (.slice (some ⟨u.heap.size, 0, none⟩) 256 256)).run Try.prog (u.alloc (.cells (madeCells #[.int .u8 0] 256) 5)) = .ok (.string ⟨zeroB.toArray⟩) (u.alloc (.cells (madeCells #[.int .u8 0] 256) 5)) := fun u => cvZ _ _ _ (made_room u 5 (.int .u8 0) 256 (by decide)).reads
  have hS : ∀ u, Off R w9 u → (convert 31 9 (.slice ao 256 ac)).run Try.prog u = .ok (.string ⟨B1.toArray⟩) u ∧ (convert 31 9 (.slice bo 256 bc)).run Try.prog u = .ok (.string ⟨zeroB.toArray⟩) u ∧ u.cell? ⟨lb, lp, none⟩ = some (.int .i64 0) := fun u o => ⟨cvA u ao ac (ra9.off o hRa).reads, cvZ u bo bc (rb9.off o hRb).reads, o.cellv hl0 hlR⟩
  have cB : ∀ u, Off R w9 u → Pair w u R db g fa8 cf8 s1 cb mb la8 cl8 E8 L8 2 u8 → Calls Try.prog 10 #[.int .u8 1] u fun e w' => ∃ nb, e = .returned (.slice (some ⟨nb, 0, none⟩) 256 256) ∧ (convert 31 9 (.slice (some ⟨nb, 0, none⟩) 256 256)).run Try.prog w' = .ok (.string ⟨B1.toArray⟩) w' ∧ Pair w w' R db g fa8 cf8 s1 cb mb la8 cl8 E8 L8 2 u8 ∧ Off R w9 w' := by
    intro u o p
    refine (block_as 1 1 rfl u).mono ?_
    rintro e w' ⟨nb, he, hr, hg⟩
    rw [hB1] at hr
    exact ⟨nb, he, cvA _ _ _ hr.reads, p.keep hg, o.then hg⟩
  have cF : ∀ u, Pair w u R db g fa8 cf8 s1 cb mb la8 cl8 E8 L8 2 u8 → Calls Try.prog 21 #[.pointer (some ⟨db, 0, none⟩)] u fun e w' => e = .returned (.int .i64 4) ∧ u = w' := fun u p => pair_flight w u R db g fa8 cf8 s1 cb mb la8 cl8 E8 L8 2 u8 p 4 x1
  have cH : ∀ u, Off R w9 u → Pair w u R db g fa8 cf8 s1 cb mb la8 cl8 E8 L8 2 u8 → Calls Try.prog 13 #[.pointer (some ⟨cb, 0, none⟩)] u fun e w' => e = .returned (.int .i64 0) ∧ (∃ fa' cf' E' L', Pair w w' R db g fa' cf' s2 cb mb la8 cl8 E' L' 2 u8 ∧ L'.length = 2) ∧ Off R w9 w' := by
    intro u o p
    refine (pair_flush w u R db g fa8 cf8 s1 cb mb la8 cl8 E8 L8 2 u8 p _ _ 0 s2 hL8 q6 (by omega)).mono ?_
    rintro e w' ⟨he, fa', cf', E', L', p', hL', o'⟩
    exact ⟨he, ⟨fa', cf', E', L', p', by have := congrArg List.length hL'; simpa using this⟩, o.trans o'⟩
  have cG : ∀ u, (∃ fa' cf' E' L', Pair w u R db g fa' cf' s2 cb mb la8 cl8 E' L' 2 u8 ∧ L'.length = 2) → Calls Try.prog 21 #[.pointer (some ⟨db, 0, none⟩)] u fun e w' => e = .returned (.int .i64 8) ∧ u = w' := by
    rintro u ⟨fa', cf', E', L', p, -⟩
    exact pair_flight w u R db g fa' cf' s2 cb mb la8 cl8 E' L' 2 u8 p 8 x2
  have cE : ∀ u, (∃ fa' cf' E' L', Pair w u R db g fa' cf' s2 cb mb la8 cl8 E' L' 2 u8 ∧ L'.length = 2) → Calls Try.prog 17 #[.pointer (some ⟨cb, 0, none⟩)] u fun e w' => e = .returned (.int .i64 2) ∧ u = w' := by
    rintro u ⟨fa', cf', E', L', p, hl⟩
    exact pair_held w u R db g fa' cf' s2 cb mb la8 cl8 E' L' 2 u8 p _ rfl 2 (by simpa using hl)
  have o0 : Off R w9 w9.drew := Off.keep (Chg.drew _ _)
  have p0 := p9.keep (Chg.drew [] w9)
  have CB := mkHid cB
  have CF' := mkHid cF
  have CH := mkHid cH
  have CG := mkHid cG
  have CE := mkHid cE
  have HS := mkHid hS
  have HP := mkHid p0
  have HO := mkHid o0
  clear cB cF cH cG cE hS p9 p0 o0 cvA cvZ rl9 ra9 rb9 hcl hl0 hRa hRb hRl q5 q6 x1 x2 hB1 hB2 hL8 hu8 hu7 hu6 hu4
  go_wp2_with fail
  refine wp_region_noPanic ?_
  refine wp_region_held_drew (S := (fun u => (convert 31 9 (.slice ao 256 ac)).run Try.prog u = .ok (.string ⟨B1.toArray⟩) u ∧ (convert 31 9 (.slice bo 256 bc)).run Try.prog u = .ok (.string ⟨zeroB.toArray⟩) u ∧ u.cell? ⟨lb, lp, none⟩ = some (.int .i64 0))) (by kernel_rfl) ?_ (fun hH => ?_)
  · exact (HS.out _ HO.out)
  refine wpAnyH_take (i := 0) (oi := { dst := some 52, op := _, type := _, pos := _, after := _, guard := none }) (v := ?_) rfl (by kernel_rfl) (by kernel_rfl) (by kernel_rfl) (fun _ _ _ h => h) (Or.inl ⟨by rfl, ?_⟩) hH ?_
  rotate_left
  · intro u hSu
    try dsimp only at hSu
    go_simp
    try with_reducible rfl
  try simp only [Act.put, List.setIfInBounds_toArray, List.set_cons_zero, List.set_cons_succ]
  refine wpAnyH_take (i := 1) (oi := { dst := some 53, op := _, type := _, pos := _, after := _, guard := none }) (v := ?_) rfl (by kernel_rfl) (by kernel_rfl) (by kernel_rfl) (fun _ _ _ h => h) (Or.inl ⟨by rfl, ?_⟩) hH ?_
  rotate_left
  · intro u hSu
    try dsimp only at hSu
    go_simp
    try with_reducible rfl
  try simp only [Act.put, List.setIfInBounds_toArray, List.set_cons_zero, List.set_cons_succ]
  refine wpAnyH_take (i := 2) (oi := { dst := some 54, op := _, type := _, pos := _, after := _, guard := none }) (v := ?_) rfl (by kernel_rfl) (by kernel_rfl) (by kernel_rfl) (fun _ _ _ h => h) (Or.inl ⟨by rfl, ?_⟩) hH ?_
  rotate_left
  · intro u hSu
    try dsimp only at hSu
    go_simp
    try with_reducible rfl
  try simp only [Act.put, List.setIfInBounds_toArray, List.set_cons_zero, List.set_cons_succ]
  refine wpAnyH_take (i := 3) (oi := { dst := some 55, op := _, type := _, pos := _, after := _, guard := some (2, true) }) (v := ?_) rfl (by kernel_rfl) (by kernel_rfl) (by kernel_rfl) (fun _ _ _ h => h) (Or.inl ⟨by rfl, ?_⟩) hH ?_
  rotate_left
  · intro u hSu
    try dsimp only at hSu
    go_simp
    try with_reducible rfl
  try simp only [Act.put, List.setIfInBounds_toArray, List.set_cons_zero, List.set_cons_succ]
  refine wpAnyH_take (i := 4) (oi := { dst := some 56, op := _, type := _, pos := _, after := _, guard := some (2, true) }) (v := ?_) rfl (by kernel_rfl) (by kernel_rfl) (by kernel_rfl) (fun _ _ _ h => h) (Or.inl ⟨by rfl, ?_⟩) hH ?_
  rotate_left
  · intro u hSu
    try dsimp only at hSu
    go_simp
    try with_reducible rfl
  try simp only [Act.put, List.setIfInBounds_toArray, List.set_cons_zero, List.set_cons_succ]
  refine wpAnyH_take (i := 5) (oi := { dst := some 57, op := _, type := _, pos := _, after := _, guard := none }) (v := ?_) rfl (by kernel_rfl) (by kernel_rfl) (by kernel_rfl) (fun _ _ _ h => h) (Or.inl ⟨by rfl, ?_⟩) hH ?_
  rotate_left
  · intro u hSu
    try dsimp only at hSu
    go_simp
    try with_reducible rfl
  try simp only [Act.put, List.setIfInBounds_toArray, List.set_cons_zero, List.set_cons_succ]
  refine wpAnyH_take (i := 6) (oi := { dst := some 58, op := _, type := _, pos := _, after := _, guard := none }) (v := ?_) rfl (by kernel_rfl) (by kernel_rfl) (by kernel_rfl) (fun _ _ _ h => h) (Or.inl ⟨by rfl, ?_⟩) hH ?_
  rotate_left
  · intro u hSu
    try dsimp only at hSu
    go_simp
    try with_reducible rfl
  try simp only [Act.put, List.setIfInBounds_toArray, List.set_cons_zero, List.set_cons_succ]
  refine wpAnyH_take (i := 7) (oi := { dst := some 59, op := _, type := _, pos := _, after := _, guard := some (6, true) }) (v := ?_) rfl (by kernel_rfl) (by kernel_rfl) (by kernel_rfl) (fun _ _ _ h => h) (Or.inl ⟨by rfl, ?_⟩) hH ?_
  rotate_left
  · intro u hSu
    try dsimp only at hSu
    go_simp
    try with_reducible rfl
  try simp only [Act.put, List.setIfInBounds_toArray, List.set_cons_zero, List.set_cons_succ]
  refine wpAnyH_take (i := 8) (oi := { dst := some 60, op := _, type := _, pos := _, after := _, guard := some (6, true) }) (v := ?_) rfl (by kernel_rfl) (by kernel_rfl) (by kernel_rfl) (fun _ _ _ h => h) (Or.inl ⟨by rfl, ?_⟩) hH ?_
  rotate_left
  · intro u hSu
    try dsimp only at hSu
    go_simp
    try with_reducible rfl
  try simp only [Act.put, List.setIfInBounds_toArray, List.set_cons_zero, List.set_cons_succ]
  refine wpAnyH_ready (rs := [9]) (by kernel_rfl) (by simp) ?_
  refine AllReadyH.cons (o := { dst := some 61, op := _, type := _, pos := _, after := _, guard := some (6, true) }) rfl (fun K hK => ?_) AllReadyH.nil
  go_simp
  refine (CB.out _ HO.out HP.out).mono ?_
  rintro e w10 ⟨nb, rfl, cv10, p10, o10⟩
  try go_wp2_with fail
  clear hH
  refine hK.out _ _ (HS.out _ o10) (fun hH => ?_)
  clear hK K
  try simp only [Act.put, List.setIfInBounds_toArray, List.set_cons_zero, List.set_cons_succ]
  refine wpAnyH_ready (rs := [10]) (by kernel_rfl) (by simp) ?_
  refine AllReadyH.cons (o := { dst := some 62, op := _, type := _, pos := _, after := _, guard := some (6, true) }) rfl (fun K hK => ?_) AllReadyH.nil
  go_simp
  clear cv10
  clear hH
  refine hK.out _ _ (HS.out _ o10) (fun hH => ?_)
  clear hK K
  try simp only [Act.put, List.setIfInBounds_toArray, List.set_cons_zero, List.set_cons_succ]
  refine wpAnyH_take (i := 11) (oi := { dst := some 63, op := _, type := _, pos := _, after := _, guard := some (6, true) }) (v := ?_) rfl (by kernel_rfl) (by kernel_rfl) (by kernel_rfl) (fun _ _ _ h => h) (Or.inl ⟨by rfl, ?_⟩) hH ?_
  rotate_left
  · intro u hSu
    try dsimp only at hSu
    go_simp
    try with_reducible rfl
  try simp only [Act.put, List.setIfInBounds_toArray, List.set_cons_zero, List.set_cons_succ]
  refine wpAnyH_take (i := 12) (oi := { dst := some 64, op := _, type := _, pos := _, after := _, guard := none }) (v := ?_) rfl (by kernel_rfl) (by kernel_rfl) (by kernel_rfl) (fun _ _ _ h => h) (Or.inl ⟨by rfl, ?_⟩) hH ?_
  rotate_left
  · intro u hSu
    try dsimp only at hSu
    go_simp
    try with_reducible rfl
  try simp only [Act.put, List.setIfInBounds_toArray, List.set_cons_zero, List.set_cons_succ]
  refine wpAnyH_take (i := 13) (oi := { dst := some 65, op := _, type := _, pos := _, after := _, guard := none }) (v := ?_) rfl (by kernel_rfl) (by kernel_rfl) (by kernel_rfl) (fun _ _ _ h => h) (Or.inl ⟨by rfl, ?_⟩) hH ?_
  rotate_left
  · intro u hSu
    try dsimp only at hSu
    go_simp
    try with_reducible rfl
  try simp only [Act.put, List.setIfInBounds_toArray, List.set_cons_zero, List.set_cons_succ]
  refine wpAnyH_take (i := 14) (oi := { dst := some 66, op := _, type := _, pos := _, after := _, guard := some (13, true) }) (v := ?_) rfl (by kernel_rfl) (by kernel_rfl) (by kernel_rfl) (fun _ _ _ h => h) (Or.inl ⟨by rfl, ?_⟩) hH ?_
  rotate_left
  · intro u hSu
    try dsimp only at hSu
    go_simp
    try with_reducible rfl
  try simp only [Act.put, List.setIfInBounds_toArray, List.set_cons_zero, List.set_cons_succ]
  refine wpAnyH_take (i := 15) (oi := { dst := some 67, op := _, type := _, pos := _, after := _, guard := some (13, true) }) (v := ?_) rfl (by kernel_rfl) (by kernel_rfl) (by kernel_rfl) (fun _ _ _ h => h) (Or.inl ⟨by rfl, ?_⟩) hH ?_
  rotate_left
  · intro u hSu
    try dsimp only at hSu
    go_simp
    try with_reducible rfl
  try simp only [Act.put, List.setIfInBounds_toArray, List.set_cons_zero, List.set_cons_succ]
  refine wpAnyH_ready (rs := [16]) (by kernel_rfl) (by simp) ?_
  refine AllReadyH.cons (o := { dst := some 68, op := _, type := _, pos := _, after := _, guard := some (13, true) }) rfl (fun K hK => ?_) AllReadyH.nil
  go_simp
  clear hH
  refine hK.out _ _ (HS.out _ (o10.then (Chg.alloc [] _ _))) (fun hH => ?_)
  clear hK K
  try simp only [Act.put, List.setIfInBounds_toArray, List.set_cons_zero, List.set_cons_succ]
  refine wpAnyH_ready (rs := [17]) (by kernel_rfl) (by simp) ?_
  refine AllReadyH.cons (o := { dst := some 69, op := _, type := _, pos := _, after := _, guard := some (13, true) }) rfl (fun K hK => ?_) AllReadyH.nil
  go_simp
  clear hH
  refine hK.out _ _ (HS.out _ (o10.then (Chg.alloc [] _ _))) (fun hH => ?_)
  clear hK K
  try simp only [Act.put, List.setIfInBounds_toArray, List.set_cons_zero, List.set_cons_succ]
  refine wpAnyH_take (i := 18) (oi := { dst := some 70, op := _, type := _, pos := _, after := _, guard := some (13, true) }) (v := ?_) rfl (by kernel_rfl) (by kernel_rfl) (by kernel_rfl) (fun _ _ _ h => h) (Or.inl ⟨by rfl, ?_⟩) hH ?_
  rotate_left
  · intro u hSu
    try dsimp only at hSu
    go_simp
    try with_reducible rfl
  try simp only [Act.put, List.setIfInBounds_toArray, List.set_cons_zero, List.set_cons_succ]
  refine wpAnyH_take (i := 19) (oi := { dst := some 71, op := _, type := _, pos := _, after := _, guard := none }) (v := ?_) rfl (by kernel_rfl) (by kernel_rfl) (by kernel_rfl) (fun _ _ _ h => h) (Or.inl ⟨by rfl, ?_⟩) hH ?_
  rotate_left
  · intro u hSu
    try dsimp only at hSu
    go_simp
    try with_reducible rfl
  try simp only [Act.put, List.setIfInBounds_toArray, List.set_cons_zero, List.set_cons_succ]
  refine wpAnyH_take (i := 20) (oi := { dst := some 72, op := _, type := _, pos := _, after := _, guard := none }) (v := ?_) rfl (by kernel_rfl) (by kernel_rfl) (by kernel_rfl) (fun _ _ _ h => h) (Or.inl ⟨by rfl, ?_⟩) hH ?_
  rotate_left
  · intro u hSu
    try dsimp only at hSu
    go_simp
    try with_reducible rfl
  try simp only [Act.put, List.setIfInBounds_toArray, List.set_cons_zero, List.set_cons_succ]
  refine wpAnyH_take (i := 21) (oi := { dst := some 73, op := _, type := _, pos := _, after := _, guard := some (20, true) }) (v := ?_) rfl (by kernel_rfl) (by kernel_rfl) (by kernel_rfl) (fun _ _ _ h => h) (Or.inl ⟨by rfl, ?_⟩) hH ?_
  rotate_left
  · intro u hSu
    try dsimp only at hSu
    go_simp
    try with_reducible rfl
  try simp only [Act.put, List.setIfInBounds_toArray, List.set_cons_zero, List.set_cons_succ]
  refine wpAnyH_ready (rs := [22]) (by kernel_rfl) (by simp) ?_
  refine AllReadyH.cons (o := { dst := some 74, op := _, type := _, pos := _, after := _, guard := some (20, true) }) rfl (fun K hK => ?_) AllReadyH.nil
  go_simp
  refine (CF'.out _ (p10.keep (Chg.alloc [] _ _))).mono ?_
  rintro e w11 ⟨rfl, rfl⟩
  try go_wp2_with fail
  clear hH
  refine hK.out _ _ (HS.out _ (o10.then (Chg.alloc [] _ _))) (fun hH => ?_)
  clear hK K
  try simp only [Act.put, List.setIfInBounds_toArray, List.set_cons_zero, List.set_cons_succ]
  refine wpAnyH_take (i := 23) (oi := { dst := some 75, op := _, type := _, pos := _, after := _, guard := some (20, true) }) (v := ?_) rfl (by kernel_rfl) (by kernel_rfl) (by kernel_rfl) (fun _ _ _ h => h) (Or.inl ⟨by rfl, ?_⟩) hH ?_
  rotate_left
  · intro u hSu
    try dsimp only at hSu
    go_simp
    try with_reducible rfl
  try simp only [Act.put, List.setIfInBounds_toArray, List.set_cons_zero, List.set_cons_succ]
  refine wpAnyH_take (i := 24) (oi := { dst := some 76, op := _, type := _, pos := _, after := _, guard := none }) (v := ?_) rfl (by kernel_rfl) (by kernel_rfl) (by kernel_rfl) (fun _ _ _ h => h) (Or.inl ⟨by rfl, ?_⟩) hH ?_
  rotate_left
  · intro u hSu
    try dsimp only at hSu
    go_simp
    try with_reducible rfl
  try simp only [Act.put, List.setIfInBounds_toArray, List.set_cons_zero, List.set_cons_succ]
  refine wpAnyH_take (i := 25) (oi := { dst := some 77, op := _, type := _, pos := _, after := _, guard := none }) (v := ?_) rfl (by kernel_rfl) (by kernel_rfl) (by kernel_rfl) (fun _ _ _ h => h) (Or.inl ⟨by rfl, ?_⟩) hH ?_
  rotate_left
  · intro u hSu
    try dsimp only at hSu
    go_simp
    try with_reducible rfl
  try simp only [Act.put, List.setIfInBounds_toArray, List.set_cons_zero, List.set_cons_succ]
  refine wpAnyH_take (i := 26) (oi := { dst := some 78, op := _, type := _, pos := _, after := _, guard := some (25, true) }) (v := ?_) rfl (by kernel_rfl) (by kernel_rfl) (by kernel_rfl) (fun _ _ _ h => h) (Or.inl ⟨by rfl, ?_⟩) hH ?_
  rotate_left
  · intro u hSu
    try dsimp only at hSu
    go_simp
    try with_reducible rfl
  try simp only [Act.put, List.setIfInBounds_toArray, List.set_cons_zero, List.set_cons_succ]
  refine wpAnyH_take (i := 27) (oi := { dst := some 79, op := _, type := _, pos := _, after := _, guard := some (25, true) }) (v := ?_) rfl (by kernel_rfl) (by kernel_rfl) (by kernel_rfl) (fun _ _ _ h => h) (Or.inl ⟨by rfl, ?_⟩) hH ?_
  rotate_left
  · intro u hSu
    try dsimp only at hSu
    go_simp
    try with_reducible rfl
  try simp only [Act.put, List.setIfInBounds_toArray, List.set_cons_zero, List.set_cons_succ]
  refine wpAnyH_take (i := 28) (oi := { dst := some 80, op := _, type := _, pos := _, after := _, guard := some (25, true) }) (v := ?_) rfl (by kernel_rfl) (by kernel_rfl) (by kernel_rfl) (fun _ _ _ h => h) (Or.inl ⟨by rfl, ?_⟩) hH ?_
  rotate_left
  · intro u hSu
    try dsimp only at hSu
    go_simp
    try with_reducible rfl
  try simp only [Act.put, List.setIfInBounds_toArray, List.set_cons_zero, List.set_cons_succ]
  refine wpAnyH_take (i := 29) (oi := { dst := some 81, op := _, type := _, pos := _, after := _, guard := none }) (v := ?_) rfl (by kernel_rfl) (by kernel_rfl) (by kernel_rfl) (fun _ _ _ h => h) (Or.inl ⟨by rfl, ?_⟩) hH ?_
  rotate_left
  · intro u hSu
    try dsimp only at hSu
    go_simp
    try with_reducible rfl
  try simp only [Act.put, List.setIfInBounds_toArray, List.set_cons_zero, List.set_cons_succ]
  refine wpAnyH_take (i := 30) (oi := { dst := some 82, op := _, type := _, pos := _, after := _, guard := none }) (v := ?_) rfl (by kernel_rfl) (by kernel_rfl) (by kernel_rfl) (fun _ _ _ h => h) (Or.inl ⟨by rfl, ?_⟩) hH ?_
  rotate_left
  · intro u hSu
    try dsimp only at hSu
    go_simp
    try with_reducible rfl
  try simp only [Act.put, List.setIfInBounds_toArray, List.set_cons_zero, List.set_cons_succ]
  refine wpAnyH_take (i := 31) (oi := { dst := some 83, op := _, type := _, pos := _, after := _, guard := some (30, true) }) (v := ?_) rfl (by kernel_rfl) (by kernel_rfl) (by kernel_rfl) (fun _ _ _ h => h) (Or.inl ⟨by rfl, ?_⟩) hH ?_
  rotate_left
  · intro u hSu
    try dsimp only at hSu
    go_simp
    try with_reducible rfl
  try simp only [Act.put, List.setIfInBounds_toArray, List.set_cons_zero, List.set_cons_succ]
  refine wpAnyH_take (i := 32) (oi := { dst := some 84, op := _, type := _, pos := _, after := _, guard := some (30, true) }) (v := ?_) rfl (by kernel_rfl) (by kernel_rfl) (by kernel_rfl) (fun _ _ _ h => h) (Or.inl ⟨by rfl, ?_⟩) hH ?_
  rotate_left
  · intro u hSu
    try dsimp only at hSu
    go_simp
    try with_reducible rfl
  try simp only [Act.put, List.setIfInBounds_toArray, List.set_cons_zero, List.set_cons_succ]
  refine wpAnyH_take (i := 33) (oi := { dst := some 85, op := _, type := _, pos := _, after := _, guard := some (30, true) }) (v := ?_) rfl (by kernel_rfl) (by kernel_rfl) (by kernel_rfl) (fun _ _ _ h => h) (Or.inl ⟨by rfl, ?_⟩) hH ?_
  rotate_left
  · intro u hSu
    try dsimp only at hSu
    go_simp
    try with_reducible rfl
  try simp only [Act.put, List.setIfInBounds_toArray, List.set_cons_zero, List.set_cons_succ]
  refine wpAnyH_take (i := 34) (oi := { dst := some 86, op := _, type := _, pos := _, after := _, guard := some (30, true) }) (v := ?_) rfl (by kernel_rfl) (by kernel_rfl) (by kernel_rfl) (fun _ _ _ h => h) (Or.inl ⟨by rfl, ?_⟩) hH ?_
  rotate_left
  · intro u hSu
    try dsimp only at hSu
    go_simp
    try with_reducible rfl
  try simp only [Act.put, List.setIfInBounds_toArray, List.set_cons_zero, List.set_cons_succ]
  refine wpAnyH_take (i := 35) (oi := { dst := some 87, op := _, type := _, pos := _, after := _, guard := none }) (v := ?_) rfl (by kernel_rfl) (by kernel_rfl) (by kernel_rfl) (fun _ _ _ h => h) (Or.inl ⟨by rfl, ?_⟩) hH ?_
  rotate_left
  · intro u hSu
    try dsimp only at hSu
    go_simp
    try with_reducible rfl
  try simp only [Act.put, List.setIfInBounds_toArray, List.set_cons_zero, List.set_cons_succ]
  refine wpAnyH_take (i := 36) (oi := { dst := some 88, op := _, type := _, pos := _, after := _, guard := none }) (v := ?_) rfl (by kernel_rfl) (by kernel_rfl) (by kernel_rfl) (fun _ _ _ h => h) (Or.inl ⟨by rfl, ?_⟩) hH ?_
  rotate_left
  · intro u hSu
    try dsimp only at hSu
    go_simp
    try with_reducible rfl
  try simp only [Act.put, List.setIfInBounds_toArray, List.set_cons_zero, List.set_cons_succ]
  refine wpAnyH_take (i := 37) (oi := { dst := some 89, op := _, type := _, pos := _, after := _, guard := some (36, true) }) (v := ?_) rfl (by kernel_rfl) (by kernel_rfl) (by kernel_rfl) (fun _ _ _ h => h) (Or.inl ⟨by rfl, ?_⟩) hH ?_
  rotate_left
  · intro u hSu
    try dsimp only at hSu
    go_simp
    try with_reducible rfl
  try simp only [Act.put, List.setIfInBounds_toArray, List.set_cons_zero, List.set_cons_succ]
  refine wpAnyH_ready (rs := [38]) (by kernel_rfl) (by simp) ?_
  refine AllReadyH.cons (o := { dst := some 90, op := _, type := _, pos := _, after := _, guard := some (36, true) }) rfl (fun K hK => ?_) AllReadyH.nil
  go_simp
  refine (CH.out _ (o10.then (Chg.alloc [] _ _)) (p10.keep (Chg.alloc [] _ _))).mono ?_
  rintro e w12 ⟨rfl, p12, o12⟩
  try go_wp2_with fail
  clear hH
  refine hK.out _ _ (HS.out _ o12) (fun hH => ?_)
  clear hK K
  try simp only [Act.put, List.setIfInBounds_toArray, List.set_cons_zero, List.set_cons_succ]
  refine wpAnyH_take (i := 39) (oi := { dst := some 91, op := _, type := _, pos := _, after := _, guard := some (36, true) }) (v := ?_) rfl (by kernel_rfl) (by kernel_rfl) (by kernel_rfl) (fun _ _ _ h => h) (Or.inl ⟨by rfl, ?_⟩) hH ?_
  rotate_left
  · intro u hSu
    try dsimp only at hSu
    go_simp
    try with_reducible rfl
  try simp only [Act.put, List.setIfInBounds_toArray, List.set_cons_zero, List.set_cons_succ]
  refine wpAnyH_take (i := 40) (oi := { dst := some 92, op := _, type := _, pos := _, after := _, guard := none }) (v := ?_) rfl (by kernel_rfl) (by kernel_rfl) (by kernel_rfl) (fun _ _ _ h => h) (Or.inl ⟨by rfl, ?_⟩) hH ?_
  rotate_left
  · intro u hSu
    try dsimp only at hSu
    go_simp
    try with_reducible rfl
  try simp only [Act.put, List.setIfInBounds_toArray, List.set_cons_zero, List.set_cons_succ]
  refine wpAnyH_take (i := 41) (oi := { dst := some 93, op := _, type := _, pos := _, after := _, guard := none }) (v := ?_) rfl (by kernel_rfl) (by kernel_rfl) (by kernel_rfl) (fun _ _ _ h => h) (Or.inl ⟨by rfl, ?_⟩) hH ?_
  rotate_left
  · intro u hSu
    try dsimp only at hSu
    go_simp
    try with_reducible rfl
  try simp only [Act.put, List.setIfInBounds_toArray, List.set_cons_zero, List.set_cons_succ]
  refine wpAnyH_take (i := 42) (oi := { dst := some 94, op := _, type := _, pos := _, after := _, guard := some (41, true) }) (v := ?_) rfl (by kernel_rfl) (by kernel_rfl) (by kernel_rfl) (fun _ _ _ h => h) (Or.inl ⟨by rfl, ?_⟩) hH ?_
  rotate_left
  · intro u hSu
    try dsimp only at hSu
    go_simp
    try with_reducible rfl
  try simp only [Act.put, List.setIfInBounds_toArray, List.set_cons_zero, List.set_cons_succ]
  refine wpAnyH_ready (rs := [43]) (by kernel_rfl) (by simp) ?_
  refine AllReadyH.cons (o := { dst := some 95, op := _, type := _, pos := _, after := _, guard := some (41, true) }) rfl (fun K hK => ?_) AllReadyH.nil
  go_simp
  refine (CG.out _ p12).mono ?_
  rintro e w13 ⟨rfl, rfl⟩
  try go_wp2_with fail
  clear hH
  refine hK.out _ _ (HS.out _ o12) (fun hH => ?_)
  clear hK K
  try simp only [Act.put, List.setIfInBounds_toArray, List.set_cons_zero, List.set_cons_succ]
  refine wpAnyH_take (i := 44) (oi := { dst := some 96, op := _, type := _, pos := _, after := _, guard := some (41, true) }) (v := ?_) rfl (by kernel_rfl) (by kernel_rfl) (by kernel_rfl) (fun _ _ _ h => h) (Or.inl ⟨by rfl, ?_⟩) hH ?_
  rotate_left
  · intro u hSu
    try dsimp only at hSu
    go_simp
    try with_reducible rfl
  try simp only [Act.put, List.setIfInBounds_toArray, List.set_cons_zero, List.set_cons_succ]
  refine wpAnyH_take (i := 45) (oi := { dst := some 97, op := _, type := _, pos := _, after := _, guard := none }) (v := ?_) rfl (by kernel_rfl) (by kernel_rfl) (by kernel_rfl) (fun _ _ _ h => h) (Or.inl ⟨by rfl, ?_⟩) hH ?_
  rotate_left
  · intro u hSu
    try dsimp only at hSu
    go_simp
    try with_reducible rfl
  try simp only [Act.put, List.setIfInBounds_toArray, List.set_cons_zero, List.set_cons_succ]
  refine wpAnyH_take (i := 46) (oi := { dst := some 98, op := _, type := _, pos := _, after := _, guard := none }) (v := ?_) rfl (by kernel_rfl) (by kernel_rfl) (by kernel_rfl) (fun _ _ _ h => h) (Or.inl ⟨by rfl, ?_⟩) hH ?_
  rotate_left
  · intro u hSu
    try dsimp only at hSu
    go_simp
    try with_reducible rfl
  try simp only [Act.put, List.setIfInBounds_toArray, List.set_cons_zero, List.set_cons_succ]
  refine wpAnyH_take (i := 47) (oi := { dst := some 99, op := _, type := _, pos := _, after := _, guard := some (46, true) }) (v := ?_) rfl (by kernel_rfl) (by kernel_rfl) (by kernel_rfl) (fun _ _ _ h => h) (Or.inl ⟨by rfl, ?_⟩) hH ?_
  rotate_left
  · intro u hSu
    try dsimp only at hSu
    go_simp
    try with_reducible rfl
  try simp only [Act.put, List.setIfInBounds_toArray, List.set_cons_zero, List.set_cons_succ]
  refine wpAnyH_ready (rs := [48]) (by kernel_rfl) (by simp) ?_
  refine AllReadyH.cons (o := { dst := some 100, op := _, type := _, pos := _, after := _, guard := some (46, true) }) rfl (fun K hK => ?_) AllReadyH.nil
  go_simp
  refine (CE.out _ p12).mono ?_
  rintro e w14 ⟨rfl, rfl⟩
  try go_wp2_with fail
  clear hH
  refine hK.out _ _ (HS.out _ o12) (fun hH => ?_)
  clear hK K
  try simp only [Act.put, List.setIfInBounds_toArray, List.set_cons_zero, List.set_cons_succ]
  refine wpAnyH_take (i := 49) (oi := { dst := some 101, op := _, type := _, pos := _, after := _, guard := some (46, true) }) (v := ?_) rfl (by kernel_rfl) (by kernel_rfl) (by kernel_rfl) (fun _ _ _ h => h) (Or.inl ⟨by rfl, ?_⟩) hH ?_
  rotate_left
  · intro u hSu
    try dsimp only at hSu
    go_simp
    try with_reducible rfl
  try simp only [Act.put, List.setIfInBounds_toArray, List.set_cons_zero, List.set_cons_succ]
  refine wpAnyH_take (i := 50) (oi := { dst := some 102, op := _, type := _, pos := _, after := _, guard := none }) (v := ?_) rfl (by kernel_rfl) (by kernel_rfl) (by kernel_rfl) (fun _ _ _ h => h) (Or.inl ⟨by rfl, ?_⟩) hH ?_
  rotate_left
  · intro u hSu
    try dsimp only at hSu
    go_simp
    try with_reducible rfl
  try simp only [Act.put, List.setIfInBounds_toArray, List.set_cons_zero, List.set_cons_succ]
  refine wpAnyH_take (i := 51) (oi := { dst := some 0, op := _, type := _, pos := _, after := _, guard := none }) (v := ?_) rfl (by kernel_rfl) (by kernel_rfl) (by kernel_rfl) (fun _ _ _ h => h) (Or.inl ⟨by rfl, ?_⟩) hH ?_
  rotate_left
  · intro u hSu
    try dsimp only at hSu
    go_simp
    try with_reducible rfl
  try simp only [Act.put, List.setIfInBounds_toArray, List.set_cons_zero, List.set_cons_succ]
  refine wpAnyH_done (by kernel_rfl) ?_ _
  refine NoPanic.normal ?_
  go_wp2_with fail
  go_ret
  obtain ⟨fa', cf', E', L', p, hl⟩ := p12
  exact ⟨rfl, p.c⟩
end Go.Proofs.Ytdmhcbbakgljoaa
