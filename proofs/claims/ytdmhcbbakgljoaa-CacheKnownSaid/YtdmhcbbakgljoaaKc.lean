/- CacheKnown: the chapter's rows. -/
import Derived.Test.YtdmhcbbakgljoaaKb
namespace Go.Proofs.Ytdmhcbbakgljoaa
open Go.RowKit Go.Maps
set_option linter.unusedVariables false
set_option linter.unusedSimpArgs false
attribute [local go_sem ↓] Go.wp_at_zero Go.wp_at_succ

section
variable (B1 B2 : List UInt8) (h1 : B1.length = 256) (h2 : B2.length = 256)
def knF : RS := { RS.new 4 with left := 1 }
def knG : RS := { RS.new 4 with gone := true }
theorem kn_get (z : Int) (hz : whyN (RS.new 4) z = 6) : kget 2 [] (RS.new 4) z = (6, [], [], RS.new 4) := by
  unfold kget
  rw [if_pos (by rw [hz]; decide), hz]
theorem kn_none (b : List UInt8) (z : Int) (hz : whyN (RS.new 4) z = 6) : kput 2 [] (RS.new 4) z b = (6, [], RS.new 4) := by
  unfold kput
  rw [if_pos (by rw [hz]; decide), hz]
theorem kn_arg (b : List UInt8) (hb : b.length = 255) : kput 2 [] (RS.new 4) 0 b = (1, [], RS.new 4) := by
  unfold kput
  rw [if_neg (by decide), if_pos (by omega)]
include h1 in
theorem kn_room : kget 2 [⟨0, B1, true⟩, ⟨1, B2, true⟩] knF 2 = (9, [], [⟨0, B1, true⟩, ⟨1, B2, true⟩], knG) := by
  have hw : write knF 0 B1 = (9, knG) := by
    unfold write
    rw [if_neg (by decide), if_neg (by omega), if_pos (by decide)]
    rfl
  have hk : kroom 2 [⟨0, B1, true⟩, ⟨1, B2, true⟩] knF = (9, [⟨0, B1, true⟩, ⟨1, B2, true⟩], knG) := by
    have e : kwrote ⟨0, B1, true⟩ knF = (9, knG) := hw
    rw [kroom_no (by show 2 ≤ 2; omega) (by rw [e]; decide), e]
  show (if whyN knF 2 ≠ 0 then _ else _) = _
  rw [if_neg (by decide), hk]
  rfl
theorem kn_off (z : Int) : kget 2 [⟨0, B1, true⟩, ⟨1, B2, true⟩] knG z = (9, [], [⟨0, B1, true⟩, ⟨1, B2, true⟩], knG) := rfl
theorem kn_put (z : Int) (b : List UInt8) : kput 2 [⟨0, B1, true⟩, ⟨1, B2, true⟩] knG z b = (9, [⟨0, B1, true⟩, ⟨1, B2, true⟩], knG) := rfl
theorem kn_flush : kflush [⟨0, B1, true⟩, ⟨1, B2, true⟩] knG = (9, [⟨0, B1, true⟩, ⟨1, B2, true⟩], knG) := rfl
theorem kn_two : kplaces [⟨0, B1, true⟩, ⟨1, B2, true⟩] = [0, 1] := by
  unfold kplaces kdirty krising
  rw [List.mergeSort_of_pairwise (by simp)]
  rfl
theorem kn_crash : crash knG [] = RS.new 4 := rfl
end
set_option maxRecDepth 100000 in
set_option maxHeartbeats 4000000 in
theorem known_any (w : World) : Calls Try.prog 6 #[] w fun e w' => e = .returned (.bool true) ∧ Chg [] w w' := by
  have hl1 := blockB_len 1
  have hl2 := blockB_len 2
  have q1 := wk1 (blockB 1) hl1
  have q2 := wk2 (blockB 1) (blockB 2) hl2
  have q3 := kn_room (blockB 1) (blockB 2) hl1
  have q4 := kn_off (blockB 1) (blockB 2) 0
  have q5 := kn_put (blockB 1) (blockB 2) 0 []
  have q6 := kn_flush (blockB 1) (blockB 2)
  have q7 := kn_two (blockB 1) (blockB 2)
  have q8 := wk3 (blockB 1) (blockB 2)
  generalize hB1 : blockB 1 = B1 at q1 q2 q3 q4 q5 q6 q7 q8 hl1
  generalize hB2 : blockB 2 = B2 at q2 q3 q4 q5 q6 q7 q8 hl2
  have hm255 : ∀ u : World, (Instr.makeSlice 31 (.int .i64 255) (.int .i64 255)).run Try.prog u = .ok (.slice (some ⟨u.heap.size, 0, none⟩) 255 255) (u.alloc (.cells (madeCells #[.int .u8 0] 255) 5)) := hmk 255 (by decide)
  go_enter Try.func6, Try.ntmps6
  go_wp2_with fail
  refine (cnew_nil 1 w).mono ?_
  rintro e w' ⟨rfl, rfl⟩
  go_wp2_with fail
  have gz := Chg.alloc [] w (.cells #[.slice none 0 0, .slice none 0 0, .slice none 0 0, .int .i64 0, .bool false] 52)
  have z0 := cell_of_row (w.alloc (.cells #[.slice none 0 0, .slice none 0 0, .slice none 0 0, .int .i64 0, .bool false] 52)) w.heap.size 0 _ _ _ (heap_alloc_last w _)
  generalize hzb : w.heap.size = zb at *
  generalize w.alloc (.cells #[.slice none 0 0, .slice none 0 0, .slice none 0 0, .int .i64 0, .bool false] 52) = w1 at *
  refine (cnew_zero zb 1 w1 z0).mono ?_
  rintro e w' ⟨rfl, rfl⟩
  clear z0 hzb
  go_wp2_with fail
  refine (dnew_yes 4 (by decide) (by decide) w1).mono ?_
  rintro e w2 ⟨db, g, rfl, d1, g1⟩
  go_wp2_with fail
  refine (cnew_arg w1.heap.size db g none 0 (RS.new 4) w2 d1 (new_whole 4 (by decide)) 0 (by decide)).mono ?_
  rintro e w' ⟨rfl, rfl⟩
  go_wp2_with fail
  refine (cnew_arg w1.heap.size db g none 0 (RS.new 4) w2 d1 (new_whole 4 (by decide)) 1025 (by decide)).mono ?_
  rintro e w' ⟨rfl, rfl⟩
  go_wp2_with fail
  refine (cnew_yes 2 (by decide) w1 w2 (fun _ => False) db g none 0 (RS.new 4) d1 g1 (new_whole 4 (by decide)) (fun k hk => hk.elim)).mono ?_
  rintro e w3 ⟨cb, mb, rfl, p3, g3⟩
  clear d1 g1 g3
  go_wp2_with fail
  refine (pair_get w1 w3 _ db g none 0 _ cb mb none 0 [] [] 2 0 p3 [] _ 6 4 0 [] _ rfl (kn_get 4 rfl) (by decide) (by decide) rfl).mono ?_
  rintro e w4 ⟨ao4, c4, rfl, -, fa4, cf4, la4, cl4, E4, L4, u4, p4, hL4, hu4, -⟩
  have p4' := p4.less (R' := fun _ => False) (fun _ h => h.elim)
  clear p3 p4
  go_wp2_with fail
  refine (pair_get w1 w4 _ db g fa4 cf4 _ cb mb la4 cl4 E4 L4 2 u4 p4' [] _ 6 (-1) 0 [] _ hL4 (kn_get (-1) rfl) (by omega) (by decide) rfl).mono ?_
  rintro e w5 ⟨ao5, c5, rfl, -, fa5, cf5, la5, cl5, E5, L5, u5, p5, hL5, hu5, -⟩
  have p5' := p5.less (R' := fun _ => False) (fun _ h => h.elim)
  clear p4' p5 hL4
  go_wp2_with fail
  have hr0 := made_room w5 5 (.int .u8 0) 255 (by decide)
  have hz : List.replicate 255 (Value.int .u8 0) = bts (List.replicate 255 0) := by simp [bts]
  rw [hz] at hr0
  have p6 := p5'.add (R' := fun k => k = w5.heap.size) (Chg.alloc [] w5 (.cells (madeCells #[.int .u8 0] 255) 5)) (fun k hk => Or.inr (by rw [hk]; simp))
  generalize hH5 : w5.heap.size = H5 at *
  generalize w5.alloc (.cells (madeCells #[.int .u8 0] 255) 5) = w6 at *
  clear p5' hz hH5 hm255
  refine (pair_put w1 w6 _ db g fa5 cf5 _ cb mb la5 cl5 E5 L5 2 u5 p6 [] _ 1 0 _ 255 255 _ _ hL5 (kn_arg _ List.length_replicate) (by omega) (by decide) hr0.reads List.length_replicate (fun k hk => Or.inl (by simpa [blk] using hk))).mono ?_
  rintro e w7 ⟨rfl, fa7, cf7, la7, cl7, E7, L7, u7, p7, hL7, hu7, o7⟩
  clear p6 hr0 o7 hL5
  go_wp2_with fail
  refine (pair_put w1 w7 _ db g fa7 cf7 _ cb mb la7 cl7 E7 L7 2 u7 p7 [] _ 6 4 none 0 0 [] _ hL7 (kn_none [] 4 rfl) (by omega) (by decide) (Reads.nil _ _) rfl (fun k hk => by simp [blk] at hk)).mono ?_
  rintro e w8 ⟨rfl, fa8, cf8, la8, cl8, E8, L8, u8, p8, hL8, hu8, o8⟩
  clear p7 o8 hL7
  go_wp2_with fail
  refine (pair_held w1 w8 _ db g fa8 cf8 _ cb mb la8 cl8 E8 L8 2 u8 p8 [] hL8 0 rfl).mono ?_
  rintro e w' ⟨rfl, rfl⟩
  go_wp2_with fail
  refine (pair_block w1 w8 _ db g fa8 cf8 _ cb mb la8 cl8 E8 L8 2 u8 p8 1 1 rfl).mono ?_
  rintro e w9 ⟨nb9, rfl, r9, p9, g9⟩
  rw [hB1] at r9
  clear p8 g9
  go_wp2_with fail
  refine (pair_put w1 w9 _ db g fa8 cf8 _ cb mb la8 cl8 E8 L8 2 u8 p9 [] _ 0 0 _ 256 256 B1 _ hL8 q1 (by omega) (by decide) r9.reads hl1 (fun k hk => Or.inl (Or.inr (by simpa [blk] using hk)))).mono ?_
  rintro e w10 ⟨rfl, fa10, cf10, la10, cl10, E10, L10, u10, p10, hL10, hu10, o10⟩
  clear p9 r9 q1 o10 hL8
  go_wp2_with fail
  refine (pair_block w1 w10 _ db g fa10 cf10 _ cb mb la10 cl10 E10 L10 2 u10 p10 2 2 rfl).mono ?_
  rintro e w11 ⟨nb11, rfl, r11, p11, g11⟩
  rw [hB2] at r11
  clear p10 g11
  go_wp2_with fail
  refine (pair_put w1 w11 _ db g fa10 cf10 _ cb mb la10 cl10 E10 L10 2 u10 p11 _ _ 0 1 _ 256 256 B2 _ hL10 q2 (by omega) (by decide) r11.reads hl2 (fun k hk => Or.inl (Or.inr (by simpa [blk] using hk)))).mono ?_
  rintro e w12 ⟨rfl, fa12, cf12, la12, cl12, E12, L12, u12, p12, hL12, hu12, o12⟩
  have p12' := p12.less (R' := fun _ => False) (fun _ h => h.elim)
  clear p11 r11 q2 o12 hL10 p12
  go_wp2_with fail
  refine (pair_fuse w1 w12 _ db g fa12 cf12 _ cb mb la12 cl12 E12 L12 2 u12 p12' 1 (by decide)).mono ?_
  rintro e w13 ⟨rfl, p13, o13⟩
  clear p12' o13
  go_wp2_with fail
  refine (pair_get w1 w13 _ db g fa12 cf12 knF cb mb la12 cl12 E12 L12 2 u12 p13 _ _ 9 2 0 [] _ hL12 q3 (by omega) (by decide) rfl).mono ?_
  rintro e w14 ⟨ao14, c14, rfl, -, fa14, cf14, la14, cl14, E14, L14, u14, p14, hL14, hu14, -⟩
  have p14' := p14.less (R' := fun _ => False) (fun _ h => h.elim)
  clear p13 p14 q3 hL12
  go_wp2_with fail
  refine (pair_dirty w1 w14 _ db g fa14 cf14 _ cb mb la14 cl14 E14 L14 2 u14 p14' _ hL14 _ q7).mono ?_
  rintro e w15 ⟨lo, lc, rfl, -, p15, g15⟩
  have p15' := p15.less (R' := fun _ => False) (fun _ h => h.elim)
  clear p14' p15 g15
  go_wp2_with fail
  refine (pair_get w1 w15 _ db g fa14 cf14 _ cb mb la14 cl14 E14 L14 2 u14 p15' _ _ 9 0 0 [] _ hL14 q4 (by omega) (by decide) rfl).mono ?_
  rintro e w16 ⟨ao16, c16, rfl, -, fa16, cf16, la16, cl16, E16, L16, u16, p16, hL16, hu16, -⟩
  have p16' := p16.less (R' := fun _ => False) (fun _ h => h.elim)
  clear p15' p16 q4 hL14
  go_wp2_with fail
  refine (pair_flush w1 w16 _ db g fa16 cf16 _ cb mb la16 cl16 E16 L16 2 u16 p16' _ _ 9 _ hL16 q6 (by decide)).mono ?_
  rintro e w17 ⟨rfl, fa17, cf17, E17, L17, p17, hL17, o17⟩
  clear p16' q6 hL16 o17
  go_wp2_with fail
  refine (pair_put w1 w17 _ db g fa17 cf17 _ cb mb la16 cl16 E17 L17 2 u16 p17 _ _ 9 0 none 0 0 [] _ hL17 q5 (by omega) (by decide) (Reads.nil _ _) rfl (fun k hk => by simp [blk] at hk)).mono ?_
  rintro e w18 ⟨rfl, fa18, cf18, la18, cl18, E18, L18, u18, p18, hL18, hu18, o18⟩
  clear p17 q5 hL17 o18
  go_wp2_with fail
  refine (pair_held w1 w18 _ db g fa18 cf18 _ cb mb la18 cl18 E18 L18 2 u18 p18 _ hL18 2 rfl).mono ?_
  rintro e w' ⟨rfl, rfl⟩
  go_wp2_with fail
  refine (pair_crash w1 w18 _ db g fa18 cf18 _ cb mb la18 cl18 E18 L18 2 u18 p18 none 0 0 [] (Reads.nil _ _) rfl (Nat.zero_le _) (fun k hk => by simp [blk] at hk)).mono ?_
  rintro e w19 ⟨rfl, p19, o19⟩
  rw [kn_crash] at p19
  clear p18 o19
  go_wp2_with fail
  refine (pair_get w1 w19 _ db g none 0 _ cb mb la18 cl18 E18 L18 2 u18 p19 _ _ 0 0 256 B1 _ hL18 q8 (by omega) (by decide) hl1).mono ?_
  rintro e w20 ⟨xo, xc, rfl, rx, fa20, cf20, la20, cl20, E20, L20, u20, p20, hL20, hu20, o20⟩
  have c20 := p20.c
  clear p19 p20 hL18 hL20 o20 q8
  go_wp2_with fail
  have gc := Chg.alloc [] w20 (.cells #[.pointer none, .int .i64 0, .map none, .slice none 0 0, .int .u64 0] 59)
  have y0 := cell_of_row (w20.alloc (.cells #[.pointer none, .int .i64 0, .map none, .slice none 0 0, .int .u64 0] 59)) w20.heap.size 0 _ _ _ (heap_alloc_last w20 _)
  generalize hzc : w20.heap.size = zc at *
  have rx1 := rx.chg gc (by simp)
  generalize w20.alloc (.cells #[.pointer none, .int .i64 0, .map none, .slice none 0 0, .int .u64 0] 59) = w21 at *
  clear hzc rx
  refine (ndrop _ w21 (cmade_nil _)).mono ?_
  rintro e w' ⟨rfl, rfl⟩
  go_wp2_with fail
  refine (ndrop _ w21 (cmade_zero zc w21 y0)).mono ?_
  rintro e w' ⟨rfl, rfl⟩
  go_wp2_with fail
  refine (nget _ w21 (cmade_nil _) 0).mono ?_
  rintro e w' ⟨rfl, rfl⟩
  go_wp2_with fail
  refine (nget _ w21 (cmade_zero zc w21 y0) 0).mono ?_
  rintro e w' ⟨rfl, rfl⟩
  have cvA : ∀ (u : World) (xo : Option Addr) (xc : Nat), Reads u xo (bts B1) → (convert 31 9 (.slice xo 256 xc)).run Try.prog u = .ok (.string ⟨B1.toArray⟩) u := fun u xo xc h => run_convert_k (P := Try.prog) u 31 5 9 Try.underlying31 Try.underlying5 Try.underlying9 xo 256 xc B1 h hl1
  have hS : ∀ u, Chg [] w21 u → (convert 31 9 (.slice xo 256 xc)).run Try.prog u = .ok (.string ⟨B1.toArray⟩) u ∧ Chg [] w21 u := fun u c => ⟨cvA u xo xc (rx1.chg c (by simp)).reads, c⟩
  have cB : ∀ u, Chg [] w21 u → Calls Try.prog 10 #[.int .u8 1] u fun e w' => ∃ nb, e = .returned (.slice (some ⟨nb, 0, none⟩) 256 256) ∧ (convert 31 9 (.slice (some ⟨nb, 0, none⟩) 256 256)).run Try.prog w' = .ok (.string ⟨B1.toArray⟩) w' ∧ Chg [] w21 w' := by
    intro u o
    refine (block_as 1 1 rfl u).mono ?_
    rintro e w' ⟨nb, he, hr, hg⟩
    rw [hB1] at hr
    exact ⟨nb, he, cvA _ _ _ hr.reads, o.then hg⟩
  have CB := mkHid cB
  have HS := mkHid hS
  clear cB hS cvA rx1
  go_wp2_with fail
  refine wp_region_noPanic ?_
  refine wp_region_held_drew (S := (fun u => (convert 31 9 (.slice xo 256 xc)).run Try.prog u = .ok (.string ⟨B1.toArray⟩) u ∧ Chg [] w21 u)) (by kernel_rfl) ?_ (fun hH => ?_)
  · exact (HS.out _ (Chg.drew [] _))
  refine wpAnyH_take (i := 0) (oi := { dst := some 172, op := _, type := _, pos := _, after := _, guard := none }) (v := ?_) rfl (by kernel_rfl) (by kernel_rfl) (by kernel_rfl) (fun _ _ _ h => h) (Or.inl ⟨by rfl, ?_⟩) hH ?_
  rotate_left
  · intro u hSu
    try dsimp only at hSu
    go_simp
    try with_reducible rfl
  try simp only [Act.put, List.setIfInBounds_toArray, List.set_cons_zero, List.set_cons_succ]
  refine wpAnyH_take (i := 1) (oi := { dst := some 173, op := _, type := _, pos := _, after := _, guard := none }) (v := ?_) rfl (by kernel_rfl) (by kernel_rfl) (by kernel_rfl) (fun _ _ _ h => h) (Or.inl ⟨by rfl, ?_⟩) hH ?_
  rotate_left
  · intro u hSu
    try dsimp only at hSu
    go_simp
    try with_reducible rfl
  try simp only [Act.put, List.setIfInBounds_toArray, List.set_cons_zero, List.set_cons_succ]
  refine wpAnyH_take (i := 2) (oi := { dst := some 174, op := _, type := _, pos := _, after := _, guard := none }) (v := ?_) rfl (by kernel_rfl) (by kernel_rfl) (by kernel_rfl) (fun _ _ _ h => h) (Or.inl ⟨by rfl, ?_⟩) hH ?_
  rotate_left
  · intro u hSu
    try dsimp only at hSu
    go_simp
    try with_reducible rfl
  try simp only [Act.put, List.setIfInBounds_toArray, List.set_cons_zero, List.set_cons_succ]
  refine wpAnyH_take (i := 3) (oi := { dst := some 175, op := _, type := _, pos := _, after := _, guard := some (2, true) }) (v := ?_) rfl (by kernel_rfl) (by kernel_rfl) (by kernel_rfl) (fun _ _ _ h => h) (Or.inl ⟨by rfl, ?_⟩) hH ?_
  rotate_left
  · intro u hSu
    try dsimp only at hSu
    go_simp
    try with_reducible rfl
  try simp only [Act.put, List.setIfInBounds_toArray, List.set_cons_zero, List.set_cons_succ]
  refine wpAnyH_take (i := 4) (oi := { dst := some 176, op := _, type := _, pos := _, after := _, guard := some (2, true) }) (v := ?_) rfl (by kernel_rfl) (by kernel_rfl) (by kernel_rfl) (fun _ _ _ h => h) (Or.inl ⟨by rfl, ?_⟩) hH ?_
  rotate_left
  · intro u hSu
    try dsimp only at hSu
    go_simp
    try with_reducible rfl
  try simp only [Act.put, List.setIfInBounds_toArray, List.set_cons_zero, List.set_cons_succ]
  refine wpAnyH_ready (rs := [5]) (by kernel_rfl) (by simp) ?_
  refine AllReadyH.cons (o := { dst := some 177, op := _, type := _, pos := _, after := _, guard := some (2, true) }) rfl (fun K hK => ?_) AllReadyH.nil
  go_simp
  refine (CB.out _ (Chg.drew [] _)).mono ?_
  rintro e w22 ⟨nb22, rfl, cv22, g22⟩
  try go_wp2_with fail
  clear hH
  refine hK.out _ _ (HS.out _ g22) (fun hH => ?_)
  clear hK K
  try simp only [Act.put, List.setIfInBounds_toArray, List.set_cons_zero, List.set_cons_succ]
  refine wpAnyH_ready (rs := [6]) (by kernel_rfl) (by simp) ?_
  refine AllReadyH.cons (o := { dst := some 178, op := _, type := _, pos := _, after := _, guard := some (2, true) }) rfl (fun K hK => ?_) AllReadyH.nil
  go_simp
  clear cv22
  clear hH
  refine hK.out _ _ (HS.out _ g22) (fun hH => ?_)
  clear hK K
  try simp only [Act.put, List.setIfInBounds_toArray, List.set_cons_zero, List.set_cons_succ]
  refine wpAnyH_take (i := 7) (oi := { dst := some 179, op := _, type := _, pos := _, after := _, guard := some (2, true) }) (v := ?_) rfl (by kernel_rfl) (by kernel_rfl) (by kernel_rfl) (fun _ _ _ h => h) (Or.inl ⟨by rfl, ?_⟩) hH ?_
  rotate_left
  · intro u hSu
    try dsimp only at hSu
    go_simp
    try with_reducible rfl
  try simp only [Act.put, List.setIfInBounds_toArray, List.set_cons_zero, List.set_cons_succ]
  refine wpAnyH_take (i := 8) (oi := { dst := some 180, op := _, type := _, pos := _, after := _, guard := none }) (v := ?_) rfl (by kernel_rfl) (by kernel_rfl) (by kernel_rfl) (fun _ _ _ h => h) (Or.inl ⟨by rfl, ?_⟩) hH ?_
  rotate_left
  · intro u hSu
    try dsimp only at hSu
    go_simp
    try with_reducible rfl
  try simp only [Act.put, List.setIfInBounds_toArray, List.set_cons_zero, List.set_cons_succ]
  refine wpAnyH_take (i := 9) (oi := { dst := some 181, op := _, type := _, pos := _, after := _, guard := none }) (v := ?_) rfl (by kernel_rfl) (by kernel_rfl) (by kernel_rfl) (fun _ _ _ h => h) (Or.inl ⟨by rfl, ?_⟩) hH ?_
  rotate_left
  · intro u hSu
    try dsimp only at hSu
    go_simp
    try with_reducible rfl
  try simp only [Act.put, List.setIfInBounds_toArray, List.set_cons_zero, List.set_cons_succ]
  refine wpAnyH_take (i := 10) (oi := { dst := some 182, op := _, type := _, pos := _, after := _, guard := some (9, true) }) (v := ?_) rfl (by kernel_rfl) (by kernel_rfl) (by kernel_rfl) (fun _ _ _ h => h) (Or.inl ⟨by rfl, ?_⟩) hH ?_
  rotate_left
  · intro u hSu
    try dsimp only at hSu
    go_simp
    try with_reducible rfl
  try simp only [Act.put, List.setIfInBounds_toArray, List.set_cons_zero, List.set_cons_succ]
  refine wpAnyH_take (i := 11) (oi := { dst := some 183, op := _, type := _, pos := _, after := _, guard := some (9, true) }) (v := ?_) rfl (by kernel_rfl) (by kernel_rfl) (by kernel_rfl) (fun _ _ _ h => h) (Or.inl ⟨by rfl, ?_⟩) hH ?_
  rotate_left
  · intro u hSu
    try dsimp only at hSu
    go_simp
    try with_reducible rfl
  try simp only [Act.put, List.setIfInBounds_toArray, List.set_cons_zero, List.set_cons_succ]
  refine wpAnyH_take (i := 12) (oi := { dst := some 184, op := _, type := _, pos := _, after := _, guard := none }) (v := ?_) rfl (by kernel_rfl) (by kernel_rfl) (by kernel_rfl) (fun _ _ _ h => h) (Or.inl ⟨by rfl, ?_⟩) hH ?_
  rotate_left
  · intro u hSu
    try dsimp only at hSu
    go_simp
    try with_reducible rfl
  try simp only [Act.put, List.setIfInBounds_toArray, List.set_cons_zero, List.set_cons_succ]
  refine wpAnyH_take (i := 13) (oi := { dst := some 185, op := _, type := _, pos := _, after := _, guard := none }) (v := ?_) rfl (by kernel_rfl) (by kernel_rfl) (by kernel_rfl) (fun _ _ _ h => h) (Or.inl ⟨by rfl, ?_⟩) hH ?_
  rotate_left
  · intro u hSu
    try dsimp only at hSu
    go_simp
    try with_reducible rfl
  try simp only [Act.put, List.setIfInBounds_toArray, List.set_cons_zero, List.set_cons_succ]
  refine wpAnyH_take (i := 14) (oi := { dst := some 186, op := _, type := _, pos := _, after := _, guard := some (13, true) }) (v := ?_) rfl (by kernel_rfl) (by kernel_rfl) (by kernel_rfl) (fun _ _ _ h => h) (Or.inl ⟨by rfl, ?_⟩) hH ?_
  rotate_left
  · intro u hSu
    try dsimp only at hSu
    go_simp
    try with_reducible rfl
  try simp only [Act.put, List.setIfInBounds_toArray, List.set_cons_zero, List.set_cons_succ]
  refine wpAnyH_take (i := 15) (oi := { dst := some 187, op := _, type := _, pos := _, after := _, guard := some (13, true) }) (v := ?_) rfl (by kernel_rfl) (by kernel_rfl) (by kernel_rfl) (fun _ _ _ h => h) (Or.inl ⟨by rfl, ?_⟩) hH ?_
  rotate_left
  · intro u hSu
    try dsimp only at hSu
    go_simp
    try with_reducible rfl
  try simp only [Act.put, List.setIfInBounds_toArray, List.set_cons_zero, List.set_cons_succ]
  refine wpAnyH_take (i := 16) (oi := { dst := some 188, op := _, type := _, pos := _, after := _, guard := none }) (v := ?_) rfl (by kernel_rfl) (by kernel_rfl) (by kernel_rfl) (fun _ _ _ h => h) (Or.inl ⟨by rfl, ?_⟩) hH ?_
  rotate_left
  · intro u hSu
    try dsimp only at hSu
    go_simp
    try with_reducible rfl
  try simp only [Act.put, List.setIfInBounds_toArray, List.set_cons_zero, List.set_cons_succ]
  refine wpAnyH_take (i := 17) (oi := { dst := some 189, op := _, type := _, pos := _, after := _, guard := none }) (v := ?_) rfl (by kernel_rfl) (by kernel_rfl) (by kernel_rfl) (fun _ _ _ h => h) (Or.inl ⟨by rfl, ?_⟩) hH ?_
  rotate_left
  · intro u hSu
    try dsimp only at hSu
    go_simp
    try with_reducible rfl
  try simp only [Act.put, List.setIfInBounds_toArray, List.set_cons_zero, List.set_cons_succ]
  refine wpAnyH_take (i := 18) (oi := { dst := some 190, op := _, type := _, pos := _, after := _, guard := some (17, true) }) (v := ?_) rfl (by kernel_rfl) (by kernel_rfl) (by kernel_rfl) (fun _ _ _ h => h) (Or.inl ⟨by rfl, ?_⟩) hH ?_
  rotate_left
  · intro u hSu
    try dsimp only at hSu
    go_simp
    try with_reducible rfl
  try simp only [Act.put, List.setIfInBounds_toArray, List.set_cons_zero, List.set_cons_succ]
  refine wpAnyH_ready (rs := [19]) (by kernel_rfl) (by simp) ?_
  refine AllReadyH.cons (o := { dst := some 191, op := _, type := _, pos := _, after := _, guard := some (17, true) }) rfl (fun K hK => ?_) AllReadyH.nil
  go_simp
  refine (nput _ _ (cmade_nil _) 0 _).mono ?_
  rintro e w' ⟨rfl, rfl⟩
  try go_wp2_with fail
  clear hH
  refine hK.out _ _ (HS.out _ g22) (fun hH => ?_)
  clear hK K
  try simp only [Act.put, List.setIfInBounds_toArray, List.set_cons_zero, List.set_cons_succ]
  refine wpAnyH_take (i := 20) (oi := { dst := some 192, op := _, type := _, pos := _, after := _, guard := some (17, true) }) (v := ?_) rfl (by kernel_rfl) (by kernel_rfl) (by kernel_rfl) (fun _ _ _ h => h) (Or.inl ⟨by rfl, ?_⟩) hH ?_
  rotate_left
  · intro u hSu
    try dsimp only at hSu
    go_simp
    try with_reducible rfl
  try simp only [Act.put, List.setIfInBounds_toArray, List.set_cons_zero, List.set_cons_succ]
  refine wpAnyH_take (i := 21) (oi := { dst := some 193, op := _, type := _, pos := _, after := _, guard := none }) (v := ?_) rfl (by kernel_rfl) (by kernel_rfl) (by kernel_rfl) (fun _ _ _ h => h) (Or.inl ⟨by rfl, ?_⟩) hH ?_
  rotate_left
  · intro u hSu
    try dsimp only at hSu
    go_simp
    try with_reducible rfl
  try simp only [Act.put, List.setIfInBounds_toArray, List.set_cons_zero, List.set_cons_succ]
  refine wpAnyH_take (i := 22) (oi := { dst := some 194, op := _, type := _, pos := _, after := _, guard := none }) (v := ?_) rfl (by kernel_rfl) (by kernel_rfl) (by kernel_rfl) (fun _ _ _ h => h) (Or.inl ⟨by rfl, ?_⟩) hH ?_
  rotate_left
  · intro u hSu
    try dsimp only at hSu
    go_simp
    try with_reducible rfl
  try simp only [Act.put, List.setIfInBounds_toArray, List.set_cons_zero, List.set_cons_succ]
  refine wpAnyH_take (i := 23) (oi := { dst := some 195, op := _, type := _, pos := _, after := _, guard := some (22, true) }) (v := ?_) rfl (by kernel_rfl) (by kernel_rfl) (by kernel_rfl) (fun _ _ _ h => h) (Or.inl ⟨by rfl, ?_⟩) hH ?_
  rotate_left
  · intro u hSu
    try dsimp only at hSu
    go_simp
    try with_reducible rfl
  try simp only [Act.put, List.setIfInBounds_toArray, List.set_cons_zero, List.set_cons_succ]
  refine wpAnyH_ready (rs := [24]) (by kernel_rfl) (by simp) ?_
  refine AllReadyH.cons (o := { dst := some 196, op := _, type := _, pos := _, after := _, guard := some (22, true) }) rfl (fun K hK => ?_) AllReadyH.nil
  go_simp
  refine (nflush _ _ (cmade_zero zc _ (g22.cellv y0 (by simp)))).mono ?_
  rintro e w' ⟨rfl, rfl⟩
  try go_wp2_with fail
  clear hH
  refine hK.out _ _ (HS.out _ g22) (fun hH => ?_)
  clear hK K
  try simp only [Act.put, List.setIfInBounds_toArray, List.set_cons_zero, List.set_cons_succ]
  refine wpAnyH_take (i := 25) (oi := { dst := some 197, op := _, type := _, pos := _, after := _, guard := some (22, true) }) (v := ?_) rfl (by kernel_rfl) (by kernel_rfl) (by kernel_rfl) (fun _ _ _ h => h) (Or.inl ⟨by rfl, ?_⟩) hH ?_
  rotate_left
  · intro u hSu
    try dsimp only at hSu
    go_simp
    try with_reducible rfl
  try simp only [Act.put, List.setIfInBounds_toArray, List.set_cons_zero, List.set_cons_succ]
  refine wpAnyH_take (i := 26) (oi := { dst := some 198, op := _, type := _, pos := _, after := _, guard := none }) (v := ?_) rfl (by kernel_rfl) (by kernel_rfl) (by kernel_rfl) (fun _ _ _ h => h) (Or.inl ⟨by rfl, ?_⟩) hH ?_
  rotate_left
  · intro u hSu
    try dsimp only at hSu
    go_simp
    try with_reducible rfl
  try simp only [Act.put, List.setIfInBounds_toArray, List.set_cons_zero, List.set_cons_succ]
  refine wpAnyH_take (i := 27) (oi := { dst := some 199, op := _, type := _, pos := _, after := _, guard := none }) (v := ?_) rfl (by kernel_rfl) (by kernel_rfl) (by kernel_rfl) (fun _ _ _ h => h) (Or.inl ⟨by rfl, ?_⟩) hH ?_
  rotate_left
  · intro u hSu
    try dsimp only at hSu
    go_simp
    try with_reducible rfl
  try simp only [Act.put, List.setIfInBounds_toArray, List.set_cons_zero, List.set_cons_succ]
  refine wpAnyH_take (i := 28) (oi := { dst := some 200, op := _, type := _, pos := _, after := _, guard := some (27, true) }) (v := ?_) rfl (by kernel_rfl) (by kernel_rfl) (by kernel_rfl) (fun _ _ _ h => h) (Or.inl ⟨by rfl, ?_⟩) hH ?_
  rotate_left
  · intro u hSu
    try dsimp only at hSu
    go_simp
    try with_reducible rfl
  try simp only [Act.put, List.setIfInBounds_toArray, List.set_cons_zero, List.set_cons_succ]
  refine wpAnyH_ready (rs := [29]) (by kernel_rfl) (by simp) ?_
  refine AllReadyH.cons (o := { dst := some 201, op := _, type := _, pos := _, after := _, guard := some (27, true) }) rfl (fun K hK => ?_) AllReadyH.nil
  go_simp
  refine (nflush _ _ (cmade_nil _)).mono ?_
  rintro e w' ⟨rfl, rfl⟩
  try go_wp2_with fail
  clear hH
  refine hK.out _ _ (HS.out _ g22) (fun hH => ?_)
  clear hK K
  try simp only [Act.put, List.setIfInBounds_toArray, List.set_cons_zero, List.set_cons_succ]
  refine wpAnyH_take (i := 30) (oi := { dst := some 202, op := _, type := _, pos := _, after := _, guard := some (27, true) }) (v := ?_) rfl (by kernel_rfl) (by kernel_rfl) (by kernel_rfl) (fun _ _ _ h => h) (Or.inl ⟨by rfl, ?_⟩) hH ?_
  rotate_left
  · intro u hSu
    try dsimp only at hSu
    go_simp
    try with_reducible rfl
  try simp only [Act.put, List.setIfInBounds_toArray, List.set_cons_zero, List.set_cons_succ]
  refine wpAnyH_take (i := 31) (oi := { dst := some 203, op := _, type := _, pos := _, after := _, guard := none }) (v := ?_) rfl (by kernel_rfl) (by kernel_rfl) (by kernel_rfl) (fun _ _ _ h => h) (Or.inl ⟨by rfl, ?_⟩) hH ?_
  rotate_left
  · intro u hSu
    try dsimp only at hSu
    go_simp
    try with_reducible rfl
  try simp only [Act.put, List.setIfInBounds_toArray, List.set_cons_zero, List.set_cons_succ]
  refine wpAnyH_take (i := 32) (oi := { dst := some 204, op := _, type := _, pos := _, after := _, guard := none }) (v := ?_) rfl (by kernel_rfl) (by kernel_rfl) (by kernel_rfl) (fun _ _ _ h => h) (Or.inl ⟨by rfl, ?_⟩) hH ?_
  rotate_left
  · intro u hSu
    try dsimp only at hSu
    go_simp
    try with_reducible rfl
  try simp only [Act.put, List.setIfInBounds_toArray, List.set_cons_zero, List.set_cons_succ]
  refine wpAnyH_take (i := 33) (oi := { dst := some 205, op := _, type := _, pos := _, after := _, guard := some (32, true) }) (v := ?_) rfl (by kernel_rfl) (by kernel_rfl) (by kernel_rfl) (fun _ _ _ h => h) (Or.inl ⟨by rfl, ?_⟩) hH ?_
  rotate_left
  · intro u hSu
    try dsimp only at hSu
    go_simp
    try with_reducible rfl
  try simp only [Act.put, List.setIfInBounds_toArray, List.set_cons_zero, List.set_cons_succ]
  refine wpAnyH_ready (rs := [34]) (by kernel_rfl) (by simp) ?_
  refine AllReadyH.cons (o := { dst := some 206, op := _, type := _, pos := _, after := _, guard := some (32, true) }) rfl (fun K hK => ?_) AllReadyH.nil
  go_simp
  refine (ndirty _).mono ?_
  rintro e w23 ⟨rfl, g23⟩
  try go_wp2_with fail
  replace g22 := g22.then g23
  clear g23
  clear hH
  refine hK.out _ _ (HS.out _ g22) (fun hH => ?_)
  clear hK K
  try simp only [Act.put, List.setIfInBounds_toArray, List.set_cons_zero, List.set_cons_succ]
  refine wpAnyH_take (i := 35) (oi := { dst := some 207, op := _, type := _, pos := _, after := _, guard := some (32, true) }) (v := ?_) rfl (by kernel_rfl) (by kernel_rfl) (by kernel_rfl) (fun _ _ _ h => h) (Or.inl ⟨by rfl, ?_⟩) hH ?_
  rotate_left
  · intro u hSu
    try dsimp only at hSu
    go_simp
    try with_reducible rfl
  try simp only [Act.put, List.setIfInBounds_toArray, List.set_cons_zero, List.set_cons_succ]
  refine wpAnyH_take (i := 36) (oi := { dst := some 208, op := _, type := _, pos := _, after := _, guard := some (32, true) }) (v := ?_) rfl (by kernel_rfl) (by kernel_rfl) (by kernel_rfl) (fun _ _ _ h => h) (Or.inl ⟨by rfl, ?_⟩) hH ?_
  rotate_left
  · intro u hSu
    try dsimp only at hSu
    go_simp
    try with_reducible rfl
  try simp only [Act.put, List.setIfInBounds_toArray, List.set_cons_zero, List.set_cons_succ]
  refine wpAnyH_take (i := 37) (oi := { dst := some 209, op := _, type := _, pos := _, after := _, guard := none }) (v := ?_) rfl (by kernel_rfl) (by kernel_rfl) (by kernel_rfl) (fun _ _ _ h => h) (Or.inl ⟨by rfl, ?_⟩) hH ?_
  rotate_left
  · intro u hSu
    try dsimp only at hSu
    go_simp
    try with_reducible rfl
  try simp only [Act.put, List.setIfInBounds_toArray, List.set_cons_zero, List.set_cons_succ]
  refine wpAnyH_take (i := 38) (oi := { dst := some 210, op := _, type := _, pos := _, after := _, guard := none }) (v := ?_) rfl (by kernel_rfl) (by kernel_rfl) (by kernel_rfl) (fun _ _ _ h => h) (Or.inl ⟨by rfl, ?_⟩) hH ?_
  rotate_left
  · intro u hSu
    try dsimp only at hSu
    go_simp
    try with_reducible rfl
  try simp only [Act.put, List.setIfInBounds_toArray, List.set_cons_zero, List.set_cons_succ]
  refine wpAnyH_take (i := 39) (oi := { dst := some 211, op := _, type := _, pos := _, after := _, guard := some (38, true) }) (v := ?_) rfl (by kernel_rfl) (by kernel_rfl) (by kernel_rfl) (fun _ _ _ h => h) (Or.inl ⟨by rfl, ?_⟩) hH ?_
  rotate_left
  · intro u hSu
    try dsimp only at hSu
    go_simp
    try with_reducible rfl
  try simp only [Act.put, List.setIfInBounds_toArray, List.set_cons_zero, List.set_cons_succ]
  refine wpAnyH_ready (rs := [40]) (by kernel_rfl) (by simp) ?_
  refine AllReadyH.cons (o := { dst := some 212, op := _, type := _, pos := _, after := _, guard := some (38, true) }) rfl (fun K hK => ?_) AllReadyH.nil
  go_simp
  refine (nheld _ _ (cmade_nil _)).mono ?_
  rintro e w' ⟨rfl, rfl⟩
  try go_wp2_with fail
  clear hH
  refine hK.out _ _ (HS.out _ g22) (fun hH => ?_)
  clear hK K
  try simp only [Act.put, List.setIfInBounds_toArray, List.set_cons_zero, List.set_cons_succ]
  refine wpAnyH_take (i := 41) (oi := { dst := some 213, op := _, type := _, pos := _, after := _, guard := some (38, true) }) (v := ?_) rfl (by kernel_rfl) (by kernel_rfl) (by kernel_rfl) (fun _ _ _ h => h) (Or.inl ⟨by rfl, ?_⟩) hH ?_
  rotate_left
  · intro u hSu
    try dsimp only at hSu
    go_simp
    try with_reducible rfl
  try simp only [Act.put, List.setIfInBounds_toArray, List.set_cons_zero, List.set_cons_succ]
  refine wpAnyH_take (i := 42) (oi := { dst := some 214, op := _, type := _, pos := _, after := _, guard := none }) (v := ?_) rfl (by kernel_rfl) (by kernel_rfl) (by kernel_rfl) (fun _ _ _ h => h) (Or.inl ⟨by rfl, ?_⟩) hH ?_
  rotate_left
  · intro u hSu
    try dsimp only at hSu
    go_simp
    try with_reducible rfl
  try simp only [Act.put, List.setIfInBounds_toArray, List.set_cons_zero, List.set_cons_succ]
  refine wpAnyH_take (i := 43) (oi := { dst := some 215, op := _, type := _, pos := _, after := _, guard := none }) (v := ?_) rfl (by kernel_rfl) (by kernel_rfl) (by kernel_rfl) (fun _ _ _ h => h) (Or.inl ⟨by rfl, ?_⟩) hH ?_
  rotate_left
  · intro u hSu
    try dsimp only at hSu
    go_simp
    try with_reducible rfl
  try simp only [Act.put, List.setIfInBounds_toArray, List.set_cons_zero, List.set_cons_succ]
  refine wpAnyH_take (i := 44) (oi := { dst := some 216, op := _, type := _, pos := _, after := _, guard := some (43, true) }) (v := ?_) rfl (by kernel_rfl) (by kernel_rfl) (by kernel_rfl) (fun _ _ _ h => h) (Or.inl ⟨by rfl, ?_⟩) hH ?_
  rotate_left
  · intro u hSu
    try dsimp only at hSu
    go_simp
    try with_reducible rfl
  try simp only [Act.put, List.setIfInBounds_toArray, List.set_cons_zero, List.set_cons_succ]
  refine wpAnyH_ready (rs := [45]) (by kernel_rfl) (by simp) ?_
  refine AllReadyH.cons (o := { dst := some 217, op := _, type := _, pos := _, after := _, guard := some (43, true) }) rfl (fun K hK => ?_) AllReadyH.nil
  go_simp
  refine (nheld _ _ (cmade_zero zc _ (g22.cellv y0 (by simp)))).mono ?_
  rintro e w' ⟨rfl, rfl⟩
  try go_wp2_with fail
  clear hH
  refine hK.out _ _ (HS.out _ g22) (fun hH => ?_)
  clear hK K
  try simp only [Act.put, List.setIfInBounds_toArray, List.set_cons_zero, List.set_cons_succ]
  refine wpAnyH_take (i := 46) (oi := { dst := some 218, op := _, type := _, pos := _, after := _, guard := some (43, true) }) (v := ?_) rfl (by kernel_rfl) (by kernel_rfl) (by kernel_rfl) (fun _ _ _ h => h) (Or.inl ⟨by rfl, ?_⟩) hH ?_
  rotate_left
  · intro u hSu
    try dsimp only at hSu
    go_simp
    try with_reducible rfl
  try simp only [Act.put, List.setIfInBounds_toArray, List.set_cons_zero, List.set_cons_succ]
  refine wpAnyH_take (i := 47) (oi := { dst := some 219, op := _, type := _, pos := _, after := _, guard := none }) (v := ?_) rfl (by kernel_rfl) (by kernel_rfl) (by kernel_rfl) (fun _ _ _ h => h) (Or.inl ⟨by rfl, ?_⟩) hH ?_
  rotate_left
  · intro u hSu
    try dsimp only at hSu
    go_simp
    try with_reducible rfl
  try simp only [Act.put, List.setIfInBounds_toArray, List.set_cons_zero, List.set_cons_succ]
  refine wpAnyH_take (i := 48) (oi := { dst := some 220, op := _, type := _, pos := _, after := _, guard := none }) (v := ?_) rfl (by kernel_rfl) (by kernel_rfl) (by kernel_rfl) (fun _ _ _ h => h) (Or.inl ⟨by rfl, ?_⟩) hH ?_
  rotate_left
  · intro u hSu
    try dsimp only at hSu
    go_simp
    try with_reducible rfl
  try simp only [Act.put, List.setIfInBounds_toArray, List.set_cons_zero, List.set_cons_succ]
  refine wpAnyH_ready (rs := [49]) (by kernel_rfl) (by simp) ?_
  refine AllReadyH.cons (o := { dst := some 221, op := _, type := _, pos := _, after := _, guard := some (48, true) }) rfl (fun K hK => ?_) AllReadyH.nil
  go_simp
  refine (wakes_any _).mono ?_
  rintro e w24 ⟨rfl, g24⟩
  try go_wp2_with fail
  replace g22 := g22.then g24
  clear g24
  clear hH
  refine hK.out _ _ (HS.out _ g22) (fun hH => ?_)
  clear hK K
  try simp only [Act.put, List.setIfInBounds_toArray, List.set_cons_zero, List.set_cons_succ]
  refine wpAnyH_take (i := 50) (oi := { dst := some 222, op := _, type := _, pos := _, after := _, guard := none }) (v := ?_) rfl (by kernel_rfl) (by kernel_rfl) (by kernel_rfl) (fun _ _ _ h => h) (Or.inl ⟨by rfl, ?_⟩) hH ?_
  rotate_left
  · intro u hSu
    try dsimp only at hSu
    go_simp
    try with_reducible rfl
  try simp only [Act.put, List.setIfInBounds_toArray, List.set_cons_zero, List.set_cons_succ]
  refine wpAnyH_take (i := 51) (oi := { dst := some 0, op := _, type := _, pos := _, after := _, guard := none }) (v := ?_) rfl (by kernel_rfl) (by kernel_rfl) (by kernel_rfl) (fun _ _ _ h => h) (Or.inl ⟨by rfl, ?_⟩) hH ?_
  rotate_left
  · intro u hSu
    try dsimp only at hSu
    go_simp
    try with_reducible rfl
  try simp only [Act.put, List.setIfInBounds_toArray, List.set_cons_zero, List.set_cons_succ]
  refine wpAnyH_done (by kernel_rfl) ?_ _
  refine NoPanic.normal ?_
  go_wp2_with fail
  go_ret
  exact ⟨rfl, ((gz.then c20).then gc).then g22⟩
end Go.Proofs.Ytdmhcbbakgljoaa
