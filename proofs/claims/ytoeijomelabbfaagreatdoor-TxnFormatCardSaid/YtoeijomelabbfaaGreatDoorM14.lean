/- Texts Jt, Ju, Js, Jv, Jw, Jx, Jz of the library, joined. -/
import Derived.Test.YtoeijomelabbfaaGreatDoorM07
import Derived.Test.YtoeijomelabbfaaGreatDoorM13
import Derived.Shelf.SlIterI.Nil
import Derived.Shelf.SortM.Plain
import Derived.Shelf.SortM.SortNone
import Derived.Test.YtoeijomelabbfaaGreatDoorRows
import Derived.Lib.SmallJoins
/- slices.DeleteFunc over the places that a cache holds, by whether each is dirty. -/
namespace Go.Proofs.YtoeijomelabbfaaGreatDoor
set_option maxRecDepth 200000
open Go.RowKit Go.Maps
set_option linter.unusedVariables false
set_option linter.unusedSimpArgs false
attribute [local go_sem ↓] Go.wp_at_zero Go.wp_at_succ

def plV (e : Ent) : Value := .int .i64 (e.pl : Int)
/-- Whether the block at a place is not dirty. -/
theorem cclean_any (y : Ent) (bx B cb mb : Nat) (la : Option Addr) (cl : Nat) (E L : List Ent) (most uses db : Nat) (w : World) (h : CacheAt w B cb mb la cl E L most uses db) (hb : w.cell? ⟨bx, 0, none⟩ = some (.pointer (some ⟨cb, 0, none⟩))) (hy : y ∈ L) :
    Calls Tryz.prog 152 #[.int .i64 (y.pl : Int), .pointer (some ⟨bx, 0, none⟩)] w fun e w' => e = .returned (.bool (!y.dirty)) ∧ w = w' := by
  have c2 := h.c2
  obtain ⟨D, hD⟩ := h.hd
  have hyE := h.pm.mem_iff.2 hy
  have hyp := h.pl y hy
  obtain ⟨i, hbk⟩ := h.blk hy
  have u1 := hbk.cell 257 _ (entV_dirty (h.mem hy).2)
  go_enter Tryz.func152, Tryz.ntmps152
  go_wp2_with (at_lookup; refine wpList_lookup_bare w rfl (.tmp 7) (.tmp 8) rfl hD rfl hyE hyp rfl ?_)
  go_ret
  exact ⟨rfl, rfl⟩
theorem cindex_any (Ys : List Ent) (ao : Option Addr) (c bx B cb mb : Nat) (la : Option Addr) (cl : Nat) (E L : List Ent) (most uses db : Nat) (w : World) (h : CacheAt w B cb mb la cl E L most uses db) (hb : w.cell? ⟨bx, 0, none⟩ = some (.pointer (some ⟨cb, 0, none⟩))) (hY : ∀ y ∈ Ys, y ∈ L) (hr : Reads w ao (Ys.map plV)) (hc : Ys.length ≤ 100000) :
    Calls Tryz.prog 181 #[.slice ao Ys.length c, .func (.func 152) #[] #[.pointer (some ⟨bx, 0, none⟩)]] w fun e w' => ∃ r : Int, e = .returned (.int .i64 r) ∧ w = w' ∧ ((r = -1 ∧ ∀ y ∈ Ys, y.dirty = true) ∨ ∃ k, ∃ hk : k < Ys.length, r = (k : Int) ∧ Ys[k].dirty = false ∧ ∀ y ∈ Ys.take k, y.dirty = true) := by
  go_enter Tryz.func181, Tryz.ntmps181
  go_wp2
  go_loop [8] (fun i => ∃ k : Nat, i = .int .i64 k ∧ k ≤ Ys.length ∧ ∀ y ∈ Ys.take k, y.dirty = true) (fun i => Ys.length - (Go.RowKit.intOf i).toNat)
  case atStart => exact ⟨0, rfl, Nat.zero_le _, by simp⟩
  case round =>
    obtain ⟨k, rfl, hk, hall⟩ := hrel
    by_cases hlt : k < Ys.length
    · obtain ⟨b, o, rfl, hcell⟩ := hr (by simp; omega)
      have ck := hcell k (plV Ys[k]) (by simp [hlt])
      unfold plV at ck
      have cC := cclean_any Ys[k] bx B cb mb la cl E L most uses db w h hb (hY _ (List.getElem_mem hlt))
      have HA := mkHid hall
      clear hall hcell hr
      cases hd : Ys[k].dirty
      · rw [hd] at cC
        have HD := mkHid hd
        clear hd
        go_wp2_with (first | (go_at_call 152; refine cC.mono ?_; rintro e w' ⟨rfl, rfl⟩))
        go_ret
        exact ⟨k, rfl, rfl, Or.inr ⟨k, hlt, rfl, HD.out, HA.out⟩⟩
      · rw [hd] at cC
        have HD := mkHid hd
        clear hd
        go_wp2_with (first | (go_at_call 152; refine cC.mono ?_; rintro e w' ⟨rfl, rfl⟩))
        go_round
        case rel =>
          refine ⟨k + 1, by first | rfl | go_num, by omega, fun y hy => ?_⟩
          rw [List.take_succ_eq_append_getElem hlt] at hy
          rcases List.mem_append.1 hy with hy | hy
          · exact HA.out y hy
          · simp at hy; rw [hy]; exact HD.out
        case measure => simp [Go.RowKit.intOf]; omega
    · have HA := mkHid hall
      clear hall
      have hd : decide (k < Ys.length) = false := decide_eq_false hlt
      have hd2 : decide ((k : Int) < (Ys.length : Int)) = false := decide_eq_false (by omega)
      go_wp2
      go_ret
      refine ⟨-1, rfl, rfl, Or.inl ⟨rfl, fun y hy => HA.out y ?_⟩⟩
      rw [List.take_of_length_le (by omega)]
      exact hy
end Go.Proofs.YtoeijomelabbfaaGreatDoor

/- slices.DeleteFunc over the places that a cache holds: those that are dirty are left. -/
namespace Go.Proofs.YtoeijomelabbfaaGreatDoor
set_option maxRecDepth 200000
open Go.RowKit Go.Maps
set_option linter.unusedVariables false
set_option linter.unusedSimpArgs false
attribute [local go_sem ↓] Go.wp_at_zero Go.wp_at_succ

def dirtyE (Ys : List Ent) : List Ent := Ys.filter (fun e => e.dirty)
theorem dirtyE_snoc (Ys : List Ent) (k : Nat) (h : k < Ys.length) : dirtyE (Ys.take (k + 1)) = dirtyE (Ys.take k) ++ (if Ys[k].dirty then [Ys[k]] else []) := by
  unfold dirtyE
  rw [List.take_succ_eq_append_getElem h, List.filter_append]
  congr 1
  cases hd : Ys[k].dirty <;> simp [hd]
set_option maxRecDepth 20000 in
set_option maxHeartbeats 1000000 in
theorem cdelete_any (Ys : List Ent) (B' : Nat) (ao : Option Addr) (c bx B cb mb : Nat) (la : Option Addr) (cl : Nat) (E L : List Ent) (most uses db : Nat) (w : World) (h : CacheAt w B cb mb la cl E L most uses db) (hb : w.cell? ⟨bx, 0, none⟩ = some (.pointer (some ⟨cb, 0, none⟩))) (hY : ∀ y ∈ Ys, y ∈ L) (hr : Room w B' ao Ys.length c (Ys.map plV)) (hc : Ys.length ≤ 100000)
    (hx : ∀ k, k ∈ fp ao c → k ∉ CF cb mb la cl E ∧ k ≠ bx) :
    Calls Tryz.prog 153 #[.slice ao Ys.length c, .func (.func 152) #[] #[.pointer (some ⟨bx, 0, none⟩)]] w fun e w' => e = .returned (.slice ao (dirtyE Ys).length c) ∧ Room w' B' ao (dirtyE Ys).length c ((dirtyE Ys).map plV) ∧ Chg (fp ao c) w w' := by
  have cI := cindex_any Ys ao c bx B cb mb la cl E L most uses db w h hb hY hr.reads hc
  have hcl := hr.le
  have hcm := hr.max
  unfold maxLen at hcm
  go_enter Tryz.func153, Tryz.ntmps153
  go_wp2_with fail
  refine cI.mono ?_
  rintro e w' ⟨r, rfl, rfl, hres⟩
  rcases hres with ⟨rfl, hall⟩ | ⟨k0, hk0, rfl, hno, hall⟩
  · have hd : dirtyE Ys = Ys := List.filter_eq_self.2 hall
    have HA := mkHid hd
    clear hall hd
    go_wp2_with fail
    go_ret
    rw [HA.out]
    exact ⟨rfl, hr, Chg.refl _ _⟩
  · have hne : ((k0 : Int) == -1) = false := beq_eq_false_iff_ne.2 (by omega)
    have htk : dirtyE (Ys.take k0) = Ys.take k0 := List.filter_eq_self.2 hall
    have hst : dirtyE (Ys.take (k0 + 1)) = Ys.take k0 := by rw [dirtyE_snoc Ys k0 hk0, htk, hno]; simp
    obtain ⟨b, o, rfl, hB, hs, hv⟩ := hr.at_ (by omega)
    have hfp : fp (some ⟨b, o, none⟩) c = [b] := fp_some _ _ _ (by omega)
    have hxb := hx b (by rw [hfp]; simp)
    have HT := mkHid hst
    have HF := mkHid hfp
    clear hall htk hst hno hs hv hfp cI
    go_wp2_with fail
    go_loopw [5, 6] (fun iv jv wr => ∃ (i j : Nat) (xs : List Value), iv = .int .i64 i ∧ jv = .int .i64 j ∧ i < j ∧ j ≤ Ys.length ∧ i = (dirtyE (Ys.take j)).length ∧ Room wr B' (some ⟨b, o, none⟩) Ys.length c xs ∧ xs.take i = (dirtyE (Ys.take j)).map plV ∧ xs.drop j = (Ys.drop j).map plV ∧ Chg [b] w wr) (fun _ jv _ => Ys.length - (Go.RowKit.intOf jv).toNat)
    case atStart => exact ⟨k0, k0 + 1, Ys.map plV, rfl, by first | rfl | go_num, by omega, by omega, by rw [HT.out]; simp; omega, hr, by rw [HT.out, List.map_take], by rw [List.map_drop], Chg.refl _ _⟩
    case round =>
      obtain ⟨i, j, xs, rfl, rfl, hij, hj, hi, hR, htx, hdx, hg⟩ := hrel
      have h1 := h.chg hg (fun k hk => by simp; rintro rfl; exact hxb.1 hk)
      have hb1 := hg.cellv hb (by simpa using fun e => hxb.2 e.symm)
      by_cases hlt : j < Ys.length
      · have hxj : xs[j]? = some (plV Ys[j]) := by
          have := congrArg (fun l => l[0]?) hdx
          simpa [hlt] using this
        obtain ⟨b', o', e, _, hs, hv⟩ := hR.at_ (by omega)
        cases e
        have cj := hv j _ hxj
        unfold plV at cj
        obtain ⟨ci1, ci2⟩ := hs i (by omega)
        obtain ⟨ui, hui⟩ := Option.isSome_iff_exists.1 ci1
        have cC := cclean_any Ys[j] bx B cb mb la cl E L most uses db wr h1 hb1 (hY _ (List.getElem_mem hlt))
        have hsn := dirtyE_snoc Ys j hlt
        have HI := mkHid hi
        have HTX := mkHid htx
        have HDX := mkHid hdx
        have HXJ := mkHid hxj
        have HS := mkHid hsn
        clear hi htx hdx hsn hs hv ci1 hxj
        cases hd : Ys[j].dirty
        · rw [hd] at cC
          have HD := mkHid hd
          clear hd
          go_wp2_with (first | (go_at_call 152; refine cC.mono ?_; rintro e w' ⟨rfl, rfl⟩))
          refine ⟨⟨i, j + 1, xs, rfl, by first | rfl | go_num, by omega, by omega, ?_, hR, ?_, ?_, hg⟩, by simp [Go.RowKit.intOf]; omega⟩
          · rw [HS.out, HD.out, HI.out]; simp
          · rw [HS.out, HD.out, HTX.out]; simp
          · rw [← List.drop_drop, HDX.out, ← List.map_drop, List.drop_drop]
        · rw [hd] at cC
          have HD := mkHid hd
          clear hd
          go_wp2_with (first | (go_at_call 152; refine cC.mono ?_; rintro e w' ⟨rfl, rfl⟩))
          have hxl := hR.len
          have hilt : i < xs.length := by omega
          refine ⟨⟨i + 1, j + 1, xs.set i (plV Ys[j]), by first | rfl | go_num, by first | rfl | go_num, by omega, by omega, ?_, hR.set i (by omega) _, ?_, ?_, hg.trans (Chg.setCell wr ⟨b, o + i, none⟩ _) (fun _ h _ => h) (fun _ h _ => h)⟩, by simp [Go.RowKit.intOf]; omega⟩
          · rw [HS.out, HD.out]; simp; exact HI.out
          · rw [HS.out, HD.out, List.take_succ_eq_append_getElem (by rw [List.length_set]; exact hilt), List.getElem_set_self, List.take_set, List.set_eq_of_length_le (by simp; omega), HTX.out]
            simp
          · rw [List.drop_set_of_lt (by omega), ← List.drop_drop, HDX.out, ← List.map_drop, List.drop_drop]
      · have hjn : j = Ys.length := by omega
        subst hjn
        rw [List.take_length] at hi htx
        have HI := mkHid hi
        have HTX := mkHid htx
        have hin : i < Ys.length := hij
        have hsl : ∀ u : World, (Instr.slice 81 (.slice (some ⟨b, o, none⟩) Ys.length c) (some (.int .i64 (i : Int))) none none).run Tryz.prog u = .ok (.slice (some ⟨b, o + i, none⟩) (Ys.length - i) (c - i)) u := fun u => by
          have := run_from_k (P := Tryz.prog) (some ⟨b, o, none⟩) Ys.length c i Tryz.underlying81 (by kernel_rfl) (by omega) u
          rwa [show cut (some ⟨b, o, none⟩) c i = some ⟨b, o + i, none⟩ by unfold cut; rw [if_neg (by omega), Option.map_some, Addr.add_lit]] at this
        have hst : ∀ u : World, (Instr.slice 81 (.slice (some ⟨b, o, none⟩) Ys.length c) none (some (.int .i64 (i : Int))) none).run Tryz.prog u = .ok (.slice (some ⟨b, o, none⟩) i c) u := fun u =>
          run_take_k (some ⟨b, o, none⟩) Ys.length c i Tryz.underlying81 (by kernel_rfl) (by omega) u
        have hth := hR.there i (Ys.length - i) (by omega)
        clear hi htx hdx
        go_wp2_with (refine wpList_clear_k rfl (.tmp 38) 81 3 rfl Tryz.underlying81 (.int .i64 0) (by kernel_rfl) rfl rfl b (o + i) (Ys.length - i) (c - i) (by omega) rfl hth ?_)
        go_ret
        have hi := HI.out
        have hxl := hR.len
        have hS := (hR.sets (List.replicate (Ys.length - i) (.int .i64 0)) i (by simp; omega)).shorten (m := i) (by omega)
        rw [List.take_append_of_le_length (by simp; omega), List.take_take, Nat.min_self, HTX.out] at hS
        rw [← hi, HF.out]
        exact ⟨rfl, hS, hg.trans (Chg.setCells b _ (o + i) wr) (fun _ h _ => h) (fun _ h _ => h)⟩
end Go.Proofs.YtoeijomelabbfaaGreatDoor

/- Where the library functions that the program calls lie in it: maps.Keys, slices.Sorted, slices.Sort. -/
namespace Go.Proofs.YtoeijomelabbfaaGreatDoor
open Go.Shelf
def keysA_ren : Go.Shelf.Ren := ⟨fun | 7 => 155 | 10 => 184 | n => n, fun | 23 => 130 | 26 => 3 | 3 => 128 | 28 => 200 | 0 => 0 | 27 => 199 | 33 => 127 | 4 => 4 | n => n, fun | n => n⟩
theorem keysA : Go.Proofs.SlLaysZI.n7 Tryz.prog keysA_ren := {
  mixed := by kernel_rfl
  f7 := ⟨Tryz.f155.name, by decide, Tryz.func155.trans (congrArg some (by kernel_rfl))⟩
  f10 := ⟨Tryz.f184.name, by decide, Tryz.func184.trans (congrArg some (by kernel_rfl))⟩
  t0 := Tryz.underlying0
  a0 := Tryz.isAgg0
  z0 := Tryz.sizeOf0
  v0 := Tryz.zeroValue0
  t4 := Tryz.underlying4
  a4 := Tryz.isAgg4
  z4 := Tryz.sizeOf4
  v4 := Tryz.zeroValue4
  t23 := Tryz.underlying130
  a23 := Tryz.isAgg130
  z23 := Tryz.sizeOf130
  v23 := Tryz.zeroValue130
  t26 := Tryz.underlying3
  a26 := Tryz.isAgg3
  z26 := Tryz.sizeOf3
  v26 := Tryz.zeroValue3
  t27 := Tryz.underlying199
  a27 := Tryz.isAgg199
  z27 := Tryz.sizeOf199
  v27 := Tryz.zeroValue199
  t28 := Tryz.underlying200
  a28 := Tryz.isAgg200
  z28 := Tryz.sizeOf200
  v28 := Tryz.zeroValue200
  t33 := Tryz.underlying127
  a33 := Tryz.isAgg127
  z33 := Tryz.sizeOf127
  v33 := Tryz.zeroValue127 }
def sortedA_ren : Go.Shelf.Ren := ⟨fun | 6 => 154 | 8 => 182 | 9 => 183 | 11 => 199 | 13 => 201 | 12 => 200 | 23 => 215 | 24 => 216 | 14 => 206 | 15 => 207 | 16 => 208 | 17 => 209 | 18 => 210 | 19 => 211 | 20 => 212 | 21 => 213 | 22 => 214 | 25 => 219 | 26 => 220 | 27 => 221 | 28 => 222 | 29 => 223 | 30 => 224 | 31 => 227 | n => n, fun | 26 => 3 | 28 => 200 | 24 => 81 | 0 => 0 | 3 => 3 | 37 => 24 | 48 => 183 | 50 => 51 | 4 => 4 | 40 => 256 | 39 => 255 | 45 => 260 | 5 => 5 | 9 => 9 | 51 => 263 | 55 => 266 | 57 => 271 | 58 => 48 | 33 => 127 | n => n, fun | n => n⟩
theorem sortedA : Go.Proofs.SlLaysZI.n6 Tryz.prog sortedA_ren := {
  mixed := by kernel_rfl
  f6 := ⟨Tryz.f154.name, by decide, Tryz.func154.trans (congrArg some (by kernel_rfl))⟩
  f8 := ⟨Tryz.f182.name, by decide, Tryz.func182.trans (congrArg some (by kernel_rfl))⟩
  f11 := ⟨Tryz.f199.name, by decide, Tryz.func199.trans (congrArg some (by kernel_rfl))⟩
  t0 := Tryz.underlying0
  a0 := Tryz.isAgg0
  z0 := Tryz.sizeOf0
  v0 := Tryz.zeroValue0
  t24 := Tryz.underlying81
  a24 := Tryz.isAgg81
  z24 := Tryz.sizeOf81
  v24 := Tryz.zeroValue81
  t26 := Tryz.underlying3
  a26 := Tryz.isAgg3
  z26 := Tryz.sizeOf3
  v26 := Tryz.zeroValue3
  t28 := Tryz.underlying200
  a28 := Tryz.isAgg200
  z28 := Tryz.sizeOf200
  v28 := Tryz.zeroValue200
  i26 := by kernel_rfl }
def sortA_ren : Go.Shelf.Ren := ⟨fun | 5 => 183 | 8 => 201 | 7 => 200 | 19 => 215 | 20 => 216 | 10 => 206 | 11 => 207 | 12 => 208 | 13 => 209 | 14 => 210 | 15 => 211 | 16 => 212 | 17 => 213 | 18 => 214 | 30 => 219 | 31 => 220 | 32 => 221 | 33 => 222 | 34 => 223 | 35 => 224 | 40 => 227 | n => n, fun | 23 => 81 | 25 => 3 | 3 => 3 | 32 => 24 | 22 => 81 | 0 => 0 | 44 => 183 | 46 => 51 | 4 => 4 | 36 => 256 | 35 => 255 | 41 => 260 | 5 => 5 | 9 => 9 | 53 => 263 | 57 => 266 | 63 => 271 | 64 => 48 | n => n, fun | n => n⟩
theorem sortA : Go.Proofs.SlLaysM.n5 Tryz.prog sortA_ren := {
  mixed := by kernel_rfl
  f5 := ⟨Tryz.f183.name, by decide, Tryz.func183.trans (congrArg some (by kernel_rfl))⟩
  f7 := ⟨Tryz.f200.name, by decide, Tryz.func200.trans (congrArg some (by kernel_rfl))⟩
  f8 := Tryz.func201.trans (congrArg some (by kernel_rfl))
  f10 := ⟨Tryz.f206.name, by decide, Tryz.func206.trans (congrArg some (by kernel_rfl))⟩
  f11 := ⟨Tryz.f207.name, by decide, Tryz.func207.trans (congrArg some (by kernel_rfl))⟩
  f12 := ⟨Tryz.f208.name, by decide, Tryz.func208.trans (congrArg some (by kernel_rfl))⟩
  f13 := ⟨Tryz.f209.name, by decide, Tryz.func209.trans (congrArg some (by kernel_rfl))⟩
  f14 := ⟨Tryz.f210.name, by decide, Tryz.func210.trans (congrArg some (by kernel_rfl))⟩
  f15 := ⟨Tryz.f211.name, by decide, Tryz.func211.trans (congrArg some (by kernel_rfl))⟩
  f16 := ⟨Tryz.f212.name, by decide, Tryz.func212.trans (congrArg some (by kernel_rfl))⟩
  f17 := ⟨Tryz.f213.name, by decide, Tryz.func213.trans (congrArg some (by kernel_rfl))⟩
  f18 := ⟨Tryz.f214.name, by decide, Tryz.func214.trans (congrArg some (by kernel_rfl))⟩
  f19 := Tryz.func215.trans (congrArg some (by kernel_rfl))
  f20 := Tryz.func216.trans (congrArg some (by kernel_rfl))
  f30 := ⟨Tryz.f219.name, by decide, Tryz.func219.trans (congrArg some (by kernel_rfl))⟩
  f31 := Tryz.func220.trans (congrArg some (by kernel_rfl))
  f32 := Tryz.func221.trans (congrArg some (by kernel_rfl))
  f33 := ⟨Tryz.f222.name, by decide, Tryz.func222.trans (congrArg some (by kernel_rfl))⟩
  f34 := ⟨Tryz.f223.name, by decide, Tryz.func223.trans (congrArg some (by kernel_rfl))⟩
  f35 := ⟨Tryz.f224.name, by decide, Tryz.func224.trans (congrArg some (by kernel_rfl))⟩
  f40 := ⟨Tryz.f227.name, by decide, Tryz.func227.trans (congrArg some (by kernel_rfl))⟩
  t0 := Tryz.underlying0
  a0 := Tryz.isAgg0
  z0 := Tryz.sizeOf0
  v0 := Tryz.zeroValue0
  t3 := Tryz.underlying3
  a3 := Tryz.isAgg3
  z3 := Tryz.sizeOf3
  v3 := Tryz.zeroValue3
  t4 := Tryz.underlying4
  a4 := Tryz.isAgg4
  z4 := Tryz.sizeOf4
  v4 := Tryz.zeroValue4
  t5 := Tryz.underlying5
  a5 := Tryz.isAgg5
  z5 := Tryz.sizeOf5
  v5 := Tryz.zeroValue5
  t9 := Tryz.underlying9
  a9 := Tryz.isAgg9
  z9 := Tryz.sizeOf9
  v9 := Tryz.zeroValue9
  t22 := Tryz.underlying81
  a22 := Tryz.isAgg81
  z22 := Tryz.sizeOf81
  v22 := Tryz.zeroValue81
  t23 := Tryz.underlying81
  a23 := Tryz.isAgg81
  z23 := Tryz.sizeOf81
  v23 := Tryz.zeroValue81
  t25 := Tryz.underlying3
  a25 := Tryz.isAgg3
  z25 := Tryz.sizeOf3
  v25 := Tryz.zeroValue3
  t32 := Tryz.underlying24
  a32 := Tryz.isAgg24
  z32 := Tryz.sizeOf24
  v32 := Tryz.zeroValue24
  t35 := Tryz.underlying255
  a35 := Tryz.isAgg255
  z35 := Tryz.sizeOf255
  v35 := Tryz.zeroValue255
  t36 := Tryz.underlying256
  a36 := Tryz.isAgg256
  z36 := Tryz.sizeOf256
  v36 := Tryz.zeroValue256
  t41 := Tryz.underlying260
  a41 := Tryz.isAgg260
  z41 := Tryz.sizeOf260
  v41 := Tryz.zeroValue260
  t44 := Tryz.underlying183
  a44 := Tryz.isAgg183
  z44 := Tryz.sizeOf183
  v44 := Tryz.zeroValue183
  t46 := Tryz.underlying51
  a46 := Tryz.isAgg51
  z46 := Tryz.sizeOf51
  v46 := Tryz.zeroValue51
  t53 := Tryz.underlying263
  a53 := Tryz.isAgg263
  z53 := Tryz.sizeOf263
  v53 := Tryz.zeroValue263
  t57 := Tryz.underlying266
  a57 := Tryz.isAgg266
  z57 := Tryz.sizeOf266
  v57 := Tryz.zeroValue266
  t63 := Tryz.underlying271
  a63 := Tryz.isAgg271
  z63 := Tryz.sizeOf271
  v63 := Tryz.zeroValue271
  t64 := Tryz.underlying48
  a64 := Tryz.isAgg48
  z64 := Tryz.sizeOf48
  v64 := Tryz.zeroValue48 }
end Go.Proofs.YtoeijomelabbfaaGreatDoor

/- The cache beside its disk: Dirty. -/
namespace Go.Proofs.YtoeijomelabbfaaGreatDoor
set_option maxRecDepth 200000
open Go.RowKit Go.Maps Go.Sort Go.Shelf
set_option linter.unusedVariables false
set_option linter.unusedSimpArgs false
attribute [local go_sem ↓] Go.wp_at_zero Go.wp_at_succ

/-- Blocks by rising places. -/
def risingE (L : List Ent) : List Ent := L.mergeSort (fun x y => decide (x.pl ≤ y.pl))
theorem rising_mem {L : List Ent} {y : Ent} (h : y ∈ risingE L) : y ∈ L := (List.mergeSort_perm _ _).mem_iff.1 h
theorem rising_len (L : List Ent) : (risingE L).length = L.length := (List.mergeSort_perm _ _).length_eq
def plI (e : Ent) : Int := (e.pl : Int)
theorem rising_ints (L : List Ent) {ss : List Int} (h : ss.Perm (L.map plI)) : (ss.mergeSort (fun x y => decide (x ≤ y))).map encZ = (risingE L).map plV := by
  have h1 : ss.mergeSort leI = (L.map plI).mergeSort leI := mergeSort_of_perm_i h
  have h2 : (risingE L).map plI = (L.map plI).mergeSort leI := by
    unfold risingE
    refine List.map_mergeSort (fun a _ b _ => ?_)
    show decide (a.pl ≤ b.pl) = decide ((a.pl : Int) ≤ (b.pl : Int))
    rw [Bool.eq_iff_iff]
    simp
  show (ss.mergeSort leI).map encZ = _
  rw [h1, ← h2, List.map_map]
  rfl
theorem HeldAt.keys {w : World} {mb : Nat} {E : List Ent} {D : DataW Unit} (h : HeldAt w mb E D) (hnp : (E.map Ent.pl).Nodup) : (E.map plI).Perm (intKeys D) := by
  obtain ⟨es, hD, hpw, _⟩ := h.o.entries (int_keyed Tryz.underlying3)
  obtain ⟨es', hD', hko⟩ := h.o.keysOf
  obtain rfl : es = es' := by rw [hD] at hD'; simpa using hD'
  have hh := h
  subst hD
  refine perm_intKeys hpw (fun p hp => by obtain ⟨v, hv⟩ := hko p hp; obtain ⟨x, _, hx, _⟩ := Maps.keyOf_i64 Tryz.underlying3 hv; exact ⟨x, hx⟩) ?_ (fun x => ?_)
  · have : E.map plI = (E.map Ent.pl).map (fun n : Nat => (n : Int)) := by rw [List.map_map]; rfl
    rw [this]
    exact List.pairwise_map.2 (hnp.imp fun hne e => hne (Int.ofNat.inj e))
  · rw [List.mem_map]
    constructor
    · rintro ⟨e, he, rfl⟩
      exact (hh.y e he).1
    · intro hx
      refine Classical.byContradiction fun hno => ?_
      have := hh.n x (fun e he h9 => hno ⟨e, he, h9⟩)
      rw [this] at hx
      cases hx
/-- slices.Sort's two contracts. -/
theorem sorts (m : Nat) : AnyZI.SortsIn Tryz.prog sortedA_ren Fence.wide m :=
  ⟨fun blk off cap ss W hH hblk hsz => callsIn_wide.2 (AnyM.slices_Sort_int sortA blk off cap ss W hH hblk hsz),
   fun p cap W => callsIn_wide.2 (AnyM.slices_Sort_int_none sortA p cap W)⟩
theorem keys_any (mb : Nat) (W : World) : Calls Tryz.prog 155 #[.map (some mb)] W fun e w' => e = .returned (.func (.func 184) #[] #[.pointer (some ⟨W.heap.size, 0, none⟩)]) ∧ w' = W.alloc (.cells #[.map (some mb)] 130) :=
  (callsIn_wide (n := 5)).1 (AnyZI.keys_in keysA Fence.wide 5 trivial rfl (some mb) W)
theorem sorted_any (E : List Ent) (mb : Nat) (D : DataW Unit) (w : World) (h : HeldAt w mb E D) (hnp : (E.map Ent.pl).Nodup) (hE : E.length ≤ 100000) :
    Calls Tryz.prog 154 #[.func (.func 184) #[] #[.pointer (some ⟨w.heap.size, 0, none⟩)]] (w.alloc (.cells #[.map (some mb)] 130)) fun e w' => ∃ ao c, e = .returned (.slice ao E.length c) ∧ Room w' w.heap.size ao E.length c ((risingE E).map plV) ∧ Chg [] w w' ∧ ∀ k, k ∈ fp ao c → w.heap.size < k := by
  have hown := h.o
  have hbl := hown.lt
  have hmax : Maps.size D ≤ maxLen := by rw [h.s]; unfold maxLen; omega
  have hbytes : Maps.size D * 8 ≤ 140737488355328 := by rw [h.s]; omega
  have hseq : SeqGives Fence.wide 2 Tryz.prog 184 #[.pointer (some ⟨w.heap.size, 0, none⟩)] encZ (fun ss => ss.Perm (intKeys D)) (Maps.size D) (w.alloc (.cells #[.map (some mb)] 130)) :=
    AnyZI.keys_gives (ρ := keysA_ren) { keysA with } Fence.wide _ trivial rfl (by omega) w.heap.size mb E.length D _ (by simp) (by simp) (by
      obtain ⟨es, clock, hb, Ft, hs, hD⟩ := hown
      exact ⟨es, clock, (Below.heap_alloc _ _ mb hbl).trans hb, Ft, hs, hD⟩)
  have cS := AnyZI.sorted_in sortedA Fence.wide 5 trivial trivial trivial trivial rfl (by omega) (sorts _) (enters_of Tryz.func183 (by kernel_rfl) rfl) 184 #[.pointer (some ⟨w.heap.size, 0, none⟩)] trivial (enters_of Tryz.func184 (by kernel_rfl) rfl) _ _ hmax hbytes _ hseq
  refine ((callsIn_wide (n := 5)).1 cS).mono ?_
  rintro e w' ⟨v, ss, rfl, hS, hrow, hnil, hb⟩
  have hp : ss.Perm (E.map plI) := hS.trans (h.keys hnp).symm
  have hsl : ss.length = E.length := by rw [hp.length_eq]; simp
  rw [rising_ints E hp, hsl] at hrow
  have hz : (w.alloc (.cells #[.map (some mb)] 130)).heap.size = w.heap.size + 1 := by simp
  rw [hz] at hrow
  have hg : Chg [] w w' := (Chg.alloc [] w _).then (Chg.of_below hb)
  have hr0 := hrow
  rcases hrow.2 with ⟨rfl, h0⟩ | ⟨gb, cap, cur, rfl, hbase, hgb, r1, r2, r3, r4⟩
  · have hE0 : E.length = 0 := h0
    rw [hE0] at hr0 ⊢
    exact ⟨none, 0, rfl, (Room.of_owns hr0).mono (by omega), hg, by simp [fp_zero]⟩
  · refine ⟨some ⟨gb, 0, none⟩, cap, rfl, (Room.of_owns hr0).mono (by omega), hg, fun k hk => ?_⟩
    have := (Room.of_owns hr0).lt k hk
    omega
theorem cdirty_any (w0 w : World) (R : Nat → Prop) (db : Nat) (g : DG) (fa : Option Addr) (cf : Nat) (st : RS) (cb mb : Nat) (la : Option Addr) (cl : Nat) (E L : List Ent) (most uses : Nat) (h : Pair w0 w R db g fa cf st cb mb la cl E L most uses) :
    Calls Tryz.prog 105 #[.pointer (some ⟨cb, 0, none⟩)] w fun e w' => ∃ ao c, e = .returned (.slice ao (dirtyE (risingE L)).length c) ∧ Room w' w.heap.size ao (dirtyE (risingE L)).length c ((dirtyE (risingE L)).map plV) ∧ Chg [] w w' := by
  have hsE := h.k.ln.sm
  have hsL : L.length ≤ 100000 := by rw [← h.k.pm.length_eq]; exact hsE
  obtain ⟨D, hDE⟩ := h.k.hd
  have hD : HeldAt w mb L D := hDE.perm h.k.pm.symm
  have hcb := block_lt_of_cell h.k.c0
  go_enter Tryz.func105, Tryz.ntmps105
  go_wp2_with fail
  have g1 : Chg [] w (w.alloc (.cells #[.pointer (some ⟨cb, 0, none⟩)] 57)) := Chg.alloc [] w _
  have b1 : (w.alloc (.cells #[.pointer (some ⟨cb, 0, none⟩)] 57)).cell? ⟨w.heap.size, 0, none⟩ = some (.pointer (some ⟨cb, 0, none⟩)) := by rw [cell_of_row _ _ _ _ _ _ (heap_alloc_last w _)]; rfl
  have z1 : (w.alloc (.cells #[.pointer (some ⟨cb, 0, none⟩)] 57)).heap.size = w.heap.size + 1 := by simp
  generalize w.alloc (.cells #[.pointer (some ⟨cb, 0, none⟩)] 57) = w1 at *
  generalize hbx : w.heap.size = bx at *
  have p1 := h.keep g1
  have c01 := p1.k.c0
  have c21 := p1.k.c2
  have cS := sorted_any L mb D w1 (hD.chg g1 (by simp)) h.k.np hsL
  have cDel : ∀ ao c w2, Chg [] w1 w2 → Room w2 w1.heap.size ao L.length c ((risingE L).map plV) → (∀ k, k ∈ fp ao c → w1.heap.size < k) → Calls Tryz.prog 153 #[.slice ao L.length c, .func (.func 152) #[] #[.pointer (some ⟨bx, 0, none⟩)]] w2 fun e w' => e = .returned (.slice ao (dirtyE (risingE L)).length c) ∧ Room w' w1.heap.size ao (dirtyE (risingE L)).length c ((dirtyE (risingE L)).map plV) ∧ Chg (fp ao c) w2 w' := by
    intro ao c w2 g2 r2 f2
    have hl := rising_len L
    have := cdelete_any (risingE L) w1.heap.size ao c bx w0.heap.size cb mb la cl E L most uses db w2 (p1.k.keep g2) (g2.cellv b1 (by simp)) (fun y hy => rising_mem hy) (by rw [hl]; exact r2) (by rw [hl]; exact hsL) (fun k hk => ⟨fun hm => by have := (p1.k.lt k hm).2; have := f2 k hk; omega, fun e => by have := f2 k hk; omega⟩)
    rwa [hl] at this
  have HZ := mkHid z1
  have CD := mkHid cDel
  clear z1 cDel
  go_wp2_with (first
    | (go_at_call 151; refine (cmade_yes cb db w1 c01).mono ?_; rintro e w' ⟨rfl, rfl⟩)
    | (go_at_call 155; refine (keys_any mb w1).mono ?_; rintro e w' ⟨rfl, rfl⟩)
    | (go_at_call 154; refine cS.mono ?_; rintro e w2 ⟨ao, c, rfl, r2, g2, f2⟩)
    | (go_at_call 153; refine (CD.out ao c w2 g2 r2 f2).mono ?_; rintro e w3 ⟨rfl, r3, g3⟩))
  go_ret
  have z := HZ.out
  refine ⟨ao, c, rfl, r3.mono (by omega), g1.then (g2.trans g3 (by simp) (fun k hk hlt => by have := f2 k hk; omega))⟩
end Go.Proofs.YtoeijomelabbfaaGreatDoor

/- The cache beside its disk: Flush. -/
namespace Go.Proofs.YtoeijomelabbfaaGreatDoor
set_option maxRecDepth 200000
open Go.RowKit Go.Maps
set_option linter.unusedVariables false
set_option linter.unusedSimpArgs false
attribute [local go_sem ↓] Go.wp_at_zero Go.wp_at_succ

theorem write_small (st : RS) (z : Int) (b : List UInt8) : (write st z b).2.L.length ≤ st.L.length + 4 ∧ (write st z b).2.count = st.count := by
  have hb : (burn st).2.L = st.L ∧ (burn st).2.count = st.count := by
    unfold burn
    split
    · exact ⟨rfl, rfl⟩
    · split <;> exact ⟨rfl, rfl⟩
  unfold write
  split
  · exact ⟨Nat.le_add_right _ _, rfl⟩
  · split
    · exact ⟨Nat.le_add_right _ _, rfl⟩
    · split
      · exact ⟨by rw [hb.1]; omega, hb.2⟩
      · refine ⟨?_, hb.2⟩
        show ((burn st).2.L ++ flies z.toNat b 4).length ≤ _
        rw [List.length_append, flies_len, hb.1]
        exact Nat.le_refl _
/-- The places of the dirty blocks, rising: the blocks themselves. -/
def krising (K : List KE) : List KE := K.mergeSort (fun x y => decide (x.pl ≤ y.pl))
def kdirty (K : List KE) : List KE := (krising K).filter (fun e => e.dirty)
def kclean (K : List KE) (a : Nat) : List KE := K.map (fun e => if e.pl = a then ⟨e.pl, e.bs, false⟩ else e)
def kflushL : List KE → List KE → RS → Int × List KE × RS
  | [], K, st => (0, K, st)
  | h :: r, K, st => if (write st h.pl h.bs).1 = 0 then kflushL r (kclean K h.pl) (write st h.pl h.bs).2 else ((write st h.pl h.bs).1, K, (write st h.pl h.bs).2)
/-- Flush, as chapter 5 has it. -/
def kflush (K : List KE) (st : RS) : Int × List KE × RS := if st.gone then (9, K, st) else kflushL (kdirty K) K st
theorem abs_dirty (L : List Ent) : (dirtyE (risingE L)).map absE = kdirty (L.map absE) := by
  unfold dirtyE kdirty krising risingE
  rw [← List.map_mergeSort (r := fun x y : Ent => decide (x.pl ≤ y.pl)) (s := fun x y : KE => decide (x.pl ≤ y.pl)) (f := absE) (fun a _ b _ => rfl), List.filter_map]
  rfl
theorem abs_clean {L : List Ent} (hb : (L.map Ent.b).Nodup) (hp : (L.map Ent.pl).Nodup) {x : Ent} (hx : x ∈ L) : (updL L x.clean).map absE = kclean (L.map absE) x.pl := by
  unfold updL kclean
  rw [List.map_map, List.map_map]
  refine List.map_congr_left fun e he => ?_
  show absE (if e.b = x.b then x.clean else e) = if (absE e).pl = x.pl then ⟨(absE e).pl, (absE e).bs, false⟩ else absE e
  by_cases h : e = x
  · rw [h, if_pos rfl, if_pos (show (absE x).pl = x.pl from rfl)]; rfl
  · have h1 : e.b ≠ x.b := fun h9 => h (b_inj hb he hx h9)
    have h2 : (absE e).pl ≠ x.pl := fun h9 => h (pl_inj hp he hx h9)
    rw [if_neg h1, if_neg h2]
theorem cwrite_pair (x : Ent) (w0 w : World) (R : Nat → Prop) (db : Nat) (g : DG) (fa : Option Addr) (cf : Nat) (st : RS) (cb mb : Nat) (la : Option Addr) (cl : Nat) (E L : List Ent) (most uses : Nat) (h : Pair w0 w R db g fa cf st cb mb la cl E L most uses) (hx : x ∈ L) (hd : x.dirty = true) (hLb : st.L.length ≤ 1000000000) :
    Calls Tryz.prog 161 #[.pointer (some ⟨cb, 0, none⟩), .pointer (some ⟨x.b, 0, none⟩)] w fun e w' => e = .returned (.int .i64 (write st x.pl x.bs).1) ∧ ∃ fa' cf' E' L', Pair w0 w' R db g fa' cf' (write st x.pl x.bs).2 cb mb la cl E' L' most uses ∧ ((write st x.pl x.bs).1 ≠ 0 → L' = L) ∧ ((write st x.pl x.bs).1 = 0 → L' = updL L x.clean) ∧ Off R w w' := by
  obtain ⟨i, hi, e⟩ := h.k.spot hx
  have c := cwrite_dirty i w0.heap.size cb mb la cl E L most uses db w h.k hi (by rw [e]; exact hd) g fa cf st h.d h.W h.c.size hLb h.x
  rw [e] at c
  refine c.mono ?_
  rintro e2 w' ⟨he, fa', cf', d', l', g', k0, k1⟩
  have gA : Chg (CF cb mb la cl E ++ DF db g fa cf) w w' := g'.mono (fun k hk _ => by
    rcases List.mem_cons.1 hk with rfl | hk
    · exact List.mem_append_left _ (h.k.mem hx).1
    · exact List.mem_append_right _ hk)
  have hxx : ∀ k, k ∈ CF cb mb la cl E → k ∉ DF db g fa' cf' := fun k hk hm => by
    rcases DF_later l' k hm with h9 | h9
    · exact h.x k hk h9
    · have := (h.k.lt k hk).2; omega
  by_cases hv : (write st x.pl x.bs).1 = 0
  · have hsub : ∀ k, k ∈ CF cb mb la cl (E.set i x.clean) → k ∈ CF cb mb la cl E := fun k hk => by
      simp only [CF, List.mem_cons] at hk ⊢
      exact hk.imp id (LF_alike (by rw [set_alike hi Ent.b (by rw [e]; rfl)]) k)
    refine ⟨he, fa', cf', _, _, h.go d' (k1 hv) (fun y hy => ?_) gA (write_whole _ _ h.W) (fun k hk => hxx k (hsub k hk)) (fun k hk => Or.inl (hsub k hk)) (DF_later l'), fun h9 => absurd hv h9, fun _ => rfl, h.off gA⟩
    unfold updL at hy
    obtain ⟨z, hz, rfl⟩ := List.mem_map.1 hy
    split
    · exact h.u x hx
    · exact h.u z hz
  · exact ⟨he, fa', cf', E, L, h.go d' (k0 hv) h.u gA (write_whole _ _ h.W) hxx (fun k hk => Or.inl hk) (DF_later l'), fun _ => rfl, fun h9 => absurd h9 hv, h.off gA⟩
theorem blk_fp {w : World} {B : Nat} {ao : Option Addr} {n c : Nat} {xs : List Value} (h : Room w B ao n c xs) (hn : 0 < n) : ∀ k, k ∈ blk ao → k ∈ fp ao c := fun k hk => by
  unfold fp
  rw [if_neg (by have := h.le; omega)]
  exact hk
theorem cflush_off (w0 w : World) (R : Nat → Prop) (db : Nat) (g : DG) (fa : Option Addr) (cf : Nat) (st : RS) (cb mb : Nat) (la : Option Addr) (cl : Nat) (E L : List Ent) (most uses : Nat) (h : Pair w0 w R db g fa cf st cb mb la cl E L most uses) (hg : st.gone = true) :
    Calls Tryz.prog 117 #[.pointer (some ⟨cb, 0, none⟩)] w fun e w' => e = .returned (.int .i64 9) ∧ w = w' := by
  have cP := cpowered_any cb db w0.heap.size g fa cf st w h.d h.k.c0
  rw [hg] at cP
  go_enter Tryz.func117, Tryz.ntmps117
  go_wp2_with (first | (go_at_call 141; refine cP.mono ?_; rintro e w' ⟨rfl, rfl⟩))
  go_ret
  exact ⟨rfl, rfl⟩
theorem dirtyE_mem {Ys : List Ent} {y : Ent} (h : y ∈ dirtyE Ys) : y ∈ Ys ∧ y.dirty = true := by
  unfold dirtyE at h
  simpa using List.mem_filter.1 h
set_option maxRecDepth 20000 in
set_option maxHeartbeats 1000000 in
theorem cflush_on (w0 w : World) (R : Nat → Prop) (db : Nat) (g : DG) (fa : Option Addr) (cf : Nat) (st : RS) (cb mb : Nat) (la : Option Addr) (cl : Nat) (E L : List Ent) (most uses : Nat) (h : Pair w0 w R db g fa cf st cb mb la cl E L most uses) (hg : st.gone = false) (hLb : st.L.length + 4096 ≤ 1000000000) :
    Calls Tryz.prog 117 #[.pointer (some ⟨cb, 0, none⟩)] w fun e w' => ∃ fa' cf' E' L', e = .returned (.int .i64 (kflushL (kdirty (L.map absE)) (L.map absE) st).1) ∧ Pair w0 w' R db g fa' cf' (kflushL (kdirty (L.map absE)) (L.map absE) st).2.2 cb mb la cl E' L' most uses ∧ L'.map absE = (kflushL (kdirty (L.map absE)) (L.map absE) st).2.1 ∧ Off R w w' := by
  have cP := cpowered_any cb db w0.heap.size g fa cf st w h.d h.k.c0
  rw [hg] at cP
  have cD := cdirty_any w0 w R db g fa cf st cb mb la cl E L most uses h
  have hle := h.k.le
  have hmo := h.k.mo
  obtain ⟨Ys, hYs⟩ : ∃ Ys, Ys = dirtyE (risingE L) := ⟨_, rfl⟩
  have hmem : ∀ y ∈ Ys, y ∈ L ∧ y.dirty = true := fun y hy => by
    rw [hYs] at hy
    exact ⟨rising_mem (dirtyE_mem hy).1, (dirtyE_mem hy).2⟩
  have hYl : Ys.length ≤ 1024 := by
    rw [hYs]
    have h1 : (dirtyE (risingE L)).length ≤ (risingE L).length := List.length_filter_le _ _
    rw [rising_len] at h1
    omega
  have hYn : (Ys.map Ent.b).Nodup := by
    rw [hYs]
    have h1 : ((risingE L).map Ent.b).Nodup := ((List.mergeSort_perm L _).map _).nodup_iff.2 h.k.bnd
    exact h1.sublist (List.filter_sublist.map _)
  have hK : kdirty (L.map absE) = Ys.map absE := by rw [hYs, abs_dirty]
  rw [hK]
  rw [← hYs] at cD
  have HM := mkHid hmem
  have HN := mkHid hYn
  clear hYs hmem hYn hK
  go_enter Tryz.func117, Tryz.ntmps117
  go_wp2_with (first
    | (go_at_call 141; refine cP.mono ?_; rintro e w' ⟨rfl, rfl⟩)
    | (go_at_call 105; refine cD.mono ?_; rintro e w1 ⟨ao, c, rfl, r1, g1⟩))
  have p1 := h.add (R' := fun k => R k ∨ k ∈ fp ao c) g1 (fun k hk => hk.imp id (fun h9 => r1.lt k h9))
  go_loopw [15] (fun i wr => ∃ (k : Nat) (fa' : Option Addr) (cf' : Nat) (E' L' : List Ent) (st' : RS), i = .int .i64 k ∧ k ≤ Ys.length ∧ Pair w0 wr (fun k => R k ∨ k ∈ fp ao c) db g fa' cf' st' cb mb la cl E' L' most uses ∧ kflushL (Ys.map absE) (L.map absE) st = kflushL ((Ys.drop k).map absE) (L'.map absE) st' ∧ (∀ y ∈ Ys.drop k, y ∈ L') ∧ st'.L.length ≤ st.L.length + 4 * k ∧ Off (fun k => R k ∨ k ∈ fp ao c) w1 wr) (fun i _ => Ys.length - (Go.RowKit.intOf i).toNat)
  case atStart => exact ⟨0, fa, cf, E, L, st, rfl, Nat.zero_le _, p1, rfl, fun y hy => (HM.out y (by simpa using hy)).1, by omega, Off.keep (Chg.refl _ _)⟩
  case round =>
    obtain ⟨k, fa', cf', E', L', st', rfl, hk, p, hE, hin, hl, ho⟩ := hrel
    by_cases hlt : k < Ys.length
    · obtain ⟨S, hS, hSR⟩ := ho
      have hrd : Reads wr ao ((Ys).map plV) := r1.reads.chg hS (fun q hq hm => hSR q hm (Or.inr (blk_fp r1 (by omega) q hq)))
      obtain ⟨b, o, rfl, hcell⟩ := hrd (by simp; omega)
      have ck := hcell k (plV Ys[k]) (by simp [hlt])
      unfold plV at ck
      have hyd : Ys[k] ∈ Ys.drop k := by rw [List.drop_eq_getElem_cons hlt]; exact List.mem_cons_self
      have hyL := hin _ hyd
      have hyE := p.k.pm.mem_iff.2 hyL
      have hyp := p.k.pl _ hyL
      have hdir := (HM.out _ (List.getElem_mem hlt)).2
      have c2 := p.k.c2
      obtain ⟨D, hD⟩ := p.k.hd
      have cW := cwrite_pair Ys[k] w0 wr _ db g fa' cf' st' cb mb la cl E' L' most uses p hyL hdir (by omega)
      have HE := mkHid hE
      have HI := mkHid hin
      have HD := mkHid hdir
      have HSR := mkHid hSR
      have hd1 : decide (k < Ys.length) = true := decide_eq_true hlt
      have hd2 : decide ((k : Int) < (Ys.length : Int)) = true := decide_eq_true (by omega)
      clear hE hin hdir hSR hcell hrd
      by_cases hv : (write st' Ys[k].pl Ys[k].bs).1 = 0
      · rw [hv] at cW
        have HV := mkHid hv
        clear hv
        go_wp2_with (first
          | (at_lookup; refine wpList_lookup_bare wr rfl (.tmp 23) (.tmp 24) rfl hD rfl hyE hyp rfl ?_)
          | (go_at_call 161; refine cW.mono ?_; rintro e w4 ⟨rfl, fa4, cf4, E4, L4, p4, k40, k41, o4⟩))
        have hws := (write_small st' Ys[k].pl Ys[k].bs).1
        obtain rfl := k41 trivial
        have hdk := List.drop_eq_getElem_cons hlt
        refine ⟨⟨k + 1, fa4, cf4, E4, _, _, by first | rfl | go_num, by omega, p4, ?_, fun y hy => ?_, by omega, Off.trans ⟨S, hS, HSR.out⟩ o4⟩, by simp [Go.RowKit.intOf]; omega⟩
        · rw [HE.out, hdk, List.map_cons]
          show (if (write st' (absE Ys[k]).pl (absE Ys[k]).bs).1 = 0 then _ else _) = _
          rw [if_pos (show (write st' (absE Ys[k]).pl (absE Ys[k]).bs).1 = 0 from HV.out), abs_clean p.k.bnd p.k.np hyL]
          rfl
        · have hy2 : y ∈ Ys.drop k := by rw [hdk]; exact List.mem_cons_of_mem _ hy
          have hyL2 := HI.out y hy2
          have hnd : ((Ys.drop k).map Ent.b).Nodup := HN.out.sublist ((List.drop_sublist k Ys).map _)
          rw [hdk, List.map_cons, List.nodup_cons] at hnd
          unfold updL
          exact List.mem_map.2 ⟨y, hyL2, if_neg (fun h9 => hnd.1 (List.mem_map.2 ⟨y, hy, h9⟩))⟩
      · have hv2 : ((write st' Ys[k].pl Ys[k].bs).1 != 0) = true := by simpa using hv
        have HV := mkHid hv
        clear hv
        go_wp2_with (first
          | (at_lookup; refine wpList_lookup_bare wr rfl (.tmp 23) (.tmp 24) rfl hD rfl hyE hyp rfl ?_)
          | (go_at_call 161; refine cW.mono ?_; rintro e w4 ⟨rfl, fa4, cf4, E4, L4, p4, k40, k41, o4⟩))
        go_ret
        obtain rfl := k40 HV.out
        have hdk := List.drop_eq_getElem_cons hlt
        have hK : kflushL (Ys.map absE) (L.map absE) st = ((write st' Ys[k].pl Ys[k].bs).1, L4.map absE, (write st' Ys[k].pl Ys[k].bs).2) := by
          rw [HE.out, hdk, List.map_cons]
          show (if (write st' (absE Ys[k]).pl (absE Ys[k]).bs).1 = 0 then _ else _) = _
          rw [if_neg (show ¬ (write st' (absE Ys[k]).pl (absE Ys[k]).bs).1 = 0 from HV.out)]
          rfl
        rw [hK]
        exact ⟨fa4, cf4, E4, L4, rfl, p4.less (fun q hq => Or.inl hq), rfl, (Off.keep g1).trans (Off.less (Off.trans ⟨S, hS, HSR.out⟩ o4) (fun q hq => Or.inl hq))⟩
    · have hkn : k = Ys.length := by omega
      have HE := mkHid hE
      have hd1 : decide (k < Ys.length) = false := decide_eq_false hlt
      have hd2 : decide ((k : Int) < (Ys.length : Int)) = false := decide_eq_false (by omega)
      have HK := mkHid hkn
      clear hE hin hkn
      go_wp2
      go_ret
      have hK : kflushL (Ys.map absE) (L.map absE) st = (0, L'.map absE, st') := by
        rw [HE.out, HK.out, List.drop_length]
        rfl
      rw [hK]
      exact ⟨fa', cf', E', L', rfl, p.less (fun q hq => Or.inl hq), rfl, (Off.keep g1).trans (ho.less (fun q hq => Or.inl hq))⟩
theorem cflush_any (w0 w : World) (R : Nat → Prop) (db : Nat) (g : DG) (fa : Option Addr) (cf : Nat) (st : RS) (cb mb : Nat) (la : Option Addr) (cl : Nat) (E L : List Ent) (most uses : Nat) (h : Pair w0 w R db g fa cf st cb mb la cl E L most uses) (hLb : st.L.length + 4096 ≤ 1000000000) :
    Calls Tryz.prog 117 #[.pointer (some ⟨cb, 0, none⟩)] w fun e w' => ∃ fa' cf' E' L', e = .returned (.int .i64 (kflush (L.map absE) st).1) ∧ Pair w0 w' R db g fa' cf' (kflush (L.map absE) st).2.2 cb mb la cl E' L' most uses ∧ L'.map absE = (kflush (L.map absE) st).2.1 ∧ Off R w w' := by
  unfold kflush
  cases hg : st.gone
  · simp only [Bool.false_eq_true, if_false]
    exact cflush_on w0 w R db g fa cf st cb mb la cl E L most uses h hg hLb
  · simp only [if_true]
    refine (cflush_off w0 w R db g fa cf st cb mb la cl E L most uses h hg).mono ?_
    rintro e w' ⟨he, rfl⟩
    exact ⟨fa, cf, E, L, he, h, rfl, Off.keep (Chg.refl _ _)⟩
end Go.Proofs.YtoeijomelabbfaaGreatDoor

/- A cache and its disk: the disk's own calls. -/
namespace Go.Proofs.YtoeijomelabbfaaGreatDoor
set_option maxRecDepth 200000
open Go.RowKit Go.Maps
set_option linter.unusedVariables false
set_option linter.unusedSimpArgs false
attribute [local go_sem ↓] Go.wp_at_zero Go.wp_at_succ

section
variable {w0 w w' : World} {R : Nat → Prop} {db : Nat} {g : DG} {fa fa' : Option Addr} {cf cf' : Nat} {st st' : RS} {cb mb : Nat} {la : Option Addr} {cl : Nat} {E L : List Ent} {most uses : Nat}
theorem Pair.dev (h : Pair w0 w R db g fa cf st cb mb la cl E L most uses) (d : DevAt w' w0.heap.size db g fa' cf' st') (c : Chg (DF db g fa cf) w w') (W : Whole st') (ld : ∀ k, k ∈ DF db g fa' cf' → k ∈ DF db g fa cf ∨ w.heap.size ≤ k) : Pair w0 w' R db g fa' cf' st' cb mb la cl E L most uses ∧ Off R w w' := by
  have gA : Chg (CF cb mb la cl E ++ DF db g fa cf) w w' := c.mono (fun k hk _ => List.mem_append_right _ hk)
  refine ⟨h.go d (h.k.chg c h.x) h.u gA W (fun k hk hm => ?_) (fun k hk => Or.inl hk) ld, h.off gA⟩
  rcases ld k hm with h9 | h9
  · exact h.x k hk h9
  · have := (h.k.lt k hk).2; omega
end
section
variable (w0 w : World) (R : Nat → Prop) (db : Nat) (g : DG) (fa : Option Addr) (cf : Nat) (st : RS) (cb mb : Nat) (la : Option Addr) (cl : Nat) (E L : List Ent) (most uses : Nat) (h : Pair w0 w R db g fa cf st cb mb la cl E L most uses)
include h
theorem pair_write (z : Int) (hLb : st.L.length ≤ 1000000000) (ab : Option Addr) (nb cb' : Nat) (b : List UInt8) (gb : Reads w ab (bts b)) (gn : b.length = nb) (gc : nb ≤ cb') (gm : cb' ≤ 140737488355328) (hab : ∀ k, k ∈ blk ab → R k) :
    Calls Tryz.prog 41 #[.pointer (some ⟨db, 0, none⟩), .int .i64 z, .slice ab nb cb'] w fun e w' => e = .returned (.int .i64 (write st z b).1) ∧ ∃ fa' cf', Pair w0 w' R db g fa' cf' (write st z b).2 cb mb la cl E L most uses ∧ Off R w w' := by
  refine (dwrite_any z w0.heap.size db g fa cf st w h.d h.W h.c.size hLb ab nb cb' b gb gn gc gm (fun k hk => ⟨(h.r k (hab k hk)).2.1, (h.r k (hab k hk)).2.2⟩)).mono ?_
  rintro e w' ⟨he, fa', cf', h2, hg2, hl2⟩
  exact ⟨he, fa', cf', h.dev h2 hg2 (write_whole z b h.W) (DF_later hl2)⟩
theorem pair_barrier : Calls Tryz.prog 42 #[.pointer (some ⟨db, 0, none⟩)] w fun e w' => e = .returned (.int .i64 (barrier st).1) ∧ ∃ fa' cf', Pair w0 w' R db g fa' cf' (barrier st).2 cb mb la cl E L most uses ∧ Off R w w' := by
  refine (dbarrier_any w0.heap.size db g fa cf st w h.d).mono ?_
  rintro e w' ⟨he, fa', cf', h2, hg2, hl2⟩
  exact ⟨he, fa', cf', h.dev h2 (hg2.mono (fun k hk _ => DF_three hk)) (barrier_whole h.W) (DF_later (fun k hk => Or.inl (hl2 k hk)))⟩
end
end Go.Proofs.YtoeijomelabbfaaGreatDoor

/- A cache beside its disk: the calls as a law takes them, by the blocks that the cache holds. -/
namespace Go.Proofs.YtoeijomelabbfaaGreatDoor
set_option maxRecDepth 200000
open Go.RowKit Go.Maps
set_option linter.unusedVariables false
set_option linter.unusedSimpArgs false
attribute [local go_sem ↓] Go.wp_at_zero Go.wp_at_succ

theorem Reads.off {R : Nat → Prop} {w w' : World} {ao : Option Addr} {xs : List Value} (h : Reads w ao xs) (o : Off R w w') (hR : ∀ k, k ∈ blk ao → R k) : Reads w' ao xs := by
  obtain ⟨S, c, hS⟩ := o
  exact h.chg c (fun k hk hm => hS k hm (hR k hk))
theorem Room.off {R : Nat → Prop} {w w' : World} {B : Nat} {ao : Option Addr} {n c : Nat} {xs : List Value} (h : Room w B ao n c xs) (o : Off R w w') (hR : ∀ k, k ∈ fp ao c → R k) : Room w' B ao n c xs := by
  obtain ⟨S, c, hS⟩ := o
  exact h.chg c (fun k hk hm => hS k hm (hR k hk))
theorem Off.cellv {R : Nat → Prop} {w w' : World} {p : Addr} {v : Value} (o : Off R w w') (h : w.cell? p = some v) (hR : R p.block) : w'.cell? p = some v := by
  obtain ⟨S, c, hS⟩ := o
  exact c.cellv h (fun hm => hS _ hm hR)
theorem Off.then {R : Nat → Prop} {a b c : World} (h : Off R a b) (g : Chg [] b c) : Off R a c := h.trans (Off.keep g)
/-- The places of the dirty blocks, rising. -/
def kplaces (K : List KE) : List Nat := (kdirty K).map KE.pl
section
variable (w0 w : World) (R : Nat → Prop) (db : Nat) (g : DG) (fa : Option Addr) (cf : Nat) (st : RS) (cb mb : Nat) (la : Option Addr) (cl : Nat) (E L : List Ent) (most uses : Nat) (h : Pair w0 w R db g fa cf st cb mb la cl E L most uses)
include h
theorem pair_put (K K' : List KE) (v z : Int) (ab : Option Addr) (n c : Nat) (b : List UInt8) (st' : RS) (hL : L.map absE = K) (hp : kput most K st z b = (v, K', st')) (hu : uses ≤ 1000000000000000) (hLb : st.L.length ≤ 1000000000) (gb : Reads w ab (bts b)) (gn : b.length = n) (hab : ∀ k, k ∈ blk ab → R k ∨ k < w0.heap.size) :
    Calls Tryz.prog 18 #[.pointer (some ⟨cb, 0, none⟩), .int .i64 z, .slice ab n c] w fun e w' => e = .returned (.int .i64 v) ∧ ∃ fa' cf' la' cl' E' L' uses', Pair w0 w' R db g fa' cf' st' cb mb la' cl' E' L' most uses' ∧ L'.map absE = K' ∧ uses' ≤ uses + 1 ∧ Off R w w' := by
  have := cput_any z ab c b w0 w R db g fa cf st cb mb la cl E L most uses h (by omega) hLb gb hab
  rw [hL, hp, gn] at this
  refine this.mono ?_
  rintro e w' ⟨fa', cf', la', cl', E', L', uses', he, h1, h2, h3, h4⟩
  exact ⟨he, fa', cf', la', cl', E', L', uses', h1, h2, h3, h4⟩
theorem pair_flush (K K' : List KE) (v : Int) (st' : RS) (hL : L.map absE = K) (hp : kflush K st = (v, K', st')) (hLb : st.L.length ≤ 999990000) :
    Calls Tryz.prog 117 #[.pointer (some ⟨cb, 0, none⟩)] w fun e w' => e = .returned (.int .i64 v) ∧ ∃ fa' cf' E' L', Pair w0 w' R db g fa' cf' st' cb mb la cl E' L' most uses ∧ L'.map absE = K' ∧ Off R w w' := by
  have := cflush_any w0 w R db g fa cf st cb mb la cl E L most uses h (by omega)
  rw [hL, hp] at this
  refine this.mono ?_
  rintro e w' ⟨fa', cf', E', L', he, h1, h2, h3⟩
  exact ⟨he, fa', cf', E', L', h1, h2, h3⟩
end
end Go.Proofs.YtoeijomelabbfaaGreatDoor
