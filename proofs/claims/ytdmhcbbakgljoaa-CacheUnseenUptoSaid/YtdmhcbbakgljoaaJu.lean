/- slices.DeleteFunc over the places that a cache holds: those that are dirty are left. -/
import Derived.Test.YtdmhcbbakgljoaaJt
namespace Go.Proofs.Ytdmhcbbakgljoaa
open Go.RowKit Go.Maps
set_option linter.unusedVariables false
set_option linter.unusedSimpArgs false
attribute [local go_sem ↓] Go.wp_at_zero Go.wp_at_succ

def dirtyE (Ys : List Ent) : List Ent := Ys.filter (fun e => e.dirty)
theorem dirtyE_snoc (Ys : List Ent) (k : Nat) (h : k < Ys.length) : dirtyE (Ys.take (k + 1)) = dirtyE (Ys.take k) ++ (if Ys[k].dirty then [Ys[k]] else []) := by
  unfold dirtyE
  rw [List.take_succ_eq_append_getElem h, List.filter_append]
  congr 1
  cases hd : Ys[k].dirty <;> simp [hd]
theorem dirtyE_len (Ys : List Ent) (k : Nat) : (dirtyE (Ys.take k)).length ≤ k := Nat.le_trans (List.length_filter_le _ _) (by simp; omega)
set_option maxRecDepth 20000 in
set_option maxHeartbeats 1000000 in
theorem cdelete_any (Ys : List Ent) (B' : Nat) (ao : Option Addr) (c bx B cb mb : Nat) (la : Option Addr) (cl : Nat) (E L : List Ent) (most uses db : Nat) (w : World) (h : CacheAt w B cb mb la cl E L most uses db) (hb : w.cell? ⟨bx, 0, none⟩ = some (.pointer (some ⟨cb, 0, none⟩))) (hY : ∀ y ∈ Ys, y ∈ L) (hr : Room w B' ao Ys.length c (Ys.map plV)) (hc : Ys.length ≤ 100000)
    (hx : ∀ k, k ∈ fp ao c → k ∉ CF cb mb la cl E ∧ k ≠ bx) :
    Calls Try.prog 33 #[.slice ao Ys.length c, .func (.func 32) #[] #[.pointer (some ⟨bx, 0, none⟩)]] w fun e w' => e = .returned (.slice ao (dirtyE Ys).length c) ∧ Room w' B' ao (dirtyE Ys).length c ((dirtyE Ys).map plV) ∧ Chg (fp ao c) w w' := by
  have cI := cindex_any Ys ao c bx B cb mb la cl E L most uses db w h hb hY hr.reads hc
  have hcl := hr.le
  have hcm := hr.max
  unfold maxLen at hcm
  go_enter Try.func33, Try.ntmps33
  go_wp2_with fail
  refine cI.mono ?_
  rintro e w' ⟨r, rfl, rfl, hres⟩
  rcases hres with ⟨rfl, hall⟩ | ⟨k0, hk0, rfl, hno, hall⟩
  · have hd : dirtyE Ys = Ys := List.filter_eq_self.2 hall
    have HA := mkHid hd
    clear hall hd
    go_wp2_with fail
    go_ret
    rw [HA.out]
    exact ⟨rfl, hr, Chg.refl _ _⟩
  · have hne : ((k0 : Int) == -1) = false := beq_eq_false_iff_ne.2 (by omega)
    have htk : dirtyE (Ys.take k0) = Ys.take k0 := List.filter_eq_self.2 hall
    have hst : dirtyE (Ys.take (k0 + 1)) = Ys.take k0 := by rw [dirtyE_snoc Ys k0 hk0, htk, hno]; simp
    obtain ⟨b, o, rfl, hB, hs, hv⟩ := hr.at_ (by omega)
    have hfp : fp (some ⟨b, o, none⟩) c = [b] := fp_some _ _ _ (by omega)
    have hxb := hx b (by rw [hfp]; simp)
    have HT := mkHid hst
    have HF := mkHid hfp
    clear hall htk hst hno hs hv hfp cI
    go_wp2_with fail
    go_loopw [5, 6] (fun iv jv wr => ∃ (i j : Nat) (xs : List Value), iv = .int .i64 i ∧ jv = .int .i64 j ∧ i < j ∧ j ≤ Ys.length ∧ i = (dirtyE (Ys.take j)).length ∧ Room wr B' (some ⟨b, o, none⟩) Ys.length c xs ∧ xs.take i = (dirtyE (Ys.take j)).map plV ∧ xs.drop j = (Ys.drop j).map plV ∧ Chg [b] w wr) (fun _ jv _ => Ys.length - (Go.RowKit.intOf jv).toNat)
    case atStart => exact ⟨k0, k0 + 1, Ys.map plV, rfl, by first | rfl | go_num, by omega, by omega, by rw [HT.out]; simp; omega, hr, by rw [HT.out, List.map_take], by rw [List.map_drop], Chg.refl _ _⟩
    case round =>
      obtain ⟨i, j, xs, rfl, rfl, hij, hj, hi, hR, htx, hdx, hg⟩ := hrel
      have h1 := h.chg hg (fun k hk => by simp; rintro rfl; exact hxb.1 hk)
      have hb1 := hg.cellv hb (by simpa using fun e => hxb.2 e.symm)
      by_cases hlt : j < Ys.length
      · have hxj : xs[j]? = some (plV Ys[j]) := by
          have := congrArg (fun l => l[0]?) hdx
          simpa [hlt] using this
        obtain ⟨b', o', e, _, hs, hv⟩ := hR.at_ (by omega)
        cases e
        have cj := hv j _ hxj
        unfold plV at cj
        obtain ⟨ci1, ci2⟩ := hs i (by omega)
        obtain ⟨ui, hui⟩ := Option.isSome_iff_exists.1 ci1
        have cC := cclean_any Ys[j] bx B cb mb la cl E L most uses db wr h1 hb1 (hY _ (List.getElem_mem hlt))
        have hsn := dirtyE_snoc Ys j hlt
        have HI := mkHid hi
        have HTX := mkHid htx
        have HDX := mkHid hdx
        have HXJ := mkHid hxj
        have HS := mkHid hsn
        clear hi htx hdx hsn hs hv ci1 hxj
        cases hd : Ys[j].dirty
        · rw [hd] at cC
          have HD := mkHid hd
          clear hd
          go_wp2_with (first | (go_at_call 32; refine cC.mono ?_; rintro e w' ⟨rfl, rfl⟩))
          refine ⟨⟨i, j + 1, xs, rfl, by first | rfl | go_num, by omega, by omega, ?_, hR, ?_, ?_, hg⟩, by simp [Go.RowKit.intOf]; omega⟩
          · rw [HS.out, HD.out, HI.out]; simp
          · rw [HS.out, HD.out, HTX.out]; simp
          · rw [← List.drop_drop, HDX.out, ← List.map_drop, List.drop_drop]
        · rw [hd] at cC
          have HD := mkHid hd
          clear hd
          go_wp2_with (first | (go_at_call 32; refine cC.mono ?_; rintro e w' ⟨rfl, rfl⟩))
          have hxl := hR.len
          have hilt : i < xs.length := by omega
          refine ⟨⟨i + 1, j + 1, xs.set i (plV Ys[j]), by first | rfl | go_num, by first | rfl | go_num, by omega, by omega, ?_, hR.set i (by omega) _, ?_, ?_, hg.trans (Chg.setCell wr ⟨b, o + i, none⟩ _) (fun _ h _ => h) (fun _ h _ => h)⟩, by simp [Go.RowKit.intOf]; omega⟩
          · rw [HS.out, HD.out]; simp; exact HI.out
          · rw [HS.out, HD.out, List.take_succ_eq_append_getElem (by rw [List.length_set]; exact hilt), List.getElem_set_self, List.take_set, List.set_eq_of_length_le (by simp; omega), HTX.out]
            simp
          · rw [List.drop_set_of_lt (by omega), ← List.drop_drop, HDX.out, ← List.map_drop, List.drop_drop]
      · have hjn : j = Ys.length := by omega
        subst hjn
        rw [List.take_length] at hi htx
        have HI := mkHid hi
        have HTX := mkHid htx
        have hin : i < Ys.length := hij
        have hsl : ∀ u : World, (Instr.slice 40 (.slice (some ⟨b, o, none⟩) Ys.length c) (some (.int .i64 (i : Int))) none none).run Try.prog u = .ok (.slice (some ⟨b, o + i, none⟩) (Ys.length - i) (c - i)) u := fun u => by
          have := run_from_k (P := Try.prog) (some ⟨b, o, none⟩) Ys.length c i Try.underlying40 (by kernel_rfl) (by omega) u
          rwa [show cut (some ⟨b, o, none⟩) c i = some ⟨b, o + i, none⟩ by unfold cut; rw [if_neg (by omega), Option.map_some, Addr.add_lit]] at this
        have hst : ∀ u : World, (Instr.slice 40 (.slice (some ⟨b, o, none⟩) Ys.length c) none (some (.int .i64 (i : Int))) none).run Try.prog u = .ok (.slice (some ⟨b, o, none⟩) i c) u := fun u =>
          run_take_k (some ⟨b, o, none⟩) Ys.length c i Try.underlying40 (by kernel_rfl) (by omega) u
        have hth := hR.there i (Ys.length - i) (by omega)
        clear hi htx hdx
        go_wp2_with (refine wpList_clear_k rfl (.tmp 38) 40 3 rfl Try.underlying40 (.int .i64 0) (by kernel_rfl) rfl rfl b (o + i) (Ys.length - i) (c - i) (by omega) rfl hth ?_)
        go_ret
        have hi := HI.out
        have hxl := hR.len
        have hS := (hR.sets (List.replicate (Ys.length - i) (.int .i64 0)) i (by simp; omega)).shorten (m := i) (by omega)
        rw [List.take_append_of_le_length (by simp; omega), List.take_take, Nat.min_self, HTX.out] at hS
        rw [← hi, HF.out]
        exact ⟨rfl, hS, hg.trans (Chg.setCells b _ (o + i) wr) (fun _ h _ => h) (fun _ h _ => h)⟩
end Go.Proofs.Ytdmhcbbakgljoaa
