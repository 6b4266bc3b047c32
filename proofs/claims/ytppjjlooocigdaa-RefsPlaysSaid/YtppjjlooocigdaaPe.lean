/- The places of a space: heap.Push, heap.Remove; a place leaves, a place joins. -/
import Derived.Test.YtppjjlooocigdaaPd
namespace Go.Proofs.Ytppjjlooocigdaa
open Go.RowKit
set_option linter.unusedVariables false
set_option linter.unusedSimpArgs false
attribute [local go_sem ↓] Go.wp_at_zero Go.wp_at_succ

theorem sub_PF {pb : Nat} {la : Option Addr} {cl : Nat} {sa : Option Addr} {cs : Nat} : ∀ k, k ∈ fp la cl ++ fp sa cs → k ∈ PF pb la cl sa cs := fun k hk => List.mem_cons_of_mem _ hk
theorem split_last {E : List Nat} {x : Nat} {n : Nat} (hl : E.length = n + 1) (h : E[n]? = some x) : ∃ F, E = F ++ [x] ∧ F.length = n := by
  refine ⟨E.take n, ?_, by simp; omega⟩
  have h1 : n < E.length := by omega
  rw [List.getElem?_eq_getElem h1] at h
  have h2 := List.take_succ_eq_append_getElem h1
  rw [List.take_of_length_le (by omega)] at h2
  have h3 : E[n] = x := by simpa using h
  rw [h3] at h2
  exact h2
theorem key_front {F : List Nat} {x : Nat} : ∀ k, k < F.length → key (F ++ [x]) k = key F k := fun k hk => by
  rw [key_lt (by simp; omega), key_lt hk, List.getElem_append_left hk]
theorem heap_front {F : List Nat} {x : Nat} {n : Nat} (hn : n ≤ F.length) (h : Heap (F ++ [x]) n) : Heap F n := by
  intro k k0 kn
  have := h k k0 kn
  rwa [key_front _ (by omega), key_front _ (by omega)] at this
/-- The last one goes in the place of the i-th: from there the heap may be broken. -/
theorem down_last {E : List Nat} {i n : Nat} (hE : E.length = n + 1) (hi : i < n) (h : Heap E E.length) : DownOk (swp E i n (by omega) (by omega)) i n := by
  have hk := key_swp E i n (by omega) (by omega)
  refine ⟨fun k k0 kn ki kp => ?_, fun k k0 kn kp i0 => ?_⟩
  · rw [hk _ (by omega), hk k (by omega), if_neg (by omega), if_neg kp, if_neg (by omega), if_neg ki]
    exact h k k0 (by omega)
  · rw [hk _ (by omega), hk k (by omega), if_neg (by omega), if_neg (by omega), if_neg (by omega), if_neg (by omega)]
    have h1 := h k k0 (by omega)
    rw [kp] at h1
    exact Nat.le_trans (h i i0 (by omega)) h1
set_option maxRecDepth 20000 in
/-- heap.Push. -/
theorem hpush_any (x : Nat) (B pb : Nat) (la : Option Addr) (cl : Nat) (sa : Option Addr) (cs n : Nat) (L : List Nat) (w : World) (h : PlAt w B pb la cl sa cs n L) (hB : B ≤ w.heap.size) (hx : x < n) (hxL : x ∉ L) (hH : Heap L L.length) :
    Calls Try.prog 60 #[.iface 70 (.pointer (some ⟨pb, 0, none⟩)), .iface 3 (.int .i64 (x : Int))] w fun e w' => e = .returned (.tuple #[]) ∧ ∃ la' cl' L', PlAt w' B pb la' cl' sa cs n L' ∧ L'.Perm (L ++ [x]) ∧ Heap L' L'.length ∧ Chg (PF pb la cl sa cs) w w' ∧ (∀ k, k ∈ fp la' cl' → k ∈ fp la cl ∨ w.heap.size ≤ k) := by
  have hup : UpOk (L ++ [x]) L.length (L.length + 1) := by
    refine ⟨fun k k0 kn kj => ?_, fun k k0 kn kp _ => ?_⟩
    · rw [key_front _ (by omega), key_front _ (by omega)]
      exact hH k k0 (by omega)
    · omega
  have Hup := mkHid hup
  clear hup
  have hel : (L ++ [x]).length = L.length + 1 := by simp
  have HE := mkHid hel
  clear hel
  have m1 := fun u => meth_push u ⟨pb, 0, none⟩
  have m2 := fun u => meth_len u ⟨pb, 0, none⟩
  have hle := h.le
  have hnn := h.nn
  go_enter Try.func60, Try.ntmps60
  go_wp2_with (first | (go_at_call 79; refine (wpush_any x B pb la cl sa cs n L w h hB hx hxL).mono ?_; rintro e w1 ⟨rfl, la1, cl1, h1, g1, f1⟩; have l1 := len_any B pb la1 cl1 sa cs n (L ++ [x]) w1 h1; rw [HE.out] at l1) | (go_at_call 50; refine l1.mono ?_; rintro e w2 ⟨rfl, rfl⟩) | (go_at_call 59; refine (up_any L.length (L.length + 1) B pb la1 cl1 sa cs n (L ++ [x]) w1 h1 (by rw [HE.out]; omega) (by omega) Hup.out).mono ?_; rintro e w2 ⟨rfl, E', h2, p2, H2, o2, g2⟩))
  go_end0
  have hel' : E'.length = L.length + 1 := by rw [p2.length_eq]; exact HE.out
  refine ⟨rfl, la1, cl1, E', h2, p2, by rw [hel']; exact H2, g1.trans g2 (fun _ h _ => h) (fun k hk hlt => ?_), f1⟩
  simp only [PF, List.mem_cons, List.mem_append] at hk ⊢
  rcases hk with hk | hk
  · rcases f1 k hk with h9 | h9
    · exact Or.inr (Or.inl h9)
    · omega
  · exact Or.inr (Or.inr hk)
set_option maxRecDepth 20000 in
set_option maxHeartbeats 1000000 in
/-- heap.Remove. -/
theorem hremove_any (i : Nat) (B pb : Nat) (la : Option Addr) (cl : Nat) (sa : Option Addr) (cs n : Nat) (L : List Nat) (w : World) (h : PlAt w B pb la cl sa cs n L) (hi : i < L.length) (hH : Heap L L.length) :
    Calls Try.prog 55 #[.iface 70 (.pointer (some ⟨pb, 0, none⟩)), .int .i64 i] w fun e w' => ∃ v, e = .returned v ∧ ∃ L', PlAt w' B pb la cl sa cs n L' ∧ (L' ++ [L[i]]).Perm L ∧ Heap L' L'.length ∧ Chg (PF pb la cl sa cs) w w' := by
  have hle := h.le
  have hnn := h.nn
  have m0 := fun u => meth_len u ⟨pb, 0, none⟩
  have m1 := fun u => meth_swap u ⟨pb, 0, none⟩
  have m2 := fun u => meth_pop u ⟨pb, 0, none⟩
  obtain ⟨k, hk⟩ : ∃ k, L.length = k + 1 := ⟨L.length - 1, by omega⟩
  have hl := len_any B pb la cl sa cs n L w h
  rw [hk] at hl
  by_cases hik : i = k
  · subst hik
    have hlast : L[i]? = some L[i] := List.getElem?_eq_getElem hi
    obtain ⟨F, hF, hFl⟩ := split_last hk hlast
    generalize L[i] = x at *
    subst hF
    have hpop := wpop_any x B pb la cl sa cs n F w h
    have hHF : Heap F F.length := heap_front (Nat.le_refl _) (fun a a0 an => hH a a0 (by simp; omega))
    have HH := mkHid hHF
    clear hHF hlast hFl hH
    have hne : ((i : Int) != (i : Int)) = false := by simp
    go_enter Try.func55, Try.ntmps55
    go_wp2_with (first | (go_at_call 50; refine hl.mono ?_; rintro e w2 ⟨rfl, rfl⟩) | (go_at_call 78; refine hpop.mono ?_; rintro e w4 ⟨rfl, h4, g4⟩))
    go_ret
    exact ⟨_, rfl, F, h4, List.Perm.refl _, HH.out, g4⟩
  · have hkl : k < L.length := by omega
    have hDn := down_last hk (show i < k by omega) hH
    have hlast : (swp L i k hi hkl)[k]? = some L[i] := by
      have hl : k < (swp L i k hi hkl).length := by rw [swp_len]; exact hkl
      rw [List.getElem?_eq_getElem hl, swp_get, if_pos rfl]
    have hsl : (swp L i k hi hkl).length = k + 1 := by rw [swp_len]; exact hk
    have hsp := swp_perm L i k hi hkl
    have cS := swap_any i k B pb la cl sa cs n L w h hi hkl
    generalize hS : swp L i k hi hkl = S at hDn hlast hsl hsp cS
    have hne : ((k : Int) != (i : Int)) = true := by simp; omega
    have hne' : (k != i) = true := by simp; omega
    have HD := mkHid hDn
    have HL := mkHid hlast
    have HSL := mkHid hsl
    clear hS hDn hlast hsl
    have cD : ∀ w2, PlAt w2 B pb la cl sa cs n S → _ := fun w2 h2 => down_any i k B pb la cl sa cs n S w2 h2 (by rw [HSL.out]; omega) (by omega) HD.out
    have CD := mkHid cD
    clear cD
    have fin : ∀ w2 w3 (E' : List Nat), PlAt w2 B pb la cl sa cs n S → Chg (fp la cl ++ fp sa cs) w w2 → PlAt w3 B pb la cl sa cs n E' → E'.Perm S → E'[k]? = some L[i] → Heap E' k → Chg (fp la cl ++ fp sa cs) w2 w3 →
        Calls Try.prog 78 #[.pointer (some ⟨pb, 0, none⟩)] w3 fun e w' => ∃ x, e = .returned (.iface 3 (.int .i64 (x : Int))) ∧ ∃ L', PlAt w' B pb la cl sa cs n L' ∧ (L' ++ [L[i]]).Perm L ∧ Heap L' L'.length ∧ Chg (PF pb la cl sa cs) w w' := by
      intro w2 w3 E' h2 g2 h3 p3 o3 H3 g3
      obtain ⟨F, rfl, hFl⟩ := split_last (p3.length_eq.trans HSL.out) o3
      refine (wpop_any L[i] B pb la cl sa cs n F w3 h3).mono ?_
      rintro e w4 ⟨rfl, h4, g4⟩
      exact ⟨_, rfl, F, h4, p3.trans hsp, by rw [hFl]; exact heap_front (by omega) H3, (g2.trans g3 (fun k hk _ => sub_PF k hk) (fun k hk _ => sub_PF k hk)).trans g4 (fun _ h _ => h) (fun _ h _ => h)⟩
    have Fin := mkHid fin
    clear fin hH
    go_enter Try.func55, Try.ntmps55
    go_wp2_with (first | (go_at_call 50; refine hl.mono ?_; rintro e w2 ⟨rfl, rfl⟩) | (go_at_call 80; refine cS.mono ?_; rintro e w2 ⟨rfl, h2, g2⟩) | (go_at_call 58; refine (CD.out w2 h2).mono ?_; rintro e w3 ⟨b, E', rfl, h3, p3, o3, t3, u3, g3⟩; have T3 := mkHid t3; have U3 := mkHid u3; have O3 := mkHid ((o3 k (Nat.le_refl _)).trans HL.out); clear t3 u3 o3) | (go_at_call 59; refine (up_any i k B pb la cl sa cs n E' w3 h3 (by rw [p3.length_eq, HSL.out]; omega) (by omega) (U3.out (by simpa using ‹(!b) = true›))).mono ?_; rintro e w5 ⟨rfl, E5, h5, p5, H5, o5, g5⟩; have hP := Fin.out w2 w5 E5 h2 g2 h5 (p5.trans p3) ((o5 k (Nat.le_refl _)).trans O3.out) H5 (g3.trans g5 (fun _ h _ => h) (fun _ h _ => h))) | (go_at_call 78; (first | refine hP.mono ?_ | refine (Fin.out w2 w3 E' h2 g2 h3 p3 O3.out (T3.out (by simpa using ‹(!b) = false›)) g3).mono ?_); rintro e w4 ⟨x, rfl, hend⟩))
    all_goals
      go_ret
      exact ⟨_, rfl, hend⟩
end Go.Proofs.Ytppjjlooocigdaa
