/- Texts Db, Jf, Dc, Dd, De of the library, joined. -/
import Derived.Test.YtdgkbicelnnfpaaGreatDoorM04
import Derived.Great.BuildSlice
set_option linter.unusedVariables false
set_option linter.unusedSimpArgs false
namespace Go.Proofs.YtdgkbicelnnfpaaGreatDoor
section
open Go.RowKit
theorem blocks_any (B db:Nat) (g:DG) (fa:Option Addr) (cf:Nat) (st:RS) (w:World) (h:DevAt w B db g fa cf st) (hW:Whole st) :
  Calls Tryz.prog 75 #[.pointer (some ⟨db,0,none⟩)] w fun e w' => e=.returned (.int .i64 st.count)∧w=w':=by
 have c0:=h.c0
 obtain ⟨n,hn⟩:∃ n,n=64 * st.S.length:=⟨_,rfl⟩
 rw [← hn] at c0
 obtain ⟨m,hm⟩:∃ m,m=st.count:=⟨_,rfl⟩
 have hq:Int.tdiv (n:Int) 256=(m:Int):=by
  rw [Int.tdiv_eq_ediv_of_nonneg (by omega)]
  have:=hW.1
  omega
 have hm1:m≤1024:=by have:=hW.2;omega
 rw [← hm]
 clear hn hm hW
 go_enter Tryz.func75,Tryz.ntmps75
 go_wp2_with (first | (go_at_call 128;refine (made_yes db _ _ _ _ w c0).mono ?_;rintro e w' ⟨rfl,rfl⟩))
 go_ret
 exact ⟨rfl,rfl⟩
theorem off_any (B db:Nat) (g:DG) (fa:Option Addr) (cf:Nat) (st:RS) (w:World) (h:DevAt w B db g fa cf st) :
  Calls Tryz.prog 169 #[.pointer (some ⟨db,0,none⟩)] w fun e w' => e=.returned (.bool st.gone)∧w=w':=by
 have c0:=h.c0
 have c4:=h.c4
 go_enter Tryz.func169,Tryz.ntmps169
 go_wp2_with (first | (go_at_call 128;refine (made_yes db _ _ _ _ w c0).mono ?_;rintro e w' ⟨rfl,rfl⟩))
 go_ret
 exact ⟨rfl,rfl⟩
theorem powered_any (B db:Nat) (g:DG) (fa:Option Addr) (cf:Nat) (st:RS) (w:World) (h:DevAt w B db g fa cf st) :
  Calls Tryz.prog 174 #[.pointer (some ⟨db,0,none⟩)] w fun e w' => e=.returned (.int .i64 (if st.gone then 9 else 0))∧w=w':=by
 have c0:=h.c0
 have c4:=h.c4
 cases hg:st.gone
 ·rw [hg] at c4
  go_enter Tryz.func174,Tryz.ntmps174
  go_wp2_with (first | (go_at_call 128;refine (made_yes db _ _ _ _ w c0).mono ?_;rintro e w' ⟨rfl,rfl⟩))
  go_ret
  exact ⟨rfl,rfl⟩
 ·rw [hg] at c4
  go_enter Tryz.func174,Tryz.ntmps174
  go_wp2_with (first | (go_at_call 128;refine (made_yes db _ _ _ _ w c0).mono ?_;rintro e w' ⟨rfl,rfl⟩))
  go_ret
  exact ⟨rfl,rfl⟩
theorem asked_any (z:Int) (B db:Nat) (g:DG) (fa:Option Addr) (cf:Nat) (st:RS) (w:World) (h:DevAt w B db g fa cf st) (hW:Whole st) :
  Calls Tryz.prog 141 #[.pointer (some ⟨db,0,none⟩),.int .i64 z] w fun e w' => e=.returned (.int .i64 (whyN st z))∧w=w':=by
 unfold whyN
 cases hg:st.gone
 ·simp only [Bool.false_eq_true,if_false]
  by_cases h1:z < 0
  ·rw [if_pos (Or.inl h1)]
   go_enter Tryz.func141,Tryz.ntmps141
   go_wp2_with (first | (go_at_call 174;refine (powered_any B db g fa cf st w h).mono ?_;rw [hg];rintro e w' ⟨rfl,rfl⟩) | (go_at_call 75;refine (blocks_any B db g fa cf st w h hW).mono ?_;rintro e w' ⟨rfl,rfl⟩))
   go_ret
   exact ⟨rfl,rfl⟩
  ·have h1':decide (z < 0)=false:=by simp;omega
   by_cases h2:(st.count:Int)≤z
   ·rw [if_pos (Or.inr h2)]
    have h2':decide ((st.count:Int)≤z)=true:=by simpa using h2
    go_enter Tryz.func141,Tryz.ntmps141
    go_wp2_with (first | (go_at_call 174;refine (powered_any B db g fa cf st w h).mono ?_;rw [hg];rintro e w' ⟨rfl,rfl⟩) | (go_at_call 75;refine (blocks_any B db g fa cf st w h hW).mono ?_;rintro e w' ⟨rfl,rfl⟩))
    go_ret
    exact ⟨rfl,rfl⟩
   ·rw [if_neg (by omega)]
    have h2':decide ((st.count:Int)≤z)=false:=by simpa using h2
    go_enter Tryz.func141,Tryz.ntmps141
    go_wp2_with (first | (go_at_call 174;refine (powered_any B db g fa cf st w h).mono ?_;rw [hg];rintro e w' ⟨rfl,rfl⟩) | (go_at_call 75;refine (blocks_any B db g fa cf st w h hW).mono ?_;rintro e w' ⟨rfl,rfl⟩))
    go_ret
    exact ⟨rfl,rfl⟩
 ·simp only [if_true]
  go_enter Tryz.func141,Tryz.ntmps141
  go_wp2_with (first | (go_at_call 174;refine (powered_any B db g fa cf st w h).mono ?_;rw [hg];rintro e w' ⟨rfl,rfl⟩))
  go_ret
  exact ⟨rfl,rfl⟩
theorem sectorOf_any (b o n c s:Nat) (hs:64 * s+64≤c) (hc:c≤maxLen) (w:World) :
  Calls Tryz.prog 142 #[.slice (some ⟨b,o,none⟩) n c,.int .i64 s] w fun e w' => e=.returned (.slice (some ⟨b,o+64 * s,none⟩) 64 64)∧w=w':=by
 unfold maxLen at hc
 have w1:IntKind.i64.wrap ((s:Int) * 64)=((64 * s:Nat):Int):=by rw [IntKind.wrap_i64];omega
 have w2:IntKind.i64.wrap ((s:Int)+1)=(s:Int)+1:=by rw [IntKind.wrap_i64];omega
 have w3:IntKind.i64.wrap (((s:Int)+1) * 64)=((64 * s+64:Nat):Int):=by rw [IntKind.wrap_i64];omega
 go_enter Tryz.func142,Tryz.ntmps142
 go_wp2
 go_ret
 refine ⟨?_,rfl⟩
 show Ending.returned (Value.slice _ (64 * s+64 - 64 * s) (64 * s+64 - 64 * s))=_
 rw [Nat.add_sub_cancel_left]
theorem seen_any (s:Nat) (B db:Nat) (g:DG) (fa:Option Addr) (cf:Nat) (st:RS) (w:World) (h:DevAt w B db g fa cf st) (hs:s < st.S.length) :
  Calls Tryz.prog 143 #[.pointer (some ⟨db,0,none⟩),.int .i64 s] w fun e w' => ∃ ao c,e=.returned (.slice ao 64 c)∧Reads w ao (bts (cur st s))∧w=w':=by
 have c0:=h.c0
 have c1:=h.c1
 have c2:=h.c2
 have hmx:=h.rS.max
 have hle:=h.rS.le
 obtain ⟨b0,o0,e0,_,_,hcn⟩:=h.rN.at_ (by have:=h.rN.le;omega)
 cases e0
 have x2:=hcn s _ (newC_get _ _ s hs)
 have hsi:(s:Int) < (st.S.length:Int):=by omega
 have hsS:st.S.getD s []=st.S[s]:=by rw [List.getD_eq_getElem?_getD,List.getElem?_eq_getElem hs];rfl
 clear hcn
 rcases newOf_parts st.L s with ⟨hn,hl⟩ | ⟨n,l,hn,hL,hl⟩
 ·rw [hn] at x2
  have hcur:cur st s=st.S[s]:=by unfold cur;rw [hl,hsS]
  rw [hcur]
  obtain ⟨b1,o1,e1,_,_,hcs⟩:=h.rS.at_ (by have:=h.pos;omega)
  cases e1
  have hrd:Reads w (some ⟨g.lb,g.lo+64 * s,none⟩) (bts st.S[s]):=by
   have:=((h.rS.reads).drop (l:=64 * s)).take 64
   rwa [bts_drop,bts_take,flat_get _ s hs h.lS] at this
  clear hcs hcur hsS
  go_enter Tryz.func143,Tryz.ntmps143
  go_wp2_with (first | (go_at_call 142;refine (sectorOf_any g.lb g.lo _ g.cl s (by omega) hmx w).mono ?_;rintro e w' ⟨rfl,rfl⟩))
  go_ret
  exact ⟨_,_,rfl,hrd,rfl⟩
 ·rw [hn] at x2
  have hcur:cur st s=l:=by unfold cur;rw [hl]
  rw [hcur]
  have hnL:n < st.L.length:=(List.getElem?_eq_some_iff.1 hL).1
  have hge:st.L[n]=(s,l):=by rw [List.getElem?_eq_getElem hnL] at hL;exact Option.some.inj hL
  have hl64:=(h.lL _ (List.getElem_mem hnL)).1
  rw [hge] at hl64
  obtain ⟨fb,fo,rfl,_,_,_,hcf⟩:=h.rL.at_ (by have:=h.rL.le;omega)
  have hrd:Reads w (some ⟨fb,fo+n * 65+1,none⟩) (bts l):=fun _ => ⟨fb,_,rfl,fun j u hu => by
   have:=hcf (n * 65+(j+1)) u (flyC_get st.L n hnL (fun f hf => (h.lL f hf).1) (j+1) u (by rw [hge];exact hu))
   rw [← this]
   congr 2
   omega⟩
  have hni:(n:Int) < (st.L.length:Int):=by omega
  have hmL:=h.rL.max
  have hlL:=h.rL.le
  unfold maxLen at hmL
  have hg1:decide ((0:Int) < ((n+1:Nat):Int))=true:=decide_eq_true (by omega)
  have w1:IntKind.i64.wrap (((n+1:Nat):Int) - 1)=(n:Int):=by rw [IntKind.wrap_i64];omega
  clear hcf hcur hsS hge hl
  go_enter Tryz.func143,Tryz.ntmps143
  go_wp2
  go_ret
  exact ⟨_,⟨_,rfl⟩,hrd,rfl⟩
end
section
open Go.RowKit Go.Maps
attribute [local go_sem ↓] Go.wp_at_zero Go.wp_at_succ
section
variable (cb db:Nat) (B:Nat) (g:DG) (fa:Option Addr) (cf:Nat) (st:RS) (w:World) (h:DevAt w B db g fa cf st) (c0:w.cell? ⟨cb,0,none⟩=some (.pointer (some ⟨db,0,none⟩)))
include h c0
theorem cpowered_any:Calls Tryz.prog 137 #[.pointer (some ⟨cb,0,none⟩)] w fun e w' => e=.returned (.int .i64 (if st.gone then 9 else 0))∧w=w':=by
 cases hg:st.gone
 all_goals
  go_enter Tryz.func137,Tryz.ntmps137
  go_wp2_with (first | (go_at_call 168;refine (cmade_yes cb db w c0).mono ?_;rintro e w' ⟨rfl,rfl⟩) | (go_at_call 169;refine (off_any B db g fa cf st w h).mono ?_;rw [hg];rintro e w' ⟨rfl,rfl⟩))
  go_ret
  exact ⟨rfl,rfl⟩
theorem casked_any (z:Int) (hW:Whole st):Calls Tryz.prog 92 #[.pointer (some ⟨cb,0,none⟩),.int .i64 z] w fun e w' => e=.returned (.int .i64 (whyN st z))∧w=w':=by
 unfold whyN
 cases hg:st.gone
 ·simp only [Bool.false_eq_true,if_false]
  by_cases h1:z < 0
  ·rw [if_pos (Or.inl h1)]
   have h1':decide (z < 0)=true:=decide_eq_true h1
   go_enter Tryz.func92,Tryz.ntmps92
   go_wp2_with (first | (go_at_call 137;refine (cpowered_any cb db B g fa cf st w h c0).mono ?_;rw [hg];rintro e w' ⟨rfl,rfl⟩) | (go_at_call 75;refine (blocks_any B db g fa cf st w h hW).mono ?_;rintro e w' ⟨rfl,rfl⟩))
   go_ret
   exact ⟨rfl,rfl⟩
  ·have h1':decide (z < 0)=false:=decide_eq_false h1
   by_cases h2:(st.count:Int)≤z
   ·rw [if_pos (Or.inr h2)]
    have h2':decide ((st.count:Int)≤z)=true:=decide_eq_true h2
    go_enter Tryz.func92,Tryz.ntmps92
    go_wp2_with (first | (go_at_call 137;refine (cpowered_any cb db B g fa cf st w h c0).mono ?_;rw [hg];rintro e w' ⟨rfl,rfl⟩) | (go_at_call 75;refine (blocks_any B db g fa cf st w h hW).mono ?_;rintro e w' ⟨rfl,rfl⟩))
    go_ret
    exact ⟨rfl,rfl⟩
   ·rw [if_neg (by omega)]
    have h2':decide ((st.count:Int)≤z)=false:=decide_eq_false h2
    go_enter Tryz.func92,Tryz.ntmps92
    go_wp2_with (first | (go_at_call 137;refine (cpowered_any cb db B g fa cf st w h c0).mono ?_;rw [hg];rintro e w' ⟨rfl,rfl⟩) | (go_at_call 75;refine (blocks_any B db g fa cf st w h hW).mono ?_;rintro e w' ⟨rfl,rfl⟩))
    go_ret
    exact ⟨rfl,rfl⟩
 ·simp only [if_true]
  go_enter Tryz.func92,Tryz.ntmps92
  go_wp2_with (first | (go_at_call 137;refine (cpowered_any cb db B g fa cf st w h c0).mono ?_;rw [hg];rintro e w' ⟨rfl,rfl⟩))
  go_ret
  exact ⟨rfl,rfl⟩
end
section
variable (B cb mb:Nat) (la:Option Addr) (cl:Nat) (E L:List Ent) (most uses db:Nat) (w:World) (h:CacheAt w B cb mb la cl E L most uses db)
include h
end
theorem LineAt.cb {w w':World} {B cb:Nat} {la:Option Addr} {cl:Nat} {E:List Ent} (h:LineAt w B cb la cl E) (c:Chg [cb] w w') (e3:w'.cell? ⟨cb,3,none⟩=w.cell? ⟨cb,3,none⟩) (e4:w'.frozen? ⟨cb,3,none⟩=w.frozen? ⟨cb,3,none⟩):LineAt w' B cb la cl E:=
 ⟨e3.trans h.c3,e4.trans h.f3,h.r.chg c (fun k hk => by simp;rintro rfl;exact h.cr hk),fun i hi => (h.e i hi).chg c (by simpa using h.nc _ (List.getElem_mem hi)),h.bl,h.nd,h.nc,h.nr,h.cr,h.eB,h.cB,h.sm⟩
theorem set_alike {E:List Ent} {i:Nat} (hi:i < E.length) {x:Ent} {β:Type} (f:Ent→β) (hx:f x=f E[i]):(E.set i x).map f=E.map f:=by
 rw [List.map_set,hx]
 have:f E[i]=(E.map f)[i]'(by simpa using hi):=by simp
 rw [this,List.set_getElem_self]
theorem LineAt.upd {w w':World} {B cb:Nat} {la:Option Addr} {cl:Nat} {E:List Ent} (h:LineAt w B cb la cl E) {i:Nat} (hi:i < E.length) {x:Ent} (hb:x.b=E[i].b) (hl:x.bs.length=256) (c:Chg [E[i].b] w w') (hx:Blk w' E[i].b 176 (entV x i)):LineAt w' B cb la cl (E.set i x):=by
 have hm:=List.getElem_mem hi
 have mem:∀ e∈E.set i x,e∈E ∨ e=x:=fun e he => List.mem_or_eq_of_mem_set he
 refine ⟨by rw [List.length_set];exact c.cellv h.c3 (by simpa using fun e => h.nc _ hm e.symm),(c.frozen (p:=⟨cb,3,none⟩) (block_lt_of_cell h.c3) (by simpa using fun e => h.nc _ hm e.symm)).trans h.f3,?_,?_,?_,by rw [set_alike hi Ent.b hb];exact h.nd,?_,?_,h.cr,?_,h.cB,by rw [List.length_set];exact h.sm⟩
 ·rw [List.length_set,set_alike hi ptrV (by simp [ptrV,hb])]
  exact h.r.chg c (fun k hk => by simp;rintro rfl;exact h.nr _ hm hk)
 ·intro k hk
  rw [List.length_set] at hk
  rw [List.getElem_set]
  split
  ·rename_i hik
   subst hik
   rw [hb];exact hx
  ·rename_i hik
   exact (h.e k hk).chg c (by simp;exact fun e => hik ((bs_inj h.nd hi hk).2 e.symm))
 ·intro e he
  rcases mem e he with he | rfl
  ·exact h.bl e he
  ·exact hl
 ·intro e he
  rcases mem e he with he | rfl
  ·exact h.nc e he
  ·rw [hb];exact h.nc _ hm
 ·intro e he
  rcases mem e he with he | rfl
  ·exact h.nr e he
  ·rw [hb];exact h.nr _ hm
 ·intro e he
  rcases mem e he with he | rfl
  ·exact h.eB e he
  ·rw [hb];exact h.eB _ hm
theorem key_set {E:List Ent} {i:Nat} (hi:i < E.length) (x:Ent) (k:Nat) (hk:k < E.length):key (E.set i x) k=if k=i then x.used else key E k:=by
 rw [key_lt (by rw [List.length_set];exact hk),List.getElem_set,key_lt hk]
 by_cases h:i=k
 ·rw [if_pos h,if_pos h.symm]
 ·rw [if_neg h,if_neg (fun e => h e.symm)]
theorem down_set {E:List Ent} {i:Nat} (hi:i < E.length) (x:Ent) (h:Heap E E.length):DownOk (E.set i x) i E.length:=by
 refine ⟨fun k k0 kn ki kp => ?_,fun k k0 kn kp i0 => ?_⟩
 ·rw [key_set hi x _ (by omega),key_set hi x _ kn,if_neg ki,if_neg kp]
  exact h k k0 kn
 ·rw [key_set hi x _ (by omega),key_set hi x _ kn,if_neg (by omega),if_neg (by omega)]
  have h1:=h k k0 kn
  rw [kp] at h1
  exact Nat.le_trans (h i i0 hi) h1
def Ent.now (e:Ent) (u:Nat):Ent:=⟨e.b,e.pl,e.bs,e.dirty,u⟩
def used (L:List Ent) (x:Ent) (u:Nat):List Ent:=L.filter (fun e => e.b != x.b)++[x.now u]
theorem nodup_of_b {E:List Ent} (h:(E.map Ent.b).Nodup):E.Nodup:=by
 have:=List.pairwise_map.1 h
 exact this.imp fun hne e => hne (by rw [e])
theorem b_inj {E:List Ent} (h:(E.map Ent.b).Nodup) {x y:Ent} (hx:x∈E) (hy:y∈E) (e:x.b=y.b):x=y:=by
 obtain ⟨i,hi,rfl⟩:=List.getElem_of_mem hx
 obtain ⟨j,hj,rfl⟩:=List.getElem_of_mem hy
 obtain rfl:=(bs_inj h hi hj).2 e
 rfl
theorem set_used {E L:List Ent} (hnd:(E.map Ent.b).Nodup) (p:E.Perm L) {i:Nat} (hi:i < E.length) (u:Nat):(E.set i (E[i].now u)).Perm (used L E[i] u):=by
 have hndL:(L.map Ent.b).Nodup:=(p.map _).nodup_iff.1 hnd
 have n1:(E.set i (E[i].now u)).Nodup:=nodup_of_b (by rw [set_alike hi (x:=E[i].now u) Ent.b rfl];exact hnd)
 have n2:(used L E[i] u).Nodup:=by
  refine List.nodup_append.2 ⟨(nodup_of_b hndL).filter _,by simp,fun a ha b hb => ?_⟩
  simp at hb
  have:=(List.mem_filter.1 ha).2
  simp at this
  rintro rfl
  rw [hb] at this
  exact this rfl
 refine (List.perm_ext_iff_of_nodup n1 n2).2 fun e => ?_
 unfold used
 rw [List.mem_append,List.mem_filter,List.mem_singleton]
 constructor
 ·intro he
  obtain ⟨k,hk,rfl⟩:=List.getElem_of_mem he
  rw [List.length_set] at hk
  rw [List.getElem_set]
  split
  ·exact Or.inr rfl
  ·rename_i hik
   exact Or.inl ⟨p.mem_iff.1 (List.getElem_mem hk),by simp;exact fun e => hik ((bs_inj hnd hi hk).2 e.symm)⟩
 ·rintro (⟨he,hb⟩ | rfl)
  ·simp at hb
   obtain ⟨k,hk,rfl⟩:=List.getElem_of_mem (p.mem_iff.2 he)
   have hki:i ≠ k:=fun e => hb (by subst e;rfl)
   have:(E.set i (E[i].now u))[k]'(by rw [List.length_set];exact hk)=E[k]:=by rw [List.getElem_set,if_neg hki]
   rw [← this]
   exact List.getElem_mem (show k < (E.set i (E[i].now u)).length by rw [List.length_set];exact hk)
  ·exact List.mem_set hi _
theorem LF_alike {cb:Nat} {la:Option Addr} {cl:Nat} {E E':List Ent} (h:(E'.map Ent.b).Perm (E.map Ent.b)):∀ k,k∈LF cb la cl E'→k∈LF cb la cl E:=by
 intro k hk
 simp only [LF,List.mem_cons,List.mem_append] at hk ⊢
 exact hk.imp id (Or.imp id h.mem_iff.1)
theorem cuse_any (i:Nat) (B cb mb:Nat) (la:Option Addr) (cl:Nat) (E L:List Ent) (most uses db:Nat) (w:World) (h:CacheAt w B cb mb la cl E L most uses db) (hi:i < E.length) (hu:uses < 9223372036854775807) :
  Calls Tryz.prog 94 #[.pointer (some ⟨cb,0,none⟩),.pointer (some ⟨E[i].b,0,none⟩)] w fun e w' => e=.returned (.tuple #[])∧∃ E',CacheAt w' B cb mb la cl E' (used L E[i] (uses+1)) most (uses+1) db∧Chg (LF cb la cl E) w w':=by
 have c4:=h.c4
 have f4:=h.f4
 have he:=h.ln.e i hi
 have hm:=List.getElem_mem hi
 have hl:=h.ln.bl _ hm
 have u1:=he.cell 258 _ (entV_used hl)
 have u2:=he.frozen 258
 have hbc:=h.ln.nc _ hm
 have g1:Chg [cb] w (w.setCell ⟨cb,4,none⟩ (.int .u64 ((uses:Int)+1))):=Chg.setCell w ⟨cb,4,none⟩ _
 have g2:Chg [E[i].b] (w.setCell ⟨cb,4,none⟩ (.int .u64 ((uses:Int)+1))) ((w.setCell ⟨cb,4,none⟩ (.int .u64 ((uses:Int)+1))).setCell ⟨E[i].b,258,none⟩ (.int .u64 ((uses:Int)+1))):=Chg.setCell _ ⟨E[i].b,258,none⟩ _
 have hln1:=h.ln.cb g1 (by rw [World.cell?_setCell_other _ _ _ _ (by simp)]) (by rw [World.frozen?_setCell])
 have hx2:Blk ((w.setCell ⟨cb,4,none⟩ (.int .u64 ((uses:Int)+1))).setCell ⟨E[i].b,258,none⟩ (.int .u64 ((uses:Int)+1))) E[i].b 176 (entV (E[i].now (uses+1)) i):=by
  have:=(hln1.e i hi).set1 258 (.int .u64 ((uses+1:Nat):Int))
  rw [entV_setUsed hl] at this
  exact this
 have hln2:=hln1.upd hi (x:=(E[i].now (uses+1))) rfl hl g2 hx2
 have s2:=hx2.cell 259 _ (entV_spot (e:=(E[i].now (uses+1))) hl)
 go_enter Tryz.func94,Tryz.ntmps94
 go_wp2
 generalize hW:(w.setCell ⟨cb,4,none⟩ (.int .u64 ((uses:Int)+1))).setCell ⟨E[i].b,258,none⟩ (.int .u64 ((uses:Int)+1))=w2 at *
 have HW:=mkHid hW
 clear hW u1 u2 c4 f4 hx2
 go_region_with (first | (go_at_call 140;refine (hfix_any i B cb la cl (E.set i (E[i].now (uses+1))) _ (hln2.keep (by first | exact Chg.refl _ _ | exact Chg.drew _ _)) (by rw [List.length_set];exact hi) (by rw [List.length_set];exact down_set hi _ h.hp)).mono ?_;rintro e w3 ⟨rfl,E',h3,p3,H3,g3⟩))
 go_end0
 have hset:=set_alike hi (x:=(E[i].now (uses+1))) Ent.b rfl
 have hpE:(E'.map Ent.b).Perm (E.map Ent.b):=by rw [← hset];exact p3.map _
 have hP:E'.Perm (used L E[i] (uses+1)):=p3.trans (set_used h.ln.nd h.pm hi (uses+1))
 have g13:Chg (SF la cl E) (w.setCell ⟨cb,4,none⟩ (.int .u64 ((uses:Int)+1))) w3:=g2.trans ((Chg.drew [] w2).trans g3 (fun _ h _ => by simp at h) (fun _ h _ => h)) (fun k hk _ => by
  simp at hk
  simp only [SF,List.mem_append,List.mem_map]
  exact Or.inr ⟨_,hm,hk.symm⟩) (fun k hk _ => by simp only [SF,List.mem_append] at hk ⊢;rw [hset] at hk;exact hk)
 have hcbS:cb ∉ SF la cl E:=fun hk => by
  simp only [SF,List.mem_append,List.mem_map] at hk
  rcases hk with hk | ⟨e,he,e2⟩
  ·exact h.ln.cr hk
  ·exact h.ln.nc e he e2
 have hmbS:mb ∉ SF la cl E:=fun hk => h.mF (LF_of_SF _ hk)
 have hmc:mb ≠ cb:=fun e => h.mF (by simp [LF,e])
 have hcell:∀ j v,j ≠ 4→w.cell? ⟨cb,j,none⟩=some v→w3.cell? ⟨cb,j,none⟩=some v:=fun j v hj hv => g13.cellv (set_other' hv hj) hcbS
 have hlen:(used L E[i] (uses+1)).length=L.length:=by rw [← hP.length_eq,p3.length_eq,List.length_set,h.pm.length_eq]
 have hmem:∀ e∈used L E[i] (uses+1),e∈L ∨ e=(E[i].now (uses+1)):=fun e he => by
  unfold used at he
  rw [List.mem_append,List.mem_filter,List.mem_singleton] at he
  exact he.imp And.left id
 obtain ⟨D,hD⟩:=h.hd
 have hD3:=(hD.chg g1 (by simpa using hmc)).chg g13 hmbS
 refine ⟨rfl,E',⟨hcell 0 _ (by decide) h.c0,hcell 1 _ (by decide) h.c1,hcell 2 _ (by decide) h.c2,?_,?_,h3,H3,⟨D,(hD3.alike (set_alike hi (x:=E[i].now (uses+1)) (fun e => (e.pl,e.b)) rfl)).perm p3⟩,hP,?_,?_,?_,?_,by rw [hlen];exact h.le,h.mo,fun hk => h.mF (LF_alike hpE _ hk),h.mB⟩,?_⟩
 ·exact g13.cellv (World.cell?_setCell_same _ _ _ h.c4) hcbS
 ·exact (g13.frozen (p:=⟨cb,4,none⟩) (by rw [show (w.setCell ⟨cb,4,none⟩ (.int .u64 ((uses:Int)+1))).heap.size=w.heap.size by simp];exact block_lt_of_cell h.c4) hcbS).trans (by rw [World.frozen?_setCell];exact h.f4)
 ·unfold used
  refine List.pairwise_append.2 ⟨h.so.filter _,by simp,fun a ha b hb => ?_⟩
  simp at hb
  have:=h.us a (List.mem_filter.1 ha).1
  rw [hb]
  show a.used < uses+1
  omega
 ·intro e he
  rcases hmem e he with he | rfl
  ·have:=h.us e he;omega
  ·exact Nat.le_refl _
 ·have:((used L E[i] (uses+1)).map Ent.pl).Perm (L.map Ent.pl):=by
   refine (hP.symm.map _).trans ?_
   refine (p3.map _).trans ?_
   rw [set_alike hi (x:=E[i].now (uses+1)) Ent.pl rfl]
   exact h.pm.map _
  exact this.nodup_iff.2 h.np
 ·intro e he
  rcases hmem e he with he | rfl
  ·exact h.pl e he
  ·exact h.pl E[i] (h.pm.mem_iff.1 hm)
 ·exact g1.trans g13 (fun k hk _ => by simp at hk;simp [LF,hk]) (fun k hk _ => LF_of_SF k hk)
end
section
open Go.RowKit
attribute [local go_sem ↓] Go.wp_at_zero Go.wp_at_succ
theorem oneB:(Tryz.prog.info? 5).map (·.size)=some 1:=by kernel_rfl
end
section
open Go.RowKit
theorem DevAt.left {w:World} {B db:Nat} {g:DG} {fa:Option Addr} {cf:Nat} {st:RS} (h:DevAt w B db g fa cf st) (v:Nat) (hv:v < 9223372036854775808):DevAt (w.setCell ⟨db,3,none⟩ (.int .i64 v)) B db g fa cf { st with left:=v }:=
 h.setF (Chg.setCell w ⟨db,3,none⟩ _) (by rw [World.cell?_setCell_other _ _ _ _ (by simp)]) (by rw [World.cell?_setCell_other _ _ _ _ (by simp)]) (by rw [World.cell?_setCell_other _ _ _ _ (by simp)]) (World.cell?_setCell_same _ _ _ h.c3) (by rw [World.cell?_setCell_other _ _ _ _ (by simp)];exact h.c4) (fun j hj => by rw [World.frozen?_setCell];exact h.fz j hj) rfl rfl hv
theorem DevAt.goes {w:World} {B db:Nat} {g:DG} {fa:Option Addr} {cf:Nat} {st:RS} (h:DevAt w B db g fa cf st):DevAt ((w.setCell ⟨db,3,none⟩ (.int .i64 0)).setCell ⟨db,4,none⟩ (.bool true)) B db g fa cf { st with left:=0,gone:=true }:=by
 have h1:DevAt (w.setCell ⟨db,3,none⟩ (.int .i64 0)) B db g fa cf { st with left:=0 }:=h.left 0 (by decide)
 exact h1.setF (Chg.setCell _ ⟨db,4,none⟩ _) (by rw [World.cell?_setCell_other _ _ _ _ (by simp)]) (by rw [World.cell?_setCell_other _ _ _ _ (by simp)]) (by rw [World.cell?_setCell_other _ _ _ _ (by simp)]) (by rw [World.cell?_setCell_other _ _ _ _ (by simp)];exact h1.c3) (World.cell?_setCell_same _ _ _ h1.c4) (fun j hj => by rw [World.frozen?_setCell];exact h1.fz j hj) rfl rfl (by show 0 < _;decide)
theorem burn_gone (st:RS) (h:(burn st).1=true):st.left=1∧(burn st).2={ st with left:=0,gone:=true }:=by
 unfold burn at h ⊢
 split
 ·rename_i h0;simp [h0] at h
 ·split
  ·exact ⟨by assumption,rfl⟩
  ·rename_i h0 h1;simp [h0,h1] at h
theorem burn_not (st:RS) (h:(burn st).1=false):st.left ≠ 1∧(burn st).2={ st with left:=st.left - 1 }:=by
 unfold burn at h ⊢
 split
 ·rename_i h0
  refine ⟨by omega,?_⟩
  cases st;simp at h0;simp [h0]
 ·split
  ·rename_i h0 h1;simp [h0,h1] at h
  ·exact ⟨by assumption,rfl⟩
theorem fused_burns (f:Value) (B db:Nat) (g:DG) (fa:Option Addr) (cf:Nat) (st:RS) (w:World) (h:DevAt w B db g fa cf st) (hb:(burn st).1=true) :
  Calls Tryz.prog 194 #[.pointer (some ⟨db,0,none⟩),f] w fun e w' => e=.returned (.int .i64 9)∧DevAt w' B db g fa cf (burn st).2∧Chg [db] w w':=by
 obtain ⟨h1,h2⟩:=burn_gone st hb
 rw [h2]
 have c3:=h.c3
 have c4:=h.c4
 have f3:=h.fz 3 (by decide)
 have f4:=h.fz 4 (by decide)
 rw [h1] at c3
 go_enter Tryz.func194,Tryz.ntmps194
 go_wp2
 go_ret
 exact ⟨rfl,h.goes,(Chg.setCell w ⟨db,3,none⟩ _).trans (Chg.setCell _ ⟨db,4,none⟩ _) (fun _ h _ => h) (fun _ h _ => h)⟩
end
section
open Go.RowKit
def oneSlice (ps:Array (Nat × Value)):Sem Value:=Instr.buildSlice 144 1 ps
theorem one_slice (ps:Array (Nat × Value)):Instr.buildSlice 144 1 ps=oneSlice ps:=rfl
def oneFar (P:Program) (ps:Array (Nat × Value)) (w:World):Result Value:=(oneSlice ps).run P w
theorem fold_set:∀ (l:List Value) (k:Nat) (Z:Array Value),k+l.length≤Z.size→((l.zipIdx k).foldl (fun acc x => acc.setIfInBounds x.2 x.1) Z).toList=Z.toList.take k++(l++Z.toList.drop (k+l.length))
 | [],k,Z,_ => by simp
 | v :: r,k,Z,h => by
  simp at h
  have ih:=fold_set r (k+1) (Z.setIfInBounds k v) (by simp;omega)
  simp only [List.zipIdx_cons,List.foldl_cons]
  rw [ih]
  simp only [Array.toList_setIfInBounds,List.length_cons]
  rw [List.drop_set_of_lt (by omega),List.take_set,List.take_succ_eq_append_getElem (by simpa using (by omega:k < Z.size)),List.set_append_right _ _ (by simp [Nat.min_le_left])]
  simp
  rw [show min k Z.size=k by omega,Nat.sub_self]
  simp
  congr 1;omega
theorem run_one (cs:Array Value) (w:World):(oneSlice #[(0,.agg cs)]).run Tryz.prog w=if cs.size=65 then .ok (.slice (some ⟨w.heap.size,0,none⟩) 1 1) (w.alloc (.cells cs 242)) else oneFar Tryz.prog #[(0,.agg cs)] w:=by
 split
 ·rename_i h
  have hz:(Tryz.prog.info? 242).map (fun i => (i.zero,i.size))=some (some (.agg (Value.int .i64 0 :: List.replicate 64 (Value.int .u8 0)).toArray),65):=by kernel_rfl
  obtain ⟨i,hi,hi2⟩:=Option.map_eq_some_iff.1 hz
  simp only [Prod.mk.injEq] at hi2
  refine run_buildSlice w 144 242 1 _ cs i _ Tryz.underlying144 hi hi2.1 (by rw [hi2.2];decide) (by rw [hi2.2];decide) ?_
  rw [hi2.2]
  generalize hZ:(Array.range (1 * 65)).map _=Z
  have hZs:Z.size=65:=by rw [← hZ];simp
  have hv:(Value.agg cs).cells=cs:=rfl
  simp only [Instr.fill,hv,h,hZs]
  simp
  apply Array.ext'
  have:=fold_set cs.toList 0 Z (by simp;omega)
  rw [zqc,List.nil_append,List.drop_eq_nil_of_le (by simp;omega),List.append_nil] at this
  have e1:cs.size=cs.zipIdx.size:=by simp
  rw [e1,← Array.foldl_toList,Array.toList_zipIdx]
  exact this
 ·rfl
attribute [local go_sem ↓] Go.wp_at_zero Go.wp_at_succ wide65 one_slice
attribute [local go_sem] run_wide run_one
def zero64:List UInt8:=List.replicate 64 0
theorem zeroW (w:World):(zeroValue 242).run Tryz.prog w=.ok (.agg (Value.int .i64 0 :: bts zero64).toArray) w:=(zero_of_info (t:=242) (P:=Tryz.prog) (n:=65) (v:=.agg (Value.int .i64 0 :: bts zero64).toArray) (by kernel_rfl)).1 w
theorem keepC {W w w':World} {bx b:Nat} {v:Value} {o n:Nat} (h:w.cell? ⟨bx,2,none⟩=some v∧w.there b o n∧Chg [b] W w) (g:Chg [b] w w') (h1:bx ≠ b) (h4:w'.there b o n) :
  w'.cell? ⟨bx,2,none⟩=some v∧w'.there b o n∧Chg [b] W w':=
 ⟨g.cellv h.1 (by simpa using h1),h4,h.2.2.trans g (fun _ h _ => h) (fun k hk _ => hk)⟩
theorem DevAt.fly {w w6 w7:World} {B db:Nat} {g:DG} {fa:Option Addr} {cf:Nat} {st:RS} {ao:Option Addr} {c' s:Nat} {l:List UInt8} (h:DevAt w B db g fa cf st) (g6:Chg (fp fa cf) w w6)
  (hr6:RoomZ 65 w6 B ao (st.L.length+1) c' (flyC st.L++flyV (s,l))) (hf:fp ao c'=fp fa cf ∨ ∃ k,w.heap.size≤k∧fp ao c'=[k]) (hs:s < st.S.length) (hl:l.length=64)
  (gA:Chg [db] w6 w7) (e1:w7.cell? ⟨db,1,none⟩=some (.slice ao (st.L.length+1) c')) (ec6:∀ j,j ≠ 1→w7.cell? ⟨db,j,none⟩=w6.cell? ⟨db,j,none⟩) (ef6:∀ j,w7.frozen? ⟨db,j,none⟩=w6.frozen? ⟨db,j,none⟩) :
  DevAt (w7.setCell ⟨g.nb,g.no+s,none⟩ (.int .i64 ((st.L.length+1:Nat):Int))) B db g ao c' { st with L:=st.L++[(s,l)] }∧Chg (DF db g fa cf) w (w7.setCell ⟨g.nb,g.no+s,none⟩ (.int .i64 ((st.L.length+1:Nat):Int))):=by
 have hp:=h.pos
 have q1:=h.rS.le
 have q2:=h.rN.le
 have hlt:∀ k,k∈DF db g fa cf→k < w.heap.size:=fun k hk => (h.lt k hk).2
 have hnew:∀ k,k∈fp ao c'→k∈fp fa cf ∨ w.heap.size≤k:=fun k hk => by
  rcases hf with hf | ⟨j,hj,hf⟩
  ·rw [hf] at hk;exact Or.inl hk
  ·rw [hf] at hk;simp at hk;rw [hk];exact Or.inr hj
 have hdbl:=hlt db (by simp [DF])
 have hlbl:=hlt g.lb (by simp [DF])
 have hnbl:=hlt g.nb (by simp [DF])
 have m1:db ∉ fp ao c':=fun hm => (hnew db hm).elim h.f1 (fun hx => by omega)
 have m2:g.lb ∉ fp ao c':=fun hm => (hnew g.lb hm).elim h.f2 (fun hx => by omega)
 have m3:g.nb ∉ fp ao c':=fun hm => (hnew g.nb hm).elim h.f3 (fun hx => by omega)
 have ec:∀ j,j ≠ 1→w7.cell? ⟨db,j,none⟩=w.cell? ⟨db,j,none⟩:=fun j hj => (ec6 j hj).trans (g6.cell (p:=⟨db,j,none⟩) hdbl h.f1)
 have ef:∀ j,w7.frozen? ⟨db,j,none⟩=w.frozen? ⟨db,j,none⟩:=fun j => (ef6 j).trans (g6.frozen (p:=⟨db,j,none⟩) hdbl h.f1)
 have rS1:=(h.rS.chg g6 (fun k hk => by rw [fp_some _ _ _ (by omega)] at hk;simp at hk;rw [hk];exact h.f2)).chg gA (fun k hk => by rw [fp_some _ _ _ (by omega)] at hk;simp at hk ⊢;rw [hk];exact fun e => h.d1 e.symm)
 have rN1:=(h.rN.chg g6 (fun k hk => by rw [fp_some _ _ _ (by omega)] at hk;simp at hk;rw [hk];exact h.f3)).chg gA (fun k hk => by rw [fp_some _ _ _ (by omega)] at hk;simp at hk ⊢;rw [hk];exact fun e => h.d2 e.symm)
 have rL1:=hr6.chg gA (fun k hk => by simp;rintro rfl;exact m1 hk)
 have gw:Chg (DF db g fa cf) w w7:=g6.trans gA (fun k hk _ => by simp [DF,hk]) (fun k hk _ => by simp at hk;simp [DF,hk])
 have gB:Chg [g.nb] w7 (w7.setCell ⟨g.nb,g.no+s,none⟩ (.int .i64 ((st.L.length+1:Nat):Int))):=Chg.setCell w7 ⟨g.nb,g.no+s,none⟩ _
 have rN2:=rN1.set s hs (.int .i64 ((st.L.length+1:Nat):Int))
 rw [newC_snoc st.S.length st.L (s,l)] at rN2
 generalize w7.setCell ⟨g.nb,g.no+s,none⟩ (.int .i64 ((st.L.length+1:Nat):Int))=w8 at gB rN2 ⊢
 have n0:db ∉ [g.nb]:=by simpa using h.d2
 refine ⟨⟨gB.cellv ((ec 0 (by decide)).trans h.c0) n0,by simpa using gB.cellv e1 n0,gB.cellv ((ec 2 (by decide)).trans h.c2) n0,gB.cellv ((ec 3 (by decide)).trans h.c3) n0,gB.cellv ((ec 4 (by decide)).trans h.c4) n0,fun j hj => (gB.frozen (p:=⟨db,j,none⟩) (show db < w7.heap.size from block_lt_of_cell e1) n0).trans ((ef j).trans (h.fz j hj)),?_,?_,rN2,h.d1,h.d2,h.d3,m1,m2,m3,h.dB,h.lS,?_,h.lft,h.pos⟩,?_⟩
 ·exact rS1.chg gB (fun k hk => by rw [fp_some _ _ _ (by omega)] at hk;simp at hk ⊢;rw [hk];exact h.d3)
 ·have:=rL1.chg gB (fun k hk => by simp;rintro rfl;exact m3 hk)
  rw [← flyC_snoc] at this
  simpa using this
 ·intro f hf'
  rcases List.mem_append.1 hf' with hf' | hf'
  ·exact h.lL f hf'
  ·simp at hf';rw [hf'];exact ⟨hl,hs⟩
 ·exact gw.trans gB (fun _ h _ => h) (fun k hk _ => by simp at hk;simp [DF,hk])
theorem keepN {w w':World} {db b1 nb:Nat} {u v x:Value} (h:w.cell? ⟨db,1,none⟩=some u∧w.cell? ⟨db,2,none⟩=some v∧w.cell? ⟨b1,0,none⟩=some x) (g:Chg [nb] w w') (h1:db ≠ nb) (h2:b1 ≠ nb) :
  w'.cell? ⟨db,1,none⟩=some u∧w'.cell? ⟨db,2,none⟩=some v∧w'.cell? ⟨b1,0,none⟩=some x:=
 ⟨g.cellv h.1 (by simpa using h1),g.cellv h.2.1 (by simpa using h1),g.cellv h.2.2 (by simpa using h2)⟩
set_option maxRecDepth 100000 in
set_option maxHeartbeats 4000000 in
theorem send_any (A:Nat) (B db:Nat) (g:DG) (fa:Option Addr) (cf:Nat) (st:RS) (w:World) (h:DevAt w B db g fa cf st) (hA:4 * A+4≤st.S.length) (hA2:A≤1023) (hB:B≤w.heap.size) (hLb:st.L.length≤1000000000)
  (ab:Option Addr) (cb:Nat) (b:List UInt8) (gb:Reads w ab (bts b)) (gn:b.length=256) (gc:256≤cb) (gm:cb≤140737488355328) (hab:∀ k,k∈blk ab→k ∉ DF db g fa cf∧k < w.heap.size) :
  Calls Tryz.prog 195 #[.agg #[.pointer (some ⟨db,0,none⟩),.int .i64 A,.slice ab 256 cb]] w fun e w' => e=.returned (.tuple #[])∧∃ fa' cf',DevAt w' B db g fa' cf' { st with L:=st.L++flies A b 4 }∧Chg (DF db g fa cf) w w'∧∀ k,k∈fp fa' cf'→k∈fp fa cf ∨ w.heap.size≤k:=by
 obtain ⟨pb,po,rfl,_⟩:=gb (by rw [bts_length];omega)
 go_enter Tryz.func195,Tryz.ntmps195
 go_wp2_with fail
 generalize hbx:w.heap.size=bx at *
 generalize hW:w.alloc _=W
 have x0:W.cell? ⟨bx,0,none⟩=some (.pointer (some ⟨db,0,none⟩)):=by subst hW hbx;simp
 have x1:W.cell? ⟨bx,1,none⟩=some (.int .i64 A):=by subst hW hbx;simp
 have x2:W.cell? ⟨bx,2,none⟩=some (.slice (some ⟨pb,po,none⟩) 256 cb):=by subst hW hbx;simp
 have hgW:Chg [] w W:=by subst hW;exact Chg.alloc [] _ _
 have hzW:W.heap.size=bx+1:=by subst hW hbx;simp
 clear hW
 go_loopw [7] (fun i wr => ∃ (k:Nat) (fa':Option Addr) (cf':Nat),i=.int .i64 k∧k≤4∧DevAt wr B db g fa' cf' { st with L:=st.L++flies A b k }∧Chg (DF db g fa cf) W wr∧∀ k,k∈fp fa' cf'→k∈fp fa cf ∨ bx < k) (fun i _ => 4 - (Go.RowKit.intOf i).toNat)
 case atStart => exact ⟨0,fa,cf,rfl,by omega,by simpa [flies] using h.keep hgW,Chg.refl _ _,fun k hk => Or.inl hk⟩
 case round =>
  obtain ⟨k,fa',cf',rfl,hk,hr,hc,hsb⟩:=hrel
  by_cases hlt:k < 4
  ·have hbxF:∀ k,k∈DF db g fa cf→k < bx:=fun k hk => by have:=(h.lt k hk).2;omega
   have hnx:bx ∉ DF db g fa cf:=fun hm => by have:=hbxF bx hm;omega
   have y0:=hc.cellv x0 hnx
   have y1:=hc.cellv x1 hnx
   have y2:=hc.cellv x2 hnx
   have hrd:Reads wr (some ⟨pb,po,none⟩) (bts b):=(gb.keep hgW).chg hc (fun k hk => (hab k hk).1)
   obtain ⟨s,hs⟩:∃ s,s=4 * A+k:=⟨_,rfl⟩
   have hsS:s < st.S.length:=by omega
   have hs2:s≤4095:=by omega
   have hzw:=zeroW
   have hzl:(bts zero64).length=64:=by rw [bts_length];rfl
   generalize hzs:bts zero64=zs at hzw hzl
   have Hln:=mkHid (show (Value.int .i64 ((A:Int) * 4+(k:Int)) :: zs).length=flyZ.length by rw [List.length_cons,hzl];rfl)
   have Hone:=mkHid (show ∀ u∈(Value.int .i64 ((A:Int) * 4+(k:Int)) :: zs),u.oneCell'=true by intro u hu;rcases List.mem_cons.1 hu with rfl | hu;rfl;rw [← hzs] at hu;exact bts_one _ u hu)
   clear hzl
   have He:=mkHid (show (A:Int) * 4+(k:Int)=(s:Int) by omega)
   have hd:decide ((k:Int) < 4)=true:=decide_eq_true (by omega)
   go_wp2_with (first | (refine wpList_alloc_w rfl 242 rfl flyZ wideW ?_;intro w1 hb1 hg1 hs1) | (refine wpList_store_w rfl 242 (.tmp 4) (.tmp 15) rfl flyZ wideW _ flyZ (Value.int .i64 ((A:Int) * 4+(k:Int)) :: zs) hb1 rfl Hln.out Hone.out rfl rfl ?_;intro w2 hb2 hg2 hs2;rw [He.out] at hb2;have hg12:Chg [] wr w2:=hg1.trans hg2 (fun _ h _ => h) (fun k hk hlt => by simp at hk;omega)))
   have hb1l:wr.heap.size < w2.heap.size:=by omega
   have hbxr:bx < wr.heap.size:=by have:=hc.size;omega
   have hrlt:∀ k,k∈DF db g fa' cf'→k < wr.heap.size:=fun k hk => (hr.lt k hk).2
   have hpb:pb < wr.heap.size:=by have:=(hab pb (by simp [blk])).2;omega
   generalize hb1e:wr.heap.size=b1 at *
   have z2:=hg12.cellv y2 (by simp)
   have hth:w2.there b1 1 64:=hb2.there 1 64 (by have:=Hln.out;simp only [List.length_cons] at this ⊢;rw [this];decide)
   have hrs:Reads w2.drew (some ⟨pb,po+64 * k,none⟩) (bts (secOf b k)):=by
    have:=(((hrd.keep hg12).keep (Chg.drew [] w2)).drop (l:=64 * k)).take 64
    rwa [bts_drop,bts_take] at this
   have hsl:(bts (secOf b k)).length=64:=by rw [bts_length];simp [secOf];omega
   have Hsl:=mkHid hsl
   clear hsl
   have hne:bx ≠ b1:=by omega
   go_region_held3 (fun w' => w'.cell? ⟨bx,2,none⟩=some (.slice (some ⟨pb,po,none⟩) 256 cb)∧w'.there b1 1 64∧Chg [b1] w2 w')
    (first | exact keepC ⟨z2,hth,Chg.refl _ _⟩ (Chg.drew _ _) hne ((World.there_drew _ _ _ _).2 hth) | exact keepC (by assumption) (Chg.setCells b1 (bts (secOf b k)) 1 _) hne (World.there_setCells (And.left (And.right (by assumption))) _ _ _))
    (first | (go_at_call 142;refine (sectorOf_any pb po 256 cb k (by omega) (by unfold maxLen;omega) _).mono ?_;rintro e w' ⟨rfl,rfl⟩) | (refine step_copy_k rfl (.tmp 17) (.tmp 21) 27 27 5 rfl Tryz.underlying27 oneB b1 1 64 64 (some ⟨pb,po+64 * k,none⟩) 64 64 (bts (secOf b k)) rfl rfl hrs Hsl.out (by rw [Hsl.out];exact (World.there_drew _ _ _ _).2 hth) (bts_one _) ?_))
   have hb3:Blk (w2.drew.setCells b1 1 (bts (secOf b k))) b1 242 (flyV (s,secOf b k)):=by
    have:=Blk.sets (bts (secOf b k)) 1 w2.drew _ (hb2.keep (Chg.drew [] w2)) (by rw [Hsl.out];have:=Hln.out;simp only [List.length_cons] at this ⊢;rw [this];decide)
    rw [List.drop_eq_nil_of_le (by rw [Hsl.out];have:=Hln.out;simp only [List.length_cons] at this ⊢;rw [this];decide),List.append_nil] at this
    exact this
   have hg13:Chg [] wr (w2.drew.setCells b1 1 (bts (secOf b k))):=(hg12.then (Chg.drew [] w2)).trans (Chg.setCells b1 _ 1 _) (fun _ h _ => h) (fun k hk hlt => by simp at hk;omega)
   have hz3:(w2.drew.setCells b1 1 (bts (secOf b k))).heap.size=b1+1:=by rw [size_setCells];show w2.heap.size=_;omega
   have hsec:(secOf b k).length=64:=by have:=Hsl.out;rwa [bts_length] at this
   clear hg12 hs2 hb2 hth hrs z2 hzw
   generalize w2.drew.setCells b1 1 (bts (secOf b k))=W3 at *
   have h3:=hr.keep hg13
   obtain ⟨st2,hst2⟩:∃ st2,st2={ st with L:=st.L++flies A b k }:=⟨_,rfl⟩
   rw [← hst2] at h3
   have hst3:{ st2 with L:=st2.L++[(s,secOf b k)] }={ st with L:=st.L++flies A b (k+1) }:=by rw [hst2,flies_succ,hs];simp
   have hsS2:s < st2.S.length:=by rw [hst2];exact hsS
   have hL2:st2.L.length≤1000000004:=by rw [hst2];simp [flies];omega
   have Hst3:=mkHid hst3
   clear hst3 hst2
   have c1:=h3.c1
   have hrL:=h3.rL
   have hf1:=mkHid h3.f1
   have f1:=h3.fz 1 (by decide)
   have hB3:B≤W3.heap.size:=by omega
   have hnn:(st2.L.length+1) * 72≤140737488355328:=by omega
   have h63:st2.L.length+1≤maxLen:=by unfold maxLen;omega
   have c1':=(Chg.drew [] W3).cellv c1 (by simp)
   have c1a:=fun o => (Chg.alloc [] W3 o).cellv c1 (by simp)
   have hsz:=flyV_len (f:=(s,secOf b k)) hsec
   have Hsz:=mkHid hsz
   have Hs:=mkHid hs
   have Hb1e:=mkHid hb1e
   have Hz3:=mkHid hz3
   have Hsec:=mkHid hsec
   clear hs hb1e hz3 hsec hzs hrd hd
   have hbr:=hb3.range
   have hbr':W3.drew.rangeAt b1 0 (flyV (s,secOf b k)):=(World.rangeAt_drew _ _ _ _).2 hbr
   have hrN3:=h3.rN.chg (Chg.drew [] W3) (by simp)
   have hcn:st2.S.length≤g.cn:=hrN3.le
   have hfpn:=mkHid (show fp (some ⟨g.nb,g.no,none⟩) g.cn=[g.nb] from fp_some _ _ _ (by omega))
   obtain ⟨ht1,ht2⟩:=there_of_range hbr' Hsz.out
   go_wp2_with fail
   go_region_law (first | (refine step_append_zz rfl (.tmp 27) (.tmp 29) 144 rfl 242 65 72 (by decide) eltW B fa' st2.L.length cf' (flyC st2.L) rfl (hrL.chg (Chg.drew [] _) (by simp)) hB3 (flyV (s,secOf b k)).toArray 1 rfl Hsz.out (flyV_one _) h63 hnn ?_;intro a6 c6 w6 hr6 hg6 hf6;have k1:=hg6.cellv c1' hf1.out;have k2:w6.frozen? ⟨db,1,none⟩=false:=(hg6.frozen (p:=⟨db,1,none⟩) (show db < W3.heap.size from block_lt_of_cell c1) hf1.out).trans (by simpa using f1);have Hr6:=mkHid hr6;have Hg6:=mkHid hg6;have Hf6:=mkHid hf6;clear hr6 hg6 hf6))
   all_goals
    have hd1:=h3.d2
    have hd3:=h3.d3
    have q1:W3.drew.cell? ⟨db,2,none⟩=_:=(Chg.drew [] W3).cellv h3.c2 (by simp)
    have q2:=Hg6.out.cellv q1 hf1.out
    have hb1n:b1 ∉ fp fa' cf':=fun hm => by have:=hrlt b1 (by simp [DF,hm]);omega
    have q3:w6.cell? ⟨b1,0,none⟩=some (.int .i64 s):=Hg6.out.cellv (p:=⟨b1,0,none⟩) ((Chg.drew [] W3).cellv (hb3.cell 0 _ rfl) (by simp)) hb1n
    have hdb1:db ≠ b1:=fun e => by have:=hrlt db (by simp [DF]);omega
    have r1:(w6.setCell ⟨db,1,none⟩ (.slice a6 (st2.L.length+1) c6)).cell? ⟨db,1,none⟩=some (.slice a6 (st2.L.length+1) c6):=World.cell?_setCell_same _ _ _ k1
    have r2:(w6.setCell ⟨db,1,none⟩ (.slice a6 (st2.L.length+1) c6)).cell? ⟨db,2,none⟩=some (.slice (some ⟨g.nb,g.no,none⟩) st2.S.length g.cn):=by rw [World.cell?_setCell_other _ _ _ _ (by simp)];exact q2
    have r3:(w6.setCell ⟨db,1,none⟩ (.slice a6 (st2.L.length+1) c6)).cell? ⟨b1,0,none⟩=some (.int .i64 s):=by rw [World.cell?_setCell_other _ _ _ _ (by simp [Ne.symm hdb1])];exact q3
    have gA:Chg [db] w6 (w6.setCell ⟨db,1,none⟩ (.slice a6 (st2.L.length+1) c6)):=Chg.setCell w6 ⟨db,1,none⟩ _
    have rc:∀ j,j ≠ 1→(w6.setCell ⟨db,1,none⟩ (.slice a6 (st2.L.length+1) c6)).cell? ⟨db,j,none⟩=w6.cell? ⟨db,j,none⟩:=fun j hj => by rw [World.cell?_setCell_other _ _ _ _ (by simp [hj])]
    have rf:∀ j,(w6.setCell ⟨db,1,none⟩ (.slice a6 (st2.L.length+1) c6)).frozen? ⟨db,j,none⟩=w6.frozen? ⟨db,j,none⟩:=fun j => by rw [World.frozen?_setCell]
    have rN6:=(hrN3.chg Hg6.out (fun k hk => by rw [hfpn.out] at hk;simp at hk;rw [hk];exact h3.f3)).chg gA (fun k hk => by rw [hfpn.out] at hk;simp at hk ⊢;rw [hk];exact fun e => h3.d2 e.symm)
    have hfz:=rN6.cell s hsS2
    generalize hw7:w6.setCell ⟨db,1,none⟩ (.slice a6 (st2.L.length+1) c6)=w7 at *
    obtain ⟨_,_,en,_,_,hvN⟩:=rN6.at_ (by omega)
    cases en
    have rv:=hvN s _ (newC_get st2.S.length st2.L s hsS2)
    clear hvN hw7
    have hnbd:db ≠ g.nb:=h3.d2
    have hnb1:b1 ≠ g.nb:=fun e => by have:=hrlt g.nb (by simp [DF]);omega
    have hsi:(s:Int) < (st2.S.length:Int):=by omega
    have rvd:=(Chg.drew [] w7).cellv rv (by simp)
    have hfzd:w7.drew.frozen? ⟨g.nb,g.no+s,none⟩=false:=by simpa using hfz
    go_wp2_with fail
    go_region_held3 (fun w' => w'.cell? ⟨db,1,none⟩=some (.slice a6 (st2.L.length+1) c6)∧w'.cell? ⟨db,2,none⟩=some (.slice (some ⟨g.nb,g.no,none⟩) st2.S.length g.cn)∧w'.cell? ⟨b1,0,none⟩=some (.int .i64 s))
     (first | exact keepN ⟨r1,r2,r3⟩ (Chg.drew [g.nb] _) hnbd hnb1 | exact keepN (by assumption) (Chg.setCell _ ⟨g.nb,g.no+s,none⟩ _) hnbd hnb1)
     (fail)
    obtain ⟨hF1,hF2⟩:=DevAt.fly (h3.keep (Chg.drew [] W3)) Hg6.out Hr6.out Hf6.out hsS2 Hsec.out gA r1 rc rf
    have e9:((st2.L.length+1:Nat):Int)=(st2.L.length:Int)+1:=by omega
    rw [e9] at hF1 hF2
    rw [Hst3.out] at hF1
    clear e9
    have hF3:=hF1.keep (Chg.drew [] _)
    have hF4:=hF2.then (Chg.drew [] _)
    generalize (w7.setCell ⟨g.nb,g.no+s,none⟩ (.int .i64 ((st2.L.length:Int)+1))).drew=w9 at hF3 hF4 ⊢
    go_wp2_with fail
    refine ⟨⟨k+1,a6,c6,by go_num,by omega,hF3,(hc.then hg13).trans ((Chg.drew [] W3).trans hF4 (fun k hk _ => by simp at hk) (fun _ h _ => h)) (fun _ h _ => h) (fun j hj hlt => ?_),fun j hj => ?_⟩,by simp [Go.RowKit.intOf];omega⟩
    ·simp only [DF,List.mem_cons] at hj ⊢
     rcases hj with hj | hj | hj | hj
     ·exact Or.inl hj
     ·exact Or.inr (Or.inl hj)
     ·exact Or.inr (Or.inr (Or.inl hj))
     ·rcases hsb j hj with hx | hx
      ·exact Or.inr (Or.inr (Or.inr hx))
      ·omega
    ·rcases Hf6.out with hx | ⟨m,hm,hx⟩
     ·rw [hx] at hj;exact hsb j hj
     ·rw [hx] at hj
      simp at hj
      have hm':W3.heap.size≤m:=hm
      have:=Hz3.out
      exact Or.inr (by omega)
  ·have:k=4:=by omega
   subst this
   go_wp2_with fail
   go_end0
   exact ⟨rfl,fa',cf',hr,(hgW.trans hc (fun k hk _ => by simp at hk) (fun _ h _ => h)),fun j hj => (hsb j hj).imp id (fun hx => by omega)⟩
end
end Go.Proofs.YtdgkbicelnnfpaaGreatDoor
