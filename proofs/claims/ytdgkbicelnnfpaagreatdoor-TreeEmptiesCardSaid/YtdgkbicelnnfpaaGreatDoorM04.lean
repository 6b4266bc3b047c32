/- Texts Jc, Jd, Je of the library, joined. -/
import Derived.Test.YtdgkbicelnnfpaaGreatDoorM03
import Derived.Maps.OwnSet
import Derived.Lib.SlKeysI
import Derived.StillTailTactics
set_option linter.unusedVariables false
set_option linter.unusedSimpArgs false
namespace Go.Proofs.YtdgkbicelnnfpaaGreatDoor
section
open Go.RowKit
attribute [local go_sem ↓] Go.wp_at_zero Go.wp_at_succ
def key (E:List Ent) (k:Nat):Nat:=(E.map Ent.used).getD k 0
theorem key_lt {E:List Ent} {k:Nat} (h:k < E.length):key E k=E[k].used:=by simp [key,h]
theorem key_swp (E:List Ent) (i j:Nat) (hi:i < E.length) (hj:j < E.length) (k:Nat) (hk:k < E.length):key (swp E i j hi hj) k=if k=j then key E i else if k=i then key E j else key E k:=by
 rw [key_lt (by rw [swp_len];exact hk),swp_get,key_lt hi,key_lt hj,key_lt hk]
 split
 ·rfl
 ·split <;> rfl
def Heap (E:List Ent) (n:Nat):Prop:=∀ k,0 < k→k < n→key E ((k - 1) / 2)≤key E k
def UpOk (E:List Ent) (j n:Nat):Prop:=(∀ k,0 < k→k < n→k ≠ j→key E ((k - 1) / 2)≤key E k)∧∀ k,0 < k→k < n→(k - 1) / 2=j→0 < j→key E ((j - 1) / 2)≤key E k
def DownOk (E:List Ent) (i n:Nat):Prop:=(∀ k,0 < k→k < n→k ≠ i→(k - 1) / 2 ≠ i→key E ((k - 1) / 2)≤key E k)∧∀ k,0 < k→k < n→(k - 1) / 2=i→0 < i→key E ((i - 1) / 2)≤key E k
theorem up_swp {E:List Ent} {i j n:Nat} (hn:E.length=n) (h:UpOk E j n) (hj0:0 < j) (hj:j < E.length) (hij:i=(j - 1) / 2) (hi:i < E.length) (hlt:key E j < key E i):UpOk (swp E i j hi hj) i n:=by
 obtain ⟨h1,h2⟩:=h
 subst hij hn
 have hk:=key_swp E ((j - 1) / 2) j hi hj
 generalize hE':swp E ((j - 1) / 2) j hi hj=E' at hk ⊢
 clear hE'
 refine ⟨fun k k0 kn ki => ?_,fun k k0 kn kp i0 => ?_⟩
 ·rw [hk ((k - 1) / 2) (by omega),hk k kn]
  by_cases a:k=j
  ·subst a
   rw [if_neg (by omega),if_pos rfl,if_pos rfl]
   omega
  ·rw [if_neg a,if_neg ki]
   by_cases b:(k - 1) / 2=j
   ·rw [if_pos b]
    exact h2 k k0 kn b hj0
   ·rw [if_neg b]
    by_cases c:(k - 1) / 2=(j - 1) / 2
    ·rw [if_pos c]
     have:=h1 k k0 kn a
     rw [c] at this
     omega
    ·rw [if_neg c]
     exact h1 k k0 kn a
 ·rw [hk (((j - 1) / 2 - 1) / 2) (by omega),hk k kn,if_neg (by omega),if_neg (by omega)]
  have hp:=h1 ((j - 1) / 2) i0 (by omega) (by omega)
  by_cases a:k=j
  ·rw [if_pos a]
   exact hp
  ·rw [if_neg a,if_neg (by omega)]
   have:=h1 k k0 kn a
   rw [kp] at this
   omega
theorem up_end {E:List Ent} {j:Nat} (h:UpOk E j E.length) (hj:j=0 ∨ key E ((j - 1) / 2)≤key E j):Heap E E.length:=by
 intro k k0 kn
 by_cases a:k=j
 ·rcases hj with hj | hj
  ·omega
  ·rw [a];exact hj
 ·exact h.1 k k0 kn a
theorem down_swp {E:List Ent} {i j n:Nat} (h:DownOk E i n) (hn:n≤E.length) (hj:j < n) (hp:(j - 1) / 2=i) (hj0:0 < j) (hlt:key E j < key E i) (hmin:∀ k,0 < k→k < n→(k - 1) / 2=i→key E j≤key E k) :
  DownOk (swp E i j (by omega) (by omega)) j n∧key (swp E i j (by omega) (by omega)) ((j - 1) / 2)≤key (swp E i j (by omega) (by omega)) j:=by
 obtain ⟨h1,h2⟩:=h
 have hi:i < E.length:=by omega
 have hk:=key_swp E i j hi (by omega)
 generalize hE':swp E i j hi (by omega)=E' at hk ⊢
 clear hE'
 refine ⟨⟨fun k k0 kn ki kp => ?_,fun k k0 kn kp j0 => ?_⟩,?_⟩
 ·rw [hk ((k - 1) / 2) (by omega),hk k (by omega),if_neg kp,if_neg ki]
  by_cases a:k=i
  ·rw [if_pos a,if_neg (by omega)]
   subst a
   exact h2 j hj0 hj hp k0
  ·rw [if_neg a]
   by_cases b:(k - 1) / 2=i
   ·rw [if_pos b]
    exact hmin k k0 kn b
   ·rw [if_neg b]
    exact h1 k k0 kn a b
 ·rw [hk ((j - 1) / 2) (by omega),hk k (by omega),if_neg (by omega),if_pos hp,if_neg (by omega),if_neg (by omega)]
  have:=h1 k k0 kn (by omega) (by omega)
  rw [kp] at this
  exact this
 ·rw [hk ((j - 1) / 2) (by omega),hk j (by omega),if_neg (by omega),if_pos hp,if_pos rfl]
  omega
theorem down_end {E:List Ent} {i n:Nat} (h:DownOk E i n) (hmin:∀ k,0 < k→k < n→(k - 1) / 2=i→key E i≤key E k):UpOk E i n:=by
 refine ⟨fun k k0 kn ki => ?_,h.2⟩
 by_cases a:(k - 1) / 2=i
 ·rw [a];exact hmin k k0 kn a
 ·exact h.1 k k0 kn ki a
theorem heap_top {E:List Ent} {n:Nat} (h:Heap E n):∀ k,k < n→key E 0≤key E k:=by
 intro k
 induction k using Nat.strongRecOn with
 | _ k ih =>
  intro hk
  by_cases a:k=0
  ·rw [a];exact Nat.le_refl _
  ·exact Nat.le_trans (ih ((k - 1) / 2) (by omega) (by omega)) (h k (by omega) hk)
theorem less_key (i j:Nat) (b:Bool) (B cb:Nat) (la:Option Addr) (cl:Nat) (E:List Ent) (w:World) (h:LineAt w B cb la cl E) (hi:i < E.length) (hj:j < E.length) (hb:decide (key E i < key E j)=b) :
  Calls Tryz.prog 216 #[.slice la E.length cl,.int .i64 i,.int .i64 j] w fun e w' => e=.returned (.bool b)∧Chg [] w w':=by
 rw [← hb,key_lt hi,key_lt hj]
 exact less_any i j B cb la cl E w h hi hj
def SF (la:Option Addr) (cl:Nat) (E:List Ent):List Nat:=fp la cl++E.map Ent.b
theorem SF_perm {la:Option Addr} {cl:Nat} {E E':List Ent} (h:E'.Perm E):∀ k,k∈SF la cl E'→k∈SF la cl E:=by
 intro k hk
 simp only [SF,List.mem_append] at hk ⊢
 exact hk.imp id (fun h1 => (h.map _).mem_iff.1 h1)
set_option maxRecDepth 20000 in
theorem up_any (j0:Nat) (B cb:Nat) (la:Option Addr) (cl:Nat) (E:List Ent) (w:World) (h:LineAt w B cb la cl E) (hj:j0 < E.length) (hu:UpOk E j0 E.length) :
  Calls Tryz.prog 172 #[.iface 217 (.pointer (some ⟨cb,3,none⟩)),.int .i64 j0] w fun e w' => e=.returned (.tuple #[])∧∃ E',LineAt w' B cb la cl E'∧E'.Perm E∧Heap E' E.length∧Chg (SF la cl E) w w':=by
 have hsm:=h.sm
 go_enter Tryz.func172,Tryz.ntmps172
 go_wp2
 go_loopw [1] (fun v wr => ∃ (j:Nat) (D:List Ent),v=.int .i64 j∧j < E.length∧LineAt wr B cb la cl D∧D.Perm E∧UpOk D j E.length∧Chg (SF la cl E) w wr) (fun v _ => (Go.RowKit.intOf v).toNat)
 case atStart => exact ⟨j0,E,rfl,hj,h,List.Perm.refl _,hu,Chg.refl _ _⟩
 case round =>
  obtain ⟨j,D,rfl,hjn,hD,hp,hU,hc⟩:=hrel
  have hlen:=hp.length_eq
  by_cases hj0:j=0
  ·subst hj0
   have hH:=up_end (by rw [hlen];exact hU) (Or.inl rfl)
   go_wp2
   go_end0
   exact ⟨rfl,D,hD,hp,by rw [← hlen];exact hH,hc⟩
  ·obtain ⟨m,rfl⟩:∃ m,j=m+1:=⟨j - 1,by omega⟩
   obtain ⟨p,hp2⟩:∃ p,p=m / 2:=⟨_,rfl⟩
   have hq:(m:Int) / 2=(p:Int):=by omega
   have hpm:p < m+1:=by omega
   have hmb:m < 100000:=by omega
   have Hp:=mkHid hp2
   clear hp2
   have HU:=mkHid hU
   have HL:=mkHid hlen
   clear hU hlen
   have mL:=meth_less cb 3 la D.length cl wr hD.c3
   have hDp:p < D.length:=by have:=HL.out;omega
   have hDm:m+1 < D.length:=by have:=HL.out;omega
   have hne:((p:Int) == (m:Int)+1)=false:=beq_eq_false_iff_ne.2 (by omega)
   by_cases hlt:key D (m+1) < key D p
   ·have lA:=less_key (m+1) p true B cb la cl D wr hD hDm hDp (decide_eq_true hlt)
    go_wp2_with (first | (go_at_call 216;refine lA.mono ?_;rintro e w2 ⟨rfl,hg2⟩;have hD2:=hD.keep hg2;have mS:=meth_swap cb 3 la D.length cl w2 hD2.c3) | (go_at_call 217;refine (swap_any p (m+1) B cb la cl D w2 hD2 hDp hDm).mono ?_;rintro e w3 ⟨rfl,hD3,hg3⟩))
    have hU3:=up_swp (i:=p) (j:=m+1) HL.out HU.out (by omega) hDm (by rw [Hp.out,Nat.add_sub_cancel]) hDp hlt
    refine ⟨⟨p,_,rfl,by omega,hD3,(swp_perm D p (m+1) hDp hDm).trans hp,hU3,(hc.then hg2).trans hg3 (fun _ h _ => h) (fun k hk _ => SF_perm hp k hk)⟩,by simp [Go.RowKit.intOf];omega⟩
   ·have lA:=less_key (m+1) p false B cb la cl D wr hD hDm hDp (decide_eq_false hlt)
    have hH:=up_end (E:=D) (j:=m+1) (by rw [HL.out];exact HU.out) (Or.inr (by simp only [Nat.add_sub_cancel,← Hp.out];omega))
    rw [HL.out] at hH
    have HH:=mkHid hH
    clear hH
    go_wp2_with (first | (go_at_call 216;refine lA.mono ?_;rintro e w2 ⟨rfl,hg2⟩))
    go_end0
    exact ⟨rfl,D,hD.keep hg2,hp,HH.out,hc.then hg2⟩
set_option maxRecDepth 20000 in
set_option maxHeartbeats 2000000 in
theorem down_any (i0 n:Nat) (B cb:Nat) (la:Option Addr) (cl:Nat) (E:List Ent) (w:World) (h:LineAt w B cb la cl E) (hn:n≤E.length) (hi:i0≤100000) (hu:DownOk E i0 n) :
  Calls Tryz.prog 173 #[.iface 217 (.pointer (some ⟨cb,3,none⟩)),.int .i64 i0,.int .i64 n] w fun e w' => ∃ (b:Bool) (E':List Ent),e=.returned (.bool b)∧LineAt w' B cb la cl E'∧E'.Perm E∧(∀ k,n≤k→E'[k]?=E[k]?)∧(b=true→Heap E' n)∧(b=false→UpOk E' i0 n)∧Chg (SF la cl E) w w':=by
 have hsm:=h.sm
 go_enter Tryz.func173,Tryz.ntmps173
 go_wp2
 go_loopw [7] (fun v wr => ∃ (i:Nat) (D:List Ent),v=.int .i64 i∧i0≤i∧i≤100000∧LineAt wr B cb la cl D∧D.Perm E∧DownOk D i n∧(∀ k,n≤k→D[k]?=E[k]?)∧(i0 < i→0 < i∧i < n∧key D ((i - 1) / 2)≤key D i)∧Chg (SF la cl E) w wr) (fun v _ => 100000 - (Go.RowKit.intOf v).toNat)
 case atStart => exact ⟨i0,E,rfl,Nat.le_refl _,hi,h,List.Perm.refl _,hu,fun _ _ => rfl,fun h => absurd h (Nat.lt_irrefl _),Chg.refl _ _⟩
 case round =>
  obtain ⟨i,D,rfl,hi0,hib,hD,hp,hU,hout,hpar,hc⟩:=hrel
  have hlen:=hp.length_eq
  by_cases hj:2 * i+1 < n
  ·obtain ⟨j1,hj1⟩:∃ j1,j1=2 * i+1:=⟨_,rfl⟩
   rw [← hj1] at hj
   have e1:2 * (i:Int)+1=(j1:Int):=by omega
   have J1:=mkHid hj1
   have hDi:i < D.length:=by omega
   have hD1:j1 < D.length:=by omega
   have d1:decide (n≤j1)=false:=decide_eq_false (by omega)
   have d1':decide ((n:Int)≤(j1:Int))=false:=decide_eq_false (by omega)
   have d2:decide ((j1:Int) < 0)=false:=decide_eq_false (by omega)
   have hj1b:j1 < 100000:=by omega
   have mL:=meth_less cb 3 la D.length cl wr hD.c3
   have stop:∀ J,J < n→0 < J→(J - 1) / 2=i→(∀ k,0 < k→k < n→(k - 1) / 2=i→key D J≤key D k)→¬ key D J < key D i→(decide (i0 < i)=true→Heap D n)∧(decide (i0 < i)=false→UpOk D i0 n):=by
    intro J a1 a2 a3 a4 a5
    have hup:UpOk D i n:=down_end hU (fun k k0 kn kp => by have:=a4 k k0 kn kp;omega)
    refine ⟨fun h1 => ?_,fun h1 => ?_⟩
    ·obtain ⟨h2,h3,h4⟩:=hpar (by simpa using h1)
     intro k k0 kn
     by_cases a:k=i
     ·rw [a];exact h4
     ·exact hup.1 k k0 kn a
    ·have:i0=i:=by simp at h1;omega
     rw [this];exact hup
   have goes:∀ J (hJ:J < D.length),J < n→0 < J→(J - 1) / 2=i→(∀ k,0 < k→k < n→(k - 1) / 2=i→key D J≤key D k)→key D J < key D i →
     (swp D i J hDi hJ).Perm E∧DownOk (swp D i J hDi hJ) J n∧(∀ k,n≤k→(swp D i J hDi hJ)[k]?=E[k]?)∧key (swp D i J hDi hJ) ((J - 1) / 2)≤key (swp D i J hDi hJ) J:=by
    intro J hJ a1 a2 a3 a4 a5
    obtain ⟨b1,b2⟩:=down_swp hU (by omega) a1 a3 a2 a5 a4
    refine ⟨(swp_perm D i J hDi hJ).trans hp,b1,fun k hk => ?_,b2⟩
    rw [← hout k hk]
    unfold swp
    rw [List.getElem?_set_ne (by omega),List.getElem?_set_ne (by omega)]
   have Stop:=mkHid stop
   have Goes:=mkHid goes
   have HL:=mkHid hlen
   have HO:=mkHid hout
   clear stop goes hU hout hpar hlen hj1
   by_cases hj2:j1+1 < n
   ·have hD2:j1+1 < D.length:=by have:=HL.out;omega
    have d3:decide (j1+1 < n)=true:=decide_eq_true hj2
    have d3':decide ((j1:Int)+1 < (n:Int))=true:=decide_eq_true (by omega)
    by_cases hlt:key D (j1+1) < key D j1
    ·have hmin:∀ k,0 < k→k < n→(k - 1) / 2=i→key D (j1+1)≤key D k:=fun k k0 kn kp => by
      have:k=j1 ∨ k=j1+1:=by have:=J1.out;omega
      rcases this with rfl | rfl <;> omega
     have Hm:=mkHid hmin
     clear hmin
     by_cases hgo:key D (j1+1) < key D i
     ·have tok:True:=trivial
      go_wp2_with (first | (go_at_call 216;have _t:=tok;refine (less_key (j1+1) j1 true B cb la cl D wr hD hD2 hD1 (decide_eq_true hlt)).mono ?_;rintro e w2 ⟨rfl,hg2⟩;clear tok;have hE2:=hD.keep hg2;have mL2:=meth_less cb 3 la D.length cl w2 hE2.c3) | (go_at_call 216;refine (less_key (j1+1) i true B cb la cl D w2 hE2 hD2 hDi (decide_eq_true hgo)).mono ?_;rintro e w3 ⟨rfl,hg3⟩;have hE3:=hE2.keep hg3;have mS:=meth_swap cb 3 la D.length cl w3 hE3.c3) | (go_at_call 217;refine (swap_any i (j1+1) B cb la cl D w3 hE3 hDi hD2).mono ?_;rintro e w4 ⟨rfl,hE4,hg4⟩))
      obtain ⟨p1,p2,p3,p4⟩:=Goes.out (j1+1) hD2 hj2 (by omega) (by have:=J1.out;omega) Hm.out hgo
      have h9:=J1.out
      exact ⟨⟨j1+1,_,by first | rfl | go_num,by omega,by omega,hE4,p1,p2,p3,fun _ => ⟨by omega,hj2,p4⟩,((hc.then hg2).then hg3).trans hg4 (fun _ h _ => h) (fun k hk _ => SF_perm hp k hk)⟩,by simp [Go.RowKit.intOf];omega⟩
     ·have tok:True:=trivial
      go_wp2_with (first | (go_at_call 216;have _t:=tok;refine (less_key (j1+1) j1 true B cb la cl D wr hD hD2 hD1 (decide_eq_true hlt)).mono ?_;rintro e w2 ⟨rfl,hg2⟩;clear tok;have hE2:=hD.keep hg2;have mL2:=meth_less cb 3 la D.length cl w2 hE2.c3) | (go_at_call 216;refine (less_key (j1+1) i false B cb la cl D w2 hE2 hD2 hDi (decide_eq_false hgo)).mono ?_;rintro e w3 ⟨rfl,hg3⟩;have hE3:=hE2.keep hg3))
      go_ret
      obtain ⟨p1,p2⟩:=Stop.out (j1+1) hj2 (by omega) (by have:=J1.out;omega) Hm.out hgo
      exact ⟨decide (i0 < i),D,rfl,hE3,hp,HO.out,p1,p2,(hc.then hg2).then hg3⟩
    ·have hmin:∀ k,0 < k→k < n→(k - 1) / 2=i→key D (j1)≤key D k:=fun k k0 kn kp => by
      have:k=j1 ∨ k=j1+1:=by have:=J1.out;omega
      rcases this with rfl | rfl <;> omega
     have Hm:=mkHid hmin
     clear hmin
     by_cases hgo:key D (j1) < key D i
     ·have tok:True:=trivial
      go_wp2_with (first | (go_at_call 216;have _t:=tok;refine (less_key (j1+1) j1 false B cb la cl D wr hD hD2 hD1 (decide_eq_false hlt)).mono ?_;rintro e w2 ⟨rfl,hg2⟩;clear tok;have hE2:=hD.keep hg2;have mL2:=meth_less cb 3 la D.length cl w2 hE2.c3) | (go_at_call 216;refine (less_key (j1) i true B cb la cl D w2 hE2 hD1 hDi (decide_eq_true hgo)).mono ?_;rintro e w3 ⟨rfl,hg3⟩;have hE3:=hE2.keep hg3;have mS:=meth_swap cb 3 la D.length cl w3 hE3.c3) | (go_at_call 217;refine (swap_any i (j1) B cb la cl D w3 hE3 hDi hD1).mono ?_;rintro e w4 ⟨rfl,hE4,hg4⟩))
      obtain ⟨p1,p2,p3,p4⟩:=Goes.out (j1) hD1 hj (by omega) (by have:=J1.out;omega) Hm.out hgo
      have h9:=J1.out
      exact ⟨⟨j1,_,by first | rfl | go_num,by omega,by omega,hE4,p1,p2,p3,fun _ => ⟨by omega,hj,p4⟩,((hc.then hg2).then hg3).trans hg4 (fun _ h _ => h) (fun k hk _ => SF_perm hp k hk)⟩,by simp [Go.RowKit.intOf];omega⟩
     ·have tok:True:=trivial
      go_wp2_with (first | (go_at_call 216;have _t:=tok;refine (less_key (j1+1) j1 false B cb la cl D wr hD hD2 hD1 (decide_eq_false hlt)).mono ?_;rintro e w2 ⟨rfl,hg2⟩;clear tok;have hE2:=hD.keep hg2;have mL2:=meth_less cb 3 la D.length cl w2 hE2.c3) | (go_at_call 216;refine (less_key (j1) i false B cb la cl D w2 hE2 hD1 hDi (decide_eq_false hgo)).mono ?_;rintro e w3 ⟨rfl,hg3⟩;have hE3:=hE2.keep hg3))
      go_ret
      obtain ⟨p1,p2⟩:=Stop.out (j1) hj (by omega) (by have:=J1.out;omega) Hm.out hgo
      exact ⟨decide (i0 < i),D,rfl,hE3,hp,HO.out,p1,p2,(hc.then hg2).then hg3⟩
   ·have d3:decide (j1+1 < n)=false:=decide_eq_false hj2
    have d3':decide ((j1:Int)+1 < (n:Int))=false:=decide_eq_false (by omega)
    have hmin:∀ k,0 < k→k < n→(k - 1) / 2=i→key D (j1)≤key D k:=fun k k0 kn kp => by
     have:k=j1:=by have:=J1.out;omega
     rw [this];exact Nat.le_refl _
    have Hm:=mkHid hmin
    clear hmin
    by_cases hgo:key D (j1) < key D i
    ·go_wp2_with (first | (go_at_call 216;refine (less_key (j1) i true B cb la cl D wr hD hD1 hDi (decide_eq_true hgo)).mono ?_;rintro e w3 ⟨rfl,hg3⟩;have hE3:=hD.keep hg3;have mS:=meth_swap cb 3 la D.length cl w3 hE3.c3) | (go_at_call 217;refine (swap_any i (j1) B cb la cl D w3 hE3 hDi hD1).mono ?_;rintro e w4 ⟨rfl,hE4,hg4⟩))
     obtain ⟨p1,p2,p3,p4⟩:=Goes.out (j1) hD1 hj (by omega) (by have:=J1.out;omega) Hm.out hgo
     have h9:=J1.out
     exact ⟨⟨j1,_,by first | rfl | go_num,by omega,by omega,hE4,p1,p2,p3,fun _ => ⟨by omega,hj,p4⟩,((hc).then hg3).trans hg4 (fun _ h _ => h) (fun k hk _ => SF_perm hp k hk)⟩,by simp [Go.RowKit.intOf];omega⟩
    ·go_wp2_with (first | (go_at_call 216;refine (less_key (j1) i false B cb la cl D wr hD hD1 hDi (decide_eq_false hgo)).mono ?_;rintro e w3 ⟨rfl,hg3⟩;have hE3:=hD.keep hg3))
     go_ret
     obtain ⟨p1,p2⟩:=Stop.out (j1) hj (by omega) (by have:=J1.out;omega) Hm.out hgo
     exact ⟨decide (i0 < i),D,rfl,hE3,hp,HO.out,p1,p2,(hc).then hg3⟩
  ·have hfin:Heap D n ∨ i0=i:=by
    rcases Nat.lt_or_ge i0 i with h1 | h1
    ·left
     obtain ⟨h2,h3,h4⟩:=hpar h1
     intro k k0 kn
     by_cases a:k=i
     ·rw [a];exact h4
     ·exact hU.1 k k0 kn a (by omega)
    ·right;omega
   have hup:UpOk D i n:=down_end hU (fun k k0 kn kp => by omega)
   have Hf:=mkHid hfin
   have Hu:=mkHid hup
   have Ho:=mkHid hout
   clear hfin hup hout hU hpar hlen
   have hd:decide ((n:Int)≤2 * (i:Int)+1)=true:=decide_eq_true (by omega)
   go_wp2_with fail
   go_ret
   exact ⟨decide (i0 < i),D,rfl,hD,hp,Ho.out,fun h1 => Hf.out.resolve_right (by simp at h1;omega),fun h1 => by
    have:i0=i:=by simp at h1;omega
    rw [this];exact Hu.out,hc⟩
end
section
open Go.RowKit
attribute [local go_sem ↓] Go.wp_at_zero Go.wp_at_succ
theorem eltL:Elt Tryz.prog 151 170 8:=Elt.mk (z:=.pointer none) Tryz.underlying151 (by kernel_rfl) (by kernel_rfl)
theorem Room.shorten {w:World} {B:Nat} {ao:Option Addr} {n c:Nat} {xs:List Value} (h:Room w B ao n c xs) {m:Nat} (hm:m≤n):Room w B ao m c (xs.take m):=by
 have h1:=h.len
 have h2:=h.le
 refine ⟨by simp;omega,by omega,h.max,fun hc => ?_⟩
 obtain ⟨b,o,e,hB,hs,hv⟩:=h.at_ hc
 refine ⟨b,o,e,hB,hs,fun j u hu => hv j u ?_⟩
 rw [List.getElem?_take] at hu
 split at hu
 ·exact hu
 ·cases hu
def Only3 (cb:Nat) (w w':World):Prop:=∀ j,j ≠ 3→w'.cell? ⟨cb,j,none⟩=w.cell? ⟨cb,j,none⟩∧w'.frozen? ⟨cb,j,none⟩=w.frozen? ⟨cb,j,none⟩
theorem Only3.of {cb:Nat} {S:List Nat} {w w':World} (c:Chg S w w') (hcb:cb ∉ S) (hlt:cb < w.heap.size):Only3 cb w w':=fun j _ => ⟨c.cell (p:=⟨cb,j,none⟩) hlt hcb,c.frozen (p:=⟨cb,j,none⟩) hlt hcb⟩
theorem Only3.set (cb:Nat) (w:World) (v:Value):Only3 cb w (w.setCell ⟨cb,3,none⟩ v):=fun j hj => ⟨by rw [World.cell?_setCell_other _ _ _ _ (by simp [hj])],by rw [World.frozen?_setCell]⟩
theorem Only3.trans {cb:Nat} {a b c:World} (h:Only3 cb a b) (g:Only3 cb b c):Only3 cb a c:=fun j hj => ⟨(g j hj).1.trans (h j hj).1,(g j hj).2.trans (h j hj).2⟩
theorem cb_SF {w:World} {B cb:Nat} {la:Option Addr} {cl:Nat} {E:List Ent} (h:LineAt w B cb la cl E):cb ∉ SF la cl E:=fun hk => by
 simp only [SF,List.mem_append,List.mem_map] at hk
 rcases hk with hk | ⟨e,he,e2⟩
 ·exact h.cr hk
 ·exact h.nc e he e2
theorem assert_block (p:Addr) (w:World):(Instr.typeAssert (.iface 170 (.pointer (some p))) 20 170 false).run Tryz.prog w=.ok (.pointer (some p)) w:=by kernel_rfl
set_option maxRecDepth 20000 in
theorem wpush_any (x:Ent) (s0:Nat) (B cb:Nat) (la:Option Addr) (cl:Nat) (E:List Ent) (w:World) (h:LineAt w B cb la cl E) (hB:B≤w.heap.size) (hx:Blk w x.b 176 (entV x s0)) (hxl:x.bs.length=256) (hxF:x.b ∉ LF cb la cl E) (hxB:B≤x.b) (hsm:E.length < 100000) :
  Calls Tryz.prog 223 #[.pointer (some ⟨cb,3,none⟩),.iface 170 (.pointer (some ⟨x.b,0,none⟩))] w fun e w' => e=.returned (.tuple #[])∧∃ la' cl',LineAt w' B cb la' cl' (E++[x])∧Chg (x.b :: LF cb la cl E) w w'∧(∀ k,k∈fp la' cl'→k∈fp la cl ∨ w.heap.size≤k)∧Only3 cb w w':=by
 have c3:=h.c3
 have f3:=h.f3
 have ux:=hx.cell 259 _ (entV_spot hxl)
 have gx:=hx.frozen 259
 have ta:=assert_block ⟨x.b,0,none⟩
 go_enter Tryz.func223,Tryz.ntmps223
 have hxcb:x.b ≠ cb:=fun e => hxF (by simp [LF,e])
 have hxfp:x.b ∉ fp la cl:=fun hm => hxF (by simp [LF,hm])
 have hxE:∀ e∈E,e.b ≠ x.b:=fun e he h9 => hxF (by simp only [LF,List.mem_cons,List.mem_append,List.mem_map];exact Or.inr (Or.inr ⟨e,he,h9⟩))
 have g1:Chg [x.b] w (w.setCell ⟨x.b,259,none⟩ (.int .i64 E.length)):=Chg.setCell w ⟨x.b,259,none⟩ _
 have hR:=h.r.chg g1 (fun k hk hm => by simp at hm;rw [hm] at hk;exact hxfp hk)
 have hx1:=hx.set1 259 (.int .i64 E.length)
 rw [entV_setSpot hxl] at hx1
 have c31:=g1.cellv c3 (by simpa using fun e => hxcb e.symm)
 have f31:=(g1.frozen (p:=⟨cb,3,none⟩) (block_lt_of_cell c3) (by simpa using fun e => hxcb e.symm)).trans f3
 have hE1:∀ i (hi:i < E.length),Blk (w.setCell ⟨x.b,259,none⟩ (.int .i64 E.length)) E[i].b 176 (entV E[i] i):=fun i hi => (h.e i hi).chg g1 (by simpa using hxE _ (List.getElem_mem hi))
 have hB1:B≤(w.setCell ⟨x.b,259,none⟩ (.int .i64 E.length)).heap.size:=by simpa using hB
 have HE:=mkHid hE1
 have HZ:=mkHid (show (w.setCell ⟨x.b,259,none⟩ (.int .i64 E.length)).heap.size=w.heap.size by simp)
 clear hE1
 go_wp2_with (at_builtin;refine wpList_append_1 _ rfl (.tmp 17) (.tmp 19) 151 rfl 170 8 eltL B la E.length cl (E.map ptrV) rfl hR hB1 (ptrV x) 1 (by rw [HZ.out];rfl) rfl (by unfold maxLen;omega) (by omega) ?_;intro la' cl' w3 hR3 hg3 hf3;have c33:=hg3.cellv c31 h.cr;have f33:=(hg3.frozen (p:=⟨cb,3,none⟩) (block_lt_of_cell c31) h.cr).trans f31)
 go_end0
 have hE1:=HE.out
 have hz:=HZ.out
 have g2:Chg (x.b :: LF cb la cl E) w w3:=g1.trans hg3 (fun k hk _ => by simp at hk;simp [hk]) (fun k hk _ => by simp [LF,hk])
 have g4:Chg [cb] w3 (w3.setCell ⟨cb,3,none⟩ (.slice la' (E.length+1) cl')):=Chg.setCell w3 ⟨cb,3,none⟩ _
 have hx3:=hx1.chg hg3 hxfp
 have hcbw:cb < w.heap.size:=block_lt_of_cell c3
 have hfn:∀ k,k∈fp la' cl'→k∈fp la cl ∨ w.heap.size≤k:=fun k hk => by
  rcases hf3 with h9 | ⟨q,h9,h10⟩
  ·left;rw [← h9];exact hk
  ·right;rw [h10] at hk;simp at hk;rw [hz] at h9;omega
 have hold:∀ k,k < w.heap.size→k ∉ fp la cl→k ∉ fp la' cl':=fun k h1 h2 h3 => (hfn k h3).elim h2 (fun h4 => by omega)
 have hel:(E++[x]).length=E.length+1:=by simp
 refine ⟨rfl,la',cl',⟨?_,?_,?_,?_,?_,?_,?_,?_,hold cb hcbw h.cr,?_,h.cB,by rw [hel];omega⟩,g2.trans g4 (fun _ h _ => h) (fun k hk _ => by simp at hk;simp [LF,hk]),hfn,(((Only3.of g1 (by simpa using fun e => hxcb e.symm) hcbw).trans (Only3.of hg3 h.cr (by rw [hz];exact hcbw))).trans (Only3.set cb w3 _))⟩
 ·rw [hel];exact World.cell?_setCell_same _ _ _ c33
 ·rw [World.frozen?_setCell];exact f33
 ·rw [hel,List.map_append]
  exact hR3.chg g4 (fun k hk => by simp;rintro rfl;exact hold k hcbw h.cr hk)
 ·intro i hi
  rw [hel] at hi
  by_cases hlt:i < E.length
  ·rw [List.getElem_append_left hlt]
   exact ((hE1 i hlt).chg hg3 (h.nr _ (List.getElem_mem hlt))).chg g4 (by simpa using h.nc _ (List.getElem_mem hlt))
  ·have:i=E.length:=by omega
   subst this
   rw [List.getElem_append_right (Nat.le_refl _)]
   simp only [Nat.sub_self,List.getElem_cons_zero]
   exact hx3.chg g4 (by simpa using hxcb)
 ·intro e he
  rcases List.mem_append.1 he with he | he
  ·exact h.bl e he
  ·simp at he;rw [he];exact hxl
 ·rw [List.map_append,List.nodup_append]
  refine ⟨h.nd,by simp,fun a ha b hb => ?_⟩
  obtain ⟨e,he,rfl⟩:=List.mem_map.1 ha
  simp at hb
  rw [hb]
  exact hxE e he
 ·intro e he
  rcases List.mem_append.1 he with he | he
  ·exact h.nc e he
  ·simp at he;rw [he];exact hxcb
 ·intro e he
  rcases List.mem_append.1 he with he | he
  ·obtain ⟨i,hi,rfl⟩:=List.getElem_of_mem he
   exact hold _ (h.e i hi).lt (h.nr _ (List.getElem_mem hi))
  ·simp at he;rw [he];exact hold _ hx.lt hxfp
 ·intro e he
  rcases List.mem_append.1 he with he | he
  ·exact h.eB e he
  ·simp at he;rw [he];exact hxB
set_option maxRecDepth 20000 in
theorem wpop_any (x:Ent) (B cb:Nat) (la:Option Addr) (cl:Nat) (E:List Ent) (w:World) (h:LineAt w B cb la cl (E++[x])) :
  Calls Tryz.prog 222 #[.pointer (some ⟨cb,3,none⟩)] w fun e w' => e=.returned (.iface 170 (.pointer (some ⟨x.b,0,none⟩)))∧LineAt w' B cb la cl E∧Chg (cb :: fp la cl) w w'∧Only3 cb w w':=by
 have hel:(E++[x]).length=E.length+1:=by simp
 have c3:=h.c3
 have f3:=h.f3
 have hsm:=h.sm
 obtain ⟨lb,lo,rfl,hc,hlb⟩:=h.cell (by omega)
 obtain ⟨cn,fn⟩:=hc E.length (by omega)
 rw [List.getElem_append_right (Nat.le_refl _)] at cn
 simp only [Nat.sub_self,List.getElem_cons_zero] at cn
 rw [hel] at c3 hsm
 unfold ptrV at cn
 have hlc:=h.r.le
 rw [hel] at hlc
 have hcl:=h.r.max
 have hcb:lb ≠ cb:=fun e => h.cr (by rw [← e];exact hlb)
 have g1:Chg [lb] w (w.setCell ⟨lb,lo+E.length,none⟩ (.pointer none)):=Chg.setCell w ⟨lb,lo+E.length,none⟩ _
 have c31:=g1.cellv c3 (by simpa using fun e => hcb e.symm)
 have f31:=(g1.frozen (p:=⟨cb,3,none⟩) (block_lt_of_cell c3) (by simpa using fun e => hcb e.symm)).trans f3
 have hsl:∀ u:World,(Instr.slice 151 (.slice (some ⟨lb,lo,none⟩) (E.length+1) cl) none (some (.int .i64 (E.length:Int))) none).run Tryz.prog u=.ok (.slice (some ⟨lb,lo,none⟩) E.length cl) u:=fun u =>
  run_take_k (some ⟨lb,lo,none⟩) (E.length+1) cl E.length Tryz.underlying151 (by kernel_rfl) (by omega) u
 have HE:=mkHid hel
 clear hel hc
 go_enter Tryz.func222,Tryz.ntmps222
 go_wp2
 go_ret
 have hel:=HE.out
 have hfp:fp (some ⟨lb,lo,none⟩) cl=[lb]:=fp_some _ _ _ (by omega)
 have g2:Chg [cb] (w.setCell ⟨lb,lo+E.length,none⟩ (.pointer none)) ((w.setCell ⟨lb,lo+E.length,none⟩ (.pointer none)).setCell ⟨cb,3,none⟩ (.slice (some ⟨lb,lo,none⟩) E.length cl)):=Chg.setCell _ ⟨cb,3,none⟩ _
 have hmem:∀ e∈E,e∈E++[x]:=fun e he => List.mem_append_left _ he
 refine ⟨rfl,⟨World.cell?_setCell_same _ _ _ c31,by rw [World.frozen?_setCell];exact f31,?_,?_,fun e he => h.bl e (hmem e he),?_,fun e he => h.nc e (hmem e he),fun e he => h.nr e (hmem e he),h.cr,fun e he => h.eB e (hmem e he),h.cB,by omega⟩,g1.trans g2 (fun k hk _ => by rw [hfp];simp at hk;simp [hk]) (fun k hk _ => by simp at hk;simp [hk]),(Only3.of g1 (by simpa using fun e => hcb e.symm) (block_lt_of_cell c3)).trans (Only3.set cb _ _)⟩
 ·have h9:=h.r.set E.length (by omega) (.pointer none)
  have h8:=h9.shorten (m:=E.length) (by omega)
  rw [List.map_append,List.take_set,List.set_eq_of_length_le (by simp),List.take_left' (by simp)] at h8
  exact h8.chg g2 (by rw [hfp];simpa using hcb)
 ·intro i hi
  have:=h.e i (by omega)
  rw [List.getElem_append_left hi] at this
  exact (this.chg g1 (by simp;intro e9;exact h.nr _ (hmem _ (List.getElem_mem hi)) (by rw [hfp,e9];simp))).chg g2 (by simpa using h.nc _ (hmem _ (List.getElem_mem hi)))
 ·have:=h.nd
  rw [List.map_append,List.nodup_append] at this
  exact this.1
theorem LF_of_SF {cb:Nat} {la:Option Addr} {cl:Nat} {E:List Ent}:∀ k,k∈SF la cl E→k∈LF cb la cl E:=fun k hk => by
 simp only [SF,List.mem_append] at hk
 simp only [LF,List.mem_cons,List.mem_append]
 exact Or.inr hk
set_option maxRecDepth 20000 in
theorem hpush_any (x:Ent) (s0:Nat) (B cb:Nat) (la:Option Addr) (cl:Nat) (E:List Ent) (w:World) (h:LineAt w B cb la cl E) (hB:B≤w.heap.size) (hx:Blk w x.b 176 (entV x s0)) (hxl:x.bs.length=256) (hxF:x.b ∉ LF cb la cl E) (hxB:B≤x.b) (hsm:E.length < 100000) (hH:Heap E E.length) :
  Calls Tryz.prog 139 #[.iface 217 (.pointer (some ⟨cb,3,none⟩)),.iface 170 (.pointer (some ⟨x.b,0,none⟩))] w fun e w' => e=.returned (.tuple #[])∧∃ la' cl' E',LineAt w' B cb la' cl' E'∧E'.Perm (E++[x])∧Heap E' E'.length∧Chg (x.b :: LF cb la cl E) w w'∧(∀ k,k∈fp la' cl'→k∈fp la cl ∨ w.heap.size≤k)∧Only3 cb w w':=by
 have hup:UpOk (E++[x]) E.length (E++[x]).length:=by
  have hk:∀ k,k < E.length→key (E++[x]) k=key E k:=fun k hk => by
   rw [key_lt (by simp;omega),key_lt hk,List.getElem_append_left hk]
  refine ⟨fun k k0 kn kj => ?_,fun k k0 kn kp _ => ?_⟩
  ·simp at kn
   rw [hk _ (by omega),hk _ (by omega)]
   exact hH k k0 (by omega)
  ·simp at kn
   omega
 have Hup:=mkHid hup
 clear hup
 have m1:=meth_push w ⟨cb,3,none⟩
 have hel:(E++[x]).length=E.length+1:=by simp
 have HE:=mkHid hel
 clear hel
 go_enter Tryz.func139,Tryz.ntmps139
 go_wp2_with (first | (go_at_call 223;refine (wpush_any x s0 B cb la cl E w h hB hx hxl hxF hxB hsm).mono ?_;rintro e w1 ⟨rfl,la1,cl1,h1,g1,f1,q1⟩;have m2:=meth_len cb 3 la1 _ cl1 w1 h1.c3;rw [HE.out] at m2) | (go_at_call 215;refine (len_any la1 (E.length+1) cl1 w1).mono ?_;rintro e w2 ⟨rfl,rfl⟩) | (go_at_call 172;refine (up_any E.length B cb la1 cl1 (E++[x]) w1 h1 (by rw [HE.out];omega) Hup.out).mono ?_;rintro e w2 ⟨rfl,E',h2,p2,H2,g2⟩))
 go_end0
 rw [← p2.length_eq] at H2
 exact ⟨rfl,la1,cl1,E',h2,p2,H2,g1.trans g2 (fun _ h _ => h) (fun k hk hlt => by
  simp only [SF,List.mem_append,List.map_append,List.map_cons,List.map_nil,List.mem_cons,List.not_mem_nil,or_false] at hk
  simp only [LF,List.mem_cons,List.mem_append]
  rcases hk with hk | hk | hk
  ·rcases f1 k hk with h9 | h9
   ·exact Or.inr (Or.inr (Or.inl h9))
   ·omega
  ·exact Or.inr (Or.inr (Or.inr hk))
  ·exact Or.inl hk),f1,q1.trans (Only3.of g2 (cb_SF h1) (block_lt_of_cell h1.c3))⟩
set_option maxRecDepth 20000 in
theorem hfix_any (i:Nat) (B cb:Nat) (la:Option Addr) (cl:Nat) (E:List Ent) (w:World) (h:LineAt w B cb la cl E) (hi:i < E.length) (hD:DownOk E i E.length) :
  Calls Tryz.prog 140 #[.iface 217 (.pointer (some ⟨cb,3,none⟩)),.int .i64 i] w fun e w' => e=.returned (.tuple #[])∧∃ E',LineAt w' B cb la cl E'∧E'.Perm E∧Heap E' E'.length∧Chg (SF la cl E) w w':=by
 have hsm:=h.sm
 have m1:=meth_len cb 3 la _ cl w h.c3
 have HD:=mkHid hD
 clear hD
 go_enter Tryz.func140,Tryz.ntmps140
 go_wp2_with (first | (go_at_call 215;refine (len_any la E.length cl w).mono ?_;rintro e w2 ⟨rfl,rfl⟩) | (go_at_call 173;refine (down_any i E.length B cb la cl E w h (Nat.le_refl _) (by omega) HD.out).mono ?_;rintro e w2 ⟨b,E',rfl,h2,p2,o2,t2,u2,g2⟩;have T2:=mkHid t2;have U2:=mkHid u2;clear t2 u2 o2) | (go_at_call 172;refine (up_any i B cb la cl E' w2 h2 (by rw [p2.length_eq];exact hi) (p2.length_eq.symm ▸ U2.out (by simpa using ‹(!b)=true›))).mono ?_;rintro e w3 ⟨rfl,E3,h3,p3,H3,g3⟩))
 ·go_end0
  exact ⟨rfl,E3,h3,p3.trans p2,by rw [p3.length_eq];exact H3,g2.trans g3 (fun _ h _ => h) (fun k hk _ => SF_perm p2 k hk)⟩
 ·go_end0
  exact ⟨rfl,E',h2,p2,by rw [p2.length_eq];exact T2.out (by simpa using ‹(!b)=false›),g2⟩
theorem split_last {E:List Ent} {x:Ent} {n:Nat} (hl:E.length=n+1) (h:E[n]?=some x):∃ F,E=F++[x]∧F.length=n:=by
 refine ⟨E.take n,?_,by simp;omega⟩
 have h1:n < E.length:=by omega
 rw [List.getElem?_eq_getElem h1] at h
 have h2:=List.take_succ_eq_append_getElem h1
 rw [List.take_of_length_le (by omega)] at h2
 have h3:E[n]=x:=by simpa using h
 rw [h3] at h2
 exact h2
theorem heap_front {F:List Ent} {x:Ent} {n:Nat} (hn:n≤F.length) (h:Heap (F++[x]) n):Heap F n:=by
 intro k k0 kn
 have hk:∀ k,k < F.length→key (F++[x]) k=key F k:=fun k hk => by
  rw [key_lt (by simp;omega),key_lt hk,List.getElem_append_left hk]
 have:=h k k0 kn
 rwa [hk _ (by omega),hk _ (by omega)] at this
set_option maxRecDepth 20000 in
set_option maxHeartbeats 1000000 in
theorem hpop_any (B cb:Nat) (la:Option Addr) (cl:Nat) (E:List Ent) (w:World) (h:LineAt w B cb la cl E) (h0:0 < E.length) (hH:Heap E E.length) :
  Calls Tryz.prog 171 #[.iface 217 (.pointer (some ⟨cb,3,none⟩))] w fun e w' => e=.returned (.iface 170 (.pointer (some ⟨E[0].b,0,none⟩)))∧∃ F,LineAt w' B cb la cl F∧(F++[E[0]]).Perm E∧Heap F F.length∧Blk w' E[0].b 176 (entV E[0] F.length)∧Chg (LF cb la cl E) w w'∧Only3 cb w w':=by
 have hsm:=h.sm
 obtain ⟨n,hn⟩:∃ n,E.length=n+1:=⟨E.length - 1,by omega⟩
 have hn1:n < E.length:=by omega
 have hDn:DownOk (swp E 0 n h0 hn1) 0 n:=by
  refine ⟨fun k k0 kn ki kp => ?_,fun k k0 kn kp h9 => by omega⟩
  rw [key_swp _ _ _ _ _ _ (by omega),key_swp _ _ _ _ _ _ (by omega),if_neg (by omega),if_neg kp,if_neg (by omega),if_neg ki]
  exact hH k k0 (by omega)
 have hlast:(swp E 0 n h0 hn1)[n]?=some E[0]:=by
  have hl:n < (swp E 0 n h0 hn1).length:=by rw [swp_len];exact hn1
  rw [List.getElem?_eq_getElem hl,swp_get,if_pos rfl]
 have hsl:(swp E 0 n h0 hn1).length=n+1:=by rw [swp_len];exact hn
 have hsp:=swp_perm E 0 n h0 hn1
 generalize hS:swp E 0 n h0 hn1=S at hDn hlast hsl hsp
 have HS:=mkHid hS
 have HD:=mkHid hDn
 have HL:=mkHid hlast
 have HN:=mkHid hn
 have HSL:=mkHid hsl
 have m1:=meth_len cb 3 la _ cl w h.c3
 rw [hn] at m1
 have m2:=meth_swap cb 3 la _ cl w h.c3
 rw [hn] at m2
 have cS:=swap_any 0 n B cb la cl E w h h0 hn1
 rw [hS,hn,show ((0:Nat):Int)=0 from rfl] at cS
 have cD:∀ w2,LineAt w2 B cb la cl S→_:=fun w2 h2 => down_any 0 n B cb la cl S w2 h2 (by omega) (by omega) hDn
 rw [show ((0:Nat):Int)=0 from rfl] at cD
 clear hS hDn hlast hn hsl
 go_enter Tryz.func171,Tryz.ntmps171
 have CD:=mkHid cD
 clear cD
 go_wp2_with (first | (go_at_call 215;refine (len_any la (n+1) cl w).mono ?_;rintro e w2 ⟨rfl,rfl⟩) | (go_at_call 217;refine cS.mono ?_;rintro e w2 ⟨rfl,h2,g2⟩) | (go_at_call 173;refine (CD.out w2 h2).mono ?_;rintro e w3 ⟨b,E',rfl,h3,p3,o3,t3,u3,g3⟩;have T3:=mkHid t3;have U3:=mkHid u3;have O3:=mkHid o3;clear t3 u3 o3;have m3:=meth_pop w3 ⟨cb,3,none⟩;obtain ⟨F,rfl,hFl⟩:=split_last (p3.length_eq.trans HSL.out) ((O3.out n (Nat.le_refl _)).trans HL.out);have HF:=mkHid hFl;clear hFl) | (go_at_call 222;refine (wpop_any E[0] B cb la cl F w3 h3).mono ?_;rintro e w4 ⟨rfl,h4,g4,q4⟩))
 go_ret
 have hFl:=HF.out
 have hb3:=h3.e F.length (by simp)
 rw [List.getElem_append_right (Nat.le_refl _)] at hb3
 simp only [Nat.sub_self,List.getElem_cons_zero] at hb3
 have hm0:E[0]∈E:=List.getElem_mem h0
 have hHn:Heap (F++[E[0]]) n:=by
  cases hb:b
  ·have:=U3.out hb
   exact fun k k0 kn => this.1 k k0 kn (by omega)
  ·exact T3.out hb
 refine ⟨rfl,F,h4,p3.trans hsp,by rw [hFl];exact heap_front (by omega) hHn,hb3.chg g4 (by simp only [List.mem_cons,not_or];exact ⟨h.nc _ hm0,h.nr _ hm0⟩),?_,((Only3.of g2 (cb_SF h) (block_lt_of_cell h.c3)).trans (Only3.of g3 (fun hk => cb_SF h (SF_perm hsp _ hk)) (block_lt_of_cell h2.c3))).trans q4⟩
 have k1:Chg (LF cb la cl E) w w3:=Chg.trans g2 g3 (fun k hk _ => LF_of_SF k hk) (fun k hk _ => LF_of_SF k (SF_perm hsp k hk))
 exact k1.trans g4 (fun _ h _ => h) (fun k hk _ => by
  simp only [List.mem_cons] at hk
  simp only [LF,List.mem_cons,List.mem_append]
  exact hk.imp id Or.inl)
end
section
open Go.RowKit Go.Maps
attribute [local go_sem ↓] Go.wp_at_zero Go.wp_at_succ
def ptrR:Value→Option (DataW Unit × List MemPlace)
 | .pointer (some ⟨b,0,none⟩) => some (.lit (.int .u64 b),[])
 | .pointer none => some (.nil,[])
 | _ => none
theorem ptrR_mk (b:Nat):ptrR (.pointer (some ⟨b,0,none⟩))=some (.lit (.int .u64 b),[]):=rfl
theorem ptrR_inv {v:Value} {ps:List MemPlace} {b:Nat} (h:ptrR v=some (.lit (.int .u64 b),ps)):v=.pointer (some ⟨b,0,none⟩):=by
 unfold ptrR at h
 split at h
 ·rename_i x
  simp at h
  rw [show x=b by omega]
 ·simp at h
 ·cases h
structure HeldAt (w:World) (mb:Nat) (E:List Ent) (D:DataW Unit):Prop where
 o:w.ownsMap Tryz.prog 3 ptrR mb E.length D
 s:Maps.size D=E.length
 y:∀ e∈E,Maps.has D (.int .i64 e.pl)=true∧D.atKey (.int .i64 e.pl) .nil=.lit (.int .u64 e.b)
 n:∀ z:Int,(∀ e∈E,(e.pl:Int) ≠ z)→Maps.has D (.int .i64 z)=false
theorem HeldAt.chg {w w':World} {mb:Nat} {E:List Ent} {D:DataW Unit} {S:List Nat} (h:HeldAt w mb E D) (c:Chg S w w') (hn:mb ∉ S):HeldAt w' mb E D:=by
 refine ⟨?_,h.s,h.y,h.n⟩
 have hlt:=h.o.lt
 obtain ⟨es,clock,hb,F,hs,hD⟩:=h.o
 exact ⟨es,clock,(c.block mb hlt hn).trans hb,F,hs,hD⟩
theorem HeldAt.perm {w:World} {mb:Nat} {E E':List Ent} {D:DataW Unit} (h:HeldAt w mb E D) (p:E'.Perm E):HeldAt w mb E' D:=
 ⟨by rw [p.length_eq];exact h.o,by rw [p.length_eq];exact h.s,fun e he => h.y e (p.mem_iff.1 he),fun z hz => h.n z fun e he => hz e (p.mem_iff.2 he)⟩
theorem HeldAt.alike {w:World} {mb:Nat} {E E':List Ent} {D:DataW Unit} (h:HeldAt w mb E D) (hl:E'.map (fun e => (e.pl,e.b))=E.map (fun e => (e.pl,e.b))):HeldAt w mb E' D:=by
 have hlen:E'.length=E.length:=by simpa using congrArg List.length hl
 refine ⟨by rw [hlen];exact h.o,by rw [hlen];exact h.s,fun e he => ?_,fun z hz => h.n z fun e he => ?_⟩
 ·have:(e.pl,e.b)∈E.map (fun e => (e.pl,e.b)):=by rw [← hl];exact List.mem_map.2 ⟨e,he,rfl⟩
  obtain ⟨e2,he2,heq⟩:=List.mem_map.1 this
  simp at heq
  rw [← heq.1,← heq.2]
  exact h.y e2 he2
 ·have:(e.pl,e.b)∈E'.map (fun e => (e.pl,e.b)):=by rw [hl];exact List.mem_map.2 ⟨e,he,rfl⟩
  obtain ⟨e2,he2,heq⟩:=List.mem_map.1 this
  simp at heq
  rw [← heq.1]
  exact hz e2 he2
structure CacheAt (w:World) (B cb mb:Nat) (la:Option Addr) (cl:Nat) (E L:List Ent) (most uses db:Nat):Prop where
 c0:w.cell? ⟨cb,0,none⟩=some (.pointer (some ⟨db,0,none⟩))
 c1:w.cell? ⟨cb,1,none⟩=some (.int .i64 most)
 c2:w.cell? ⟨cb,2,none⟩=some (.map (some mb))
 c4:w.cell? ⟨cb,4,none⟩=some (.int .u64 uses)
 f4:w.frozen? ⟨cb,4,none⟩=false
 ln:LineAt w B cb la cl E
 hp:Heap E E.length
 hd:∃ D,HeldAt w mb E D
 pm:E.Perm L
 so:L.Pairwise (fun a b => a.used < b.used)
 us:∀ e∈L,e.used≤uses
 np:(L.map Ent.pl).Nodup
 pl:∀ e∈L,e.pl < 1024
 le:L.length≤most
 mo:1≤most∧most≤1024
 mF:mb ∉ LF cb la cl E
 mB:B≤mb
def CF (cb mb:Nat) (la:Option Addr) (cl:Nat) (E:List Ent):List Nat:=mb :: LF cb la cl E
theorem CacheAt.lt {w:World} {B cb mb:Nat} {la:Option Addr} {cl:Nat} {E L:List Ent} {most uses db:Nat} (h:CacheAt w B cb mb la cl E L most uses db):∀ k,k∈CF cb mb la cl E→B≤k∧k < w.heap.size:=by
 intro k hk
 simp only [CF,List.mem_cons] at hk
 rcases hk with rfl | hk
 ·obtain ⟨D,hD⟩:=h.hd
  exact ⟨h.mB,hD.o.lt⟩
 ·exact h.ln.lt k hk
theorem CacheAt.chg {w w':World} {B cb mb:Nat} {la:Option Addr} {cl:Nat} {E L:List Ent} {most uses db:Nat} {S:List Nat} (h:CacheAt w B cb mb la cl E L most uses db) (c:Chg S w w') (hn:∀ k,k∈CF cb mb la cl E→k ∉ S):CacheAt w' B cb mb la cl E L most uses db:=by
 have hcb:cb ∉ S:=hn cb (by simp [CF,LF])
 obtain ⟨D,hD⟩:=h.hd
 exact ⟨c.cellv h.c0 hcb,c.cellv h.c1 hcb,c.cellv h.c2 hcb,c.cellv h.c4 hcb,(c.frozen (p:=⟨cb,4,none⟩) (show cb < w.heap.size from block_lt_of_cell h.c0) hcb).trans h.f4,
  h.ln.chg c (fun k hk => hn k (by simp [CF,hk])),h.hp,⟨D,hD.chg c (hn mb (by simp [CF]))⟩,h.pm,h.so,h.us,h.np,h.pl,h.le,h.mo,h.mF,h.mB⟩
theorem CacheAt.keep {w w':World} {B cb mb:Nat} {la:Option Addr} {cl:Nat} {E L:List Ent} {most uses db:Nat} (h:CacheAt w B cb mb la cl E L most uses db) (c:Chg [] w w'):CacheAt w' B cb mb la cl E L most uses db:=h.chg c (by simp)
theorem cmade_yes (cb db:Nat) (w:World) (c0:w.cell? ⟨cb,0,none⟩=some (.pointer (some ⟨db,0,none⟩))) :
  Calls Tryz.prog 168 #[.pointer (some ⟨cb,0,none⟩)] w fun e w' => e=.returned (.bool true)∧w=w':=by
 go_enter Tryz.func168,Tryz.ntmps168
 go_wp2
 go_ret
 exact ⟨rfl,rfl⟩
end
end Go.Proofs.YtdgkbicelnnfpaaGreatDoor
