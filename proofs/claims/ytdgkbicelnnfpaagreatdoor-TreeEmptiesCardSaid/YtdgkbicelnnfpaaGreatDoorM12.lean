/- Texts Ub, Uc, Ud, Ue of the library, joined. -/
import Derived.Test.YtdgkbicelnnfpaaGreatDoorM11
set_option linter.unusedVariables false
set_option linter.unusedSimpArgs false
namespace Go.Proofs.YtdgkbicelnnfpaaGreatDoor
section
set_option maxRecDepth 200000
open Go.RowKit
attribute [local go_sem ↓] Go.wp_at_zero Go.wp_at_succ
theorem rmade_yes (rb sb:Nat) (w:World) (c2:w.cell? ⟨rb,2,none⟩=some (.pointer (some ⟨sb,0,none⟩))):Calls Tryz.prog 44 #[.pointer (some ⟨rb,0,none⟩)] w fun e w' => e=.returned (.bool true)∧w=w':=by
 go_enter Tryz.func44,Tryz.ntmps44
 go_wp2
 go_ret
 exact ⟨rfl,rfl⟩
theorem byte_at {l:List UInt8} {x n:Nat} (hl:l.length=n) (hx:x < n):∃ a:UInt8,∃ m:Nat,l[x]?=some a∧a.toNat=m∧m≤255:=by
 have h:x < l.length:=by omega
 exact ⟨l[x],_,List.getElem?_eq_getElem h,rfl,by have:=l[x].toNat_lt;omega⟩
theorem bts_at {l:List UInt8} {x:Nat} {a:UInt8} {m:Nat} (h:l[x]?=some a) (hm:a.toNat=m):(bts l)[x]?=some (.int .u8 (m:Int)):=by
 have hx:=(List.getElem?_eq_some_iff.1 h).1
 rw [bts_get l x hx]
 have:l[x]=a:=by rw [List.getElem?_eq_getElem hx] at h;simpa using h
 rw [this,hm]
theorem Room.read {w:World} {B b o n c:Nat} {l:List UInt8} (h:Room w B (some ⟨b,o,none⟩) n c (bts l)) {x:Nat} {a:UInt8} {m:Nat} (hx:l[x]?=some a) (hm:a.toNat=m):w.cell? ⟨b,o+x,none⟩=some (.int .u8 (m:Int)):=
 h.reads.cell x _ (bts_at hx hm)
section
variable (B rb nb cb sb:Nat) (Fs:List Nat) (n:Nat) (N C:List UInt8) (w:World) (h:RfsAt w B rb nb cb sb Fs n N C)
include h
theorem rhas_any (z:Int):Calls Tryz.prog 55 #[.pointer (some ⟨rb,0,none⟩),.int .i64 z] w fun e w' => e=.returned (.bool (decide (0≤z∧z < (n:Int))))∧w=w':=by
 have c0:=h.c0
 have cM:=rmade_yes rb sb w h.c2
 by_cases h0:z ≥ 0
 ·by_cases h1:z < (n:Int)
  ·rw [decide_eq_true (show 0≤z∧z < (n:Int) from ⟨h0,h1⟩)]
   have d0:decide (z ≥ 0)=true:=decide_eq_true h0
   have d0':decide (0≤z)=true:=decide_eq_true h0
   have d1:decide (z < (n:Int))=true:=decide_eq_true h1
   go_enter Tryz.func55,Tryz.ntmps55
   go_wp2_with (first | (go_at_call 44;refine cM.mono ?_;rintro e w' ⟨rfl,rfl⟩))
   go_ret
   exact ⟨rfl,rfl⟩
  ·rw [decide_eq_false (show ¬ (0≤z∧z < (n:Int)) by omega)]
   have d0:decide (z ≥ 0)=true:=decide_eq_true h0
   have d0':decide (0≤z)=true:=decide_eq_true h0
   have d1:decide (z < (n:Int))=false:=decide_eq_false h1
   go_enter Tryz.func55,Tryz.ntmps55
   go_wp2_with (first | (go_at_call 44;refine cM.mono ?_;rintro e w' ⟨rfl,rfl⟩))
   go_ret
   exact ⟨rfl,rfl⟩
 ·rw [decide_eq_false (show ¬ (0≤z∧z < (n:Int)) by omega)]
  have d0:decide (z ≥ 0)=false:=decide_eq_false h0
  have d0':decide (0≤z)=false:=decide_eq_false h0
  go_enter Tryz.func55,Tryz.ntmps55
  go_wp2_with (first | (go_at_call 44;refine cM.mono ?_;rintro e w' ⟨rfl,rfl⟩))
  go_ret
  exact ⟨rfl,rfl⟩
theorem rcount_any (z:Int):Calls Tryz.prog 21 #[.pointer (some ⟨rb,0,none⟩),.int .i64 z] w fun e w' => e=.returned (.int .i64 (cntN N z))∧w=w':=by
 have c0:=h.c0
 have cH:=rhas_any B rb nb cb sb Fs n N C w h z
 by_cases hz:0≤z∧z < (n:Int)
 ·obtain ⟨x,rfl⟩:∃ x:Nat,z=(x:Int):=⟨z.toNat,by omega⟩
  have hx:x < n:=by omega
  rw [decide_eq_true hz] at cH
  obtain ⟨a,m,ha,hm,hm2⟩:=byte_at h.lN hx
  have ci:=h.rn.read ha hm
  rw [Nat.zero_add] at ci
  have e:cntN N (x:Int)=(m:Int):=by unfold cntN;rw [if_pos (isIn_yes h.lN hx),at0_of ha,hm]
  rw [e]
  clear ha hm e hz
  go_enter Tryz.func21,Tryz.ntmps21
  go_wp2_with (first | (go_at_call 55;refine cH.mono ?_;rintro e w' ⟨rfl,rfl⟩))
  go_ret
  exact ⟨rfl,rfl⟩
 ·rw [decide_eq_false hz] at cH
  have e:cntN N z=0:=by unfold cntN;rw [if_neg (by rw [isIn_no h.lN hz];decide)]
  rw [e]
  clear e
  go_enter Tryz.func21,Tryz.ntmps21
  go_wp2_with (first | (go_at_call 55;refine cH.mono ?_;rintro e w' ⟨rfl,rfl⟩))
  go_ret
  exact ⟨rfl,rfl⟩
theorem rfresh_any (z:Int):Calls Tryz.prog 20 #[.pointer (some ⟨rb,0,none⟩),.int .i64 z] w fun e w' => e=.returned (.bool (newN N C z))∧w=w':=by
 have c0:=h.c0
 have c1:=h.c1
 have cH:=rhas_any B rb nb cb sb Fs n N C w h z
 by_cases hz:0≤z∧z < (n:Int)
 ·obtain ⟨x,rfl⟩:∃ x:Nat,z=(x:Int):=⟨z.toNat,by omega⟩
  have hx:x < n:=by omega
  rw [decide_eq_true hz] at cH
  obtain ⟨a,m,ha,hm,hm2⟩:=byte_at h.lN hx
  obtain ⟨b,k,hb,hk,hk2⟩:=byte_at h.lC hx
  have ci:=h.rn.read ha hm
  have cj:=h.rc.read hb hk
  rw [Nat.zero_add] at ci cj
  by_cases hm0:m=0
  ·have e:newN N C (x:Int)=false:=by
    unfold newN;rw [isIn_yes h.lN hx,at0_of ha,at0_of hb,(u8_nat hm 0).2 hm0];rfl
   rw [e]
   have d1:decide ((m:Int) > 0)=false:=decide_eq_false (by omega)
   have d2:decide (0 < m)=false:=decide_eq_false (by omega)
   have d3:decide ((0:Int) < (m:Int))=false:=decide_eq_false (by omega)
   clear ha hm hb hk e hz hm0
   go_enter Tryz.func20,Tryz.ntmps20
   go_wp2_with (first | (go_at_call 55;refine cH.mono ?_;rintro e w' ⟨rfl,rfl⟩))
   go_ret
   exact ⟨rfl,rfl⟩
  ·have e:newN N C (x:Int)=((k:Int) == 0):=by
    unfold newN
    rw [isIn_yes h.lN hx,at0_of ha,at0_of hb]
    have h1:(a != 0)=true:=by simpa using fun e => hm0 ((u8_nat hm 0).1 e)
    rw [h1,Bool.eq_iff_iff]
    simp [u8_nat hk 0]
   rw [e]
   have d1:decide ((m:Int) > 0)=true:=decide_eq_true (by omega)
   have d2:decide (0 < m)=true:=decide_eq_true (by omega)
   have d3:decide ((0:Int) < (m:Int))=true:=decide_eq_true (by omega)
   clear ha hm hb hk e hz hm0
   go_enter Tryz.func20,Tryz.ntmps20
   go_wp2_with (first | (go_at_call 55;refine cH.mono ?_;rintro e w' ⟨rfl,rfl⟩))
   go_ret
   exact ⟨by simp,rfl⟩
 ·rw [decide_eq_false hz] at cH
  have e:newN N C z=false:=by unfold newN;rw [isIn_no h.lN hz];rfl
  rw [e]
  clear e
  go_enter Tryz.func20,Tryz.ntmps20
  go_wp2_with (first | (go_at_call 55;refine cH.mono ?_;rintro e w' ⟨rfl,rfl⟩))
  go_ret
  exact ⟨rfl,rfl⟩
theorem rfree_any:Calls Tryz.prog 30 #[.pointer (some ⟨rb,0,none⟩)] w fun e w' => e=.returned (.int .i64 (freeL (freeI N C)).length)∧w=w':=by
 have c2:=h.c2
 have cM:=rmade_yes rb sb w h.c2
 have cF:=free_any B sb Fs _ w h.sp
 generalize (freeL (freeI N C)).length=q at *
 go_enter Tryz.func30,Tryz.ntmps30
 go_wp2_with (first | (go_at_call 44;refine cM.mono ?_;rintro e w' ⟨rfl,rfl⟩) | (go_at_call 69;refine cF.mono ?_;rintro e w' ⟨rfl,rfl⟩))
 go_ret
 exact ⟨rfl,rfl⟩
end
section
variable (w:World)
end
end
section
set_option maxRecDepth 200000
open Go.RowKit
attribute [local go_sem ↓] Go.wp_at_zero Go.wp_at_succ
def RStep (w w':World) (B rb nb cb sb:Nat) (Fs:List Nat) (n:Nat) (N C:List UInt8):Prop:=∃ Fs',RfsAt w' B rb nb cb sb Fs' n N C∧Chg (rb :: nb :: cb :: Fs) w w'∧∀ k,k∈Fs'→k∈Fs ∨ w.heap.size≤k
section
variable {w w1 w2:World} {B rb nb cb sb:Nat} {Fs:List Nat} {n:Nat} {N C:List UInt8}
theorem RStep.refl (h:RfsAt w B rb nb cb sb Fs n N C):RStep w w B rb nb cb sb Fs n N C:=⟨Fs,h,Chg.refl _ _,fun _ h => Or.inl h⟩
theorem RfsAt.count (h:RfsAt w B rb nb cb sb Fs n N C) (x:Nat) (hx:x < n) (v:UInt8) (k:Int) (hk:(v.toNat:Int)=k) (st:SpAt (w.setCell ⟨nb,x,none⟩ (.int .u8 k)) B sb Fs (freeI N C)→Step (w.setCell ⟨nb,x,none⟩ (.int .u8 k)) w2 B sb Fs (freeI (N.set x v) C)):RStep w w2 B rb nb cb sb Fs n (N.set x v) C:=by
 subst hk
 have g1:=Chg.setCell w ⟨nb,x,none⟩ (.int .u8 (v.toNat:Int))
 have hs:=h.rn.set x hx (.int .u8 (v8 v))
 rw [Nat.zero_add,bts_set] at hs
 have hs1:Room (w.setCell ⟨nb,x,none⟩ (.int .u8 (v.toNat:Int))) B (some ⟨nb,0,none⟩) n n (bts (N.set x v)):=hs
 clear hs
 obtain ⟨Fs',h1,h2,h3⟩:=st (h.sp.chg g1 (fun k hk hm => by simp at hm;subst hm;exact h.d5 hk))
 have hz:(w.setCell ⟨nb,x,none⟩ (.int .u8 (v.toNat:Int))).heap.size=w.heap.size:=by simp
 rw [hz] at h3
 have g:Chg (nb :: Fs) w w2:=g1.trans h2 (fun k hk _ => by simp at hk;simp [hk]) (fun k hk _ => by simp [hk])
 have hn:∀ k,k < w.heap.size→k ∉ Fs→k ∉ Fs':=fun k h4 h5 h6 => (h3 k h6).elim h5 (fun h7 => by omega)
 have e1:rb ∉ nb :: Fs:=by simp;exact ⟨h.d1,h.d4⟩
 have e2:cb ∉ nb :: Fs:=by simp;exact ⟨fun e => h.d3 e.symm,h.d6⟩
 refine ⟨Fs',⟨g.cellv h.c0 e1,g.cellv h.c1 e1,g.cellv h.c2 e1,fun j => (g.frozen (p:=⟨rb,j,none⟩) (show rb < w.heap.size from h.ltr) e1).trans (h.fz j),
  hs1.chg h2 (fun k hk => by rw [fp_some _ _ _ h.n0] at hk;simp at hk;subst hk;exact h.d5),h.rc.chg g (fun k hk => by rw [fp_some _ _ _ h.n0] at hk;simp at hk;subst hk;exact e2),h1,h.n0,h.nn,h.rB,h.d1,h.d2,h.d3,hn _ h.ltr h.d4,hn _ h.ltn.2 h.d5,hn _ h.ltc.2 h.d6⟩,
  g.mono (fun k hk _ => by simp at hk;simp;rcases hk with hk | hk <;> simp [hk]),h3⟩
end
theorem u8_succ {a:UInt8} {m:Nat} (h:a.toNat=m) (hm:m < 255):(((a+1).toNat:Nat):Int)=(m:Int)+1:=by
 rw [UInt8.toNat_add,h]
 have:(1:UInt8).toNat=1:=rfl
 rw [this]
 omega
theorem u8_pred {a:UInt8} {m:Nat} (h:a.toNat=m) (hm:0 < m):(((a - 1).toNat:Nat):Int)=(m:Int) - 1:=by
 have h1:=a.toNat_lt
 rw [UInt8.toNat_sub]
 have:(1:UInt8).toNat=1:=rfl
 rw [this,h]
 omega
section
variable (B rb nb cb sb:Nat) (Fs:List Nat) (n:Nat) (N C:List UInt8) (w:World) (h:RfsAt w B rb nb cb sb Fs n N C)
include h
theorem rmore_full (x:Nat) (hx:x < n) (a:UInt8) (ha:N[x]?=some a) (hm:a.toNat=255):Calls Tryz.prog 66 #[.pointer (some ⟨rb,0,none⟩),.int .i64 (x:Int)] w fun e w' => e=.returned (.int .i64 8)∧w=w':=by
 have c0:=h.c0
 have ci:=h.rn.read ha hm
 rw [Nat.zero_add] at ci
 clear ha hm
 go_enter Tryz.func66,Tryz.ntmps66
 go_wp2
 go_ret
 exact ⟨rfl,rfl⟩
theorem rmore_any (x:Nat) (hx:x < n) (a:UInt8) (m:Nat) (ha:N[x]?=some a) (hm:a.toNat=m) (h0:0 < m) (hm2:m < 255):Calls Tryz.prog 66 #[.pointer (some ⟨rb,0,none⟩),.int .i64 (x:Int)] w fun e w' => e=.returned (.int .i64 0)∧RStep w w' B rb nb cb sb Fs n (N.set x (a+1)) C:=by
 have c0:=h.c0
 have ci:=h.rn.read ha hm
 have hfz:=h.rn.cell x hx
 rw [Nat.zero_add] at ci hfz
 have hne:((m:Int) == 255)=false:=beq_eq_false_iff_ne.2 (by omega)
 have hne2:(m == 255)=false:=beq_eq_false_iff_ne.2 (by omega)
 have hpost:RStep w (w.setCell ⟨nb,x,none⟩ (.int .u8 ((m:Int)+1))) B rb nb cb sb Fs n (N.set x (a+1)) C:=by
  refine h.count x hx (a+1) _ (u8_succ hm hm2) (fun hs => ?_)
  obtain ⟨b,hb⟩:∃ b,C[x]?=some b:=⟨_,List.getElem?_eq_getElem (by rw [h.lC];exact hx)⟩
  have e:freeI (N.set x (a+1)) C=freeI N C:=by
   rw [freeI_set ha hb]
   refine bool_set_same ?_
   rw [freeI_get ha hb]
   have e1:(a == 0)=false:=by simpa using fun e => by have:=(u8_nat hm 0).1 e;simp at this;omega
   have e2:(a+1 == 0)=false:=by
    have:=u8_succ hm hm2
    simpa using fun e => by rw [e] at this;simp at this;omega
   rw [e1,e2]
  rw [e]
  exact Step.refl hs
 have HP:=mkHid hpost
 clear ha hm hpost
 go_enter Tryz.func66,Tryz.ntmps66
 go_wp2
 go_ret
 exact ⟨rfl,HP.out⟩
theorem rless_any (x:Nat) (hx:x < n) (a:UInt8) (m:Nat) (ha:N[x]?=some a) (hm:a.toNat=m) (h0:0 < m):Calls Tryz.prog 61 #[.pointer (some ⟨rb,0,none⟩),.int .i64 (x:Int)] w fun e w' => e=.returned (.int .i64 0)∧RStep w w' B rb nb cb sb Fs n (N.set x (a - 1)) C:=by
 have hd1:rb ≠ nb:=h.d1
 have hd3:cb ≠ nb:=fun e => h.d3 e.symm
 obtain ⟨b,k,hb,hk,hk2⟩:=byte_at h.lC hx
 have ci:=h.rn.read ha hm
 have cj:=h.rc.read hb hk
 have hfz:=h.rn.cell x hx
 rw [Nat.zero_add] at ci hfz cj
 have g1:=Chg.setCell w ⟨nb,x,none⟩ (.int .u8 ((m:Int) - 1))
 have c0:=h.c0
 have e1:(a == 0)=false:=by simpa using fun e => by have:=(u8_nat hm 0).1 e;simp at this;omega
 have hfa:=freeI_get ha hb
 rw [e1,Bool.false_and] at hfa
 have hbound:m≤255:=by have:=a.toNat_lt;omega
 have hcount:=fun (w2:World) => h.count (w2:=w2) x hx (a - 1) _ (u8_pred hm h0)
 rw [freeI_set ha hb] at hcount
 have hsp:=h.sp.chg g1 (fun q hq hq2 => by simp at hq2;subst hq2;exact h.d5 hq)
 have ci2:(w.setCell ⟨nb,x,none⟩ (.int .u8 ((m:Int) - 1))).cell? ⟨nb,x,none⟩=some (.int .u8 ((m:Int) - 1)):=World.cell?_setCell_same _ _ _ ci
 have c02:=g1.cellv c0 (by simpa using hd1)
 have c12:=g1.cellv h.c1 (by simpa using hd1)
 have c22:=g1.cellv h.c2 (by simpa using hd1)
 have cj2:=g1.cellv cj (by simpa using hd3)
 by_cases hz:m=1∧k=0
 ·obtain ⟨hm1,hk0⟩:=hz
  have e2:(a - 1 == 0 && b == 0)=true:=by
   have h1:=u8_pred hm h0
   have h2:a - 1=0:=UInt8.toNat_inj.1 (by show (a - 1).toNat=0;omega)
   have h3:b=0:=(u8_nat hk 0).2 hk0
   rw [h2,h3];rfl
  rw [e2] at hcount
  have cG:=give_any (x:Int) B sb Fs _ _ hsp
  have e3:giveN (freeI N C) (x:Int)=(0,(freeI N C).set x true):=by
   have hl:=freeI_len h.lN h.lC
   unfold giveN
   rw [if_neg (by omega),Int.toNat_natCast,hfa,if_neg (by simp)]
  rw [e3] at cG
  have hq:((m:Int) - 1 == 0)=true:=by simp;omega
  have hq2:((m:Int) == 1)=true:=by simp;omega
  have hq3:((k:Int) == 0)=true:=by simp;omega
  have hq4:(k == 0)=true:=by simp;omega
  have hmle:1≤m:=h0
  clear hm1 hk0
  have HC:=mkHid hcount
  clear ha hm hb hk hcount e1 e2 e3 hfa hsp
  generalize (freeI N C).set x true=I2 at *
  go_enter Tryz.func61,Tryz.ntmps61
  go_wp2_with (first | (go_at_call 114;refine cG.mono ?_;rintro e w2 ⟨rfl,hs⟩))
  go_ret
  exact ⟨rfl,HC.out _ (fun _ => hs)⟩
 ·have e2:(a - 1 == 0 && b == 0)=false:=by
   have h1:=u8_pred hm h0
   rw [Bool.and_eq_false_iff]
   by_cases hm1:m=1
   ·right
    simpa using fun e => hz ⟨hm1,by have:=(u8_nat hk 0).1 e;simpa using this⟩
   ·left
    simpa using fun e => by rw [e] at h1;simp at h1;omega
  rw [e2,bool_set_same hfa] at hcount
  have hpost:=hcount _ (fun hs => Step.refl hs)
  have HP:=mkHid hpost
  have hB:((m:Int) - 1 == 0)=decide (m=1):=by rw [Bool.eq_iff_iff];simp;omega
  by_cases hm1:m=1
  ·have hk0:((k:Int) == 0)=false:=beq_eq_false_iff_ne.2 (by omega)
   have hk1:(k == 0)=false:=beq_eq_false_iff_ne.2 (by omega)
   have hq:((m:Int) - 1 == 0)=true:=by simp;omega
   have hq2:((m:Int) == 1)=true:=by simp;omega
   clear ha hm hb hk hcount e1 e2 hfa hsp hpost hz hB hm1
   go_enter Tryz.func61,Tryz.ntmps61
   go_wp2
   go_ret
   exact ⟨rfl,HP.out⟩
  ·have hq:((m:Int) - 1 == 0)=false:=beq_eq_false_iff_ne.2 (by omega)
   have hq2:((m:Int) == 1)=false:=beq_eq_false_iff_ne.2 (by omega)
   clear ha hm hb hk hcount e1 e2 hfa hsp hpost hz hB
   go_enter Tryz.func61,Tryz.ntmps61
   go_wp2
   go_ret
   exact ⟨rfl,HP.out⟩
end
end
section
set_option maxRecDepth 200000
open Go.RowKit
attribute [local go_sem ↓] Go.wp_at_zero Go.wp_at_succ
section
variable (B rb nb cb sb:Nat) (Fs:List Nat) (n:Nat) (N C:List UInt8) (w:World) (h:RfsAt w B rb nb cb sb Fs n N C)
include h
theorem change_out (z:Int) (hz:¬ (0≤z∧z < (n:Int))) (f:Value):Calls Tryz.prog 60 #[.pointer (some ⟨rb,0,none⟩),.int .i64 z,f] w fun e w' => e=.returned (.int .i64 1)∧w=w':=by
 have cM:=rmade_yes rb sb w h.c2
 have cH:=rhas_any B rb nb cb sb Fs n N C w h z
 rw [decide_eq_false hz] at cH
 go_enter Tryz.func60,Tryz.ntmps60
 go_wp2_with (first | (go_at_call 44;refine cM.mono ?_;rintro e w' ⟨rfl,rfl⟩) | (go_at_call 55;refine cH.mono ?_;rintro e w' ⟨rfl,rfl⟩))
 go_ret
 exact ⟨rfl,rfl⟩
theorem change_zero (x:Nat) (hx:x < n) (hN:N[x]?=some 0) (f:Value):Calls Tryz.prog 60 #[.pointer (some ⟨rb,0,none⟩),.int .i64 (x:Int),f] w fun e w' => e=.returned (.int .i64 6)∧w=w':=by
 have cM:=rmade_yes rb sb w h.c2
 have c0:=h.c0
 have cH:=rhas_any B rb nb cb sb Fs n N C w h (x:Int)
 rw [decide_eq_true (by omega)] at cH
 have ci:=h.rn.read hN (m:=0) rfl
 rw [Nat.zero_add] at ci
 clear hN
 go_enter Tryz.func60,Tryz.ntmps60
 go_wp2_with (first | (go_at_call 44;refine cM.mono ?_;rintro e w' ⟨rfl,rfl⟩) | (go_at_call 55;refine cH.mono ?_;rintro e w' ⟨rfl,rfl⟩))
 go_ret
 exact ⟨rfl,rfl⟩
theorem change_inc (x:Nat) (hx:x < n) (a:UInt8) (m:Nat) (ha:N[x]?=some a) (hm:a.toNat=m) (h0:0 < m) (r:Int) (P:World→Prop) (hf:Calls Tryz.prog 66 #[.pointer (some ⟨rb,0,none⟩),.int .i64 (x:Int)] w fun e w' => e=.returned (.int .i64 r)∧P w') :
  Calls Tryz.prog 60 #[.pointer (some ⟨rb,0,none⟩),.int .i64 (x:Int),.func (.func 66) #[] #[]] w fun e w' => e=.returned (.int .i64 r)∧P w':=by
 have cM:=rmade_yes rb sb w h.c2
 have c0:=h.c0
 have cH:=rhas_any B rb nb cb sb Fs n N C w h (x:Int)
 rw [decide_eq_true (by omega)] at cH
 have ci:=h.rn.read ha hm
 rw [Nat.zero_add] at ci
 have hne:((m:Int) == 0)=false:=beq_eq_false_iff_ne.2 (by omega)
 have hne2:(m == 0)=false:=beq_eq_false_iff_ne.2 (by omega)
 clear ha hm
 go_enter Tryz.func60,Tryz.ntmps60
 go_wp2_with (first | (go_at_call 44;refine cM.mono ?_;rintro e w' ⟨rfl,rfl⟩) | (go_at_call 55;refine cH.mono ?_;rintro e w' ⟨rfl,rfl⟩) | (go_at_call 66;refine hf.mono ?_;rintro e w' ⟨rfl,hP⟩))
 go_ret
 exact ⟨rfl,hP⟩
theorem change_dec (x:Nat) (hx:x < n) (a:UInt8) (m:Nat) (ha:N[x]?=some a) (hm:a.toNat=m) (h0:0 < m) (r:Int) (P:World→Prop) (hf:Calls Tryz.prog 61 #[.pointer (some ⟨rb,0,none⟩),.int .i64 (x:Int)] w fun e w' => e=.returned (.int .i64 r)∧P w') :
  Calls Tryz.prog 60 #[.pointer (some ⟨rb,0,none⟩),.int .i64 (x:Int),.func (.func 61) #[] #[]] w fun e w' => e=.returned (.int .i64 r)∧P w':=by
 have cM:=rmade_yes rb sb w h.c2
 have c0:=h.c0
 have cH:=rhas_any B rb nb cb sb Fs n N C w h (x:Int)
 rw [decide_eq_true (by omega)] at cH
 have ci:=h.rn.read ha hm
 rw [Nat.zero_add] at ci
 have hne:((m:Int) == 0)=false:=beq_eq_false_iff_ne.2 (by omega)
 have hne2:(m == 0)=false:=beq_eq_false_iff_ne.2 (by omega)
 clear ha hm
 go_enter Tryz.func60,Tryz.ntmps60
 go_wp2_with (first | (go_at_call 44;refine cM.mono ?_;rintro e w' ⟨rfl,rfl⟩) | (go_at_call 55;refine cH.mono ?_;rintro e w' ⟨rfl,rfl⟩) | (go_at_call 61;refine hf.mono ?_;rintro e w' ⟨rfl,hP⟩))
 go_ret
 exact ⟨rfl,hP⟩
theorem inc_any (z:Int):Calls Tryz.prog 27 #[.pointer (some ⟨rb,0,none⟩),.int .i64 z] w fun e w' => e=.returned (.int .i64 (incN N z).1)∧RStep w w' B rb nb cb sb Fs n (incN N z).2 C:=by
 have keyF:Calls Tryz.prog 60 #[.pointer (some ⟨rb,0,none⟩),.int .i64 z,.func (.func 66) #[] #[]] w fun e w' => e=.returned (.int .i64 (incN N z).1)∧RStep w w' B rb nb cb sb Fs n (incN N z).2 C:=by
  by_cases hz:0≤z∧z < (n:Int)
  ·obtain ⟨x,rfl⟩:∃ x:Nat,z=(x:Int):=⟨z.toNat,by omega⟩
   have hx:x < n:=by omega
   obtain ⟨a,m,ha,hm,hm2⟩:=byte_at h.lN hx
   have ei:incN N (x:Int)=if a=0 then (6,N) else if a=255 then (8,N) else (0,N.set x (a+1)):=by
    unfold incN;rw [if_pos (isIn_yes h.lN hx),at0_of ha,Int.toNat_natCast]
   by_cases h0:a=0
   ·subst h0
    rw [ei,if_pos rfl]
    refine (change_zero B rb nb cb sb Fs n N C w h x hx ha _).mono ?_
    rintro e w' ⟨he,rfl⟩
    exact ⟨he,RStep.refl h⟩
   ·have hm0:0 < m:=by
     rcases Nat.eq_zero_or_pos m with e | e
     ·exact absurd ((u8_nat hm 0).2 e) h0
     ·exact e
    by_cases h1:a=255
    ·rw [ei,if_neg h0,if_pos h1]
     have hm5:a.toNat=255:=by rw [h1];rfl
     refine change_inc B rb nb cb sb Fs n N C w h x hx a m ha hm hm0 8 (fun w' => RStep w w' B rb nb cb sb Fs n N C) ((rmore_full B rb nb cb sb Fs n N C w h x hx a ha hm5).mono ?_)
     rintro e w' ⟨he,rfl⟩
     exact ⟨he,RStep.refl h⟩
    ·rw [ei,if_neg h0,if_neg h1]
     have hm5:m < 255:=by
      have:m ≠ 255:=fun e => h1 ((u8_nat hm 255).2 e)
      omega
     exact change_inc B rb nb cb sb Fs n N C w h x hx a m ha hm hm0 0 (fun w' => RStep w w' B rb nb cb sb Fs n (N.set x (a+1)) C) (rmore_any B rb nb cb sb Fs n N C w h x hx a m ha hm hm0 hm5)
  ·have ei:incN N z=(1,N):=by unfold incN;rw [if_neg (by rw [isIn_no h.lN hz];decide)]
   rw [ei]
   refine (change_out B rb nb cb sb Fs n N C w h z hz _).mono ?_
   rintro e w' ⟨he,rfl⟩
   exact ⟨he,RStep.refl h⟩
 generalize incN N z=q at *
 go_enter Tryz.func27,Tryz.ntmps27
 go_wp2_with (first | (go_at_call 60;refine keyF.mono ?_;rintro e w' ⟨rfl,hP⟩))
 go_ret
 exact ⟨rfl,hP⟩
theorem dec_any (z:Int):Calls Tryz.prog 24 #[.pointer (some ⟨rb,0,none⟩),.int .i64 z] w fun e w' => e=.returned (.tuple #[.bool (decN N z).1,.int .i64 (decN N z).2.1])∧RStep w w' B rb nb cb sb Fs n (decN N z).2.2 C:=by
 by_cases hz:0≤z∧z < (n:Int)
 ·obtain ⟨x,rfl⟩:∃ x:Nat,z=(x:Int):=⟨z.toNat,by omega⟩
  have hx:x < n:=by omega
  obtain ⟨a,m,ha,hm,hm2⟩:=byte_at h.lN hx
  have ei:decN N (x:Int)=if a=0 then (false,6,N) else (decide (a=1),0,N.set x (a - 1)):=by
   unfold decN;rw [if_pos (isIn_yes h.lN hx),at0_of ha,Int.toNat_natCast]
  by_cases h0:a=0
  ·subst h0
   rw [ei,if_pos rfl]
   clear ei
   have cC:=change_zero B rb nb cb sb Fs n N C w h x hx ha (.func (.func 61) #[] #[])
   clear ha hm
   go_enter Tryz.func24,Tryz.ntmps24
   go_wp2_with (first | (go_at_call 60;refine cC.mono ?_;rintro e w' ⟨rfl,rfl⟩))
   go_ret2
   exact ⟨rfl,RStep.refl h⟩
  ·have hm0:0 < m:=by
    rcases Nat.eq_zero_or_pos m with e | e
    ·exact absurd ((u8_nat hm 0).2 e) h0
    ·exact e
   rw [ei,if_neg h0]
   clear ei
   have cC:=change_dec B rb nb cb sb Fs n N C w h x hx a m ha hm hm0 0 (fun w' => RStep w w' B rb nb cb sb Fs n (N.set x (a - 1)) C) (rless_any B rb nb cb sb Fs n N C w h x hx a m ha hm hm0)
   have hpr:=u8_pred hm hm0
   have hd:decide (a=1)=((m:Int) - 1 == 0):=by
    rw [Bool.eq_iff_iff,decide_eq_true_iff,u8_nat hm 1]
    have:(1:UInt8).toNat=1:=rfl
    simp [this];omega
   rw [hd]
   have hg:(N.set x (a - 1))[x]?=some (a - 1):=List.getElem?_set_self (by rw [h.lN];exact hx)
   have hq:∃ k:Nat,(a - 1).toNat=k∧(m:Int) - 1=(k:Int):=⟨(a - 1).toNat,rfl,hpr.symm⟩
   obtain ⟨k,hk1,hk2⟩:=hq
   rw [hk2]
   generalize N.set x (a - 1)=N' at *
   have HG:=mkHid hg
   have HK:=mkHid hk1
   clear ha hm hd hpr hg hk1 hk2
   go_enter Tryz.func24,Tryz.ntmps24
   go_wp2_with (first | (go_at_call 60;refine cC.mono ?_;rintro e w' ⟨rfl,hP⟩;have HP:=mkHid hP;obtain ⟨Fs',hP1,hP2,hP3⟩:=hP;have c0:=hP1.c0;have ck:=hP1.rn.read HG.out HK.out;rw [Nat.zero_add] at ck;clear hP1 hP2 hP3))
   go_ret2
   exact ⟨by first | rfl | simp,HP.out⟩
 ·have ei:decN N z=(false,1,N):=by unfold decN;rw [if_neg (by rw [isIn_no h.lN hz];decide)]
  rw [ei]
  clear ei
  have cC:=change_out B rb nb cb sb Fs n N C w h z hz (.func (.func 61) #[] #[])
  go_enter Tryz.func24,Tryz.ntmps24
  go_wp2_with (first | (go_at_call 60;refine cC.mono ?_;rintro e w' ⟨rfl,rfl⟩))
  go_ret2
  exact ⟨rfl,RStep.refl h⟩
theorem alloc_any:Calls Tryz.prog 22 #[.pointer (some ⟨rb,0,none⟩)] w fun e w' => e=.returned (.tuple #[.int .i64 (allocN N C).1,.int .i64 (allocN N C).2.1])∧RStep w w' B rb nb cb sb Fs n (allocN N C).2.2 C:=by
 have cM:=rmade_yes rb sb w h.c2
 have c2:=h.c2
 have cT:=take_anyF B sb Fs _ w h.sp
 rw [take_alloc (h.lC.trans h.lN.symm)] at cT
 cases hf:freeL (freeI N C) with
 | nil =>
  have e:allocN N C=(0,8,N):=by unfold allocN;rw [hf]
  rw [e] at cT ⊢
  clear e hf
  go_enter Tryz.func22,Tryz.ntmps22
  go_wp2_with (first | (go_at_call 44;refine cM.mono ?_;rintro e w' ⟨rfl,rfl⟩) | (go_at_call 56;refine cT.mono ?_;rintro e w' ⟨rfl,hs⟩))
  go_ret2
  refine ⟨rfl,?_⟩
  obtain ⟨Fs',h1,h2,h3⟩:=hs
  have hn:∀ k,k < w.heap.size→k ∉ Fs→k ∉ Fs':=fun k h4 h5 h6 => (h3 k h6).elim h5 (fun h7 => by omega)
  exact ⟨Fs',⟨h2.cellv h.c0 h.d4,h2.cellv h.c1 h.d4,h2.cellv h.c2 h.d4,fun j => (h2.frozen (p:=⟨rb,j,none⟩) (show rb < w.heap.size from h.ltr) h.d4).trans (h.fz j),
   h.rn.chg h2 (fun k hk => by rw [fp_some _ _ _ h.n0] at hk;simp at hk;subst hk;exact h.d5),h.rc.chg h2 (fun k hk => by rw [fp_some _ _ _ h.n0] at hk;simp at hk;subst hk;exact h.d6),h1,h.n0,h.nn,h.rB,h.d1,h.d2,h.d3,hn _ h.ltr h.d4,hn _ h.ltn.2 h.d5,hn _ h.ltc.2 h.d6⟩,
   h2.mono (fun k hk _ => by simp [hk]),h3⟩
 | cons x r =>
  have e:allocN N C=((x:Int),0,N.set x 1):=by unfold allocN;rw [hf]
  rw [e] at cT ⊢
  have hx:=(mem_freeL _ x).1 (by rw [hf];simp)
  have hxn:x < n:=by have:=(List.getElem?_eq_some_iff.1 hx).1;rw [freeI_len h.lN h.lC] at this;exact this
  obtain ⟨hN,hC⟩:=freeI_true.1 hx
  have ck:=h.rn.read hN (m:=0) rfl
  have hfz:=h.rn.cell x hxn
  rw [Nat.zero_add] at ck hfz
  have HH:=mkHid h
  have h5:=h.d5
  have h4:=h.d4
  have c0:=h.c0
  clear e hf hx hN hC h
  simp only at cT
  go_enter Tryz.func22,Tryz.ntmps22
  go_wp2_with (first | (go_at_call 44;refine cM.mono ?_;rintro e w' ⟨rfl,rfl⟩) | (go_at_call 56;refine cT.mono ?_;rintro e w1 ⟨rfl,hs⟩;have HS:=mkHid hs;obtain ⟨Fs',h1,h2,h3⟩:=hs;have c02:=h2.cellv c0 h4;have ck2:=h2.cellv ck h5;have fk2:=(h2.frozen (p:=⟨nb,x,none⟩) (block_lt_of_cell ck) h5).trans hfz;clear h1 h2 h3))
  go_ret2
  refine ⟨rfl,?_⟩
  have h:=HH.out
  obtain ⟨Fs',h1,h2,h3⟩:=HS.out
  have hn:∀ k,k < w.heap.size→k ∉ Fs→k ∉ Fs':=fun k h4 h5 h6 => (h3 k h6).elim h5 (fun h7 => by omega)
  have g1:=Chg.setCell w1 ⟨nb,x,none⟩ (.int .u8 1)
  have hr:=(h.rn.chg h2 (fun k hk => by rw [fp_some _ _ _ h.n0] at hk;simp at hk;subst hk;exact h.d5)).set x hxn (.int .u8 (v8 1))
  rw [Nat.zero_add,bts_set] at hr
  have hr1:Room (w1.setCell ⟨nb,x,none⟩ (.int .u8 1)) B (some ⟨nb,0,none⟩) n n (bts (N.set x 1)):=hr
  have e5:=hn _ h.ltn.2 h.d5
  have g:Chg (nb :: Fs) w (w1.setCell ⟨nb,x,none⟩ (.int .u8 1)):=h2.trans g1 (fun k hk _ => by simp [hk]) (fun k hk _ => by simp at hk;simp [hk])
  have e1:rb ∉ nb :: Fs:=by simp;exact ⟨h.d1,h.d4⟩
  have e2:cb ∉ nb :: Fs:=by simp;exact ⟨fun e => h.d3 e.symm,h.d6⟩
  exact ⟨Fs',⟨g.cellv h.c0 e1,g.cellv h.c1 e1,g.cellv h.c2 e1,fun j => (g.frozen (p:=⟨rb,j,none⟩) (show rb < w.heap.size from h.ltr) e1).trans (h.fz j),
   hr1,h.rc.chg g (fun k hk => by rw [fp_some _ _ _ h.n0] at hk;simp at hk;subst hk;exact e2),h1.chg g1 (fun k hk hm => by simp at hm;subst hm;exact e5 hk),h.n0,h.nn,h.rB,h.d1,h.d2,h.d3,hn _ h.ltr h.d4,e5,hn _ h.ltc.2 h.d6⟩,
   g.mono (fun k hk _ => by simp at hk;simp;rcases hk with hk | hk <;> simp [hk]),h3⟩
end
end
section
set_option maxRecDepth 200000
open Go.RowKit
attribute [local go_sem ↓] Go.wp_at_zero Go.wp_at_succ
def Mix (n k:Nat) (X Y:List UInt8) (Is:List Bool):Prop:=Is.length=n∧(∀ j,j < k→Is[j]?=(freeI Y Y)[j]?)∧∀ j,k≤j→Is[j]?=(freeI X Y)[j]?
theorem Mix.start {n:Nat} {X Y:List UInt8} (hX:X.length=n) (hY:Y.length=n):Mix n 0 X Y (freeI X Y):=⟨freeI_len hX hY,fun j hj => by omega,fun j _ => rfl⟩
theorem Mix.done {n:Nat} {X Y:List UInt8} {Is:List Bool} (hY:Y.length=n) (h:Mix n n X Y Is):Is=freeI Y Y:=by
 apply List.ext_getElem?
 intro j
 by_cases hj:j < n
 ·exact h.2.1 j hj
 ·rw [List.getElem?_eq_none (by rw [h.1];omega),List.getElem?_eq_none (by rw [freeI_len hY hY];omega)]
theorem Mix.same {n k:Nat} {X Y:List UInt8} {Is:List Bool} {a b:UInt8} (h:Mix n k X Y Is) (ha:X[k]?=some a) (hb:Y[k]?=some b) (e:a=0 ∨ b ≠ 0):Mix n (k+1) X Y Is:=by
 refine ⟨h.1,fun j hj => ?_,fun j hj => h.2.2 j (by omega)⟩
 by_cases hjk:j=k
 ·subst hjk
  rw [h.2.2 j (Nat.le_refl _),freeI_get ha hb,freeI_get hb hb]
  rcases e with e | e
  ·subst e;simp
  ·have:(b == 0)=false:=by simpa using e
   rw [this];simp
 ·exact h.2.1 j (by omega)
theorem Mix.give {n k:Nat} {X Y:List UInt8} {Is:List Bool} {a:UInt8} (h:Mix n k X Y Is) (hk:k < n) (ha:X[k]?=some a) (hb:Y[k]?=some 0) (e:a ≠ 0):giveN Is (k:Int)=(0,Is.set k true)∧Mix n (k+1) X Y (Is.set k true):=by
 have hI:Is[k]?=some false:=by
  rw [h.2.2 k (Nat.le_refl _),freeI_get ha hb]
  have:(a == 0)=false:=by simpa using e
  rw [this];simp
 have hl:=h.1
 refine ⟨by unfold giveN;rw [if_neg (by omega),Int.toNat_natCast,hI,if_neg (by simp)],by simp [hl],fun j hj => ?_,fun j hj => ?_⟩
 ·by_cases hjk:j=k
  ·subst hjk
   rw [List.getElem?_set_self (by omega),freeI_get hb hb];rfl
  ·rw [List.getElem?_set_ne (fun h => hjk h.symm)]
   exact h.2.1 j (by omega)
 ·rw [List.getElem?_set_ne (by omega)]
  exact h.2.2 j (by omega)
set_option maxRecDepth 20000 in
theorem settle_anyF (B rb sb xb yb:Nat) (Fs:List Nat) (n:Nat) (X Y:List UInt8) (w:World) (c2:w.cell? ⟨rb,2,none⟩=some (.pointer (some ⟨sb,0,none⟩)))
  (hX:Room w B (some ⟨xb,0,none⟩) n n (bts X)) (hY:Room w B (some ⟨yb,0,none⟩) n n (bts Y)) (hS:SpAt w B sb Fs (freeI X Y)) (n0:0 < n) (nn:n≤1024) (d1:rb ∉ Fs) (d2:xb ∉ Fs) (d3:yb ∉ Fs) :
  Calls Tryz.prog 67 #[.pointer (some ⟨rb,0,none⟩),.slice (some ⟨xb,0,none⟩) n n,.slice (some ⟨yb,0,none⟩) n n] w fun e w' => e=.returned (.tuple #[])∧∃ Fs',SpAt w' B sb Fs' (freeI Y Y)∧Room w' B (some ⟨xb,0,none⟩) n n (bts Y)∧Chg (xb :: Fs) w w'∧∀ k,k∈Fs'→k∈Fs ∨ w.heap.size≤k:=by
 have lX:X.length=n:=by have:=hX.len;rwa [bts_length] at this
 have lY:Y.length=n:=by have:=hY.len;rwa [bts_length] at this
 have hM:=Mix.start lX lY
 have hxw:xb < w.heap.size:=(hX.lt xb (by rw [fp_some _ _ _ n0];simp)).2
 go_enter Tryz.func67,Tryz.ntmps67
 go_wp2_with fail
 go_loopw [10] (fun v wr => ∃ (k:Nat) (Is:List Bool) (Fk:List Nat),v=.int .i64 k∧k≤n∧Mix n k X Y Is∧SpAt wr B sb Fk Is∧Chg Fs w wr∧∀ q,q∈Fk→q∈Fs ∨ w.heap.size≤q) (fun v _ => n - (Go.RowKit.intOf v).toNat)
 case atStart => exact ⟨0,_,Fs,rfl,Nat.zero_le _,hM,hS,Chg.refl _ _,fun q hq => Or.inl hq⟩
 case round =>
  clear hM hS
  obtain ⟨k,Is,Fk,rfl,hk,hM,hS,hg,hf⟩:=hrel
  have fx:∀ q,q∈fp (some ⟨xb,0,none⟩) n→q ∉ Fs:=fun q hq => by rw [fp_some _ _ _ n0] at hq;simp at hq;subst hq;exact d2
  have fy:∀ q,q∈fp (some ⟨yb,0,none⟩) n→q ∉ Fs:=fun q hq => by rw [fp_some _ _ _ n0] at hq;simp at hq;subst hq;exact d3
  have hXr:=hX.chg hg fx
  have hYr:=hY.chg hg fy
  have c2r:=hg.cellv c2 d1
  by_cases hlt:k < n
  ·have hd:decide (k < n)=true:=decide_eq_true hlt
   have hd2:decide ((k:Int) < (n:Int))=true:=decide_eq_true (by omega)
   obtain ⟨a,m,ha,hm,hm2⟩:=byte_at lX hlt
   obtain ⟨b,q,hb,hq,hq2⟩:=byte_at lY hlt
   have ci:=hXr.read ha hm
   have cj:=hYr.read hb hq
   rw [Nat.zero_add] at ci cj
   by_cases hm0:m=0
   ·have hM':=hM.same ha hb (Or.inl ((u8_nat hm 0).2 hm0))
    have t1:decide ((m:Int) > 0)=false:=decide_eq_false (by omega)
    have t2:decide (0 < m)=false:=decide_eq_false (by omega)
    have t3:decide ((0:Int) < (m:Int))=false:=decide_eq_false (by omega)
    have HM:=mkHid hM'
    clear ha hm hb hq hM hM' hm0 hX hY hXr hYr
    go_wp2_with fail
    exact ⟨⟨k+1,Is,Fk,by first | rfl | go_num,by omega,HM.out,hS,hg,hf⟩,by simp [Go.RowKit.intOf];omega⟩
   ·have t1:decide ((m:Int) > 0)=true:=decide_eq_true (by omega)
    have t2:decide (0 < m)=true:=decide_eq_true (by omega)
    have t3:decide ((0:Int) < (m:Int))=true:=decide_eq_true (by omega)
    by_cases hq0:q=0
    ·have hb0:Y[k]?=some 0:=by rw [hb,(u8_nat hq 0).2 hq0]
     obtain ⟨eg,hM'⟩:=hM.give hlt ha hb0 (fun e => hm0 ((u8_nat hm 0).1 e))
     have cG:=give_any (k:Int) B sb Fk Is wr hS
     rw [eg] at cG
     have u1:((q:Int) == 0)=true:=by simp;omega
     have u2:(q == 0)=true:=by simp;omega
     have HM:=mkHid hM'
     generalize Is.set k true=I2 at *
     clear ha hm hb hq hM hM' hm0 hX hY hXr hYr hb0 eg hq0
     go_wp2_with (first | (go_at_call 114;refine cG.mono ?_;rintro e w2 ⟨rfl,hs⟩))
     obtain ⟨F2,s1,s2,s3⟩:=hs
     have hz:=hg.size
     refine ⟨⟨k+1,I2,F2,by first | rfl | go_num,by omega,HM.out,s1,hg.trans s2 (fun _ h _ => h) (fun p hp hlt => (hf p hp).elim id (fun h9 => by omega)),fun p hp => ?_⟩,by simp [Go.RowKit.intOf];omega⟩
     rcases s3 p hp with h9 | h9
     ·exact hf p h9
     ·exact Or.inr (by omega)
    ·have hM':=hM.same ha hb (Or.inr (fun e => hq0 ((u8_nat hq 0).1 e)))
     have u1:((q:Int) == 0)=false:=beq_eq_false_iff_ne.2 (by omega)
     have u2:(q == 0)=false:=beq_eq_false_iff_ne.2 (by omega)
     have HM:=mkHid hM'
     clear ha hm hb hq hM hM' hm0 hX hY hXr hYr hq0
     go_wp2_with fail
     exact ⟨⟨k+1,Is,Fk,by first | rfl | go_num,by omega,HM.out,hS,hg,hf⟩,by simp [Go.RowKit.intOf];omega⟩
  ·have hkn:k=n:=by omega
   subst hkn
   have hd:decide (k < k)=false:=by simp
   have hI:=hM.done lY
   subst hI
   have hl:(bts Y).length=k:=by rw [bts_length];exact lY
   have hth:=hXr.there 0 k (by omega)
   have hs:=hXr.sets (bts Y) 0 (by omega)
   have e1:(bts X).take 0++(bts Y++(bts X).drop (0+(bts Y).length))=bts Y:=by
    rw [hl,List.drop_eq_nil_of_le (by rw [bts_length];omega)];simp
   rw [e1] at hs
   have hY2:=hYr.reads
   have g1:=Chg.setCells xb (bts Y) 0 wr
   have hxk:xb ∉ Fk:=fun hm => (hf xb hm).elim d2 (fun h => by omega)
   have HL:=mkHid hl
   have hz:(wr.setCells xb 0 (bts Y)).heap.size=wr.heap.size:=size_setCells xb (bts Y) 0 wr
   have HZ:=mkHid hz
   clear hl e1 hM hX hY hXr hYr lX lY hz
   go_wp2_with (refine wpList_copy_k rfl (.tmp 31) (.tmp 32) 27 27 5 rfl Tryz.underlying27 oneB xb 0 k k (some ⟨yb,0,none⟩) k k (bts Y) rfl rfl hY2 (by rw [HL.out];exact (Nat.min_self _).symm) (by rw [HL.out];exact hth) (bts_one _) ?_)
   go_end0
   exact ⟨rfl,Fk,hS.chg g1 (fun p hp hm => by simp at hm;subst hm;exact hxk hp),hs,hg.trans g1 (fun p hp _ => by simp [hp]) (fun p hp _ => by simp at hp;simp [hp]),hf⟩
section
variable (B rb nb cb sb:Nat) (Fs:List Nat) (n:Nat) (N C:List UInt8) (w:World) (h:RfsAt w B rb nb cb sb Fs n N C)
include h
set_option maxRecDepth 20000 in
theorem commit_any:Calls Tryz.prog 28 #[.pointer (some ⟨rb,0,none⟩)] w fun e w' => e=.returned (.int .i64 0)∧RStep w w' B rb nb cb sb Fs n N N:=by
 have cM:=rmade_yes rb sb w h.c2
 have c0:=h.c0
 have c1:=h.c1
 have cS:∀ w1,Chg [] w w1→Calls Tryz.prog 67 #[.pointer (some ⟨rb,0,none⟩),.slice (some ⟨cb,0,none⟩) n n,.slice (some ⟨nb,0,none⟩) n n] w1 fun e w' => e=.returned (.tuple #[])∧RStep w w' B rb nb cb sb Fs n N N∧w'.cell? ⟨rb,0,none⟩=some (.slice (some ⟨nb,0,none⟩) n n)∧w'.cell? ⟨rb,1,none⟩=some (.slice (some ⟨cb,0,none⟩) n n):=by
  intro w1 g
  have h1:=h.keep g
  refine (settle_anyF B rb sb cb nb Fs n C N w1 h1.c2 h1.rc h1.rn (by rw [freeI_comm];exact h1.sp) h.n0 h.nn h.d4 h.d6 h.d5).mono ?_
  rintro e w' ⟨he,Fs',s1,s2,s3,s4⟩
  have hn:∀ k,k < w1.heap.size→k ∉ Fs→k ∉ Fs':=fun k h4 h5 h6 => (s4 k h6).elim h5 (fun h7 => by omega)
  have e1:rb ∉ cb :: Fs:=by simp;exact ⟨h.d2,h.d4⟩
  have e2:nb ∉ cb :: Fs:=by simp;exact ⟨h.d3,h.d5⟩
  refine ⟨he,⟨Fs',⟨s3.cellv h1.c0 e1,s3.cellv h1.c1 e1,s3.cellv h1.c2 e1,fun j => (s3.frozen (p:=⟨rb,j,none⟩) (show rb < w1.heap.size from h1.ltr) e1).trans (h1.fz j),
   h1.rn.chg s3 (fun k hk => by rw [fp_some _ _ _ h.n0] at hk;simp at hk;subst hk;exact e2),s2,s1,h.n0,h.nn,h.rB,h.d1,h.d2,h.d3,hn _ h1.ltr h.d4,hn _ h1.ltn.2 h.d5,hn _ h1.ltc.2 h.d6⟩,
   g.trans s3 (by simp) (fun k hk _ => by simp at hk;simp;rcases hk with hk | hk <;> simp [hk]),fun k hk => (s4 k hk).imp id (fun h9 => Nat.le_trans g.size h9)⟩,s3.cellv h1.c0 e1,s3.cellv h1.c1 e1⟩
 have CS:=mkHid cS
 clear cS
 go_enter Tryz.func28,Tryz.ntmps28
 go_wp2_with (first | (go_at_call 44;refine cM.mono ?_;rintro e w' ⟨rfl,rfl⟩))
 go_region_held3 (fun u => u.cell? ⟨rb,0,none⟩=some (.slice (some ⟨nb,0,none⟩) n n)∧u.cell? ⟨rb,1,none⟩=some (.slice (some ⟨cb,0,none⟩) n n))
  (first | exact ⟨c0,c1⟩ | exact ⟨k0,k1⟩ | assumption)
  (first | (go_at_call 67;refine (CS.out _ (by first | exact Chg.refl _ _ | exact Chg.drew _ _)).mono ?_;rintro e w4 ⟨rfl,hst,k0,k1⟩))
 go_wp2_with fail
 go_ret
 exact ⟨rfl,hst⟩
end
end
end Go.Proofs.YtdgkbicelnnfpaaGreatDoor
