/- Texts Tm, Tn of the library, joined. -/
import Derived.Test.YtdgkbicelnnfpaaGreatDoorM27
import Derived.StillTailTactics
set_option linter.unusedVariables false
set_option linter.unusedSimpArgs false
namespace Go.Proofs.YtdgkbicelnnfpaaGreatDoor
section
set_option maxRecDepth 200000
open Go.RowKit
attribute [local go_sem ↓] Go.wp_at_zero Go.wp_at_succ
structure AS where
 t:Nat
 was:Nd
 node:Nd
 pl:Nat
def CS.abs (s:CS):AS:=⟨s.t,s.was.nd,s.node.nd,s.pl⟩
def downL (C:List UInt8) (key:Nat):Nat→List UInt8→(Nat→Option Nd)→List AS→AS→Out (List UInt8 × (Nat→Option Nd) × List AS)
 | 0,_,_,_,_ => .stuck
 | f+1,N,X,L,x =>
  if x.node.lf=true then .ok (N,X,L++[x]) else
  if f=0 then .stuck else
  match x.node.V[x.node.child key]?,x.node.K[x.node.child key]? with
  | some v,some k =>
   match shadowA N C X v with
   | .stuck => .stuck
   | .full => .full
   | .ok (N',X',t,m) => downL C key f N' X' (L++[⟨x.t,x.was,x.node.put (x.node.child key) (min key k) t,x.node.child key⟩]) ⟨t,m,m,0⟩
  | _,_ => .stuck
def downA (N C:List UInt8) (X:Nat→Option Nd) (root key:Nat):Out (List UInt8 × (Nat→Option Nd) × List AS):=
 match shadowA N C X root with
 | .stuck => .stuck
 | .full => .full
 | .ok (N',X',t,m) => downL C key 12 N' X' [] ⟨t,m,m,0⟩
def lenAt (w:World) (wb:Nat):Nat:=match w.cell? ⟨wb,1,none⟩ with
 | some (.slice _ k _) => k
 | _ => 0
theorem lenAt_of {w:World} {wb k c:Nat} {a:Option Addr} (h:w.cell? ⟨wb,1,none⟩=some (.slice a k c)):lenAt w wb=k:=by unfold lenAt;rw [h]
theorem less12 {w w':World} {b a:Nat} (h:lenAt w' b=a+1) (h0:lenAt w b=a) (ha:a < 12):12 - lenAt w' b < 12 - lenAt w b:=by omega
theorem shadow_good {N C:List UInt8} {X:Nat→Option Nd} {a:Nat} {N':List UInt8} {X':Nat→Option Nd} {t:Nat} {m:Nd} (h:shadowA N C X a=.ok (N',X',t,m)):X a=some m:=by
 unfold shadowA at h
 cases hX:X a with
 | none => rw [hX] at h;simp at h
 | some p =>
  rw [hX] at h
  dsimp only at h
  split at h
  ·simp at h;rw [h.2.2.2]
  ·split at h
   ·simp at h
   ·split at h
    ·simp at h
    ·split at h
     ·simp at h
     ·simp at h;rw [h.2.2.2]
theorem good_sq {m:Nd} (h:m.good):m.sq:=by
 obtain ⟨l1,l2,l3⟩:=may_len h.1
 exact ⟨by omega,by omega⟩
theorem new_way (w:World) (sb B:Nat) (tag:Nat→Nat) (hB:B≤w.heap.size) (ht:tag w.heap.size=4) (t:TypeId) :
  WayAt (w.alloc (.cells #[.pointer (some ⟨sb,0,none⟩),.slice none 0 0,.slice none 0 0,.int .u64 0,.int .u64 0,.bool false] t)) B tag w.heap.size sb none 0 none 0 [] [] 0 0 false:=by
 have hl:=heap_alloc_last w (.cells #[.pointer (some ⟨sb,0,none⟩),.slice none 0 0,.slice none 0 0,.int .u64 0,.int .u64 0,.bool false] t)
 have hc:=fun j => cell_of_row _ w.heap.size j _ _ _ hl
 refine ⟨by rw [hc];rfl,by rw [hc];rfl,by rw [hc];rfl,by rw [hc];rfl,by rw [hc];rfl,by rw [hc];rfl,fun j => frozen_of_row _ _ _ _ _ hl,ht,RowS.nil _ _ _,RowS.nil _ _ _,by simp [fp_zero],by simp [fp_zero],by simp [fp_zero],?_⟩
 simp
 omega
theorem StepAt.over {w:World} {b:Nat} {s:CS} (h:StepAt w b 0 s) (q:CS):StepAt ((((((((w.setCell ⟨b,0,none⟩ (.int .u64 (q.t:Int))).setCell ⟨b,1,none⟩ (.bool q.was.lf)).setCell ⟨b,2,none⟩ (.slice q.was.ka q.was.K.length q.was.kc)).setCell ⟨b,3,none⟩ (.slice q.was.va q.was.V.length q.was.vc)).setCell ⟨b,4,none⟩ (.bool q.node.lf)).setCell ⟨b,5,none⟩ (.slice q.node.ka q.node.K.length q.node.kc)).setCell ⟨b,6,none⟩ (.slice q.node.va q.node.V.length q.node.vc)).setCell ⟨b,7,none⟩ (.int .i64 (q.pl:Int))) b 0 q:=by
 obtain ⟨⟨e0,e1,e2,e3,e4,e5,e6,e7⟩,-⟩:=h.all
 simp only [Nat.zero_add] at e1 e2 e3 e4 e5 e6 e7
 refine ⟨fun j v hj => ?_,fun j hj => ?_⟩
 ·match j,hj with
  | 0,hj => cases hj;simp [go_sem,e0,e1,e2,e3,e4,e5,e6,e7]
  | 1,hj => cases hj;simp [go_sem,e0,e1,e2,e3,e4,e5,e6,e7]
  | 2,hj => cases hj;simp [go_sem,e0,e1,e2,e3,e4,e5,e6,e7]
  | 3,hj => cases hj;simp [go_sem,e0,e1,e2,e3,e4,e5,e6,e7]
  | 4,hj => cases hj;simp [go_sem,e0,e1,e2,e3,e4,e5,e6,e7]
  | 5,hj => cases hj;simp [go_sem,e0,e1,e2,e3,e4,e5,e6,e7]
  | 6,hj => cases hj;simp [go_sem,e0,e1,e2,e3,e4,e5,e6,e7]
  | 7,hj => cases hj;simp [go_sem,e0,e1,e2,e3,e4,e5,e6,e7]
  | j+8,hj => simp [CS.cells] at hj
 ·rw [World.frozen?_setCell,World.frozen?_setCell,World.frozen?_setCell,World.frozen?_setCell,World.frozen?_setCell,World.frozen?_setCell,World.frozen?_setCell,World.frozen?_setCell]
  exact h.f j hj
def DownPost (w0 w:World) (tag:Nat→Nat) (sb rb n:Nat) (C:List UInt8) (u:Nat) (r:Out (List UInt8 × (Nat→Option Nd) × List AS)) (e:Ending) (w':World):Prop:=
 match r with
 | .stuck => True
 | .full => e=Thrown 8∧∃ (tag':Nat→Nat) (N':List UInt8) (X':Nat→Option Nd),HasX w0 w' tag' sb rb n N' C X' u∧Mv tag tag' w w'
 | .ok (N',X',L) => ∃ (wb:Nat) (a1:Option Addr) (c1:Nat) (S:List CS) (rt:Nat),e=.returned (.pointer (some ⟨wb,0,none⟩))∧S.map CS.abs=L∧(∃ s,S[0]?=some s∧s.t=rt)∧(∀ s,s∈S→s.t < n∧s.node.nd.sq)∧S.length≤12∧w.heap.size≤wb∧(∀ k,k∈fp a1 c1→w.heap.size≤k) ∧
   ∃ (tag':Nat→Nat),HasX w0 w' tag' sb rb n N' C X' u∧Mv tag tag' w w'∧WayAt w' w0.heap.size tag' wb sb a1 c1 none 0 S [] rt 0 false
section
variable {w0 w:World} {tag:Nat→Nat} {sb rb n:Nat} {N C:List UInt8} {X:Nat→Option Nd} {u:Nat}
set_option maxHeartbeats 4000000 in
theorem down_anyT (hT:Tab w0) (h:HasX w0 w tag sb rb n N C X u) (root key:Nat) (hkey:key < 2 ^ 64) (hu:u≤80000000) (r:Out (List UInt8 × (Nat→Option Nd) × List AS)) (hr:downA N C X root key=r) (hne:r ≠ .stuck) :
  Calls Tryz.prog 108 #[.pointer (some ⟨sb,0,none⟩),.int .u64 (root:Int),.int .u64 (key:Int)] w (DownPost w0 w tag sb rb n C (u+26) r):=by
 have g0:=Chg.alloc [] w (.cells #[.pointer (some ⟨sb,0,none⟩),.slice none 0 0,.slice none 0 0,.int .u64 0,.int .u64 0,.bool false] 124)
 have W0:=new_way w sb w0.heap.size tag h.chg.size (h.hi _ (Nat.le_refl _)) 124
 have h0:=h.keep g0
 have M0:=Mv.made g0 h.hi
 have hz0:(w.alloc (.cells #[.pointer (some ⟨sb,0,none⟩),.slice none 0 0,.slice none 0 0,.int .u64 0,.int .u64 0,.bool false] 124)).heap.size=w.heap.size+1:=by simp
 unfold downA at hr
 obtain ⟨sr,hsr⟩:∃ sr,shadowA N C X root=sr:=⟨_,rfl⟩
 rw [hsr] at hr
 have HT:=mkHid hT
 go_enter Tryz.func108,Tryz.ntmps108
 go_wp2_with fail
 generalize (w.alloc (.cells #[.pointer (some ⟨sb,0,none⟩),.slice none 0 0,.slice none 0 0,.int .u64 0,.int .u64 0,.bool false] 124))=w1 at *
 cases sr with
 | stuck => exact absurd hr.symm hne
 | full =>
  dsimp only at hr
  subst hr
  refine (shadow_any hT h0 root (by omega) .full hsr (by simp)).mono ?_
  rintro e w2 ⟨rfl,tag2,N2,X2,h2,m2⟩
  exact end_thrown rfl ⟨rfl,tag2,N2,X2,h2.mono (by omega),M0.trans m2⟩
 | ok q =>
  obtain ⟨N1,X1,t1,m1⟩:=q
  dsimp only at hr
  have hgood:=h.lt (shadow_good hsr)
  refine (shadow_any hT h0 root (by omega) _ hsr (by simp)).mono ?_
  rintro e w2 ⟨q,rfl,hqm,ht1,tag2,h2,m2,q2⟩
  subst hqm
  have W2:=W0.mv m2
  have M2:=M0.trans m2
  have g3:=Chg.alloc [] w2 (.cells (CS.cells ⟨t1,q,q,0⟩).toArray 139)
  have s3:=new_step w2 ⟨t1,q,q,0⟩ 139
  have h3:=h2.keep g3
  have W3:=W2.keep g3
  have M3:=M2.then g3
  have q3:=q2.keep g3
  have b3:tag2 w2.heap.size=4:=h2.hi _ (Nat.le_refl _)
  have hz3:w2.heap.size < (w2.alloc (.cells (CS.cells ⟨t1,q,q,0⟩).toArray 139)).heap.size:=by simp
  have hz2:w.heap.size < w2.heap.size:=by have:=m2.size;omega
  unfold CS.cells at g3 s3 h3 W3 M3 q3 hz3
  unfold stepV
  clear h2 m2 W2 M2 q2 W0 h0 M0 hT g3
  have hsq:=good_sq hgood.2
  have HR:=mkHid hr
  clear hr hsr
  go_wp2_with fail
  generalize hxb:w2.heap.size=xb at *
  generalize (w2.alloc (.cells [.int .u64 (t1:Int),.bool q.lf,.slice q.ka q.K.length q.kc,.slice q.va q.V.length q.vc,.bool q.lf,.slice q.ka q.K.length q.kc,.slice q.va q.V.length q.vc,.int .i64 (0:Nat)].toArray 139))=w3 at *
  generalize hwb:w.heap.size=wb at *
  have HXB:=mkHid hxb
  have HWB:=mkHid hwb
  clear hxb hwb
  go_loopw [9] (fun _ wr => ∃ (f:Nat) (S:List CS) (x:CS) (a1:Option Addr) (c1:Nat) (Nk:List UInt8) (Xk:Nat→Option Nd) (tg:Nat→Nat),S.length+f=12∧0 < f∧WayAt wr w0.heap.size tg wb sb a1 c1 none 0 S [] 0 0 false∧StepAt wr xb 0 x∧tg xb=4∧NdAt wr tg x.was∧NdAt wr tg x.node∧x.node.nd.sq∧x.t < n∧(∀ s,s∈S→s.t < n∧s.node.nd.sq)∧HasX w0 wr tg sb rb n Nk C Xk (u+2 * S.length+2)∧Mv tag tg w wr∧xb ∉ fp a1 c1∧(∀ k,k∈fp a1 c1→wb≤k)∧downL C key f Nk Xk (S.map CS.abs) x.abs=r) (fun _ wr => 12 - lenAt wr wb)
  case atStart => exact ⟨12,[],⟨t1,q,q,0⟩,none,0,N1,X1,tag2,rfl,by omega,W3,s3,b3,q3,q3,hsq,ht1,by simp,h3.mono (by simp),M3,by simp [fp_zero],by simp [fp_zero],HR.out⟩
  case round =>
   obtain ⟨f,S,x,a1,c1,Nk,Xk,tg,hf,hf0,Wk,sk,bk,qk1,qk2,hsqk,hxt,hSn,hk,Mk,hd,hfl,hdl⟩:=hrel
   obtain ⟨⟨e0,e1,e2,e3,e4,e5,e6,e7⟩,z0,z1,z2,z3,z4,z5,z6,z7⟩:=sk.all
   simp only [Nat.zero_add] at e1 e2 e3 e4 e5 e6 e7 z1 z2 z3 z4 z5 z6 z7
   have hk':=hk.hi
   have hwbx:wb < xb:=by omega
   have hxlt:=sk.lt
   obtain ⟨f,rfl⟩:∃ g,f=g+1:=⟨f - 1,by omega⟩
   unfold downL at hdl
   obtain ⟨xt,was,⟨lf,nka,nkc,nva,nvc,nK,nV⟩,xp⟩:=x
   unfold CS.abs CN.nd at hdl
   dsimp only at hdl e0 e1 e2 e3 e4 e5 e6 e7 qk1 qk2 hsqk hxt
   have p1:=Wk.p1
   have HLA:=mkHid (lenAt_of p1)
   have f1:=Wk.f 1
   have f3:=Wk.f 3
   cases lf with
   | true =>
    rw [if_pos rfl] at hdl
    have hrm:=Wk.r1.rm
    have p1d:wr.drew.cell? ⟨wb,1,none⟩=some (.slice a1 S.length c1):=(Chg.drew [] wr).cellv p1 (by simp)
    have hwl2:wb < wr.drew.heap.size:=block_lt_of_cell p1d
    have HP:=mkHid (And.intro p1d (And.intro hwl2 (And.intro Wk.d1 Wk.hB)))
    clear p1d hwl2
    have hwl3:wb < wr.heap.size:=block_lt_of_cell p1
    have hwl4:wb ≠ wr.heap.size:=by omega
    have hxl4:xb ≠ wr.heap.size:=by omega
    have HD:=mkHid hdl
    have HFP:=mkHid (And.intro hd hfl)
    clear hdl hd hfl
    go_wp2_with fail
    go_region_law (first | (refine step_append_zz rfl (.tmp 70) (.tmp 72) 122 rfl 139 8 128 (by decide) eltS w0.heap.size a1 S.length c1 (cellsL S) rfl (hrm.chg (Chg.drew [] wr) (by simp)) (show w0.heap.size≤wr.drew.heap.size from HP.out.2.2.2) (CS.cells ⟨xt,was,⟨true,nka,nkc,nva,nvc,nK,nV⟩,xp⟩).toArray 1 rfl rfl (cells_one _) (by unfold maxLen;omega) (by omega) ?_;intro a6 c6 w6 hr6 hg6 hf6;have k1:=hg6.cellv HP.out.1 HP.out.2.2.1;have k2:w6.frozen? ⟨wb,1,none⟩=false:=(hg6.frozen (p:=⟨wb,1,none⟩) HP.out.2.1 HP.out.2.2.1).trans f1;have Hr6:=mkHid hr6;have Hg6:=mkHid hg6;have Hf6:=mkHid hf6;clear hr6 hg6 hf6))
    all_goals
     obtain ⟨P1,P2,P3⟩:=(Wk.keep (Chg.drew [] wr)).push (fun k hk9 => hk' k hk9) (x:=⟨xt,was,⟨true,nka,nkc,nva,nvc,nK,nV⟩,xp⟩) ⟨qk1.keep (Chg.drew [] wr),qk2.keep (Chg.drew [] wr)⟩ Hr6.out Hg6.out Hf6.out
     have hkd:=hk.keep (Chg.drew [] wr)
     have Mkd:=Mk.then (Chg.drew [] wr)
     have hS7:∀ k,k∈wb :: fp a1 c1→tg k=4:=fun k hk9 => by
      rcases List.mem_cons.1 hk9 with rfl | h9
      ·exact Wk.tb
      ·exact Wk.r1.tg k h9
     have h7:=hkd.wrote P2 hS7
     have M7:=Mkd.wrote P2 (fun k hk9 => by
      rcases List.mem_cons.1 hk9 with rfl | h9
      ·have:=HWB.out;omega
      ·have:=HFP.out.2 k h9;have:=HWB.out;omega)
     have hf7:∀ k,k∈fp a6 c6→w.heap.size≤k:=fun k hk9 => by
      have hmm:=Mk.size
      rcases P3 k hk9 with h9 | h9
      ·have:=HFP.out.2 k h9;have:=HWB.out;omega
      ·have:wr.heap.size≤k:=h9;omega
     generalize w6.setCell ⟨wb,1,none⟩ (.slice a6 (S.length+1:Nat) c6)=w7 at *
     have H7:=mkHid (And.intro h7 (And.intro M7 hf7))
     clear h7 M7 hf7 hS7 Mkd hkd P2 P3 hk Mk Wk sk qk1 qk2 e0 e1 e2 e3 e4 e5 e6 e7 z0 z1 z2 z3 z4 z5 z6 z7 p1 f1 f3 hk' hrm Hr6 Hg6 Hf6 HP
     obtain ⟨s9,hs9⟩:∃ s,(S++[(⟨xt,was,⟨true,nka,nkc,nva,nvc,nK,nV⟩,xp⟩:CS)])[0]?=some s:=⟨_,List.getElem?_eq_getElem (by simp)⟩
     obtain ⟨b9,o9,e9,st9,-⟩:=P1.r1.step hs9
     have hle9:=P1.r1.le
     rw [List.length_append,List.length_singleton] at hle9
     have p1':=P1.p1
     rw [List.length_append,List.length_singleton] at p1'
     have p3':=P1.p3
     have f3':=P1.f 3
     have c9:=st9.all.1.1
     rw [Nat.zero_mul,Nat.add_zero] at c9
     have HE9:=mkHid e9
     rw [e9] at p1'
     clear e9
     go_wp2_with fail
     go_ret
     have hr9:=HD.out
     subst hr9
     obtain ⟨h7,M7,hf7⟩:=H7.out
     have hwb9:=HWB.out
     refine ⟨wb,a6,c6,S++[(⟨xt,was,⟨true,nka,nkc,nva,nvc,nK,nV⟩,xp⟩:CS)],s9.t,rfl,by simp [CS.abs,CN.nd],⟨s9,hs9,rfl⟩,fun y hy => ?_,by simp;omega,by omega,hf7,tg,((h7.set P1.tb).mono (by omega)),M7.wrote (Chg.setCell w7 ⟨wb,3,none⟩ _) (fun k hk9 => by simp at hk9;omega),P1.root s9.t⟩
     rcases List.mem_append.1 hy with h9 | h9
     ·exact hSn y h9
     ·simp at h9;subst h9;exact ⟨hxt,hsqk⟩
   | false =>
    rw [if_neg (by simp)] at hdl
    by_cases hf1:f=0
    ·rw [if_pos hf1] at hdl;exact absurd hdl.symm hne
    rw [if_neg hf1] at hdl
    obtain ⟨pl,hpl⟩:∃ pl,(⟨false,nK,nV⟩:Nd).child key=pl:=⟨_,rfl⟩
    rw [hpl] at hdl
    cases hv:nV[pl]? with
    | none => rw [hv] at hdl;exact absurd hdl.symm hne
    | some v =>
    cases hkk:nK[pl]? with
    | none => rw [hv,hkk] at hdl;exact absurd hdl.symm hne
    | some kk =>
    rw [hv,hkk] at hdl
    try dsimp only at hdl
    have cC:=kchildN hk ⟨false,nka,nkc,nva,nvc,nK,nV⟩ qk2 key
    rw [show (CN.nd ⟨false,nka,nkc,nva,nvc,nK,nV⟩).child key=pl from hpl] at cC
    unfold CN.val at cC
    try dsimp only at cC
    have d11:((S.length:Int) == 11)=false:=by simp;omega
    obtain ⟨vb,vo,hva,hvc⟩:=qk2.rd.rv (by have:=(List.getElem?_eq_some_iff.1 hv).1;simp only [uvs_len];omega)
    obtain ⟨kb,ko,hka,hkc⟩:=qk2.rd.rk (by have:=(List.getElem?_eq_some_iff.1 hkk).1;simp only [uvs_len];omega)
    try dsimp only at hva hka
    subst hva hka
    have hv1:=hvc pl _ (uvs_get hv)
    have hk1:=hkc pl _ (uvs_get hkk)
    have hplV:pl < nV.length:=(List.getElem?_eq_some_iff.1 hv).1
    have hplK:pl < nK.length:=(List.getElem?_eq_some_iff.1 hkk).1
    have hvl:nV.length≤nvc:=qk2.rd.cv
    have hkl:nK.length≤nkc:=qk2.rd.ck
    have hlen8:nK.length≤100:=hsqk.2
    have hvB:v < 2 ^ 64:=qk2.bV v (List.mem_of_getElem? hv)
    have hkB:kk < 2 ^ 64:=qk2.bK kk (List.mem_of_getElem? hkk)
    have htv:0 < (uvs nV).length:=by simp only [uvs_len];omega
    have htk:0 < (uvs nK).length:=by simp only [uvs_len];omega
    have t5v:tg vb=5:=qk2.kv (by dsimp only;omega) vb (by simp [blk])
    have t5k:tg kb=5:=qk2.kk (by dsimp only;omega) kb (by simp [blk])
    have HV:=mkHid (And.intro hv (And.intro hkk hpl))
    have HD:=mkHid hdl
    clear hv hkk hpl hdl hvc hkc
    go_wp2_with fail
    refine cC.mono ?_
    rintro e w4 ⟨rfl,g4⟩
    have s4:=sk.chg g4 (by simp)
    have s4':StepAt (w4.setCell ⟨xb,7,none⟩ (.int .i64 (pl:Int))) xb 0 ⟨xt,was,⟨false,some ⟨kb,ko,none⟩,nkc,some ⟨vb,vo,none⟩,nvc,nK,nV⟩,pl⟩:=s4.place pl
    have g4':=Chg.setCell w4 ⟨xb,7,none⟩ (.int .i64 (pl:Int))
    have hSx:∀ k,k∈[xb]→tg k=4:=fun k hk9 => by simp at hk9;subst hk9;exact bk
    have h5:=(hk.keep g4).wrote g4' hSx
    have W5:=(Wk.keep g4).wrote g4' hSx (by simp;omega) (fun k hk9 hm => by simp at hm;subst hm;exact hd hk9) (by simp [fp_zero])
    have M5:=(Mk.then g4).wrote g4' (fun k hk9 => by simp at hk9;subst hk9;have:=HWB.out;omega)
    have q51:=(qk1.keep g4).wrote g4' hSx
    have q52:=(qk2.keep g4).wrote g4' hSx
    have v5:=g4'.cellv (g4.cellv hv1 (by simp)) (by simp;intro e;rw [e] at t5v;omega)
    have k5:=g4'.cellv (g4.cellv hk1 (by simp)) (by simp;intro e;rw [e] at t5k;omega)
    obtain ⟨⟨e0,e1,e2,e3,e4,e5,e6,e7⟩,z0,z1,z2,z3,z4,z5,z6,z7⟩:=s4.all
    simp only [Nat.zero_add] at e1 e2 e3 e4 e5 e6 e7 z1 z2 z3 z4 z5 z6 z7
    go_wp2_with fail
    generalize w4.setCell ⟨xb,7,none⟩ (.int .i64 (pl:Int))=w5 at *
    have hxb5:xb < w5.heap.size:=s4'.lt
    have hwb5:wb < w5.heap.size:=W5.lt
    have hvb5:vb < w5.heap.size:=block_lt_of_cell v5
    have hkb5:kb < w5.heap.size:=block_lt_of_cell k5
    clear e0 e1 e2 e3 e4 e5 e6 e7 z0 z1 z2 z3 z4 z5 z6 z7 g4' s4 g4 qk1 qk2 hv1 hk1 sk Wk hk Mk p1 f1 f3 hk' cC
    obtain ⟨sr,hsr⟩:∃ sr,shadowA Nk C Xk v=sr:=⟨_,rfl⟩
    have hdl:=HD.out
    rw [hsr] at hdl
    cases sr with
    | stuck => exact absurd hdl.symm hne
    | full =>
     have hdl:Out.full=r:=hdl
     subst hdl
     refine (shadow_any HT.out h5 v (by omega) .full hsr (by simp)).mono ?_
     rintro e w6 ⟨rfl,tg6,N6,X6,h6,m6⟩
     exact end_thrown (P:=Tryz.prog) (fn:=Tryz.f108) rfl ⟨rfl,tg6,N6,X6,h6.mono (by omega),M5.trans m6⟩
    | ok sq =>
     obtain ⟨N6,X6,t6,m6'⟩:=sq
     have hgood6:=h5.lt (shadow_good hsr)
     refine (shadow_any HT.out h5 v (by omega) _ hsr (by simp)).mono ?_
     rintro e w6 ⟨y,rfl,hym,ht6,tg6,h6,m6,y6⟩
     subst hym
     have HD2:=mkHid hdl
     clear hdl hsr HD
     have b6:=m6.four bk hxb5
     have HYA:Hid (w6.heap.size ∉ fp a1 c1):=mkHid fun hm => by have:=(W5.r1.rm.lt _ hm).2;have:=m6.size;omega
     have t5v6:=(m6.o vb hvb5).trans t5v
     have t5k6:=(m6.o kb hkb5).trans t5k
     have s6:=s4'.mv m6 bk
     have W6:=W5.mv m6
     have M6:=M5.trans m6
     have q61:=q51.mv m6
     have q62:=q52.mv m6
     have v6:=m6.cellv v5 (kt5 t5v)
     have k6:=m6.cellv k5 (kt5 t5k)
     have hsz6:=m6.size
     have g7:=Chg.alloc [] w6 (.cells (CS.cells ⟨t6,y,y,0⟩).toArray 139)
     have y7:=new_step w6 ⟨t6,y,y,0⟩ 139
     have by7:tg6 w6.heap.size=4:=h6.hi _ (Nat.le_refl _)
     have h7:=h6.keep g7
     have W7:=W6.keep g7
     have M7:=M6.then g7
     have q71:=q61.keep g7
     have q72:=q62.keep g7
     have yy7:=y6.keep g7
     have s7:=s6.chg g7 (by simp)
     have v7:=g7.cellv v6 (by simp)
     have k7:=g7.cellv k6 (by simp)
     have hz7:w6.heap.size < (w6.alloc (.cells (CS.cells ⟨t6,y,y,0⟩).toArray 139)).heap.size:=by simp
     unfold CS.cells at g7 y7 h7 W7 M7 q71 q72 yy7 s7 v7 k7 hz7
     unfold stepV
     clear h5 m6 W5 M5 q51 q52 v5 k5 s4' h6 W6 M6 q61 q62 y6 s6 v6 k6 g7 bk t5v t5k
     go_wp2_with fail
     generalize hyb:w6.heap.size=yb at *
     generalize (w6.alloc (.cells [.int .u64 (t6:Int),.bool y.lf,.slice y.ka y.K.length y.kc,.slice y.va y.V.length y.vc,.bool y.lf,.slice y.ka y.K.length y.kc,.slice y.va y.V.length y.vc,.int .i64 (0:Nat)].toArray 139))=w7 at *
     have HYB:=mkHid hyb
     clear hyb
     obtain ⟨⟨e0,e1,e2,e3,e4,e5,e6,e7⟩,-⟩:=s7.all
     obtain ⟨⟨y0,y1,y2,y3,y4,y5,y6,y7'⟩,-⟩:=y7.all
     simp only [Nat.zero_add] at e1 e2 e3 e4 e5 e6 e7 y1 y2 y3 y4 y5 y6 y7'
     by_cases hmk:kk < key
     ·have hmin:min key kk=kk:=Nat.min_eq_right (by omega)
      have HMIN:=mkHid hmin
      clear hmin
      have cS:=set_anyT (h7.keep (Chg.drew [] w7)) xb 0 ⟨xt,was,⟨false,some ⟨kb,ko,none⟩,nkc,some ⟨vb,vo,none⟩,nvc,nK,nV⟩,pl⟩ (s7.chg (Chg.drew [] w7) (by simp)) b6 (q72.keep (Chg.drew [] w7)) hsqk pl kk t6 hplK hkB (by have:=h.lens;omega)
      go_still_tail 13,(by kernel_rfl)
      have hdr:({ heap:=w7.heap,tape:=w7.tape,drawn:=w7.drawn+1,os:=w7.os,output:=w7.output }:World)=w7.drew:=rfl
      rw [hdr]
      clear hdr
      go_wp2_with fail
      refine cS.mono ?_
      rintro e w9 ⟨rfl,z,tg8,w8,hzm,h8,m8,z8,hw9⟩
      have hxb7:xb < w7.drew.heap.size:=s7.lt
      have hyb7:yb < w7.drew.heap.size:=y7.lt
      have b8:=m8.four b6 hxb7
      have by8:=m8.four by7 hyb7
      have s8:=(s7.chg (Chg.drew [] w7) (by simp)).mv m8 b6
      have y8:=(y7.chg (Chg.drew [] w7) (by simp)).mv m8 by7
      have W8:=(W7.keep (Chg.drew [] w7)).mv m8
      have M8:=(M7.then (Chg.drew [] w7)).trans m8
      have q81:=(q71.keep (Chg.drew [] w7)).mv m8
      have yy8:=(yy7.keep (Chg.drew [] w7)).mv m8
      have g9:=wr3_chg w8 xb 0 z
      have hSx:∀ k,k∈[xb]→tg8 k=4:=fun k hk9 => by simp at hk9;subst hk9;exact b8
      have hyx:yb ≠ xb:=by have:=HYB.out;omega
      have h9:=h8.wrote g9 hSx
      have s9:=s8.wr z
      have y9:=y8.chg g9 (by simpa using hyx)
      have W9:=W8.wrote g9 hSx (by simp;omega) (fun k hk9 hm => by simp at hm;subst hm;exact hd hk9) (by simp [fp_zero])
      have M9:=M8.wrote g9 (fun k hk9 => by simp at hk9;subst hk9;have:=HWB.out;omega)
      have q91:=q81.wrote g9 hSx
      have z9:=z8.wrote g9 hSx
      have yy9:=yy8.wrote g9 hSx
      rw [← hw9] at h9 s9 y9 W9 M9 q91 z9 yy9
      clear hw9 g9 hSx h8 m8 z8 s8 y8 W8 M8 q81 yy8 e0 e1 e2 e3 e4 e5 e6 e7 y0 y1 y2 y3 y4 y5 y6 y7' s7 y7 W7 M7 q71 q72 yy7 h7 v7 k7 cS
      obtain ⟨⟨e0,e1,e2,e3,e4,e5,e6,e7⟩,-⟩:=s9.all
      obtain ⟨⟨y0,y1,y2,y3,y4,y5,y6,y7'⟩,-⟩:=y9.all
      simp only [Nat.zero_add] at e0 e1 e2 e3 e4 e5 e6 e7 y0 y1 y2 y3 y4 y5 y6 y7'
      have p1:=W9.p1
      have f1:=W9.f 1
      have hrm:=W9.r1.rm
      have p1d:w9.drew.cell? ⟨wb,1,none⟩=some (.slice a1 S.length c1):=(Chg.drew [] w9).cellv p1 (by simp)
      have hwl2:wb < w9.drew.heap.size:=block_lt_of_cell p1d
      have HP:=mkHid (And.intro p1d (And.intro hwl2 (And.intro W9.d1 W9.hB)))
      clear p1d hwl2
      have hwl3:wb < w9.heap.size:=block_lt_of_cell p1
      have hxl3:xb < w9.heap.size:=s9.lt
      have hyl3:yb < w9.heap.size:=y9.lt
      have hwl4:wb ≠ w9.heap.size:=by omega
      have hxl4:xb ≠ w9.heap.size:=by omega
      have hk9':=h9.hi
      have HFP:=mkHid (And.intro hd hfl)
      clear hd hfl
      go_wp2_with fail
      go_region_law (first | (refine step_append_zz rfl (.tmp 59) (.tmp 61) 122 rfl 139 8 128 (by decide) eltS w0.heap.size a1 S.length c1 (cellsL S) rfl (hrm.chg (Chg.drew [] w9) (by simp)) (show w0.heap.size≤w9.drew.heap.size from HP.out.2.2.2) (CS.cells ⟨xt,was,z,pl⟩).toArray 1 rfl rfl (cells_one _) (by unfold maxLen;omega) (by omega) ?_;intro a6 c6 w6 hr6 hg6 hf6;have k1:=hg6.cellv HP.out.1 HP.out.2.2.1;have k2:w6.frozen? ⟨wb,1,none⟩=false:=(hg6.frozen (p:=⟨wb,1,none⟩) HP.out.2.1 HP.out.2.2.1).trans f1;have Hr6:=mkHid hr6;have Hg6:=mkHid hg6;have Hf6:=mkHid hf6;clear hr6 hg6 hf6))
      all_goals
       obtain ⟨P1,P2,P3⟩:=(W9.keep (Chg.drew [] w9)).push (fun k hk9 => hk9' k hk9) (x:=⟨xt,was,z,pl⟩) ⟨q91.keep (Chg.drew [] w9),z9.keep (Chg.drew [] w9)⟩ Hr6.out Hg6.out Hf6.out
       have hS7:∀ k,k∈wb :: fp a1 c1→tg8 k=4:=fun k hk9 => by
        rcases List.mem_cons.1 hk9 with rfl | h9
        ·exact W9.tb
        ·exact W9.r1.tg k h9
       have hxP:xb ∉ wb :: fp a1 c1:=fun hm => by
        rcases List.mem_cons.1 hm with h9 | h9
        ·omega
        ·exact HFP.out.1 h9
       have hyP:yb ∉ wb :: fp a1 c1:=fun hm => by
        rcases List.mem_cons.1 hm with h9 | h9
        ·have:=HYB.out;omega
        ·exact HYA.out h9
       have h7:=(h9.keep (Chg.drew [] w9)).wrote P2 hS7
       have M7:=(M9.then (Chg.drew [] w9)).wrote P2 (fun k hk9 => by
        rcases List.mem_cons.1 hk9 with rfl | h9
        ·have:=HWB.out;omega
        ·have:=HFP.out.2 k h9;have:=HWB.out;omega)
       have s7:=(s9.chg (Chg.drew [] w9) (by simp)).chg P2 hxP
       have y7:=(y9.chg (Chg.drew [] w9) (by simp)).chg P2 hyP
       have yy7:=(yy9.keep (Chg.drew [] w9)).wrote P2 hS7
       have hf7:∀ k,k∈fp a6 c6→wb≤k:=fun k hk9 => by
        rcases P3 k hk9 with h9 | h9
        ·exact HFP.out.2 k h9
        ·have:w9.heap.size≤k:=h9;omega
       have hx7:xb ∉ fp a6 c6:=fun hm => by
        rcases P3 xb hm with h9 | h9
        ·exact HFP.out.1 h9
        ·have:w9.heap.size≤xb:=h9;omega
       generalize w6.setCell ⟨wb,1,none⟩ (.slice a6 (S.length+1:Nat) c6)=w7 at *
       obtain ⟨⟨y0,y1,y2,y3,y4,y5,y6,y7'⟩,-⟩:=y7.all
       obtain ⟨⟨x0,x1,x2,x3,x4,x5,x6,x7⟩,x0',x1',x2',x3',x4',x5',x6',x7'⟩:=s7.all
       simp only [Nat.zero_add] at y0 y1 y2 y3 y4 y5 y6 y7' x0 x1 x2 x3 x4 x5 x6 x7 x0' x1' x2' x3' x4' x5' x6' x7'
       have HXP:=mkHid hxP
       have HX7:=mkHid (And.intro hx7 hf7)
       clear hx7 hf7 hxP hyP hS7 P2 P3 hrm HP Hr6 Hg6 Hf6 e0 e1 e2 e3 e4 e5 e6 e7 W9 M9 h9 s9 y9 q91 z9 yy9 p1 f1 k1 k2 hk9'
       go_wp2_with fail
       have G:=eight_chg w7 xb (.int .u64 (t6:Int)) (.bool y.lf) (.slice y.ka y.K.length y.kc) (.slice y.va y.V.length y.vc) (.bool y.lf) (.slice y.ka y.K.length y.kc) (.slice y.va y.V.length y.vc) (.int .i64 (0:Nat))
       have s8:=s7.over ⟨t6,y,y,0⟩
       have hS8:∀ k,k∈[xb]→tg8 k=4:=fun k hk9 => by simp at hk9;subst hk9;exact b8
       have W8:=P1.wrote G hS8 (by simp;omega) (fun k hk9 hm => by simp at hm;subst hm;exact HX7.out.1 hk9) (by simp [fp_zero])
       go_roundw
       case rel => exact ⟨f,S++[⟨xt,was,z,pl⟩],⟨t6,y,y,0⟩,a6,c6,N6,X6,tg8,by simp;omega,by omega,W8,s8,b8,yy7.wrote G hS8,yy7.wrote G hS8,good_sq hgood6.2,ht6,fun s hs9 => (List.mem_append.1 hs9).elim (hSn s) (fun h9 => by simp at h9;subst h9;exact ⟨hxt,by rw [hzm];exact ⟨by simpa [Nd.put,CN.nd] using hsqk.1,by simpa [Nd.put,CN.nd] using hsqk.2⟩⟩),(h7.wrote G hS8).mono (by simp;omega),M7.wrote G (fun k hk9 => by simp at hk9;subst hk9;have:=HWB.out;omega),HX7.out.1,HX7.out.2,by
        have hd9:=HD2.out
        rw [HMIN.out] at hd9
        rw [List.map_append,List.map_singleton]
        unfold CS.abs
        dsimp only
        rw [hzm]
        exact hd9⟩
       case measure =>
        exact less12 ((lenAt_of W8.p1).trans (by simp)) HLA.out (by omega)
     ·have hmin:min key kk=key:=Nat.min_eq_left (by omega)
      have HMIN:=mkHid hmin
      clear hmin
      have cS:=set_anyT (h7.keep (Chg.drew [] w7)) xb 0 ⟨xt,was,⟨false,some ⟨kb,ko,none⟩,nkc,some ⟨vb,vo,none⟩,nvc,nK,nV⟩,pl⟩ (s7.chg (Chg.drew [] w7) (by simp)) b6 (q72.keep (Chg.drew [] w7)) hsqk pl key t6 hplK hkey (by have:=h.lens;omega)
      go_still_tail 13,(by kernel_rfl)
      have hdr:({ heap:=w7.heap,tape:=w7.tape,drawn:=w7.drawn+1,os:=w7.os,output:=w7.output }:World)=w7.drew:=rfl
      rw [hdr]
      clear hdr
      go_wp2_with fail
      refine cS.mono ?_
      rintro e w9 ⟨rfl,z,tg8,w8,hzm,h8,m8,z8,hw9⟩
      have hxb7:xb < w7.drew.heap.size:=s7.lt
      have hyb7:yb < w7.drew.heap.size:=y7.lt
      have b8:=m8.four b6 hxb7
      have by8:=m8.four by7 hyb7
      have s8:=(s7.chg (Chg.drew [] w7) (by simp)).mv m8 b6
      have y8:=(y7.chg (Chg.drew [] w7) (by simp)).mv m8 by7
      have W8:=(W7.keep (Chg.drew [] w7)).mv m8
      have M8:=(M7.then (Chg.drew [] w7)).trans m8
      have q81:=(q71.keep (Chg.drew [] w7)).mv m8
      have yy8:=(yy7.keep (Chg.drew [] w7)).mv m8
      have g9:=wr3_chg w8 xb 0 z
      have hSx:∀ k,k∈[xb]→tg8 k=4:=fun k hk9 => by simp at hk9;subst hk9;exact b8
      have hyx:yb ≠ xb:=by have:=HYB.out;omega
      have h9:=h8.wrote g9 hSx
      have s9:=s8.wr z
      have y9:=y8.chg g9 (by simpa using hyx)
      have W9:=W8.wrote g9 hSx (by simp;omega) (fun k hk9 hm => by simp at hm;subst hm;exact hd hk9) (by simp [fp_zero])
      have M9:=M8.wrote g9 (fun k hk9 => by simp at hk9;subst hk9;have:=HWB.out;omega)
      have q91:=q81.wrote g9 hSx
      have z9:=z8.wrote g9 hSx
      have yy9:=yy8.wrote g9 hSx
      rw [← hw9] at h9 s9 y9 W9 M9 q91 z9 yy9
      clear hw9 g9 hSx h8 m8 z8 s8 y8 W8 M8 q81 yy8 e0 e1 e2 e3 e4 e5 e6 e7 y0 y1 y2 y3 y4 y5 y6 y7' s7 y7 W7 M7 q71 q72 yy7 h7 v7 k7 cS
      obtain ⟨⟨e0,e1,e2,e3,e4,e5,e6,e7⟩,-⟩:=s9.all
      obtain ⟨⟨y0,y1,y2,y3,y4,y5,y6,y7'⟩,-⟩:=y9.all
      simp only [Nat.zero_add] at e0 e1 e2 e3 e4 e5 e6 e7 y0 y1 y2 y3 y4 y5 y6 y7'
      have p1:=W9.p1
      have f1:=W9.f 1
      have hrm:=W9.r1.rm
      have p1d:w9.drew.cell? ⟨wb,1,none⟩=some (.slice a1 S.length c1):=(Chg.drew [] w9).cellv p1 (by simp)
      have hwl2:wb < w9.drew.heap.size:=block_lt_of_cell p1d
      have HP:=mkHid (And.intro p1d (And.intro hwl2 (And.intro W9.d1 W9.hB)))
      clear p1d hwl2
      have hwl3:wb < w9.heap.size:=block_lt_of_cell p1
      have hxl3:xb < w9.heap.size:=s9.lt
      have hyl3:yb < w9.heap.size:=y9.lt
      have hwl4:wb ≠ w9.heap.size:=by omega
      have hxl4:xb ≠ w9.heap.size:=by omega
      have hk9':=h9.hi
      have HFP:=mkHid (And.intro hd hfl)
      clear hd hfl
      go_wp2_with fail
      go_region_law (first | (refine step_append_zz rfl (.tmp 59) (.tmp 61) 122 rfl 139 8 128 (by decide) eltS w0.heap.size a1 S.length c1 (cellsL S) rfl (hrm.chg (Chg.drew [] w9) (by simp)) (show w0.heap.size≤w9.drew.heap.size from HP.out.2.2.2) (CS.cells ⟨xt,was,z,pl⟩).toArray 1 rfl rfl (cells_one _) (by unfold maxLen;omega) (by omega) ?_;intro a6 c6 w6 hr6 hg6 hf6;have k1:=hg6.cellv HP.out.1 HP.out.2.2.1;have k2:w6.frozen? ⟨wb,1,none⟩=false:=(hg6.frozen (p:=⟨wb,1,none⟩) HP.out.2.1 HP.out.2.2.1).trans f1;have Hr6:=mkHid hr6;have Hg6:=mkHid hg6;have Hf6:=mkHid hf6;clear hr6 hg6 hf6))
      all_goals
       obtain ⟨P1,P2,P3⟩:=(W9.keep (Chg.drew [] w9)).push (fun k hk9 => hk9' k hk9) (x:=⟨xt,was,z,pl⟩) ⟨q91.keep (Chg.drew [] w9),z9.keep (Chg.drew [] w9)⟩ Hr6.out Hg6.out Hf6.out
       have hS7:∀ k,k∈wb :: fp a1 c1→tg8 k=4:=fun k hk9 => by
        rcases List.mem_cons.1 hk9 with rfl | h9
        ·exact W9.tb
        ·exact W9.r1.tg k h9
       have hxP:xb ∉ wb :: fp a1 c1:=fun hm => by
        rcases List.mem_cons.1 hm with h9 | h9
        ·omega
        ·exact HFP.out.1 h9
       have hyP:yb ∉ wb :: fp a1 c1:=fun hm => by
        rcases List.mem_cons.1 hm with h9 | h9
        ·have:=HYB.out;omega
        ·exact HYA.out h9
       have h7:=(h9.keep (Chg.drew [] w9)).wrote P2 hS7
       have M7:=(M9.then (Chg.drew [] w9)).wrote P2 (fun k hk9 => by
        rcases List.mem_cons.1 hk9 with rfl | h9
        ·have:=HWB.out;omega
        ·have:=HFP.out.2 k h9;have:=HWB.out;omega)
       have s7:=(s9.chg (Chg.drew [] w9) (by simp)).chg P2 hxP
       have y7:=(y9.chg (Chg.drew [] w9) (by simp)).chg P2 hyP
       have yy7:=(yy9.keep (Chg.drew [] w9)).wrote P2 hS7
       have hf7:∀ k,k∈fp a6 c6→wb≤k:=fun k hk9 => by
        rcases P3 k hk9 with h9 | h9
        ·exact HFP.out.2 k h9
        ·have:w9.heap.size≤k:=h9;omega
       have hx7:xb ∉ fp a6 c6:=fun hm => by
        rcases P3 xb hm with h9 | h9
        ·exact HFP.out.1 h9
        ·have:w9.heap.size≤xb:=h9;omega
       generalize w6.setCell ⟨wb,1,none⟩ (.slice a6 (S.length+1:Nat) c6)=w7 at *
       obtain ⟨⟨y0,y1,y2,y3,y4,y5,y6,y7'⟩,-⟩:=y7.all
       obtain ⟨⟨x0,x1,x2,x3,x4,x5,x6,x7⟩,x0',x1',x2',x3',x4',x5',x6',x7'⟩:=s7.all
       simp only [Nat.zero_add] at y0 y1 y2 y3 y4 y5 y6 y7' x0 x1 x2 x3 x4 x5 x6 x7 x0' x1' x2' x3' x4' x5' x6' x7'
       have HXP:=mkHid hxP
       have HX7:=mkHid (And.intro hx7 hf7)
       clear hx7 hf7 hxP hyP hS7 P2 P3 hrm HP Hr6 Hg6 Hf6 e0 e1 e2 e3 e4 e5 e6 e7 W9 M9 h9 s9 y9 q91 z9 yy9 p1 f1 k1 k2 hk9'
       go_wp2_with fail
       have G:=eight_chg w7 xb (.int .u64 (t6:Int)) (.bool y.lf) (.slice y.ka y.K.length y.kc) (.slice y.va y.V.length y.vc) (.bool y.lf) (.slice y.ka y.K.length y.kc) (.slice y.va y.V.length y.vc) (.int .i64 (0:Nat))
       have s8:=s7.over ⟨t6,y,y,0⟩
       have hS8:∀ k,k∈[xb]→tg8 k=4:=fun k hk9 => by simp at hk9;subst hk9;exact b8
       have W8:=P1.wrote G hS8 (by simp;omega) (fun k hk9 hm => by simp at hm;subst hm;exact HX7.out.1 hk9) (by simp [fp_zero])
       go_roundw
       case rel => exact ⟨f,S++[⟨xt,was,z,pl⟩],⟨t6,y,y,0⟩,a6,c6,N6,X6,tg8,by simp;omega,by omega,W8,s8,b8,yy7.wrote G hS8,yy7.wrote G hS8,good_sq hgood6.2,ht6,fun s hs9 => (List.mem_append.1 hs9).elim (hSn s) (fun h9 => by simp at h9;subst h9;exact ⟨hxt,by rw [hzm];exact ⟨by simpa [Nd.put,CN.nd] using hsqk.1,by simpa [Nd.put,CN.nd] using hsqk.2⟩⟩),(h7.wrote G hS8).mono (by simp;omega),M7.wrote G (fun k hk9 => by simp at hk9;subst hk9;have:=HWB.out;omega),HX7.out.1,HX7.out.2,by
        have hd9:=HD2.out
        rw [HMIN.out] at hd9
        rw [List.map_append,List.map_singleton]
        unfold CS.abs
        dsimp only
        rw [hzm]
        exact hd9⟩
       case measure =>
        exact less12 ((lenAt_of W8.p1).trans (by simp)) HLA.out (by omega)
end
end
section
set_option maxRecDepth 200000
open Go.RowKit
attribute [local go_sem ↓] Go.wp_at_zero Go.wp_at_succ
def makeA (N C:List UInt8) (X:Nat→Option Nd) (m:Nd):Out (List UInt8 × (Nat→Option Nd) × Nat):=
 if mayB m.K m.V=false then .stuck else
 if (allocN N C).2.1 ≠ 0 then .full else .ok ((allocN N C).2.2,putX X (allocN N C).1.toNat m,(allocN N C).1.toNat)
def MakePost (w0 w:World) (tag:Nat→Nat) (sb rb n:Nat) (C:List UInt8) (u:Nat) (r:Out (List UInt8 × (Nat→Option Nd) × Nat)) (e:Ending) (w':World):Prop:=
 match r with
 | .stuck => True
 | .full => e=.returned (.tuple #[.int .u64 0,.int .i64 8])∧∃ (tag':Nat→Nat) (N':List UInt8) (X':Nat→Option Nd),HasX w0 w' tag' sb rb n N' C X' u∧Mv tag tag' w w'
 | .ok (N',X',t) => e=.returned (.tuple #[.int .u64 (t:Int),.int .i64 0])∧t < n∧∃ (tag':Nat→Nat),HasX w0 w' tag' sb rb n N' C X' u∧Mv tag tag' w w'
section
variable {w0 w:World} {tag:Nat→Nat} {sb rb n:Nat} {N C:List UInt8} {X:Nat→Option Nd} {u:Nat}
theorem made_x (h:HasX w0 w tag sb rb n N C X u):Calls Tryz.prog 53 #[.pointer (some ⟨sb,0,none⟩)] w fun e w' => e=.returned (.bool true)∧w=w':=by
 obtain ⟨Y,h1,h2⟩:=h
 exact made_yesT h1
set_option maxHeartbeats 1000000 in
theorem make_any (hT:Tab w0) (h:HasX w0 w tag sb rb n N C X u) (q:CN) (hq:NdAt w tag q) (hu:u≤95000000) (r:Out (List UInt8 × (Nat→Option Nd) × Nat)) (hr:makeA N C X q.nd=r) (hne:r ≠ .stuck) :
  Calls Tryz.prog 18 #[.pointer (some ⟨sb,0,none⟩),q.val] w (MakePost w0 w tag sb rb n C (u+1) r):=by
 unfold makeA at hr
 by_cases hmay:mayB q.K q.V=true
 ·rw [if_neg (by rw [show q.nd.K=q.K from rfl,show q.nd.V=q.V from rfl,hmay];simp)] at hr
  obtain ⟨lf,ka,kc,va,vc,K,V⟩:=q
  unfold CN.val
  dsimp only at hmay ⊢
  have g0:=Chg.alloc [] w (.cells #[.bool lf,.slice ka K.length kc,.slice va V.length vc] 53)
  have h0:=h.keep g0
  have q0:=hq.keep g0
  have M0:=Mv.made g0 h.hi
  obtain ⟨e0,e1,e2⟩:=laid3 w (.bool lf) (.slice ka K.length kc) (.slice va V.length vc) 53
  have hzb:w.heap.size < (w.alloc (.cells #[.bool lf,.slice ka K.length kc,.slice va V.length vc] 53)).heap.size:=by simp
  have tb:=h.hi _ (Nat.le_refl _)
  have cM:=made_x h0
  have cN:=nmay h0 ⟨lf,ka,kc,va,vc,K,V⟩ q0
  rw [hmay] at cN
  unfold CN.val at cN
  try dsimp only at cN
  obtain ⟨al,hal⟩:∃ al,allocN N C=al:=⟨_,rfl⟩
  rw [hal] at hr
  obtain ⟨t,er,N1⟩:=al
  have HL:=mkHid h.lens
  have HA:Hid (er=0→∃ x:Nat,t=(x:Int)∧x < n):=mkHid fun e => by
   subst e
   obtain ⟨x,h1,h2,-⟩:=alloc_ok HL.out.1 HL.out.2.1 hal
   exact ⟨x,h1,h2⟩
  have HE:Hid (er ≠ 0→t=0∧er=8):=mkHid fun he => ⟨(alloc_no hal he).1,(alloc_no hal he).2.1⟩
  have HT:=mkHid hT
  have HR:=mkHid hr
  have HAL:=mkHid hal
  clear hr hal hT
  go_enter Tryz.func18,Tryz.ntmps18
  go_wp2_with fail
  generalize (w.alloc (.cells #[.bool lf,.slice ka K.length kc,.slice va V.length vc] 53))=w1 at *
  refine cM.mono ?_
  rintro e w' ⟨rfl,rfl⟩
  go_wp2_with fail
  refine cN.mono ?_
  rintro e w2 ⟨rfl,g2⟩
  have h2:=h0.keep g2
  have s2:=h2.s0
  have M2:=M0.then g2
  have q2:=q0.keep g2
  have f0:=g2.cellv e0 (by simp)
  have f1:=g2.cellv e1 (by simp)
  have f2:=g2.cellv e2 (by simp)
  have hz2:w.heap.size < w2.heap.size:=Nat.lt_of_lt_of_le hzb g2.size
  have cA:=x_alloc h2 (t,er,N1) HAL.out
  clear h0 q0 M0 g0 e0 e1 e2 hzb cM cN
  go_wp2_with fail
  refine cA.mono ?_
  rintro e w3 ⟨rfl,tag3,h3,m3⟩
  have M3:=M2.trans m3
  by_cases her:er=0
  ·subst her
   obtain ⟨x,rfl,hx⟩:=HA.out rfl
   have hcx:IntKind.u64.wrap (x:Int)=(x:Int):=wraps_u64 _ (by omega) (by have:=HL.out;omega)
   have q3:=q2.mv m3
   have e0:=m3.cellv f0 (kt4 tb)
   have e1:=m3.cellv f1 (kt4 tb)
   have e2:=m3.cellv f2 (kt4 tb)
   have cS:=save_x HT.out h3 x hx (by omega) ⟨lf,ka,kc,va,vc,K,V⟩ q3 hmay
   unfold CN.val at cS
   try dsimp only at cS
   go_wp2_with fail
   refine cS.mono ?_
   rintro e w4 ⟨rfl,tag4,h4,m4⟩
   go_wp2_with fail
   go_ret2
   have hr:=HR.out
   rw [if_neg (by simp)] at hr
   subst hr
   exact ⟨rfl,hx,tag4,h4,M3.trans m4⟩
  ·obtain ⟨rfl,rfl⟩:=HE.out her
   go_wp2_with fail
   go_ret2
   have hr:=HR.out
   rw [if_pos (by simp)] at hr
   subst hr
   exact ⟨rfl,tag3,N1,X,h3.mono (by omega),M3⟩
 ·rw [if_pos (by have h9:mayB q.K q.V=false:=(by simpa using hmay);exact h9)] at hr
  exact absurd hr.symm hne
end
end
end Go.Proofs.YtdgkbicelnnfpaaGreatDoor
