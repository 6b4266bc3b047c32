/- Texts Tqb, Tqc of the library, joined. -/
import Derived.Test.YtdgkbicelnnfpaaGreatDoorM30
import Derived.Deep.RegionLaw
import Derived.Deep.RegionHeld3
set_option linter.unusedVariables false
set_option linter.unusedSimpArgs false
namespace Go.Proofs.YtdgkbicelnnfpaaGreatDoor
section
set_option maxRecDepth 200000
open Go.RowKit
attribute [local go_sem ↓] Go.wp_at_zero Go.wp_at_succ
section
variable {w0 w:World} {tag:Nat→Nat} {sb rb n:Nat} {N C:List UInt8} {X:Nat→Option Nd} {u:Nat} {wb:Nat} {a1:Option Addr} {c1:Nat} {a2:Option Addr} {c2:Nat} {S V:List CS} {rt od:Nat} {th:Bool}
set_option maxHeartbeats 4000000 in
theorem grown_mid (hT:Tab w0) (h:HasX w0 w tag sb rb n N C X u) (hw:WayAt w w0.heap.size tag wb sb a1 c1 a2 c2 S V rt od th) (hu:u≤90000000) (i j:Nat) (hi0:i=j+1) (hi:i < S.length) (hSl:S.length≤20) (hVl:V.length≤100) (hrt:rt < 2 ^ 64)
  (x:CS) (hx:S[i]?=some x) (hxq:x.t < n∧x.node.nd.sq) (h8:¬ x.node.K.length≤8) (N5:List UInt8) (X5:Nat→Option Nd) (t5':Nat) (hm1:makeA N C X x.node.nd.hi=.ok (N5,X5,t5')) (y:CS) (hy:S[j]?=some y) (hyq:y.node.nd.sq∧y.pl+1≤y.node.K.length) :
  Calls Tryz.prog 113 #[.pointer (some ⟨wb,0,none⟩),.int .i64 (i:Int)] w (GrownPost w0 w tag sb rb n C (u+2) wb a1 c1 a2 c2 od th (.ok (N5,X5,(S.map CS.abs).set j ⟨y.t,y.was.nd,y.node.nd.ins (y.pl+1) (x.node.nd.hi.K.getD 0 0) t5',y.pl⟩,keptV (V.map CS.abs) ⟨x.t,x.was.nd,x.node.nd.lo,x.pl⟩,rt))):=by
 have HI0:=mkHid hi0
 clear hi0
 have hxm:=List.mem_of_getElem? hx
 obtain ⟨b,o,rfl,hst,hbf⟩:=hw.r1.step hx
 have HT:=mkHid hT
 have hle:=hw.r1.le
 obtain ⟨qx1,qx2⟩:=hw.r1.nd x hxm
 obtain ⟨hxt,hxsq⟩:=hxq
 have tb:=hw.r1.tg b hbf
 have p1:=hw.p1
 have p0:=hw.p0
 obtain ⟨⟨e0,e1,e2,e3,e4,e5,e6,e7⟩,-⟩:=hst.all
 have hHX:=mkHid hx
 clear hx
 obtain ⟨xt,was,⟨lf,ka,kc,va,vc,K,V'⟩,xp⟩:=x
 obtain ⟨yt,ywas,⟨lf2,ka2,kc2,va2,vc2,K2,V2⟩,yp⟩:=y
 dsimp only at hyq
 have HY:=mkHid (And.intro hy hyq)
 clear hy hyq
 unfold CN.nd at hm1
 dsimp only at hm1 h8 e0 e1 e2 e3 e4 e5 e6 e7 qx1 qx2 hxt hxsq
 have HM12:=mkHid hm1
 clear hm1
 have d8:decide ((K.length:Int)≤8)=false:=decide_eq_false (by omega)
 have gK:=Chg.alloc [] w (.cells (CS.cells ⟨xt,was,⟨lf,ka,kc,va,vc,K,V'⟩,xp⟩).toArray 139)
 have sX:=new_step w ⟨xt,was,⟨lf,ka,kc,va,vc,K,V'⟩,xp⟩ 139
 have h1:=h.keep gK
 have W1:=hw.keep gK
 have x1:=qx1.keep gK
 have x2:=qx2.keep gK
 have bX:=h.hi w.heap.size (Nat.le_refl _)
 have M1:=Mv.made gK h.hi
 have hz1:w.heap.size < (w.alloc (.cells (CS.cells ⟨xt,was,⟨lf,ka,kc,va,vc,K,V'⟩,xp⟩).toArray 139)).heap.size:=by simp
 have cS:=ksplitN h1 ⟨lf,ka,kc,va,vc,K,V'⟩ x2 hxsq
 unfold CN.val at cS
 unfold CS.cells at gK sX h1 W1 x1 x2 M1 hz1 cS
 try dsimp only at gK sX h1 W1 x1 x2 M1 hz1 cS
 obtain ⟨⟨f0,f1,f2,f3,f4,f5,f6,f7⟩,-⟩:=sX.all
 simp only [Nat.zero_add] at f1 f2 f3 f4 f5 f6 f7
 go_enter Tryz.func113,Tryz.ntmps113
 go_wp2_with fail
 generalize (w.alloc (.cells [.int .u64 (xt:Int),.bool was.lf,.slice was.ka was.K.length was.kc,.slice was.va was.V.length was.vc,.bool lf,.slice ka K.length kc,.slice va V'.length vc,.int .i64 (xp:Int)].toArray 139))=w1 at *
 generalize hxb:w.heap.size=xb at *
 have HXB:=mkHid hxb
 clear hxb
 refine cS.mono ?_
 rintro e w2 ⟨q,q',rfl,hqm,hqm',tag2,h2,m2,q2,q2'⟩
 have W2:=W1.mv m2
 have s2:=sX.mv m2 bX
 have b2:=m2.four bX hz1
 have y1:=x1.mv m2
 have M2:=M1.trans m2
 obtain ⟨⟨f0,f1,f2,f3,f4,f5,f6,f7⟩,z0,z1,z2,z3,z4,z5,z6,z7⟩:=s2.all
 simp only [Nat.zero_add] at f0 f1 f2 f3 f4 f5 f6 f7 z0 z1 z2 z3 z4 z5 z6 z7
 have hxl:=s2.lt
 have hxn:xb ≠ w2.heap.size:=by omega
 have hxn2:xb ≠ w2.heap.size+1:=by omega
 obtain ⟨w3,hw3⟩:∃ w3,w3=wr3 w2 xb 0 q:=⟨_,rfl⟩
 obtain ⟨wA,hwA⟩:∃ wA,wA=w3.alloc (.cells #[.bool q.lf,.slice q.ka q.K.length q.kc,.slice q.va q.V.length q.vc] 53):=⟨_,rfl⟩
 obtain ⟨wC,hwC⟩:∃ wC,wC=wA.alloc (.cells #[.bool q'.lf,.slice q'.ka q'.K.length q'.kc,.slice q'.va q'.V.length q'.vc] 53):=⟨_,rfl⟩
 have g3:Chg [xb] w2 w3:=by rw [hw3];exact wr3_chg w2 xb 0 q
 have gA:Chg [] w3 wA:=by rw [hwA];exact Chg.alloc [] w3 _
 have gC:Chg [] wA wC:=by rw [hwC];exact Chg.alloc [] wA _
 have hs3:w3.heap.size=w2.heap.size:=by rw [hw3];unfold wr3;simp
 have hsA:wA.heap.size=w2.heap.size+1:=by rw [hwA];simp [hs3]
 have hsC':wC.heap.size=w2.heap.size+2:=by rw [hwC];simp [hsA]
 have lA:=laid3 w3 (.bool q.lf) (.slice q.ka q.K.length q.kc) (.slice q.va q.V.length q.vc) 53
 rw [← hwA,hs3] at lA
 have lC:=laid3 wA (.bool q'.lf) (.slice q'.ka q'.K.length q'.kc) (.slice q'.va q'.V.length q'.vc) 53
 rw [← hwC,hsA] at lC
 have t5:tag2 w2.heap.size=4:=h2.hi _ (Nat.le_refl _)
 have t6:tag2 (w2.heap.size+1)=4:=h2.hi _ (by omega)
 have hSx:∀ k,k∈[xb]→tag2 k=4:=fun k hk => by simp at hk;subst hk;exact b2
 have hxa:xb ∉ fp (some ⟨b,o,none⟩) c1:=fun hm => by have:=(hw.r1.rm.lt _ hm).2;have:=HXB.out;omega
 have hxa2:xb ∉ fp a2 c2:=fun hm => by have:=(hw.r2.rm.lt _ hm).2;have:=HXB.out;omega
 have hxw:wb ≠ xb:=by have:=hw.lt;have:=HXB.out;omega
 have hC:=((h2.wrote g3 hSx).keep gA).keep gC
 have WC:=((W2.wrote g3 hSx (by simpa using hxw) (fun k hk hm => by simp at hm;subst hm;exact hxa hk) (fun k hk hm => by simp at hm;subst hm;exact hxa2 hk)).keep gA).keep gC
 have MC:=((M2.wrote g3 (fun k hk => by simp at hk;subst hk;have:=HXB.out;omega)).then gA).then gC
 have sC:StepAt wC xb 0 ⟨xt,was,q,xp⟩:=by
  have:=s2.wr q
  rw [← hw3] at this
  exact (this.chg gA (by simp)).chg gC (by simp)
 have yC:=((y1.wrote g3 hSx).keep gA).keep gC
 have qC:=((q2.wrote g3 hSx).keep gA).keep gC
 have qC':=((q2'.wrote g3 hSx).keep gA).keep gC
 obtain ⟨u0,u1,u2⟩:wC.cell? ⟨w2.heap.size,0,none⟩=some (.bool q.lf)∧wC.cell? ⟨w2.heap.size,1,none⟩=some (.slice q.ka q.K.length q.kc)∧wC.cell? ⟨w2.heap.size,2,none⟩=some (.slice q.va q.V.length q.vc):=⟨gC.cellv lA.1 (by simp),gC.cellv lA.2.1 (by simp),gC.cellv lA.2.2 (by simp)⟩
 obtain ⟨v0,v1,v2⟩:=lC
 have hsC:w2.heap.size+2≤wC.heap.size:=by omega
 have cK:=keep_any hC WC ⟨xt,was,q,xp⟩ ⟨yC,qC⟩ (by omega)
 unfold CS.val stepV at cK
 try dsimp only at cK
 have HW:=mkHid (And.intro hw3 (And.intro hwA hwC))
 have HQ:=mkHid (And.intro hqm hqm')
 unfold CN.val
 clear lA gA gC g3 hqm hqm' h1 W1 x1 x2 M1 h2 m2 q2 q2' W2 y1 M2 cS gK sX hsA hs3 hsC' s2
 clear hwC
 clear hwA
 clear hw3
 go_wp2_with fail
 rw [show (((((w2.setCell ⟨xb,4,none⟩ (.bool q.lf)).setCell ⟨xb,5,none⟩ (.slice q.ka q.K.length q.kc)).setCell ⟨xb,6,none⟩ (.slice q.va q.V.length q.vc)).alloc (.cells #[.bool q.lf,.slice q.ka q.K.length q.kc,.slice q.va q.V.length q.vc] 53)).alloc (.cells #[.bool q'.lf,.slice q'.ka q'.K.length q'.kc,.slice q'.va q'.V.length q'.vc] 53))=wC by rw [HW.out.2.2,HW.out.2.1,HW.out.1];rfl]
 refine cK.mono ?_
 rintro e w4 ⟨rfl,a2',c2',W4,g4,hf4⟩
 generalize hp5:w2.heap.size=p5 at *
 obtain ⟨p6,hp6⟩:∃ p6,p5+1=p6:=⟨_,rfl⟩
 rw [hp6] at t6 v0 v1 v2 ⊢
 have hS4:∀ k,k∈wb :: fp a2 c2→tag2 k=4:=fun k hk => by
  rcases List.mem_cons.1 hk with rfl | h9
  ·exact WC.tb
  ·exact WC.r2.tg k h9
 have hlt4:∀ k,k∈wb :: fp a2 c2→k < xb:=fun k hk => by
  have:=HXB.out
  rcases List.mem_cons.1 hk with rfl | h9
  ·have:=hw.lt;omega
  ·have:=(hw.r2.rm.lt k h9).2;omega
 have n5:p5 ∉ wb :: fp a2 c2:=fun hm => by have:=hlt4 _ hm;omega
 have n6:p6 ∉ wb :: fp a2 c2:=fun hm => by have:=hlt4 _ hm;omega
 have nx:xb ∉ wb :: fp a2 c2:=fun hm => by have:=hlt4 _ hm;omega
 have h4:=hC.wrote g4 hS4
 have s4:=sC.chg g4 nx
 have q4:=qC.wrote g4 hS4
 have q4':=qC'.wrote g4 hS4
 have M4:Mvb (wb :: (fp (some ⟨b,o,none⟩) c1++fp a2 c2)) tag tag2 w w4:=(MC.b _).wrote g4 (fun k hk _ => by
  rcases List.mem_cons.1 hk with rfl | h9
  ·simp
  ·exact List.mem_cons_of_mem _ (List.mem_append_right _ h9))
 have u04:=g4.cellv u0 n5
 have u14:=g4.cellv u1 n5
 have u24:=g4.cellv u2 n5
 have v04:=g4.cellv v0 n6
 have v14:=g4.cellv v1 n6
 have v24:=g4.cellv v2 n6
 have p04:=W4.p0
 have hs4:=g4.size
 have hl5:p5 < w4.heap.size:=by omega
 have hl6:p6 < w4.heap.size:=by omega
 have hlx:xb < w4.heap.size:=s4.lt
 have hf4':∀ k,k∈fp a2' c2'→k∈fp a2 c2 ∨ w.heap.size≤k:=fun k hk => (hf4 k hk).imp id (fun h9 => by have:=HXB.out;omega)
 have t54:=t5
 have t64:=t6
 have H6:=mkHid hp6
 have HF4:=mkHid (And.intro hf4' (And.intro hS4 hlt4))
 clear hp6 hp5 hf4 hf4' hS4 hlt4 n5 n6 nx u0 u1 u2 v0 v1 v2 hC sC qC qC' WC MC cK g4 hs4 yC
 obtain ⟨hqm,hqm'⟩:=HQ.out
 have hm1:=HM12.out
 rw [show (⟨lf,K,V'⟩:Nd).hi=q'.nd from hqm'.symm] at hm1
 have HMR:=mkHid hm1
 clear hm1 HM12
 have HG:Hid (∀ t' w',Mv tag2 t' w4.drew w'→Mvb (wb :: (fp (some ⟨b,o,none⟩) c1++fp a2 c2)) tag t' w w'):=mkHid fun t' w' m => (M4.wrote (Chg.drew [] w4) (by simp)).trans (m.b []) (fun _ h _ => h) (by simp)
 have cM:=make_any HT.out (h4.keep (Chg.drew [] w4)) q' (q4'.keep (Chg.drew [] w4)) (by omega) _ HMR.out (by simp)
 unfold CN.val at cM
 have d0:((i:Int) == 0)=false:=by have:=HI0.out;simp;omega
 obtain ⟨⟨x40,-,-,-,-,-,-,-⟩,-⟩:=s4.all
 go_wp2_with fail
 go_region_law (first
  | (go_simp;go_at_call 18;refine cM.mono ?_;rintro e w5 ⟨rfl,ht5,tag5,h5,m5⟩)
  | (go_simp;go_at_call 157;refine (sureu64_ok _ _).mono ?_;rintro e w' ⟨rfl,rfl⟩))
 all_goals
  obtain ⟨hy,hyq⟩:=HY.out
  have q5':=(q4'.keep (Chg.drew [] w4)).mv m5
  have W5:=(W4.keep (Chg.drew [] w4)).mv m5
  have v15:=m5.cellv ((Chg.drew [] w4).cellv v14 (by simp)) (kt4 t64)
  have p05:=W5.p0
  have p15:=W5.p1
  have hqK':q'.K=K.drop (half K.length):=congrArg Nd.K HQ.out.2
  have hl2:0 < q'.K.length:=by rw [hqK'];simp [half];omega
  obtain ⟨kb',ko',hka',hc2⟩:=q5'.rd.rk (by simpa [uvs_len] using hl2)
  obtain ⟨y0,hy0⟩:∃ z,q'.K[0]?=some z:=⟨_,List.getElem?_eq_getElem hl2⟩
  have cy:=hc2 0 _ (uvs_get hy0)
  rw [Nat.add_zero] at cy
  rw [hka'] at v15
  have by0:y0 < 2 ^ 64:=q5'.bK _ (List.mem_of_getElem? hy0)
  have hi2:(0:Int) < (q'.K.length:Int):=by omega
  obtain ⟨b',o',e',sty,hbf'⟩:=W5.r1.step hy
  cases e'
  have tb5:=W5.r1.tg b hbf'
  have nqy:=(W5.r1.nd _ (List.mem_of_getElem? hy)).2
  have cI:=kinsN (h5.keep (Chg.drew [] w5)) ⟨lf2,ka2,kc2,va2,vc2,K2,V2⟩ (nqy.keep (Chg.drew [] w5)) hyq.1 (yp+1) y0 t5' hyq.2 by0 (by have:=h.lens.2.2.2;omega)
  unfold CN.val at cI
  try dsimp only at cI
  obtain ⟨⟨g0,g1,g2,g3,g4,g5,g6,g7⟩,-⟩:=sty.all
  dsimp only at g0 g1 g2 g3 g4 g5 g6 g7
  have hij:IntKind.i64.wrap ((i:Int) - 1)=(j:Int):=by have:=HI0.out;rw [Go.IntWalk.i64_in _ (by omega)];omega
  have hjS:(j:Int) < (S.length:Int):=by have:=HI0.out;omega
  have hyp:yp≤100:=by have h1:K2.length≤100:=hyq.1.2;have h2:yp+1≤K2.length:=hyq.2;omega
  have hpw:IntKind.i64.wrap ((yp:Int)+1)=((yp+1:Nat):Int):=by rw [Go.IntWalk.i64_in _ (by omega)];omega
  have t65:=m5.four t64 (show p6 < w4.drew.heap.size from hl6)
  have kty:Kt tag5 kb':=kt5 (q5'.kk hl2 kb' (by rw [hka'];simp [blk]))
  have HK:=mkHid (And.intro hy0 hka')
  have HY2:=mkHid (And.intro hy hyq)
  clear hqK' hc2 hy0 hka' hy hyq
  go_wp2_with fail
  refine walks_begin (fun u:World => u.cell? ⟨b,o+j * 8+4,none⟩=some (.bool lf2)∧u.cell? ⟨b,o+j * 8+5,none⟩=some (.slice ka2 K2.length kc2)∧u.cell? ⟨b,o+j * 8+6,none⟩=some (.slice va2 V2.length vc2)∧u.cell? ⟨b,o+j * 8+7,none⟩=some (.int .i64 (yp:Int))∧u.cell? ⟨p6,1,none⟩=some (.slice (some ⟨kb',ko',none⟩) q'.K.length q'.kc)∧u.cell? ⟨kb',ko',none⟩=some (.int .u64 (y0:Int))) 18 (by kernel_rfl) rfl ?_
  have hS0:(fun u:World => u.cell? ⟨b,o+j * 8+4,none⟩=some (.bool lf2)∧u.cell? ⟨b,o+j * 8+5,none⟩=some (.slice ka2 K2.length kc2)∧u.cell? ⟨b,o+j * 8+6,none⟩=some (.slice va2 V2.length vc2)∧u.cell? ⟨b,o+j * 8+7,none⟩=some (.int .i64 (yp:Int))∧u.cell? ⟨p6,1,none⟩=some (.slice (some ⟨kb',ko',none⟩) q'.K.length q'.kc)∧u.cell? ⟨kb',ko',none⟩=some (.int .u64 (y0:Int))) w5.drew:=⟨(Chg.drew [] w5).cellv g4 (by simp),(Chg.drew [] w5).cellv g5 (by simp),(Chg.drew [] w5).cellv g6 (by simp),(Chg.drew [] w5).cellv g7 (by simp),(Chg.drew [] w5).cellv v15 (by simp),(Chg.drew [] w5).cellv cy (by simp)⟩
  refine walks_take 0 (oi:={ dst:=some 80,op:=_,type:=_,pos:=_,after:=_,guard:=none }) (v:=?_) rfl (by kernel_rfl) (fun _ _ _ h => h) (Or.inl ⟨by rfl,?_⟩) hS0 ?_
  rotate_left
  ·intro u hSu
   obtain ⟨s1,s2,s3,s4,s5,s6⟩:=hSu
   go_simp
   try with_reducible rfl
  try simp only [Act.put,zqf,zqg,zqh]
  refine walks_take 1 (oi:={ dst:=some 81,op:=_,type:=_,pos:=_,after:=_,guard:=none }) (v:=?_) rfl (by kernel_rfl) (fun _ _ _ h => h) (Or.inl ⟨by rfl,?_⟩) hS0 ?_
  rotate_left
  ·intro u hSu
   obtain ⟨s1,s2,s3,s4,s5,s6⟩:=hSu
   go_simp
   try with_reducible rfl
  try simp only [Act.put,zqf,zqg,zqh]
  refine walks_take 2 (oi:={ dst:=some 82,op:=_,type:=_,pos:=_,after:=_,guard:=none }) (v:=?_) rfl (by kernel_rfl) (fun _ _ _ h => h) (Or.inl ⟨by rfl,?_⟩) hS0 ?_
  rotate_left
  ·intro u hSu
   obtain ⟨s1,s2,s3,s4,s5,s6⟩:=hSu
   go_simp
   try with_reducible rfl
  try simp only [Act.put,zqf,zqg,zqh]
  refine walks_take 3 (oi:={ dst:=some 83,op:=_,type:=_,pos:=_,after:=_,guard:=none }) (v:=?_) rfl (by kernel_rfl) (fun _ _ _ h => h) (Or.inl ⟨by rfl,?_⟩) hS0 ?_
  rotate_left
  ·intro u hSu
   obtain ⟨s1,s2,s3,s4,s5,s6⟩:=hSu
   go_simp
   try with_reducible rfl
  try simp only [Act.put,zqf,zqg,zqh]
  refine walks_take 4 (oi:={ dst:=some 84,op:=_,type:=_,pos:=_,after:=_,guard:=none }) (v:=?_) rfl (by kernel_rfl) (fun _ _ _ h => h) (Or.inl ⟨by rfl,?_⟩) hS0 ?_
  rotate_left
  ·intro u hSu
   obtain ⟨s1,s2,s3,s4,s5,s6⟩:=hSu
   go_simp
   try with_reducible rfl
  try simp only [Act.put,zqf,zqg,zqh]
  refine walks_take 5 (oi:={ dst:=some 85,op:=_,type:=_,pos:=_,after:=_,guard:=none }) (v:=?_) rfl (by kernel_rfl) (fun _ _ _ h => h) (Or.inl ⟨by rfl,?_⟩) hS0 ?_
  rotate_left
  ·intro u hSu
   obtain ⟨s1,s2,s3,s4,s5,s6⟩:=hSu
   go_simp
   try with_reducible rfl
  try simp only [Act.put,zqf,zqg,zqh]
  refine walks_take 6 (oi:={ dst:=some 86,op:=_,type:=_,pos:=_,after:=_,guard:=none }) (v:=?_) rfl (by kernel_rfl) (fun _ _ _ h => h) (Or.inl ⟨by rfl,?_⟩) hS0 ?_
  rotate_left
  ·intro u hSu
   obtain ⟨s1,s2,s3,s4,s5,s6⟩:=hSu
   go_simp
   try with_reducible rfl
  try simp only [Act.put,zqf,zqg,zqh]
  refine walks_take 7 (oi:={ dst:=some 87,op:=_,type:=_,pos:=_,after:=_,guard:=none }) (v:=?_) rfl (by kernel_rfl) (fun _ _ _ h => h) (Or.inl ⟨by rfl,?_⟩) hS0 ?_
  rotate_left
  ·intro u hSu
   obtain ⟨s1,s2,s3,s4,s5,s6⟩:=hSu
   go_simp
   try with_reducible rfl
  try simp only [Act.put,zqf,zqg,zqh]
  refine walks_take 8 (oi:={ dst:=some 88,op:=_,type:=_,pos:=_,after:=_,guard:=none }) (v:=?_) rfl (by kernel_rfl) (fun _ _ _ h => h) (Or.inl ⟨by rfl,?_⟩) hS0 ?_
  rotate_left
  ·intro u hSu
   obtain ⟨s1,s2,s3,s4,s5,s6⟩:=hSu
   go_simp
   try with_reducible rfl
  try simp only [Act.put,zqf,zqg,zqh]
  refine walks_take 9 (oi:={ dst:=some 89,op:=_,type:=_,pos:=_,after:=_,guard:=none }) (v:=?_) rfl (by kernel_rfl) (fun _ _ _ h => h) (Or.inl ⟨by rfl,?_⟩) hS0 ?_
  rotate_left
  ·intro u hSu
   obtain ⟨s1,s2,s3,s4,s5,s6⟩:=hSu
   go_simp
   try with_reducible rfl
  try simp only [Act.put,zqf,zqg,zqh]
  refine walks_take 10 (oi:={ dst:=some 90,op:=_,type:=_,pos:=_,after:=_,guard:=none }) (v:=?_) rfl (by kernel_rfl) (fun _ _ _ h => h) (Or.inl ⟨by rfl,?_⟩) hS0 ?_
  rotate_left
  ·intro u hSu
   obtain ⟨s1,s2,s3,s4,s5,s6⟩:=hSu
   go_simp
   try with_reducible rfl
  try simp only [Act.put,zqf,zqg,zqh]
  refine walks_take 11 (oi:={ dst:=some 91,op:=_,type:=_,pos:=_,after:=_,guard:=none }) (v:=?_) rfl (by kernel_rfl) (fun _ _ _ h => h) (Or.inl ⟨by rfl,?_⟩) hS0 ?_
  rotate_left
  ·intro u hSu
   obtain ⟨s1,s2,s3,s4,s5,s6⟩:=hSu
   go_simp
   try with_reducible rfl
  try simp only [Act.put,zqf,zqg,zqh]
  refine walks_take 12 (oi:={ dst:=some 92,op:=_,type:=_,pos:=_,after:=_,guard:=none }) (v:=?_) rfl (by kernel_rfl) (fun _ _ _ h => h) (Or.inl ⟨by rfl,?_⟩) hS0 ?_
  rotate_left
  ·intro u hSu
   obtain ⟨s1,s2,s3,s4,s5,s6⟩:=hSu
   go_simp
   try with_reducible rfl
  try simp only [Act.put,zqf,zqg,zqh]
  refine walks_take 13 (oi:={ dst:=some 93,op:=_,type:=_,pos:=_,after:=_,guard:=none }) (v:=?_) rfl (by kernel_rfl) (fun _ _ _ h => h) (Or.inl ⟨by rfl,?_⟩) hS0 ?_
  rotate_left
  ·intro u hSu
   obtain ⟨s1,s2,s3,s4,s5,s6⟩:=hSu
   go_simp
   try with_reducible rfl
  try simp only [Act.put,zqf,zqg,zqh]
  refine walks_take 14 (oi:={ dst:=some 94,op:=_,type:=_,pos:=_,after:=_,guard:=none }) (v:=?_) rfl (by kernel_rfl) (fun _ _ _ h => h) (Or.inl ⟨by rfl,?_⟩) hS0 ?_
  rotate_left
  ·intro u hSu
   obtain ⟨s1,s2,s3,s4,s5,s6⟩:=hSu
   go_simp
   try with_reducible rfl
  try simp only [Act.put,zqf,zqg,zqh]
  refine walks_one 15 (o:={ dst:=some 95,op:=_,type:=_,pos:=_,after:=_,guard:=none }) rfl (by decide) (by kernel_rfl) ?_
  intro K9 hK
  go_simp
  go_at_call 111
  refine cI.mono ?_
  rintro e w7 ⟨z,rfl,hzn,tag7,h7,m7,nz⟩
  have W7:=(W5.keep (Chg.drew [] w5)).mv m7
  have s7:=(sty.chg (Chg.drew [] w5) (by simp)).mv m7 tb5
  have hS7:(fun u:World => u.cell? ⟨b,o+j * 8+4,none⟩=some (.bool lf2)∧u.cell? ⟨b,o+j * 8+5,none⟩=some (.slice ka2 K2.length kc2)∧u.cell? ⟨b,o+j * 8+6,none⟩=some (.slice va2 V2.length vc2)∧u.cell? ⟨b,o+j * 8+7,none⟩=some (.int .i64 (yp:Int))∧u.cell? ⟨p6,1,none⟩=some (.slice (some ⟨kb',ko',none⟩) q'.K.length q'.kc)∧u.cell? ⟨kb',ko',none⟩=some (.int .u64 (y0:Int))) w7:=⟨m7.cellv hS0.1 (kt4 tb5),m7.cellv hS0.2.1 (kt4 tb5),m7.cellv hS0.2.2.1 (kt4 tb5),m7.cellv hS0.2.2.2.1 (kt4 tb5),m7.cellv hS0.2.2.2.2.1 (kt4 t65),m7.cellv hS0.2.2.2.2.2 kty⟩
  refine hK.out _ _ hS7 ?_
  clear hK K9 hS0
  try simp only [Act.put,zqf,zqg,zqh]
  refine walks_take 16 (oi:={ dst:=some 96,op:=_,type:=_,pos:=_,after:=_,guard:=none }) (v:=?_) rfl (by kernel_rfl) (fun _ _ _ h => h) (Or.inl ⟨by rfl,?_⟩) hS7 ?_
  rotate_left
  ·intro u hSu
   obtain ⟨s1,s2,s3,s4,s5,s6⟩:=hSu
   go_simp
   try with_reducible rfl
  try simp only [Act.put,zqf,zqg,zqh]
  refine walks_take 17 (oi:={ dst:=some 97,op:=_,type:=_,pos:=_,after:=_,guard:=none }) (v:=?_) rfl (by kernel_rfl) (fun _ _ _ h => h) (Or.inl ⟨by rfl,?_⟩) hS7 ?_
  rotate_left
  ·intro u hSu
   obtain ⟨s1,s2,s3,s4,s5,s6⟩:=hSu
   go_simp
   try with_reducible rfl
  try simp only [Act.put,zqf,zqg,zqh]
  refine walks_last 18 (o:={ dst:=none,op:=_,type:=_,pos:=_,after:=_,guard:=none }) rfl (by kernel_rfl) (by kernel_rfl) (by decide) ?_
  intro K9 hK
  obtain ⟨⟨k0,k1,k2,k3,k4,k5,k6,k7⟩,z0,z1,z2,z3,z4,z5,z6,z7⟩:=s7.all
  unfold CN.val
  go_simp
  refine hK.out _ _ ?_
  clear hK K9 hS7
  obtain ⟨hy,hyq⟩:=HY2.out
  obtain ⟨W8,G8⟩:=W7.wr hy nz
  dsimp only at W8
  have B8:=HG.out _ _ ((m5.trans (Mv.made (Chg.drew [] w5) h5.hi)).trans m7)
  have hS8:∀ k,k∈fp (some ⟨b,o,none⟩) c1→tag7 k=4:=W7.r1.tg
  have H8:=mkHid (And.intro W8 (And.intro ((h7.wrote G8 hS8).mono (show u+1≤u+2 by omega)) (B8.wrote G8 (fun k hk _ => List.mem_cons_of_mem _ (List.mem_append_left _ hk)))))
  clear W8 G8 B8 hS8
  go_wp2_with fail
  go_end0
  obtain ⟨W8,h8,B8⟩:=H8.out
  refine ⟨rfl,tag7,a2',c2',S.set j ⟨yt,ywas,z,yp⟩,keepA V ⟨xt,was,q,xp⟩,h8,B8,W8,?_,?_,HF4.out.1,hrt⟩
  ·rw [List.map_set]
   show (S.map CS.abs).set j ⟨yt,ywas.nd,z.nd,yp⟩=_
   rw [hzn]
   have e1:(⟨lf,K,V'⟩:Nd).hi.K.getD 0 0=y0:=by rw [show (⟨lf,K,V'⟩:Nd).hi=q'.nd from HQ.out.2.symm,List.getD_eq_getElem?_getD,show q'.nd.K=q'.K from rfl,HK.out.1];rfl
   rw [← e1]
   rfl
  ·rw [keep_abs]
   show keptV _ ⟨xt,was.nd,q.nd,xp⟩=_
   rw [HQ.out.1]
end
end
section
set_option maxRecDepth 200000
open Go.RowKit
attribute [local go_sem ↓] Go.wp_at_zero Go.wp_at_succ
section
variable {w0 w:World} {tag:Nat→Nat} {sb rb n:Nat} {N C:List UInt8} {X:Nat→Option Nd} {u:Nat} {wb:Nat} {a1:Option Addr} {c1:Nat} {a2:Option Addr} {c2:Nat} {S V:List CS} {rt od:Nat} {th:Bool}
set_option maxHeartbeats 4000000 in
theorem grown_full1 (hT:Tab w0) (h:HasX w0 w tag sb rb n N C X u) (hw:WayAt w w0.heap.size tag wb sb a1 c1 a2 c2 S V rt od th) (hu:u≤90000000) (i:Nat) (hi:i < S.length) (hSl:S.length≤20) (hVl:V.length≤100)
  (x:CS) (hx:S[i]?=some x) (hxq:x.t < n∧x.node.nd.sq) (h8:¬ x.node.K.length≤8) (hm1:makeA N C X x.node.nd.hi=.full) :
  Calls Tryz.prog 113 #[.pointer (some ⟨wb,0,none⟩),.int .i64 (i:Int)] w (GrownPost w0 w tag sb rb n C (u+2) wb a1 c1 a2 c2 od th .full):=by
 have hxm:=List.mem_of_getElem? hx
 obtain ⟨b,o,rfl,hst,hbf⟩:=hw.r1.step hx
 have HT:=mkHid hT
 have hle:=hw.r1.le
 obtain ⟨qx1,qx2⟩:=hw.r1.nd x hxm
 obtain ⟨hxt,hxsq⟩:=hxq
 have tb:=hw.r1.tg b hbf
 have p1:=hw.p1
 have p0:=hw.p0
 obtain ⟨⟨e0,e1,e2,e3,e4,e5,e6,e7⟩,-⟩:=hst.all
 have hHX:=mkHid hx
 clear hx
 obtain ⟨xt,was,⟨lf,ka,kc,va,vc,K,V'⟩,xp⟩:=x
 unfold CN.nd at hm1
 dsimp only at hm1 h8 e0 e1 e2 e3 e4 e5 e6 e7 qx1 qx2 hxt hxsq
 have HM12:=mkHid hm1
 clear hm1
 have d8:decide ((K.length:Int)≤8)=false:=decide_eq_false (by omega)
 have gK:=Chg.alloc [] w (.cells (CS.cells ⟨xt,was,⟨lf,ka,kc,va,vc,K,V'⟩,xp⟩).toArray 139)
 have sX:=new_step w ⟨xt,was,⟨lf,ka,kc,va,vc,K,V'⟩,xp⟩ 139
 have h1:=h.keep gK
 have W1:=hw.keep gK
 have x1:=qx1.keep gK
 have x2:=qx2.keep gK
 have bX:=h.hi w.heap.size (Nat.le_refl _)
 have M1:=Mv.made gK h.hi
 have hz1:w.heap.size < (w.alloc (.cells (CS.cells ⟨xt,was,⟨lf,ka,kc,va,vc,K,V'⟩,xp⟩).toArray 139)).heap.size:=by simp
 have cS:=ksplitN h1 ⟨lf,ka,kc,va,vc,K,V'⟩ x2 hxsq
 unfold CN.val at cS
 unfold CS.cells at gK sX h1 W1 x1 x2 M1 hz1 cS
 try dsimp only at gK sX h1 W1 x1 x2 M1 hz1 cS
 obtain ⟨⟨f0,f1,f2,f3,f4,f5,f6,f7⟩,-⟩:=sX.all
 simp only [Nat.zero_add] at f1 f2 f3 f4 f5 f6 f7
 go_enter Tryz.func113,Tryz.ntmps113
 go_wp2_with fail
 generalize (w.alloc (.cells [.int .u64 (xt:Int),.bool was.lf,.slice was.ka was.K.length was.kc,.slice was.va was.V.length was.vc,.bool lf,.slice ka K.length kc,.slice va V'.length vc,.int .i64 (xp:Int)].toArray 139))=w1 at *
 generalize hxb:w.heap.size=xb at *
 have HXB:=mkHid hxb
 clear hxb
 refine cS.mono ?_
 rintro e w2 ⟨q,q',rfl,hqm,hqm',tag2,h2,m2,q2,q2'⟩
 have W2:=W1.mv m2
 have s2:=sX.mv m2 bX
 have b2:=m2.four bX hz1
 have y1:=x1.mv m2
 have M2:=M1.trans m2
 obtain ⟨⟨f0,f1,f2,f3,f4,f5,f6,f7⟩,z0,z1,z2,z3,z4,z5,z6,z7⟩:=s2.all
 simp only [Nat.zero_add] at f0 f1 f2 f3 f4 f5 f6 f7 z0 z1 z2 z3 z4 z5 z6 z7
 have hxl:=s2.lt
 have hxn:xb ≠ w2.heap.size:=by omega
 have hxn2:xb ≠ w2.heap.size+1:=by omega
 obtain ⟨w3,hw3⟩:∃ w3,w3=wr3 w2 xb 0 q:=⟨_,rfl⟩
 obtain ⟨wA,hwA⟩:∃ wA,wA=w3.alloc (.cells #[.bool q.lf,.slice q.ka q.K.length q.kc,.slice q.va q.V.length q.vc] 53):=⟨_,rfl⟩
 obtain ⟨wC,hwC⟩:∃ wC,wC=wA.alloc (.cells #[.bool q'.lf,.slice q'.ka q'.K.length q'.kc,.slice q'.va q'.V.length q'.vc] 53):=⟨_,rfl⟩
 have g3:Chg [xb] w2 w3:=by rw [hw3];exact wr3_chg w2 xb 0 q
 have gA:Chg [] w3 wA:=by rw [hwA];exact Chg.alloc [] w3 _
 have gC:Chg [] wA wC:=by rw [hwC];exact Chg.alloc [] wA _
 have hs3:w3.heap.size=w2.heap.size:=by rw [hw3];unfold wr3;simp
 have hsA:wA.heap.size=w2.heap.size+1:=by rw [hwA];simp [hs3]
 have hsC':wC.heap.size=w2.heap.size+2:=by rw [hwC];simp [hsA]
 have lA:=laid3 w3 (.bool q.lf) (.slice q.ka q.K.length q.kc) (.slice q.va q.V.length q.vc) 53
 rw [← hwA,hs3] at lA
 have lC:=laid3 wA (.bool q'.lf) (.slice q'.ka q'.K.length q'.kc) (.slice q'.va q'.V.length q'.vc) 53
 rw [← hwC,hsA] at lC
 have t5:tag2 w2.heap.size=4:=h2.hi _ (Nat.le_refl _)
 have t6:tag2 (w2.heap.size+1)=4:=h2.hi _ (by omega)
 have hSx:∀ k,k∈[xb]→tag2 k=4:=fun k hk => by simp at hk;subst hk;exact b2
 have hxa:xb ∉ fp (some ⟨b,o,none⟩) c1:=fun hm => by have:=(hw.r1.rm.lt _ hm).2;have:=HXB.out;omega
 have hxa2:xb ∉ fp a2 c2:=fun hm => by have:=(hw.r2.rm.lt _ hm).2;have:=HXB.out;omega
 have hxw:wb ≠ xb:=by have:=hw.lt;have:=HXB.out;omega
 have hC:=((h2.wrote g3 hSx).keep gA).keep gC
 have WC:=((W2.wrote g3 hSx (by simpa using hxw) (fun k hk hm => by simp at hm;subst hm;exact hxa hk) (fun k hk hm => by simp at hm;subst hm;exact hxa2 hk)).keep gA).keep gC
 have MC:=((M2.wrote g3 (fun k hk => by simp at hk;subst hk;have:=HXB.out;omega)).then gA).then gC
 have sC:StepAt wC xb 0 ⟨xt,was,q,xp⟩:=by
  have:=s2.wr q
  rw [← hw3] at this
  exact (this.chg gA (by simp)).chg gC (by simp)
 have yC:=((y1.wrote g3 hSx).keep gA).keep gC
 have qC:=((q2.wrote g3 hSx).keep gA).keep gC
 have qC':=((q2'.wrote g3 hSx).keep gA).keep gC
 obtain ⟨u0,u1,u2⟩:wC.cell? ⟨w2.heap.size,0,none⟩=some (.bool q.lf)∧wC.cell? ⟨w2.heap.size,1,none⟩=some (.slice q.ka q.K.length q.kc)∧wC.cell? ⟨w2.heap.size,2,none⟩=some (.slice q.va q.V.length q.vc):=⟨gC.cellv lA.1 (by simp),gC.cellv lA.2.1 (by simp),gC.cellv lA.2.2 (by simp)⟩
 obtain ⟨v0,v1,v2⟩:=lC
 have hsC:w2.heap.size+2≤wC.heap.size:=by omega
 have cK:=keep_any hC WC ⟨xt,was,q,xp⟩ ⟨yC,qC⟩ (by omega)
 unfold CS.val stepV at cK
 try dsimp only at cK
 have HW:=mkHid (And.intro hw3 (And.intro hwA hwC))
 have HQ:=mkHid (And.intro hqm hqm')
 unfold CN.val
 clear lA gA gC g3 hqm hqm' h1 W1 x1 x2 M1 h2 m2 q2 q2' W2 y1 M2 cS gK sX hsA hs3 hsC' s2
 clear hwC
 clear hwA
 clear hw3
 go_wp2_with fail
 rw [show (((((w2.setCell ⟨xb,4,none⟩ (.bool q.lf)).setCell ⟨xb,5,none⟩ (.slice q.ka q.K.length q.kc)).setCell ⟨xb,6,none⟩ (.slice q.va q.V.length q.vc)).alloc (.cells #[.bool q.lf,.slice q.ka q.K.length q.kc,.slice q.va q.V.length q.vc] 53)).alloc (.cells #[.bool q'.lf,.slice q'.ka q'.K.length q'.kc,.slice q'.va q'.V.length q'.vc] 53))=wC by rw [HW.out.2.2,HW.out.2.1,HW.out.1];rfl]
 refine cK.mono ?_
 rintro e w4 ⟨rfl,a2',c2',W4,g4,hf4⟩
 generalize hp5:w2.heap.size=p5 at *
 obtain ⟨p6,hp6⟩:∃ p6,p5+1=p6:=⟨_,rfl⟩
 rw [hp6] at t6 v0 v1 v2 ⊢
 have hS4:∀ k,k∈wb :: fp a2 c2→tag2 k=4:=fun k hk => by
  rcases List.mem_cons.1 hk with rfl | h9
  ·exact WC.tb
  ·exact WC.r2.tg k h9
 have hlt4:∀ k,k∈wb :: fp a2 c2→k < xb:=fun k hk => by
  have:=HXB.out
  rcases List.mem_cons.1 hk with rfl | h9
  ·have:=hw.lt;omega
  ·have:=(hw.r2.rm.lt k h9).2;omega
 have n5:p5 ∉ wb :: fp a2 c2:=fun hm => by have:=hlt4 _ hm;omega
 have n6:p6 ∉ wb :: fp a2 c2:=fun hm => by have:=hlt4 _ hm;omega
 have nx:xb ∉ wb :: fp a2 c2:=fun hm => by have:=hlt4 _ hm;omega
 have h4:=hC.wrote g4 hS4
 have s4:=sC.chg g4 nx
 have q4:=qC.wrote g4 hS4
 have q4':=qC'.wrote g4 hS4
 have M4:Mvb (wb :: (fp (some ⟨b,o,none⟩) c1++fp a2 c2)) tag tag2 w w4:=(MC.b _).wrote g4 (fun k hk _ => by
  rcases List.mem_cons.1 hk with rfl | h9
  ·simp
  ·exact List.mem_cons_of_mem _ (List.mem_append_right _ h9))
 have u04:=g4.cellv u0 n5
 have u14:=g4.cellv u1 n5
 have u24:=g4.cellv u2 n5
 have v04:=g4.cellv v0 n6
 have v14:=g4.cellv v1 n6
 have v24:=g4.cellv v2 n6
 have p04:=W4.p0
 have hs4:=g4.size
 have hl5:p5 < w4.heap.size:=by omega
 have hl6:p6 < w4.heap.size:=by omega
 have hlx:xb < w4.heap.size:=s4.lt
 have hf4':∀ k,k∈fp a2' c2'→k∈fp a2 c2 ∨ w.heap.size≤k:=fun k hk => (hf4 k hk).imp id (fun h9 => by have:=HXB.out;omega)
 have t54:=t5
 have t64:=t6
 have H6:=mkHid hp6
 have HF4:=mkHid (And.intro hf4' (And.intro hS4 hlt4))
 clear hp6 hp5 hf4 hf4' hS4 hlt4 n5 n6 nx u0 u1 u2 v0 v1 v2 hC sC qC qC' WC MC cK g4 hs4 yC
 obtain ⟨hqm,hqm'⟩:=HQ.out
 have hm1:=HM12.out
 rw [show (⟨lf,K,V'⟩:Nd).hi=q'.nd from hqm'.symm] at hm1
 have HMR:=mkHid hm1
 clear hm1 HM12
 have HG:Hid (∀ t' w',Mv tag2 t' w4.drew w'→Mvb (wb :: (fp (some ⟨b,o,none⟩) c1++fp a2 c2)) tag t' w w'):=mkHid fun t' w' m => (M4.wrote (Chg.drew [] w4) (by simp)).trans (m.b []) (fun _ h _ => h) (by simp)
 have cM:=make_any HT.out (h4.keep (Chg.drew [] w4)) q' (q4'.keep (Chg.drew [] w4)) (by omega) _ HMR.out (by simp)
 unfold CN.val at cM
 go_wp2_with fail
 refine wp_region_held_drew (S:=fun u => u.cell? ⟨wb,0,none⟩=some (.pointer (some ⟨sb,0,none⟩))∧u.cell? ⟨p6,0,none⟩=some (.bool q'.lf)∧u.cell? ⟨p6,1,none⟩=some (.slice q'.ka q'.K.length q'.kc)∧u.cell? ⟨p6,2,none⟩=some (.slice q'.va q'.V.length q'.vc)) (by kernel_rfl) ?_ (fun hH => ?_)
 ·exact ⟨p04,v04,v14,v24⟩
 refine wpAnyH_take (i:=0) (oi:={ dst:=some 36,op:=_,type:=_,pos:=_,after:=_,guard:=none }) (v:=?_) rfl (by kernel_rfl) (by kernel_rfl) (by kernel_rfl) (fun _ _ _ h => h) (Or.inl ⟨by rfl,?_⟩) hH ?_
 rotate_left
 ·intro u hSu
  try dsimp only at hSu
  go_simp
  try with_reducible rfl
 try simp only [Act.put,zqf,zqg,zqh]
 refine wpAnyH_take (i:=1) (oi:={ dst:=some 37,op:=_,type:=_,pos:=_,after:=_,guard:=none }) (v:=?_) rfl (by kernel_rfl) (by kernel_rfl) (by kernel_rfl) (fun _ _ _ h => h) (Or.inl ⟨by rfl,?_⟩) hH ?_
 rotate_left
 ·intro u hSu
  try dsimp only at hSu
  go_simp
  try with_reducible rfl
 try simp only [Act.put,zqf,zqg,zqh]
 refine wpAnyH_take (i:=2) (oi:={ dst:=some 38,op:=_,type:=_,pos:=_,after:=_,guard:=none }) (v:=?_) rfl (by kernel_rfl) (by kernel_rfl) (by kernel_rfl) (fun _ _ _ h => h) (Or.inl ⟨by rfl,?_⟩) hH ?_
 rotate_left
 ·intro u hSu
  try dsimp only at hSu
  go_simp
  try with_reducible rfl
 try simp only [Act.put,zqf,zqg,zqh]
 refine wpAnyH_take (i:=3) (oi:={ dst:=some 39,op:=_,type:=_,pos:=_,after:=_,guard:=none }) (v:=?_) rfl (by kernel_rfl) (by kernel_rfl) (by kernel_rfl) (fun _ _ _ h => h) (Or.inl ⟨by rfl,?_⟩) hH ?_
 rotate_left
 ·intro u hSu
  try dsimp only at hSu
  go_simp
  try with_reducible rfl
 try simp only [Act.put,zqf,zqg,zqh]
 refine wpAnyH_take (i:=4) (oi:={ dst:=some 40,op:=_,type:=_,pos:=_,after:=_,guard:=none }) (v:=?_) rfl (by kernel_rfl) (by kernel_rfl) (by kernel_rfl) (fun _ _ _ h => h) (Or.inl ⟨by rfl,?_⟩) hH ?_
 rotate_left
 ·intro u hSu
  try dsimp only at hSu
  go_simp
  try with_reducible rfl
 try simp only [Act.put,zqf,zqg,zqh]
 refine wpAnyH_ready (rs:=[5]) (by kernel_rfl) (by simp) ?_
 refine AllReadyH.cons (o:={ dst:=some 41,op:=_,type:=_,pos:=_,after:=_,guard:=none }) rfl (fun K hK => ?_) AllReadyH.nil
 go_simp
 go_at_call 18
 refine cM.mono ?_
 rintro e w5 ⟨rfl,tag5,N5,X5,h5,m5⟩
 have hS5:(fun u:World => u.cell? ⟨wb,0,none⟩=some (.pointer (some ⟨sb,0,none⟩))∧u.cell? ⟨p6,0,none⟩=some (.bool q'.lf)∧u.cell? ⟨p6,1,none⟩=some (.slice q'.ka q'.K.length q'.kc)∧u.cell? ⟨p6,2,none⟩=some (.slice q'.va q'.V.length q'.vc)) w5:=⟨m5.cellv p04 (kt4 W4.tb),m5.cellv v04 (kt4 t64),m5.cellv v14 (kt4 t64),m5.cellv v24 (kt4 t64)⟩
 clear hH
 refine hK.out _ _ hS5 (fun hH => ?_)
 clear hK K
 try simp only [Act.put,zqf,zqg,zqh]
 refine wpAnyH_take (i:=6) (oi:={ dst:=some 42,op:=_,type:=_,pos:=_,after:=_,guard:=none }) (v:=?_) rfl (by kernel_rfl) (by kernel_rfl) (by kernel_rfl) (fun _ _ _ h => h) (Or.inl ⟨by rfl,?_⟩) hH ?_
 rotate_left
 ·intro u hSu
  try dsimp only at hSu
  go_simp
  try with_reducible rfl
 try simp only [Act.put,zqf,zqg,zqh]
 refine wpAnyH_take (i:=7) (oi:={ dst:=some 43,op:=_,type:=_,pos:=_,after:=_,guard:=none }) (v:=?_) rfl (by kernel_rfl) (by kernel_rfl) (by kernel_rfl) (fun _ _ _ h => h) (Or.inl ⟨by rfl,?_⟩) hH ?_
 rotate_left
 ·intro u hSu
  try dsimp only at hSu
  go_simp
  try with_reducible rfl
 try simp only [Act.put,zqf,zqg,zqh]
 refine wpAnyH_ready (rs:=[8]) (by kernel_rfl) (by simp) ?_
 refine AllReadyH.cons (o:={ dst:=some 44,op:=_,type:=_,pos:=_,after:=_,guard:=none }) rfl (fun K hK => ?_) AllReadyH.nil
 go_simp
 go_at_call 157
 refine (sureu64_no 0 8 (by decide) _).mono ?_
 rintro e w6 ⟨rfl,rfl⟩
 exact end_thrown (P:=Tryz.prog) (fn:=Tryz.f113) rfl ⟨rfl,tag5,N5,X5,h5.mono (by omega),HG.out _ _ m5⟩
end
end
end Go.Proofs.YtdgkbicelnnfpaaGreatDoor
