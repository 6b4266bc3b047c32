/- Texts Tqd, Tqe of the library, joined. -/
import Derived.Test.YtdgkbicelnnfpaaGreatDoorM31
import Derived.Deep.RegionLaw
import Derived.Deep.RegionHeld3
set_option linter.unusedVariables false
set_option linter.unusedSimpArgs false
namespace Go.Proofs.YtdgkbicelnnfpaaGreatDoor
section
set_option maxRecDepth 200000
open Go.RowKit
attribute [local go_sem ↓] Go.wp_at_zero Go.wp_at_succ
section
variable {w0 w:World} {tag:Nat→Nat} {sb rb n:Nat} {N C:List UInt8} {X:Nat→Option Nd} {u:Nat} {wb:Nat} {a1:Option Addr} {c1:Nat} {a2:Option Addr} {c2:Nat} {S V:List CS} {rt od:Nat} {th:Bool}
set_option maxHeartbeats 4000000 in
theorem grown_full2 (hT:Tab w0) (h:HasX w0 w tag sb rb n N C X u) (hw:WayAt w w0.heap.size tag wb sb a1 c1 a2 c2 S V rt od th) (hu:u≤90000000) (i:Nat) (hi0:i=0) (hi:i < S.length) (hSl:S.length≤20) (hVl:V.length≤100)
  (x:CS) (hx:S[i]?=some x) (hxq:x.t < n∧x.node.nd.sq) (h8:¬ x.node.K.length≤8) (N5:List UInt8) (X5:Nat→Option Nd) (t5':Nat) (hm1:makeA N C X x.node.nd.hi=.ok (N5,X5,t5')) (hm2:makeA N5 C X5 (topN (x.node.nd.lo.K.getD 0 0) (x.node.nd.hi.K.getD 0 0) x.t t5')=.full) :
  Calls Tryz.prog 113 #[.pointer (some ⟨wb,0,none⟩),.int .i64 (i:Int)] w (GrownPost w0 w tag sb rb n C (u+2) wb a1 c1 a2 c2 od th .full):=by
 have HI0:=mkHid hi0
 clear hi0
 have hxm:=List.mem_of_getElem? hx
 obtain ⟨b,o,rfl,hst,hbf⟩:=hw.r1.step hx
 have HT:=mkHid hT
 have hle:=hw.r1.le
 obtain ⟨qx1,qx2⟩:=hw.r1.nd x hxm
 obtain ⟨hxt,hxsq⟩:=hxq
 have tb:=hw.r1.tg b hbf
 have p1:=hw.p1
 have p0:=hw.p0
 obtain ⟨⟨e0,e1,e2,e3,e4,e5,e6,e7⟩,-⟩:=hst.all
 have hHX:=mkHid hx
 clear hx
 obtain ⟨xt,was,⟨lf,ka,kc,va,vc,K,V'⟩,xp⟩:=x
 unfold CN.nd at hm1 hm2
 dsimp only at hm1 hm2 h8 e0 e1 e2 e3 e4 e5 e6 e7 qx1 qx2 hxt hxsq
 have HM12:=mkHid (And.intro hm1 hm2)
 clear hm1 hm2
 have d8:decide ((K.length:Int)≤8)=false:=decide_eq_false (by omega)
 have gK:=Chg.alloc [] w (.cells (CS.cells ⟨xt,was,⟨lf,ka,kc,va,vc,K,V'⟩,xp⟩).toArray 139)
 have sX:=new_step w ⟨xt,was,⟨lf,ka,kc,va,vc,K,V'⟩,xp⟩ 139
 have h1:=h.keep gK
 have W1:=hw.keep gK
 have x1:=qx1.keep gK
 have x2:=qx2.keep gK
 have bX:=h.hi w.heap.size (Nat.le_refl _)
 have M1:=Mv.made gK h.hi
 have hz1:w.heap.size < (w.alloc (.cells (CS.cells ⟨xt,was,⟨lf,ka,kc,va,vc,K,V'⟩,xp⟩).toArray 139)).heap.size:=by simp
 have cS:=ksplitN h1 ⟨lf,ka,kc,va,vc,K,V'⟩ x2 hxsq
 unfold CN.val at cS
 unfold CS.cells at gK sX h1 W1 x1 x2 M1 hz1 cS
 try dsimp only at gK sX h1 W1 x1 x2 M1 hz1 cS
 obtain ⟨⟨f0,f1,f2,f3,f4,f5,f6,f7⟩,-⟩:=sX.all
 simp only [Nat.zero_add] at f1 f2 f3 f4 f5 f6 f7
 go_enter Tryz.func113,Tryz.ntmps113
 go_wp2_with fail
 generalize (w.alloc (.cells [.int .u64 (xt:Int),.bool was.lf,.slice was.ka was.K.length was.kc,.slice was.va was.V.length was.vc,.bool lf,.slice ka K.length kc,.slice va V'.length vc,.int .i64 (xp:Int)].toArray 139))=w1 at *
 generalize hxb:w.heap.size=xb at *
 have HXB:=mkHid hxb
 clear hxb
 refine cS.mono ?_
 rintro e w2 ⟨q,q',rfl,hqm,hqm',tag2,h2,m2,q2,q2'⟩
 have W2:=W1.mv m2
 have s2:=sX.mv m2 bX
 have b2:=m2.four bX hz1
 have y1:=x1.mv m2
 have M2:=M1.trans m2
 obtain ⟨⟨f0,f1,f2,f3,f4,f5,f6,f7⟩,z0,z1,z2,z3,z4,z5,z6,z7⟩:=s2.all
 simp only [Nat.zero_add] at f0 f1 f2 f3 f4 f5 f6 f7 z0 z1 z2 z3 z4 z5 z6 z7
 have hxl:=s2.lt
 have hxn:xb ≠ w2.heap.size:=by omega
 have hxn2:xb ≠ w2.heap.size+1:=by omega
 obtain ⟨w3,hw3⟩:∃ w3,w3=wr3 w2 xb 0 q:=⟨_,rfl⟩
 obtain ⟨wA,hwA⟩:∃ wA,wA=w3.alloc (.cells #[.bool q.lf,.slice q.ka q.K.length q.kc,.slice q.va q.V.length q.vc] 53):=⟨_,rfl⟩
 obtain ⟨wC,hwC⟩:∃ wC,wC=wA.alloc (.cells #[.bool q'.lf,.slice q'.ka q'.K.length q'.kc,.slice q'.va q'.V.length q'.vc] 53):=⟨_,rfl⟩
 have g3:Chg [xb] w2 w3:=by rw [hw3];exact wr3_chg w2 xb 0 q
 have gA:Chg [] w3 wA:=by rw [hwA];exact Chg.alloc [] w3 _
 have gC:Chg [] wA wC:=by rw [hwC];exact Chg.alloc [] wA _
 have hs3:w3.heap.size=w2.heap.size:=by rw [hw3];unfold wr3;simp
 have hsA:wA.heap.size=w2.heap.size+1:=by rw [hwA];simp [hs3]
 have hsC':wC.heap.size=w2.heap.size+2:=by rw [hwC];simp [hsA]
 have lA:=laid3 w3 (.bool q.lf) (.slice q.ka q.K.length q.kc) (.slice q.va q.V.length q.vc) 53
 rw [← hwA,hs3] at lA
 have lC:=laid3 wA (.bool q'.lf) (.slice q'.ka q'.K.length q'.kc) (.slice q'.va q'.V.length q'.vc) 53
 rw [← hwC,hsA] at lC
 have t5:tag2 w2.heap.size=4:=h2.hi _ (Nat.le_refl _)
 have t6:tag2 (w2.heap.size+1)=4:=h2.hi _ (by omega)
 have hSx:∀ k,k∈[xb]→tag2 k=4:=fun k hk => by simp at hk;subst hk;exact b2
 have hxa:xb ∉ fp (some ⟨b,o,none⟩) c1:=fun hm => by have:=(hw.r1.rm.lt _ hm).2;have:=HXB.out;omega
 have hxa2:xb ∉ fp a2 c2:=fun hm => by have:=(hw.r2.rm.lt _ hm).2;have:=HXB.out;omega
 have hxw:wb ≠ xb:=by have:=hw.lt;have:=HXB.out;omega
 have hC:=((h2.wrote g3 hSx).keep gA).keep gC
 have WC:=((W2.wrote g3 hSx (by simpa using hxw) (fun k hk hm => by simp at hm;subst hm;exact hxa hk) (fun k hk hm => by simp at hm;subst hm;exact hxa2 hk)).keep gA).keep gC
 have MC:=((M2.wrote g3 (fun k hk => by simp at hk;subst hk;have:=HXB.out;omega)).then gA).then gC
 have sC:StepAt wC xb 0 ⟨xt,was,q,xp⟩:=by
  have:=s2.wr q
  rw [← hw3] at this
  exact (this.chg gA (by simp)).chg gC (by simp)
 have yC:=((y1.wrote g3 hSx).keep gA).keep gC
 have qC:=((q2.wrote g3 hSx).keep gA).keep gC
 have qC':=((q2'.wrote g3 hSx).keep gA).keep gC
 obtain ⟨u0,u1,u2⟩:wC.cell? ⟨w2.heap.size,0,none⟩=some (.bool q.lf)∧wC.cell? ⟨w2.heap.size,1,none⟩=some (.slice q.ka q.K.length q.kc)∧wC.cell? ⟨w2.heap.size,2,none⟩=some (.slice q.va q.V.length q.vc):=⟨gC.cellv lA.1 (by simp),gC.cellv lA.2.1 (by simp),gC.cellv lA.2.2 (by simp)⟩
 obtain ⟨v0,v1,v2⟩:=lC
 have hsC:w2.heap.size+2≤wC.heap.size:=by omega
 have cK:=keep_any hC WC ⟨xt,was,q,xp⟩ ⟨yC,qC⟩ (by omega)
 unfold CS.val stepV at cK
 try dsimp only at cK
 have HW:=mkHid (And.intro hw3 (And.intro hwA hwC))
 have HQ:=mkHid (And.intro hqm hqm')
 unfold CN.val
 clear lA gA gC g3 hqm hqm' h1 W1 x1 x2 M1 h2 m2 q2 q2' W2 y1 M2 cS gK sX hsA hs3 hsC' s2
 clear hwC
 clear hwA
 clear hw3
 go_wp2_with fail
 rw [show (((((w2.setCell ⟨xb,4,none⟩ (.bool q.lf)).setCell ⟨xb,5,none⟩ (.slice q.ka q.K.length q.kc)).setCell ⟨xb,6,none⟩ (.slice q.va q.V.length q.vc)).alloc (.cells #[.bool q.lf,.slice q.ka q.K.length q.kc,.slice q.va q.V.length q.vc] 53)).alloc (.cells #[.bool q'.lf,.slice q'.ka q'.K.length q'.kc,.slice q'.va q'.V.length q'.vc] 53))=wC by rw [HW.out.2.2,HW.out.2.1,HW.out.1];rfl]
 refine cK.mono ?_
 rintro e w4 ⟨rfl,a2',c2',W4,g4,hf4⟩
 generalize hp5:w2.heap.size=p5 at *
 obtain ⟨p6,hp6⟩:∃ p6,p5+1=p6:=⟨_,rfl⟩
 rw [hp6] at t6 v0 v1 v2 ⊢
 have hS4:∀ k,k∈wb :: fp a2 c2→tag2 k=4:=fun k hk => by
  rcases List.mem_cons.1 hk with rfl | h9
  ·exact WC.tb
  ·exact WC.r2.tg k h9
 have hlt4:∀ k,k∈wb :: fp a2 c2→k < xb:=fun k hk => by
  have:=HXB.out
  rcases List.mem_cons.1 hk with rfl | h9
  ·have:=hw.lt;omega
  ·have:=(hw.r2.rm.lt k h9).2;omega
 have n5:p5 ∉ wb :: fp a2 c2:=fun hm => by have:=hlt4 _ hm;omega
 have n6:p6 ∉ wb :: fp a2 c2:=fun hm => by have:=hlt4 _ hm;omega
 have nx:xb ∉ wb :: fp a2 c2:=fun hm => by have:=hlt4 _ hm;omega
 have h4:=hC.wrote g4 hS4
 have s4:=sC.chg g4 nx
 have q4:=qC.wrote g4 hS4
 have q4':=qC'.wrote g4 hS4
 have M4:Mvb (wb :: (fp (some ⟨b,o,none⟩) c1++fp a2 c2)) tag tag2 w w4:=(MC.b _).wrote g4 (fun k hk _ => by
  rcases List.mem_cons.1 hk with rfl | h9
  ·simp
  ·exact List.mem_cons_of_mem _ (List.mem_append_right _ h9))
 have u04:=g4.cellv u0 n5
 have u14:=g4.cellv u1 n5
 have u24:=g4.cellv u2 n5
 have v04:=g4.cellv v0 n6
 have v14:=g4.cellv v1 n6
 have v24:=g4.cellv v2 n6
 have p04:=W4.p0
 have hs4:=g4.size
 have hl5:p5 < w4.heap.size:=by omega
 have hl6:p6 < w4.heap.size:=by omega
 have hlx:xb < w4.heap.size:=s4.lt
 have hf4':∀ k,k∈fp a2' c2'→k∈fp a2 c2 ∨ w.heap.size≤k:=fun k hk => (hf4 k hk).imp id (fun h9 => by have:=HXB.out;omega)
 have t54:=t5
 have t64:=t6
 have H6:=mkHid hp6
 have HF4:=mkHid (And.intro hf4' (And.intro hS4 hlt4))
 clear hp6 hp5 hf4 hf4' hS4 hlt4 n5 n6 nx u0 u1 u2 v0 v1 v2 hC sC qC qC' WC MC cK g4 hs4 yC
 obtain ⟨hqm,hqm'⟩:=HQ.out
 obtain ⟨hm1,hm2⟩:=HM12.out
 rw [show (⟨lf,K,V'⟩:Nd).hi=q'.nd from hqm'.symm] at hm1 hm2
 rw [show (⟨lf,K,V'⟩:Nd).lo=q.nd from hqm.symm] at hm2
 have HMR:=mkHid hm1
 have HM2:=mkHid hm2
 clear hm1 hm2 HM12
 have HG:Hid (∀ t' w',Mv tag2 t' w4.drew w'→Mvb (wb :: (fp (some ⟨b,o,none⟩) c1++fp a2 c2)) tag t' w w'):=mkHid fun t' w' m => (M4.wrote (Chg.drew [] w4) (by simp)).trans (m.b []) (fun _ h _ => h) (by simp)
 have cM:=make_any HT.out (h4.keep (Chg.drew [] w4)) q' (q4'.keep (Chg.drew [] w4)) (by omega) _ HMR.out (by simp)
 unfold CN.val at cM
 have d0:((i:Int) == 0)=true:=by simpa using HI0.out
 obtain ⟨⟨x40,-,-,-,-,-,-,-⟩,-⟩:=s4.all
 go_wp2_with fail
 go_region_law (first
  | (go_simp;go_at_call 18;refine cM.mono ?_;rintro e w5 ⟨rfl,ht5,tag5,h5,m5⟩)
  | (go_simp;go_at_call 157;refine (sureu64_ok _ _).mono ?_;rintro e w' ⟨rfl,rfl⟩))
 all_goals
  have q5:=(q4.keep (Chg.drew [] w4)).mv m5
  have q5':=(q4'.keep (Chg.drew [] w4)).mv m5
  have W5:=HG.out _ _ m5
  have u05:=m5.cellv ((Chg.drew [] w4).cellv u04 (by simp)) (kt4 t54)
  have u15:=m5.cellv ((Chg.drew [] w4).cellv u14 (by simp)) (kt4 t54)
  have u25:=m5.cellv ((Chg.drew [] w4).cellv u24 (by simp)) (kt4 t54)
  have v05:=m5.cellv ((Chg.drew [] w4).cellv v04 (by simp)) (kt4 t64)
  have v15:=m5.cellv ((Chg.drew [] w4).cellv v14 (by simp)) (kt4 t64)
  have v25:=m5.cellv ((Chg.drew [] w4).cellv v24 (by simp)) (kt4 t64)
  have x50:=m5.cellv ((Chg.drew [] w4).cellv x40 (by simp)) (kt4 b2)
  have p05:=m5.cellv ((Chg.drew [] w4).cellv W4.p0 (by simp)) (kt4 W4.tb)
  have hqK:q.K=K.take (half K.length):=congrArg Nd.K HQ.out.1
  have hqK':q'.K=K.drop (half K.length):=congrArg Nd.K HQ.out.2
  have hl1:0 < q.K.length:=by rw [hqK];simp [half];omega
  have hl2:0 < q'.K.length:=by rw [hqK'];simp [half];omega
  obtain ⟨kb,ko,hka,hc1⟩:=q5.rd.rk (by simpa [uvs_len] using hl1)
  obtain ⟨kb',ko',hka',hc2⟩:=q5'.rd.rk (by simpa [uvs_len] using hl2)
  obtain ⟨x0,hx0⟩:∃ z,q.K[0]?=some z:=⟨_,List.getElem?_eq_getElem hl1⟩
  obtain ⟨y0,hy0⟩:∃ z,q'.K[0]?=some z:=⟨_,List.getElem?_eq_getElem hl2⟩
  have cx:=hc1 0 _ (uvs_get hx0)
  have cy:=hc2 0 _ (uvs_get hy0)
  rw [Nat.add_zero] at cx cy
  rw [hka] at u15
  rw [hka'] at v15
  have bx0:x0 < 2 ^ 64:=q5.bK _ (List.mem_of_getElem? hx0)
  have by0:y0 < 2 ^ 64:=q5'.bK _ (List.mem_of_getElem? hy0)
  have HB:=mkHid (show (∀ z∈[x0,y0],z < 2 ^ 64)∧∀ z∈[xt,t5'],z < 2 ^ 64 from ⟨by simp;exact ⟨bx0,by0⟩,by have:=h.lens.2.2.2;simp;omega⟩)
  clear bx0 by0
  have hi1:(0:Int) < (q.K.length:Int):=by omega
  have hi2:(0:Int) < (q'.K.length:Int):=by omega
  have HK:=mkHid (And.intro hx0 (And.intro hy0 (And.intro hka hka')))
  clear hqK hqK' hc1 hc2 hx0 hy0 hka hka'
  go_wp2_with fail
  refine region_made 15 [IsV (.pointer (some ⟨p5,1,none⟩)),IsV (.slice (some ⟨kb,ko,none⟩) q.K.length q.kc),IsV (.pointer (some ⟨kb,ko,none⟩)),IsV (.int .u64 (x0:Int)),IsV (.pointer (some ⟨p6,1,none⟩)),IsV (.slice (some ⟨kb',ko',none⟩) q'.K.length q'.kc),IsV (.pointer (some ⟨kb',ko',none⟩)),IsV (.int .u64 (y0:Int)),IsRowB (w5.heap.size) [x0,y0],IsV (.pointer (some ⟨xb,0,none⟩)),IsV (.int .u64 (xt:Int)),IsV (.int .u64 (t5':Int)),IsRowB (w5.heap.size) [xt,t5'],IsTop (w5.heap.size) [x0,y0] [xt,t5'],IsBoxF] (by kernel_rfl) (by kernel_rfl) (by kernel_rfl) (by decide) (of_decide_eq_true (by kernel_rfl)) ⟨keepV _,keepV _,keepV _,keepV _,keepV _,keepV _,keepV _,keepV _,keepRowB _ _,keepV _,keepV _,keepV _,keepRowB _ _,keepTop _ _ _,keepBF,trivial⟩ ?_ ?_
  ·refine ⟨?_,?_,?_,?_,?_,?_,?_,?_,?_,?_,?_,?_,?_,?_,?_,trivial⟩
   ·intro v u hg hd K hK
    clear hd
    have hk:=hK.out (.pointer (some ⟨p5,1,none⟩)) u (Chg.refl _ _) rfl
    clear hK
    simp only [zqa,zqb,zqc,zqd,zqe,putAll,Act.put,zqf,zqg,zqh,Nat.zero_add,Nat.reduceAdd] at hk ⊢
    go_simp
    exact hk
   ·intro v u hg hd K hK
    have h0:∃ lo hi,IsV (.pointer (some ⟨p5,1,none⟩)) (v 0) lo hi u:=dep hd 0 (by kernel_rfl)
    have e0:v 0=.pointer (some ⟨p5,1,none⟩):=depV h0
    have hz:=(Chg.drew [] w5).then hg
    have c0:=hz.cellv u15 (by simp)
    clear hd
    have hk:=hK.out (.slice (some ⟨kb,ko,none⟩) q.K.length q.kc) u (Chg.refl _ _) rfl
    clear hK
    simp only [zqa,zqb,zqc,zqd,zqe,putAll,Act.put,zqf,zqg,zqh,Nat.zero_add,Nat.reduceAdd,e0] at hk ⊢
    go_simp
    exact hk
   ·intro v u hg hd K hK
    have h1:∃ lo hi,IsV (.slice (some ⟨kb,ko,none⟩) q.K.length q.kc) (v 1) lo hi u:=dep hd 1 (by kernel_rfl)
    have e1:v 1=.slice (some ⟨kb,ko,none⟩) q.K.length q.kc:=depV h1
    clear hd
    have hk:=hK.out (.pointer (some ⟨kb,ko,none⟩)) u (Chg.refl _ _) rfl
    clear hK
    simp only [zqa,zqb,zqc,zqd,zqe,putAll,Act.put,zqf,zqg,zqh,Nat.zero_add,Nat.reduceAdd,e1] at hk ⊢
    go_simp
    exact hk
   ·intro v u hg hd K hK
    have h2:∃ lo hi,IsV (.pointer (some ⟨kb,ko,none⟩)) (v 2) lo hi u:=dep hd 2 (by kernel_rfl)
    have e2:v 2=.pointer (some ⟨kb,ko,none⟩):=depV h2
    have hz:=(Chg.drew [] w5).then hg
    have c0:=hz.cellv cx (by simp)
    clear hd
    have hk:=hK.out (.int .u64 (x0:Int)) u (Chg.refl _ _) rfl
    clear hK
    simp only [zqa,zqb,zqc,zqd,zqe,putAll,Act.put,zqf,zqg,zqh,Nat.zero_add,Nat.reduceAdd,e2] at hk ⊢
    go_simp
    exact hk
   ·intro v u hg hd K hK
    clear hd
    have hk:=hK.out (.pointer (some ⟨p6,1,none⟩)) u (Chg.refl _ _) rfl
    clear hK
    simp only [zqa,zqb,zqc,zqd,zqe,putAll,Act.put,zqf,zqg,zqh,Nat.zero_add,Nat.reduceAdd] at hk ⊢
    go_simp
    exact hk
   ·intro v u hg hd K hK
    have h4:∃ lo hi,IsV (.pointer (some ⟨p6,1,none⟩)) (v 4) lo hi u:=dep hd 4 (by kernel_rfl)
    have e4:v 4=.pointer (some ⟨p6,1,none⟩):=depV h4
    have hz:=(Chg.drew [] w5).then hg
    have c0:=hz.cellv v15 (by simp)
    clear hd
    have hk:=hK.out (.slice (some ⟨kb',ko',none⟩) q'.K.length q'.kc) u (Chg.refl _ _) rfl
    clear hK
    simp only [zqa,zqb,zqc,zqd,zqe,putAll,Act.put,zqf,zqg,zqh,Nat.zero_add,Nat.reduceAdd,e4] at hk ⊢
    go_simp
    exact hk
   ·intro v u hg hd K hK
    have h5:∃ lo hi,IsV (.slice (some ⟨kb',ko',none⟩) q'.K.length q'.kc) (v 5) lo hi u:=dep hd 5 (by kernel_rfl)
    have e5:v 5=.slice (some ⟨kb',ko',none⟩) q'.K.length q'.kc:=depV h5
    clear hd
    have hk:=hK.out (.pointer (some ⟨kb',ko',none⟩)) u (Chg.refl _ _) rfl
    clear hK
    simp only [zqa,zqb,zqc,zqd,zqe,putAll,Act.put,zqf,zqg,zqh,Nat.zero_add,Nat.reduceAdd,e5] at hk ⊢
    go_simp
    exact hk
   ·intro v u hg hd K hK
    have h6:∃ lo hi,IsV (.pointer (some ⟨kb',ko',none⟩)) (v 6) lo hi u:=dep hd 6 (by kernel_rfl)
    have e6:v 6=.pointer (some ⟨kb',ko',none⟩):=depV h6
    have hz:=(Chg.drew [] w5).then hg
    have c0:=hz.cellv cy (by simp)
    clear hd
    have hk:=hK.out (.int .u64 (y0:Int)) u (Chg.refl _ _) rfl
    clear hK
    simp only [zqa,zqb,zqc,zqd,zqe,putAll,Act.put,zqf,zqg,zqh,Nat.zero_add,Nat.reduceAdd,e6] at hk ⊢
    go_simp
    exact hk
   ·intro v u hg hd K hK
    have h3:∃ lo hi,IsV (.int .u64 (x0:Int)) (v 3) lo hi u:=dep hd 3 (by kernel_rfl)
    have e3:v 3=.int .u64 (x0:Int):=depV h3
    have h7:∃ lo hi,IsV (.int .u64 (y0:Int)) (v 7) lo hi u:=dep hd 7 (by kernel_rfl)
    have e7:v 7=.int .u64 (y0:Int):=depV h7
    have hz:=(Chg.drew [] w5).then hg
    have gA:=Chg.alloc [] u (.cells #[.int .u64 (x0:Int),.int .u64 (y0:Int)] 34)
    have hrm:=lit_room u (w5.heap.size) (by have:=hz.size;simpa using this) #[.int .u64 (x0:Int),.int .u64 (y0:Int)] 34 (uvs [x0,y0]) 2 rfl rfl (by unfold maxLen;omega)
    clear hd
    have hk:=hK.out (.slice (some ⟨u.heap.size,0,none⟩) 2 2) _ gA ⟨_,rfl,hrm⟩
    clear hK
    simp only [zqa,zqb,zqc,zqd,zqe,putAll,Act.put,zqf,zqg,zqh,Nat.zero_add,Nat.reduceAdd,e3,e7] at hk ⊢
    go_simp
    exact hk
   ·intro v u hg hd K hK
    clear hd
    have hk:=hK.out (.pointer (some ⟨xb,0,none⟩)) u (Chg.refl _ _) rfl
    clear hK
    simp only [zqa,zqb,zqc,zqd,zqe,putAll,Act.put,zqf,zqg,zqh,Nat.zero_add,Nat.reduceAdd] at hk ⊢
    go_simp
    exact hk
   ·intro v u hg hd K hK
    have h9:∃ lo hi,IsV (.pointer (some ⟨xb,0,none⟩)) (v 9) lo hi u:=dep hd 9 (by kernel_rfl)
    have e9:v 9=.pointer (some ⟨xb,0,none⟩):=depV h9
    have hz:=(Chg.drew [] w5).then hg
    have c0:=hz.cellv x50 (by simp)
    clear hd
    have hk:=hK.out (.int .u64 (xt:Int)) u (Chg.refl _ _) rfl
    clear hK
    simp only [zqa,zqb,zqc,zqd,zqe,putAll,Act.put,zqf,zqg,zqh,Nat.zero_add,Nat.reduceAdd,e9] at hk ⊢
    go_simp
    exact hk
   ·intro v u hg hd K hK
    clear hd
    have hk:=hK.out (.int .u64 (t5':Int)) u (Chg.refl _ _) rfl
    clear hK
    simp only [zqa,zqb,zqc,zqd,zqe,putAll,Act.put,zqf,zqg,zqh,Nat.zero_add,Nat.reduceAdd] at hk ⊢
    go_simp
    exact hk
   ·intro v u hg hd K hK
    have h10:∃ lo hi,IsV (.int .u64 (xt:Int)) (v 10) lo hi u:=dep hd 10 (by kernel_rfl)
    have e10:v 10=.int .u64 (xt:Int):=depV h10
    have h11:∃ lo hi,IsV (.int .u64 (t5':Int)) (v 11) lo hi u:=dep hd 11 (by kernel_rfl)
    have e11:v 11=.int .u64 (t5':Int):=depV h11
    have hz:=(Chg.drew [] w5).then hg
    have gA:=Chg.alloc [] u (.cells #[.int .u64 (xt:Int),.int .u64 (t5':Int)] 34)
    have hrm:=lit_room u (w5.heap.size) (by have:=hz.size;simpa using this) #[.int .u64 (xt:Int),.int .u64 (t5':Int)] 34 (uvs [xt,t5']) 2 rfl rfl (by unfold maxLen;omega)
    clear hd
    have hk:=hK.out (.slice (some ⟨u.heap.size,0,none⟩) 2 2) _ gA ⟨_,rfl,hrm⟩
    clear hK
    simp only [zqa,zqb,zqc,zqd,zqe,putAll,Act.put,zqf,zqg,zqh,Nat.zero_add,Nat.reduceAdd,e10,e11] at hk ⊢
    go_simp
    exact hk
   ·intro v u hg hd K hK
    obtain ⟨_,_,ba,e8,r8⟩:∃ lo hi,IsRowB (w5.heap.size) [x0,y0] (v 8) lo hi u:=dep hd 8 (by kernel_rfl)
    obtain ⟨_,_,bb,e12,r12⟩:∃ lo hi,IsRowB (w5.heap.size) [xt,t5'] (v 12) lo hi u:=dep hd 12 (by kernel_rfl)
    clear hd
    have hk:=hK.out (.agg #[.bool false,.slice (some ⟨ba,0,none⟩) 2 2,.slice (some ⟨bb,0,none⟩) 2 2]) u (Chg.refl _ _) ⟨ba,bb,rfl,r8,r12⟩
    clear hK
    simp only [zqa,zqb,zqc,zqd,zqe,putAll,Act.put,zqf,zqg,zqh,Nat.zero_add,Nat.reduceAdd,e8,e12] at hk ⊢
    go_simp
    exact hk
   ·intro v u hg hd K hK
    clear hd
    have hk:=hK.out (.pointer (some ⟨u.heap.size,0,none⟩)) _ (Chg.alloc [] u (.cells #[.bool false,.slice none 0 0,.slice none 0 0] 53)) ⟨⟨rfl,by simp,start_there u⟩,(laid3 u (.bool false) (.slice none 0 0) (.slice none 0 0) 53).1⟩
    clear hK
    simp only [zqa,zqb,zqc,zqd,zqe,putAll,Act.put,zqf,zqg,zqh,Nat.zero_add,Nat.reduceAdd] at hk ⊢
    go_simp
    exact hk
  ·intro v u lo hi hg hall hbd hdj
   have e0:v 0=.pointer (some ⟨p5,1,none⟩):=hall 0 (by decide)
   have e1:v 1=.slice (some ⟨kb,ko,none⟩) q.K.length q.kc:=hall 1 (by decide)
   have e2:v 2=.pointer (some ⟨kb,ko,none⟩):=hall 2 (by decide)
   have e3:v 3=.int .u64 (x0:Int):=hall 3 (by decide)
   have e4:v 4=.pointer (some ⟨p6,1,none⟩):=hall 4 (by decide)
   have e5:v 5=.slice (some ⟨kb',ko',none⟩) q'.K.length q'.kc:=hall 5 (by decide)
   have e6:v 6=.pointer (some ⟨kb',ko',none⟩):=hall 6 (by decide)
   have e7:v 7=.int .u64 (y0:Int):=hall 7 (by decide)
   have e9:v 9=.pointer (some ⟨xb,0,none⟩):=hall 9 (by decide)
   have e10:v 10=.int .u64 (xt:Int):=hall 10 (by decide)
   have e11:v 11=.int .u64 (t5':Int):=hall 11 (by decide)
   obtain ⟨ba,e8,-⟩:IsRowB (w5.heap.size) [x0,y0] (v 8) (lo 8) (hi 8) u:=hall 8 (by decide)
   obtain ⟨bb,e12,-⟩:IsRowB (w5.heap.size) [xt,t5'] (v 12) (lo 12) (hi 12) u:=hall 12 (by decide)
   obtain ⟨bc,bd,e13,r1,r2⟩:IsTop (w5.heap.size) [x0,y0] [xt,t5'] (v 13) (lo 13) (hi 13) u:=hall 13 (by decide)
   obtain ⟨⟨e14,-,t14⟩,f14⟩:IsBoxF (v 14) (lo 14) (hi 14) u:=hall 14 (by decide)
   have b14:=(hbd 14 (by decide)).1
   obtain ⟨v0,v1,v2,i0,i1,i2,j0,j1,j2⟩:=there3 t14
   generalize lo 14=tb at *
   have g6:=(Chg.drew [] w5).then hg
   clear hall hbd hdj hg
   simp only [zqa,zqb,zqc,zqd,zqe,putAll,Act.put,zqf,zqg,zqh,Nat.zero_add,Nat.reduceAdd,e0,e1,e2,e3,e4,e5,e6,e7,e8,e9,e10,e11,e12,e13,e14]
   clear e0 e1 e2 e3 e4 e5 e6 e7 e8 e9 e10 e11 e12 e13 e14
   have h6:=h5.keep g6
   have M6:=(Mv.made g6 h5.hi)
   have n6:New5 u w5.heap.size ⟨false,some ⟨bc,0,none⟩,2,some ⟨bd,0,none⟩,2,[x0,y0],[xt,t5']⟩:=⟨r1,r2⟩
   have hz5:∀ k,w5.heap.size≤k→tag5 k=4:=h5.hi
   have h7:=h6.five n6 hz5
   have M7:=M6.five n6 (Nat.le_refl _)
   have t7:NdAt u (_root_.Go.Proofs.YtdgkbicelnnfpaaGreatDoor.tag5 tag5 w5.heap.size ⟨false,some ⟨bc,0,none⟩,2,some ⟨bd,0,none⟩,2,[x0,y0],[xt,t5']⟩) _:=NdAt.new n6 (by simp) (by simp) HB.out.1 HB.out.2
   have nbc:=box_ne f14 r1
   have nbd:=box_ne f14 r2
   have ktb:(_root_.Go.Proofs.YtdgkbicelnnfpaaGreatDoor.tag5 tag5 w5.heap.size ⟨false,some ⟨bc,0,none⟩,2,some ⟨bd,0,none⟩,2,[x0,y0],[xt,t5']⟩) tb=4:=by
    unfold _root_.Go.Proofs.YtdgkbicelnnfpaaGreatDoor.tag5
    rw [if_neg (fun h9 => by
     rcases h9.2 with h8 | h8
     ·dsimp only at h8;rw [fp_some _ _ _ (by decide)] at h8;simp at h8;exact nbc h8
     ·dsimp only at h8;rw [fp_some _ _ _ (by decide)] at h8;simp at h8;exact nbd h8)]
    exact hz5 tb b14
   obtain ⟨w7,hw7⟩:∃ w7,w7=(((u.setCell ⟨tb,0,none⟩ (.bool false)).setCell ⟨tb,1,none⟩ (.slice (some ⟨bc,0,none⟩) 2 2)).setCell ⟨tb,2,none⟩ (.slice (some ⟨bd,0,none⟩) 2 2)):=⟨_,rfl⟩
   have g7:Chg [tb] u w7:=by rw [hw7];exact three_chg u tb _ _ _
   have hS7:∀ k,k∈[tb]→(_root_.Go.Proofs.YtdgkbicelnnfpaaGreatDoor.tag5 tag5 w5.heap.size ⟨false,some ⟨bc,0,none⟩,2,some ⟨bd,0,none⟩,2,[x0,y0],[xt,t5']⟩) k=4:=fun k hk => by simp at hk;subst hk;exact ktb
   have l7:=three_cells (x:=.bool false) (y:=.slice (some ⟨bc,0,none⟩) 2 2) (z:=.slice (some ⟨bd,0,none⟩) 2 2) i0 i1 i2
   rw [← hw7] at l7
   have h7:=h7.wrote g7 hS7
   have M7:=M7.wrote g7 (fun k hk => by simp at hk;subst hk;exact b14)
   have t7:=t7.wrote g7 hS7
   generalize hTG:(_root_.Go.Proofs.YtdgkbicelnnfpaaGreatDoor.tag5 tag5 w5.heap.size ⟨false,some ⟨bc,0,none⟩,2,some ⟨bd,0,none⟩,2,[x0,y0],[xt,t5']⟩)=tg7 at *
   obtain ⟨l70,l71,l72⟩:=l7
   have W7:=((W4.keep (Chg.drew [] w4)).mv m5).mv M7
   have e7:makeA N5 C X5 (CN.nd ⟨false,some ⟨bc,0,none⟩,2,some ⟨bd,0,none⟩,2,[x0,y0],[xt,t5']⟩)=.full:=by
    have e8:=HM2.out
    rw [show q.nd.K.getD 0 0=x0 from by rw [List.getD_eq_getElem?_getD,show q.nd.K=q.K from rfl,HK.out.1];rfl,show q'.nd.K.getD 0 0=y0 from by rw [List.getD_eq_getElem?_getD,show q'.nd.K=q'.K from rfl,HK.out.2.1];rfl] at e8
    exact e8
   have cM2:=make_any HT.out (h7.keep (Chg.drew [] w7)) ⟨false,some ⟨bc,0,none⟩,2,some ⟨bd,0,none⟩,2,[x0,y0],[xt,t5']⟩ (t7.keep (Chg.drew [] w7)) (by omega) _ e7 (by simp)
   unfold CN.val at cM2
   simp only [List.length_cons,List.length_nil,Nat.zero_add,Nat.reduceAdd] at cM2
   have p07:=W7.p0
   have p37:=W7.p3
   have f37:=W7.f 3
   have H7:=mkHid (And.intro h7 (And.intro M7 W7))
   have HW7:=mkHid hw7
   clear h6 M6 e7 t7 hw7 g7 hS7 hTG n6 r1 r2 f14 hz5
   go_wp2_with fail
   rw [← HW7.out]
   refine wp_region_held_drew (S:=(fun u:World => u.cell? ⟨wb,0,none⟩=some (.pointer (some ⟨sb,0,none⟩))∧u.cell? ⟨tb,0,none⟩=some (.bool false)∧u.cell? ⟨tb,1,none⟩=some (.slice (some ⟨bc,0,none⟩) 2 2)∧u.cell? ⟨tb,2,none⟩=some (.slice (some ⟨bd,0,none⟩) 2 2))) (by kernel_rfl) ?_ (fun hH => ?_)
   ·exact ⟨p07,l70,l71,l72⟩
   refine wpAnyH_take (i:=0) (oi:={ dst:=some 61,op:=_,type:=_,pos:=_,after:=_,guard:=none }) (v:=?_) rfl (by kernel_rfl) (by kernel_rfl) (by kernel_rfl) (fun _ _ _ h => h) (Or.inl ⟨by rfl,?_⟩) hH ?_
   rotate_left
   ·intro u9 hSu
    try dsimp only at hSu
    go_simp
    try with_reducible rfl
   try simp only [Act.put,zqf,zqg,zqh]
   refine wpAnyH_take (i:=1) (oi:={ dst:=some 62,op:=_,type:=_,pos:=_,after:=_,guard:=none }) (v:=?_) rfl (by kernel_rfl) (by kernel_rfl) (by kernel_rfl) (fun _ _ _ h => h) (Or.inl ⟨by rfl,?_⟩) hH ?_
   rotate_left
   ·intro u9 hSu
    try dsimp only at hSu
    go_simp
    try with_reducible rfl
   try simp only [Act.put,zqf,zqg,zqh]
   refine wpAnyH_take (i:=2) (oi:={ dst:=some 63,op:=_,type:=_,pos:=_,after:=_,guard:=none }) (v:=?_) rfl (by kernel_rfl) (by kernel_rfl) (by kernel_rfl) (fun _ _ _ h => h) (Or.inl ⟨by rfl,?_⟩) hH ?_
   rotate_left
   ·intro u9 hSu
    try dsimp only at hSu
    go_simp
    try with_reducible rfl
   try simp only [Act.put,zqf,zqg,zqh]
   refine wpAnyH_take (i:=3) (oi:={ dst:=some 64,op:=_,type:=_,pos:=_,after:=_,guard:=none }) (v:=?_) rfl (by kernel_rfl) (by kernel_rfl) (by kernel_rfl) (fun _ _ _ h => h) (Or.inl ⟨by rfl,?_⟩) hH ?_
   rotate_left
   ·intro u9 hSu
    try dsimp only at hSu
    go_simp
    try with_reducible rfl
   try simp only [Act.put,zqf,zqg,zqh]
   refine wpAnyH_take (i:=4) (oi:={ dst:=some 65,op:=_,type:=_,pos:=_,after:=_,guard:=none }) (v:=?_) rfl (by kernel_rfl) (by kernel_rfl) (by kernel_rfl) (fun _ _ _ h => h) (Or.inl ⟨by rfl,?_⟩) hH ?_
   rotate_left
   ·intro u9 hSu
    try dsimp only at hSu
    go_simp
    try with_reducible rfl
   try simp only [Act.put,zqf,zqg,zqh]
   refine wpAnyH_take (i:=5) (oi:={ dst:=some 66,op:=_,type:=_,pos:=_,after:=_,guard:=none }) (v:=?_) rfl (by kernel_rfl) (by kernel_rfl) (by kernel_rfl) (fun _ _ _ h => h) (Or.inl ⟨by rfl,?_⟩) hH ?_
   rotate_left
   ·intro u9 hSu
    try dsimp only at hSu
    go_simp
    try with_reducible rfl
   try simp only [Act.put,zqf,zqg,zqh]
   refine wpAnyH_ready (rs:=[6]) (by kernel_rfl) (by simp) ?_
   refine AllReadyH.cons (o:={ dst:=some 67,op:=_,type:=_,pos:=_,after:=_,guard:=none }) rfl (fun K9 hK => ?_) AllReadyH.nil
   go_simp
   go_at_call 18
   refine cM2.mono ?_
   rintro e w8 ⟨rfl,tag8,N8,X8,h8',m8⟩
   have hS8:(fun u:World => u.cell? ⟨wb,0,none⟩=some (.pointer (some ⟨sb,0,none⟩))∧u.cell? ⟨tb,0,none⟩=some (.bool false)∧u.cell? ⟨tb,1,none⟩=some (.slice (some ⟨bc,0,none⟩) 2 2)∧u.cell? ⟨tb,2,none⟩=some (.slice (some ⟨bd,0,none⟩) 2 2)) w8:=⟨m8.cellv p07 (kt4 W7.tb),m8.cellv l70 (kt4 ktb),m8.cellv l71 (kt4 ktb),m8.cellv l72 (kt4 ktb)⟩
   clear hH
   refine hK.out _ _ hS8 (fun hH => ?_)
   clear hK K9
   try simp only [Act.put,zqf,zqg,zqh]
   refine wpAnyH_take (i:=7) (oi:={ dst:=some 68,op:=_,type:=_,pos:=_,after:=_,guard:=none }) (v:=?_) rfl (by kernel_rfl) (by kernel_rfl) (by kernel_rfl) (fun _ _ _ h => h) (Or.inl ⟨by rfl,?_⟩) hH ?_
   rotate_left
   ·intro u9 hSu
    try dsimp only at hSu
    go_simp
    try with_reducible rfl
   try simp only [Act.put,zqf,zqg,zqh]
   refine wpAnyH_take (i:=8) (oi:={ dst:=some 69,op:=_,type:=_,pos:=_,after:=_,guard:=none }) (v:=?_) rfl (by kernel_rfl) (by kernel_rfl) (by kernel_rfl) (fun _ _ _ h => h) (Or.inl ⟨by rfl,?_⟩) hH ?_
   rotate_left
   ·intro u9 hSu
    try dsimp only at hSu
    go_simp
    try with_reducible rfl
   try simp only [Act.put,zqf,zqg,zqh]
   refine wpAnyH_ready (rs:=[9]) (by kernel_rfl) (by simp) ?_
   refine AllReadyH.cons (o:={ dst:=some 70,op:=_,type:=_,pos:=_,after:=_,guard:=none }) rfl (fun K9 hK => ?_) AllReadyH.nil
   go_simp
   go_at_call 157
   refine (sureu64_no 0 8 (by decide) _).mono ?_
   rintro e w9 ⟨rfl,rfl⟩
   obtain ⟨h7,M7,W7⟩:=H7.out
   exact end_thrown (P:=Tryz.prog) (fn:=Tryz.f113) rfl ⟨rfl,tag8,N8,X8,h8'.mono (by omega),HG.out _ _ (((m5.trans M7).trans (Mv.made (Chg.drew [] w7) h7.hi)).trans m8)⟩
end
end
section
set_option maxRecDepth 200000
open Go.RowKit
section
variable {w0 w:World} {tag:Nat→Nat} {sb rb n:Nat} {N C:List UInt8} {X:Nat→Option Nd} {u:Nat} {wb:Nat} {a1:Option Addr} {c1:Nat} {a2:Option Addr} {c2:Nat} {S V:List CS} {rt od:Nat} {th:Bool}
theorem grown_any (hT:Tab w0) (h:HasX w0 w tag sb rb n N C X u) (hw:WayAt w w0.heap.size tag wb sb a1 c1 a2 c2 S V rt od th) (hu:u≤90000000) (i:Nat) (hi:i < S.length) (hSl:S.length≤20) (hVl:V.length≤100) (hrt:rt < 2 ^ 64)
  (hxq:∀ s,S[i]?=some s→¬ s.node.K.length≤8→s.t < n∧s.node.nd.sq) (hyq:∀ j y s,i=j+1→S[i]?=some s→¬ s.node.K.length≤8→S[j]?=some y→y.node.nd.sq∧y.pl+1≤y.node.K.length)
  (r:Out (List UInt8 × (Nat→Option Nd) × List AS × List AS × Nat)) (hr:grownA N C X (S.map CS.abs) (V.map CS.abs) rt i=r) (hne:r ≠ .stuck) :
  Calls Tryz.prog 113 #[.pointer (some ⟨wb,0,none⟩),.int .i64 (i:Int)] w (GrownPost w0 w tag sb rb n C (u+2) wb a1 c1 a2 c2 od th r):=by
 obtain ⟨x,hx⟩:∃ x,S[i]?=some x:=⟨_,List.getElem?_eq_getElem hi⟩
 by_cases h8:x.node.K.length≤8
 ·exact grown_few hT h hw hu i hi hSl hVl hrt (fun s hs => by rw [hx] at hs;cases hs;exact h8) r hr hne
 ·have hq:=hxq x hx h8
  unfold grownA at hr
  rw [List.getElem?_map,hx] at hr
  dsimp only [Option.map_some] at hr
  rw [if_neg (show ¬ x.abs.node.K.length≤8 from h8)] at hr
  obtain ⟨m1,hm1⟩:∃ m1,makeA N C X x.abs.node.hi=m1:=⟨_,rfl⟩
  rw [hm1] at hr
  cases m1 with
  | stuck => exact absurd hr.symm hne
  | full =>
   have hr:Out.full=r:=hr
   subst hr
   exact grown_full1 hT h hw hu i hi hSl hVl x hx hq h8 hm1
  | ok q1 =>
   obtain ⟨N1,X1,t1⟩:=q1
   dsimp only at hr
   by_cases h0:i=0
   ·rw [if_pos h0] at hr
    obtain ⟨m2,hm2⟩:∃ m2,makeA N1 C X1 (topN (x.abs.node.lo.K.getD 0 0) (x.abs.node.hi.K.getD 0 0) x.abs.t t1)=m2:=⟨_,rfl⟩
    rw [hm2] at hr
    cases m2 with
    | stuck => exact absurd hr.symm hne
    | full =>
     have hr:Out.full=r:=hr
     subst hr
     exact grown_full2 hT h hw hu i h0 hi hSl hVl x hx hq h8 N1 X1 t1 hm1 hm2
    | ok q2 =>
     obtain ⟨N2,X2,t2⟩:=q2
     dsimp only at hr
     subst hr
     exact grown_top hT h hw hu i h0 hi hSl hVl x hx hq h8 N1 X1 t1 hm1 N2 X2 t2 hm2
   ·rw [if_neg h0] at hr
    obtain ⟨j,rfl⟩:∃ j,i=j+1:=⟨i - 1,by omega⟩
    rw [Nat.add_sub_cancel] at hr
    obtain ⟨y,hy⟩:∃ y,S[j]?=some y:=⟨_,List.getElem?_eq_getElem (by omega)⟩
    rw [List.getElem?_map,hy] at hr
    dsimp only [Option.map_some] at hr
    subst hr
    exact grown_mid hT h hw hu (j+1) j rfl hi hSl hVl hrt x hx hq h8 N1 X1 t1 hm1 y hy (hyq j y x rfl hx h8 hy)
end
end
end Go.Proofs.YtdgkbicelnnfpaaGreatDoor
