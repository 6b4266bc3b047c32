/- Texts Tqi of the library, joined. -/
import Derived.Test.YtdgkbicelnnfpaaGreatDoorM34
set_option linter.unusedVariables false
set_option linter.unusedSimpArgs false
namespace Go.Proofs.YtdgkbicelnnfpaaGreatDoor
section
set_option maxRecDepth 200000
open Go.RowKit
attribute [local go_sem ↓] Go.wp_at_zero Go.wp_at_succ
section
variable {w0 w:World} {tag:Nat→Nat} {sb rb n:Nat} {N C:List UInt8} {X:Nat→Option Nd} {u:Nat} {wb:Nat} {b o:Nat} {c1:Nat} {a2:Option Addr} {c2:Nat} {S V:List CS} {rt od:Nat} {th:Bool}
theorem there_step {w:World} {b:Nat} {s:CS} (h:StepAt w b 0 s):w.there b 0 8:=fun j hj => by
 have hl:j < s.cells.length:=by unfold CS.cells;simpa using hj
 refine ⟨?_,h.f j hj⟩
 rw [h.c j _ (List.getElem?_eq_getElem hl)]
 rfl
def set8 (w:World) (b:Nat) (s:CS):World:=(((((((w.setCell ⟨b,0,none⟩ (.int .u64 (s.t:Int))).setCell ⟨b,1,none⟩ (.bool s.was.lf)).setCell ⟨b,2,none⟩ (.slice s.was.ka s.was.K.length s.was.kc)).setCell ⟨b,3,none⟩ (.slice s.was.va s.was.V.length s.was.vc)).setCell ⟨b,4,none⟩ (.bool s.node.lf)).setCell ⟨b,5,none⟩ (.slice s.node.ka s.node.K.length s.node.kc)).setCell ⟨b,6,none⟩ (.slice s.node.va s.node.V.length s.node.vc)).setCell ⟨b,7,none⟩ (.int .i64 (s.pl:Int))
theorem set8_chg (w:World) (b:Nat) (s:CS):Chg [b] w (set8 w b s):=by
 have f:∀ {a c:World} (i:Nat) (x:Value),Chg [b] a c→Chg [b] a (c.setCell ⟨b,i,none⟩ x):=fun i x g => g.trans (Chg.setCell _ ⟨b,i,none⟩ x) (fun _ h _ => h) (fun _ h _ => h)
 exact f 7 _ (f 6 _ (f 5 _ (f 4 _ (f 3 _ (f 2 _ (f 1 _ (Chg.setCell w ⟨b,0,none⟩ _)))))))
theorem set_is {w:World} {b i:Nat} {v x:Value} (h:w.cell? ⟨b,i,none⟩=some v):(w.setCell ⟨b,i,none⟩ x).cell? ⟨b,i,none⟩=some x:=World.cell?_setCell_same _ _ _ h
theorem set_not {w:World} {b i j:Nat} {v x:Value} (hij:i ≠ j) (h:w.cell? ⟨b,j,none⟩=some v):(w.setCell ⟨b,i,none⟩ x).cell? ⟨b,j,none⟩=some v:=by rw [World.cell?_setCell_other _ _ _ _ (by simp [hij])];exact h
theorem set8_step {w:World} {b:Nat} (h:w.there b 0 8) (s:CS):StepAt (set8 w b s) b 0 s:=by
 have e:∀ i,i < 8→∃ v,w.cell? ⟨b,i,none⟩=some v:=fun i hi => by
  obtain ⟨v,hv⟩:=Option.isSome_iff_exists.1 (h i hi).1
  rw [Nat.zero_add] at hv
  exact ⟨v,hv⟩
 obtain ⟨v0,e0⟩:=e 0 (by decide)
 obtain ⟨v1,e1⟩:=e 1 (by decide)
 obtain ⟨v2,e2⟩:=e 2 (by decide)
 obtain ⟨v3,e3⟩:=e 3 (by decide)
 obtain ⟨v4,e4⟩:=e 4 (by decide)
 obtain ⟨v5,e5⟩:=e 5 (by decide)
 obtain ⟨v6,e6⟩:=e 6 (by decide)
 obtain ⟨v7,e7⟩:=e 7 (by decide)
 have n:=@set_not
 refine ⟨fun j v hj => ?_,fun j hj => ?_⟩
 ·unfold set8
  rw [Nat.zero_add]
  match j,hj with
  | 0,hj => cases hj;exact n (by decide) (n (by decide) (n (by decide) (n (by decide) (n (by decide) (n (by decide) (n (by decide) (set_is e0)))))))
  | 1,hj => cases hj;exact n (by decide) (n (by decide) (n (by decide) (n (by decide) (n (by decide) (n (by decide) (set_is (n (by decide) e1)))))))
  | 2,hj => cases hj;exact n (by decide) (n (by decide) (n (by decide) (n (by decide) (n (by decide) (set_is (n (by decide) (n (by decide) e2)))))))
  | 3,hj => cases hj;exact n (by decide) (n (by decide) (n (by decide) (n (by decide) (set_is (n (by decide) (n (by decide) (n (by decide) e3)))))))
  | 4,hj => cases hj;exact n (by decide) (n (by decide) (n (by decide) (set_is (n (by decide) (n (by decide) (n (by decide) (n (by decide) e4)))))))
  | 5,hj => cases hj;exact n (by decide) (n (by decide) (set_is (n (by decide) (n (by decide) (n (by decide) (n (by decide) (n (by decide) e5)))))))
  | 6,hj => cases hj;exact n (by decide) (set_is (n (by decide) (n (by decide) (n (by decide) (n (by decide) (n (by decide) (n (by decide) e6)))))))
  | 7,hj => cases hj;exact set_is (n (by decide) (n (by decide) (n (by decide) (n (by decide) (n (by decide) (n (by decide) (n (by decide) e7)))))))
 ·have hf:=(h j hj).2
  rw [Nat.zero_add] at hf ⊢
  unfold set8
  simp only [World.frozen?_setCell]
  exact hf
set_option maxHeartbeats 40000000 in
theorem shrunk_more (hT:Tab w0) (h:HasX w0 w tag sb rb n N C X u) (hw:WayAt w w0.heap.size tag wb sb (some ⟨b,o,none⟩) c1 a2 c2 S V rt od th) (hu:u≤90000000) (hVl:V.length≤100) (hSl:S.length≤20) (hrt:rt < 2 ^ 64) (i j:Nat) (hij:i=j+1) (x a:CS) (hx:S[i]?=some x) (hj:S[j]?=some a) (hxq:x.t < n∧x.node.nd.sq) (haq:a.node.nd.sq∧a.pl < a.node.K.length) (h0:0 < x.node.K.length) (hmore:¬ 4≤x.node.K.length) (z:Nat) (hz:neighI a.pl a.node.K.length=(z:Int)) (v k:Nat) (hv:(a.node.nd.put a.pl (x.node.K.getD 0 0) x.t).V[z]?=some v) (hk:(a.node.nd.put a.pl (x.node.K.getD 0 0) x.t).K[z]?=some k) (N1:List UInt8) (X1:Nat→Option Nd) (t:Nat) (m:Nd) (hsh:shadowA N C X v=.ok (N1,X1,t,m))
  (N2:List UInt8) (V2:List AS) (a3:AS) (hme:(if z < a.pl then meetA N1 (V.map CS.abs) ⟨a.t,a.was.nd,(a.node.nd.put a.pl (x.node.K.getD 0 0) x.t).put z k t,a.pl⟩ ⟨t,m,m,0⟩ x.abs a.pl else meetA N1 (V.map CS.abs) ⟨a.t,a.was.nd,(a.node.nd.put a.pl (x.node.K.getD 0 0) x.t).put z k t,a.pl⟩ x.abs ⟨t,m,m,0⟩ z)=some (N2,V2,a3)) :
  Calls Tryz.prog 115 #[.pointer (some ⟨wb,0,none⟩),.int .i64 (i:Int)] w (GrownPost w0 w tag sb rb n C (u+4) wb (some ⟨b,o,none⟩) c1 a2 c2 od th (.ok (N2,X1,(S.map CS.abs).set j a3,V2,rt))):=by
 have HME:=mkHid hme
 have HSV:=mkHid (shadow_good hsh)
 have HF2:Hid (∀ k9,k9∈fp a2 c2→k9 < w.heap.size):=mkHid fun k9 hk9 => (hw.r2.rm.lt k9 hk9).2
 clear hme
 have hi:=(List.getElem?_eq_some_iff.1 hx).1
 obtain ⟨b',o',e',hst,hbf⟩:=hw.r1.step hx
 cases e'
 have hle:=hw.r1.le
 obtain ⟨b',o',e',sA,hbf⟩:=hw.r1.step hj
 cases e'
 have tb:=hw.r1.tg b hbf
 have hnd:=hw.r1.nd x (List.mem_of_getElem? hx)
 have hna:=hw.r1.nd a (List.mem_of_getElem? hj)
 have p1:=hw.p1
 have p0:=hw.p0
 obtain ⟨⟨e0,e1,e2,e3,e4,e5,e6,e7⟩,-⟩:=hst.all
 have hxn:x.t < 2 ^ 64:=by have:=h.lens;omega
 have gK:=Chg.alloc [] w (.cells x.cells.toArray 139)
 have sX:=new_step w x 139
 have h1:=h.keep gK
 have W1:=hw.keep gK
 have M1:=Mv.made gK h.hi
 have sA1:=sA.chg gK (by simp)
 have na1:=hna.2.keep gK
 have nx1:=hnd.1.keep gK
 have nx2:=hnd.2.keep gK
 have tX:=h.hi w.heap.size (Nat.le_refl _)
 obtain ⟨kb,ko,hka,hc⟩:=nx2.rd.rk (by simpa [uvs_len] using h0)
 obtain ⟨x0,hx0⟩:∃ v,x.node.K[0]?=some v:=⟨_,List.getElem?_eq_getElem h0⟩
 have cx:=hc 0 _ (uvs_get hx0)
 rw [Nat.add_zero] at cx
 have bx0:x0 < 2 ^ 64:=nx2.bK _ (List.mem_of_getElem? hx0)
 have hi2:(0:Int) < (x.node.K.length:Int):=by omega
 have dg1:decide ((x.node.K.length:Int) > 0)=true:=decide_eq_true (by omega)
 have dg2:decide (0 < x.node.K.length)=true:=decide_eq_true h0
 have d0:((i:Int) == 0)=false:=by simp;omega
 have hwr:IntKind.i64.wrap ((i:Int) - 1)=(j:Int):=by rw [Go.IntWalk.i64_in _ (by omega)];omega
 have hjS:(j:Int) < (S.length:Int):=by omega
 have cS:=set_anyT (h1.keep (Chg.drew [] _)) b (o+j * 8) a (sA1.chg (Chg.drew [] _) (by simp)) tb (na1.keep (Chg.drew [] _)) haq.1 a.pl x0 x.t haq.2 bx0 hxn
 have hpl:a.pl≤100:=by have h8:a.node.K.length≤100:=haq.1.2;have:=haq.2;omega
 obtain ⟨⟨f0,f1,f2,f3,f4,f5,f6,f7⟩,-⟩:=sX.all
 simp only [Nat.zero_add] at f1 f2 f3 f4 f5 f6 f7
 obtain ⟨⟨k0,k1,k2,k3,k4,k5,k6,k7⟩,-⟩:=sA1.all
 have HD:=mkHid (And.intro hij (And.intro hx (And.intro hj (And.intro hxq (And.intro haq (And.intro hx0 (And.intro h hw)))))))
 have HLT:Hid ((∀ k,k∈fp (some ⟨b,o,none⟩) c1→k < w.heap.size)∧wb < w.heap.size):=mkHid ⟨fun k hk => (hw.r1.rm.lt k hk).2,hw.lt⟩
 unfold CS.cells at gK sX h1 W1 M1 sA1 na1 nx1 nx2 cx cS f0 f1 f2 f3 f4 f5 f6 f7 k0 k1 k2 k3 k4 k5 k6 k7
 rw [hka] at f5 cS h1 W1 M1 sA1 na1 nx1 nx2 cx gK sX f0 f1 f2 f3 f4 f6 f7 k0 k1 k2 k3 k4 k5 k6 k7 e5
 have p11:=W1.p1
 have p01:=W1.p0
 clear hx hj hxq haq hx0 hst sA hna hnd hc hij h hw
 go_enter Tryz.func115,Tryz.ntmps115
 go_wp2_with fail
 generalize (w.alloc (.cells [.int .u64 (x.t:Int),.bool x.was.lf,.slice x.was.ka x.was.K.length x.was.kc,.slice x.was.va x.was.V.length x.was.vc,.bool x.node.lf,.slice (some ⟨kb,ko,none⟩) x.node.K.length x.node.kc,.slice x.node.va x.node.V.length x.node.vc,.int .i64 (x.pl:Int)].toArray 139))=w1 at *
 generalize hbx:w.heap.size=bx at *
 have HBX:=mkHid hbx
 clear hbx
 go_still_tail 12,(by kernel_rfl)
 have hdr:({ heap:=w1.heap,tape:=w1.tape,drawn:=w1.drawn+1,os:=w1.os,output:=w1.output }:World)=w1.drew:=rfl
 rw [hdr]
 clear hdr
 go_wp2_with fail
 refine cS.mono ?_
 rintro e w9 ⟨rfl,r,tag2,w2,hrn,h2,m2,n2,rfl⟩
 obtain ⟨hij,hx,hj,hxq,haq,hx0,h,hw⟩:=HD.out
 have W2:=(W1.keep (Chg.drew [] w1)).mv m2
 have M2:=(M1.then (Chg.drew [] w1)).trans m2
 obtain ⟨W3,g3⟩:=W2.wr hj n2
 have hS3:∀ k,k∈fp (some ⟨b,o,none⟩) c1→tag2 k=4:=W2.r1.tg
 have nbx:bx ∉ fp (some ⟨b,o,none⟩) c1:=fun hm => by have h8:=HLT.out.1 _ hm;have h9:=HBX.out;omega
 have h3:=h2.wrote g3 hS3
 have M3:Mvb (wb :: (fp (some ⟨b,o,none⟩) c1++fp a2 c2)) tag tag2 w (wr3 w2 b (o+j * 8) r):=(M2.b _).wrote g3 (fun k hk _ => List.mem_cons_of_mem _ (List.mem_append_left _ hk))
 have sX3:=(((sX.chg (Chg.drew [] w1) (by simp)).mv m2 tX)).chg g3 nbx
 have tX3:=m2.four tX sX.lt
 have nx13:=((nx1.keep (Chg.drew [] w1)).mv m2).wrote g3 hS3
 have nx23:=((nx2.keep (Chg.drew [] w1)).mv m2).wrote g3 hS3
 have hjl:j < S.length:=(List.getElem?_eq_some_iff.1 hj).1
 obtain ⟨b',o',e',sA3,-⟩:=W3.r1.step (List.getElem?_set_self hjl)
 cases e'
 try dsimp only at sA3
 try dsimp only at W3
 have hrK:r.K.length=a.node.K.length:=by
  have e1:r.K=a.node.K.set a.pl x0:=congrArg Nd.K hrn
  rw [e1,List.length_set]
 obtain ⟨w3,hw3⟩:∃ w3,w3=wr3 w2 b (o+j * 8) r:=⟨_,rfl⟩
 rw [← hw3] at W3 h3 M3 sX3 nx13 nx23 sA3 ⊢
 obtain ⟨⟨f0,f1,f2,f3,f4,f5,f6,f7⟩,-⟩:=sX3.all
 simp only [Nat.zero_add] at f0 f1 f2 f3 f4 f5 f6 f7
 obtain ⟨⟨k0,k1,k2,k3,k4,k5,k6,k7⟩,-⟩:=sA3.all
 try dsimp only at k0 k1 k2 k3 k4 k5 k6 k7
 have cN:=neigh_any ⟨a.t,a.was,r,a.pl⟩ (by dsimp only;omega) w3
 try dsimp only at cN
 unfold CS.val stepV at cN
 try dsimp only at cN
 clear hw3 cS h1 W1 M1 h2 W2 M2 g3 m2 n2 hx hj hxq haq hx0 h hw hij sA1 na1 nx1 nx2 cx p11 p01 sX hrK
 go_wp2_with fail
 refine cN.mono ?_
 rintro e w5 ⟨rfl,g5⟩
 have h5:=h3.keep g5
 have W5:=W3.keep g5
 have M5:=M3.wrote g5 (by simp)
 have sX5:=sX3.chg g5 (by simp)
 have sA5:=sA3.chg g5 (by simp)
 have nx15:=nx13.keep g5
 have nx25:=nx23.keep g5
 obtain ⟨⟨f0,f1,f2,f3,f4,f5,f6,f7⟩,-⟩:=sX5.all
 simp only [Nat.zero_add] at f0 f1 f2 f3 f4 f5 f6 f7
 clear cN h3 W3 M3 sX3 sA3 nx13 nx23 g5 k0 k1 k2 k3 k4 k5 k6 k7
 have hzr:neighI a.pl r.K.length=(z:Int):=by
  have e1:r.K=a.node.K.set a.pl x0:=congrArg Nd.K hrn
  rw [e1,List.length_set]
  exact hz
 rw [hzr]
 have e1:x.node.K.getD 0 0=x0:=by rw [List.getD_eq_getElem?_getD,HD.out.2.2.2.2.2.1];rfl
 rw [e1] at hv hk
 have hv:r.V[z]?=some v:=by rw [show r.V=(a.node.nd.put a.pl x0 x.t).V from congrArg Nd.V hrn];exact hv
 have hk:r.K[z]?=some k:=by rw [show r.K=(a.node.nd.put a.pl x0 x.t).K from congrArg Nd.K hrn];exact hk
 have nr5:NdAt w5 tag2 r:=(W5.r1.nd _ (List.mem_of_getElem? (List.getElem?_set_self hjl))).2
 have hzV:z < r.V.length:=(List.getElem?_eq_some_iff.1 hv).1
 have hzK:z < r.K.length:=(List.getElem?_eq_some_iff.1 hk).1
 obtain ⟨vb,vo,hva,hvc⟩:=nr5.rd.rv (by simp only [uvs_len];omega)
 obtain ⟨lb,lo,hla,hkc⟩:=nr5.rd.rk (by simp only [uvs_len];omega)
 have cv:=hvc z _ (uvs_get hv)
 have ck:=hkc z _ (uvs_get hk)
 have hvB:v < 2 ^ 64:=nr5.bV v (List.mem_of_getElem? hv)
 have hkB:k < 2 ^ 64:=nr5.bK k (List.mem_of_getElem? hk)
 have t5v:tag2 vb=5:=nr5.kv (by omega) vb (by rw [hva];simp [blk])
 have t5k:tag2 lb=5:=nr5.kk (by omega) lb (by rw [hla];simp [blk])
 have hzi:(z:Int) < (r.V.length:Int):=by omega
 have hzj:(z:Int) < (r.K.length:Int):=by omega
 have q1:decide ((x.node.K.length:Int) ≥ 4)=false:=decide_eq_false (by omega)
 have q2:decide (4≤(x.node.K.length:Int))=false:=decide_eq_false (by omega)
 have q3:decide (4≤x.node.K.length)=false:=decide_eq_false (by omega)
 have q4:decide ((z:Int) < 0)=false:=decide_eq_false (by omega)
 obtain ⟨⟨k0,k1,k2,k3,k4,k5,k6,k7⟩,-⟩:=sA5.all
 try dsimp only at k0 k1 k2 k3 k4 k5 k6 k7
 rw [hva] at k6
 rw [hla] at k5
 rw [hka] at f5
 have p5:=W5.p0
 have HRN:=mkHid (And.intro hrn (And.intro hv (And.intro hk (And.intro hz (And.intro hva hla)))))
 have HF:=mkHid (And.intro h5 (And.intro M5 W5))
 clear hrn hv hk hz hva hla hzr hvc hkc e1
 go_wp2_with fail
 have tb2:tag2 b=4:=W5.r1.tg b hbf
 have cSA:=shadow_any hT (h5.keep (Chg.drew [] w5)) v (by omega) _ hsh (by simp)
 have hS5:(fun u9:World => u9.cell? ⟨wb,0,none⟩=some (.pointer (some ⟨sb,0,none⟩))∧u9.cell? ⟨b,o+j * 8+6,none⟩=some (.slice (some ⟨vb,vo,none⟩) r.V.length r.vc)∧u9.cell? ⟨vb,vo+z,none⟩=some (.int .u64 (v:Int))) w5:=⟨p5,k6,cv⟩
 refine wp_region_held_drew (S:=(fun u9:World => u9.cell? ⟨wb,0,none⟩=some (.pointer (some ⟨sb,0,none⟩))∧u9.cell? ⟨b,o+j * 8+6,none⟩=some (.slice (some ⟨vb,vo,none⟩) r.V.length r.vc)∧u9.cell? ⟨vb,vo+z,none⟩=some (.int .u64 (v:Int)))) (by kernel_rfl) ?_ (fun hH => ?_)
 ·exact ⟨p5,k6,cv⟩
 refine wpAnyH_take (i:=0) (oi:={ dst:=some 61,op:=_,type:=_,pos:=_,after:=_,guard:=none }) (v:=?_) rfl (by kernel_rfl) (by kernel_rfl) (by kernel_rfl) (fun _ _ _ h => h) (Or.inl ⟨by rfl,?_⟩) hH ?_
 rotate_left
 ·intro u9 hSu
  try dsimp only at hSu
  obtain ⟨s1,s2,s3⟩:=hSu
  go_simp
  try with_reducible rfl
 try simp only [Act.put,zqf,zqg,zqh]
 refine wpAnyH_take (i:=1) (oi:={ dst:=some 62,op:=_,type:=_,pos:=_,after:=_,guard:=none }) (v:=?_) rfl (by kernel_rfl) (by kernel_rfl) (by kernel_rfl) (fun _ _ _ h => h) (Or.inl ⟨by rfl,?_⟩) hH ?_
 rotate_left
 ·intro u9 hSu
  try dsimp only at hSu
  obtain ⟨s1,s2,s3⟩:=hSu
  go_simp
  try with_reducible rfl
 try simp only [Act.put,zqf,zqg,zqh]
 refine wpAnyH_take (i:=2) (oi:={ dst:=some 63,op:=_,type:=_,pos:=_,after:=_,guard:=none }) (v:=?_) rfl (by kernel_rfl) (by kernel_rfl) (by kernel_rfl) (fun _ _ _ h => h) (Or.inl ⟨by rfl,?_⟩) hH ?_
 rotate_left
 ·intro u9 hSu
  try dsimp only at hSu
  obtain ⟨s1,s2,s3⟩:=hSu
  go_simp
  try with_reducible rfl
 try simp only [Act.put,zqf,zqg,zqh]
 refine wpAnyH_take (i:=3) (oi:={ dst:=some 64,op:=_,type:=_,pos:=_,after:=_,guard:=none }) (v:=?_) rfl (by kernel_rfl) (by kernel_rfl) (by kernel_rfl) (fun _ _ _ h => h) (Or.inl ⟨by rfl,?_⟩) hH ?_
 rotate_left
 ·intro u9 hSu
  try dsimp only at hSu
  obtain ⟨s1,s2,s3⟩:=hSu
  go_simp
  try with_reducible rfl
 try simp only [Act.put,zqf,zqg,zqh]
 refine wpAnyH_take (i:=4) (oi:={ dst:=some 65,op:=_,type:=_,pos:=_,after:=_,guard:=none }) (v:=?_) rfl (by kernel_rfl) (by kernel_rfl) (by kernel_rfl) (fun _ _ _ h => h) (Or.inl ⟨by rfl,?_⟩) hH ?_
 rotate_left
 ·intro u9 hSu
  try dsimp only at hSu
  obtain ⟨s1,s2,s3⟩:=hSu
  go_simp
  try with_reducible rfl
 try simp only [Act.put,zqf,zqg,zqh]
 refine wpAnyH_take (i:=5) (oi:={ dst:=some 66,op:=_,type:=_,pos:=_,after:=_,guard:=none }) (v:=?_) rfl (by kernel_rfl) (by kernel_rfl) (by kernel_rfl) (fun _ _ _ h => h) (Or.inl ⟨by rfl,?_⟩) hH ?_
 rotate_left
 ·intro u9 hSu
  try dsimp only at hSu
  obtain ⟨s1,s2,s3⟩:=hSu
  go_simp
  try with_reducible rfl
 try simp only [Act.put,zqf,zqg,zqh]
 refine wpAnyH_take (i:=6) (oi:={ dst:=some 67,op:=_,type:=_,pos:=_,after:=_,guard:=none }) (v:=?_) rfl (by kernel_rfl) (by kernel_rfl) (by kernel_rfl) (fun _ _ _ h => h) (Or.inl ⟨by rfl,?_⟩) hH ?_
 rotate_left
 ·intro u9 hSu
  try dsimp only at hSu
  obtain ⟨s1,s2,s3⟩:=hSu
  go_simp
  try with_reducible rfl
 try simp only [Act.put,zqf,zqg,zqh]
 refine wpAnyH_take (i:=7) (oi:={ dst:=some 68,op:=_,type:=_,pos:=_,after:=_,guard:=none }) (v:=?_) rfl (by kernel_rfl) (by kernel_rfl) (by kernel_rfl) (fun _ _ _ h => h) (Or.inl ⟨by rfl,?_⟩) hH ?_
 rotate_left
 ·intro u9 hSu
  try dsimp only at hSu
  obtain ⟨s1,s2,s3⟩:=hSu
  go_simp
  try with_reducible rfl
 try simp only [Act.put,zqf,zqg,zqh]
 refine wpAnyH_take (i:=8) (oi:={ dst:=some 69,op:=_,type:=_,pos:=_,after:=_,guard:=none }) (v:=?_) rfl (by kernel_rfl) (by kernel_rfl) (by kernel_rfl) (fun _ _ _ h => h) (Or.inl ⟨by rfl,?_⟩) hH ?_
 rotate_left
 ·intro u9 hSu
  try dsimp only at hSu
  obtain ⟨s1,s2,s3⟩:=hSu
  go_simp
  try with_reducible rfl
 try simp only [Act.put,zqf,zqg,zqh]
 refine wpAnyH_take (i:=9) (oi:={ dst:=some 70,op:=_,type:=_,pos:=_,after:=_,guard:=none }) (v:=?_) rfl (by kernel_rfl) (by kernel_rfl) (by kernel_rfl) (fun _ _ _ h => h) (Or.inl ⟨by rfl,?_⟩) hH ?_
 rotate_left
 ·intro u9 hSu
  try dsimp only at hSu
  obtain ⟨s1,s2,s3⟩:=hSu
  go_simp
  try with_reducible rfl
 try simp only [Act.put,zqf,zqg,zqh]
 refine wpAnyH_take (i:=10) (oi:={ dst:=some 71,op:=_,type:=_,pos:=_,after:=_,guard:=none }) (v:=?_) rfl (by kernel_rfl) (by kernel_rfl) (by kernel_rfl) (fun _ _ _ h => h) (Or.inl ⟨by rfl,?_⟩) hH ?_
 rotate_left
 ·intro u9 hSu
  try dsimp only at hSu
  obtain ⟨s1,s2,s3⟩:=hSu
  go_simp
  try with_reducible rfl
 try simp only [Act.put,zqf,zqg,zqh]
 refine wpAnyH_take (i:=11) (oi:={ dst:=some 72,op:=_,type:=_,pos:=_,after:=_,guard:=none }) (v:=?_) rfl (by kernel_rfl) (by kernel_rfl) (by kernel_rfl) (fun _ _ _ h => h) (Or.inl ⟨by rfl,?_⟩) hH ?_
 rotate_left
 ·intro u9 hSu
  try dsimp only at hSu
  obtain ⟨s1,s2,s3⟩:=hSu
  go_simp
  try with_reducible rfl
 try simp only [Act.put,zqf,zqg,zqh]
 refine wpAnyH_ready (rs:=[12,13]) (by kernel_rfl) (by simp) ?_
 refine AllReadyH.cons (o:={ dst:=some 73,op:=_,type:=_,pos:=_,after:=_,guard:=none }) rfl (fun K9 hK => ?_) (AllReadyH.cons (o:={ dst:=some 7,op:=_,type:=_,pos:=_,after:=_,guard:=none }) rfl (fun K9 hK => ?_) AllReadyH.nil)
 ·go_simp
  go_at_call 72
  refine cSA.mono ?_
  rintro e w6 ⟨q,rfl,hqm,ht6,tag6,h6,m6,y6⟩
  have hS6:(fun u9:World => u9.cell? ⟨wb,0,none⟩=some (.pointer (some ⟨sb,0,none⟩))∧u9.cell? ⟨b,o+j * 8+6,none⟩=some (.slice (some ⟨vb,vo,none⟩) r.V.length r.vc)∧u9.cell? ⟨vb,vo+z,none⟩=some (.int .u64 (v:Int))) w6:=⟨m6.cellv p5 (kt4 W5.tb),m6.cellv k6 (kt4 tb2),m6.cellv cv (kt5 t5v)⟩
  clear hH
  refine hK.out _ _ hS6 (fun hH => ?_)
  clear hK K9
  try simp only [Act.put,zqf,zqg,zqh]
  refine wpAnyH_ready (rs:=[13]) (by kernel_rfl) (by simp) ?_
  refine AllReadyH.cons (o:={ dst:=some 7,op:=_,type:=_,pos:=_,after:=_,guard:=none }) rfl (fun K9 hK => ?_) AllReadyH.nil
  go_simp
  have gZ:=Chg.alloc [] w6 (.cells #[.int .u64 0,.bool false,.slice none 0 0,.slice none 0 0,.bool false,.slice none 0 0,.slice none 0 0,.int .i64 0] 139)
  have gY:=Chg.alloc [] w6 (.cells [.int .u64 (t:Int),.bool q.lf,.slice q.ka q.K.length q.kc,.slice q.va q.V.length q.vc,.bool q.lf,.slice q.ka q.K.length q.kc,.slice q.va q.V.length q.vc,.int .i64 (0:Nat)].toArray 139)
  clear hH
  refine hK.out _ _ ⟨gZ.cellv hS6.1 (by simp),gZ.cellv hS6.2.1 (by simp),gZ.cellv hS6.2.2 (by simp)⟩ (fun hH => ?_)
  clear hK K9
  try simp only [Act.put,zqf,zqg,zqh]
  refine wpAnyH_ready (rs:=[14]) (by kernel_rfl) (by simp) ?_
  refine AllReadyH.cons (o:={ dst:=none,op:=_,type:=_,pos:=_,after:=_,guard:=none }) rfl (fun K9 hK => ?_) AllReadyH.nil
  unfold stepV
  go_simp
  clear hH
  refine hK.out _ _ ⟨gY.cellv hS6.1 (by simp),gY.cellv hS6.2.1 (by simp),gY.cellv hS6.2.2 (by simp)⟩ (fun hH => ?_)
  clear hK K9
  try simp only [Act.put,zqf,zqg,zqh]
  refine wpAnyH_done (by kernel_rfl) ?_ _
  have h8:=h6.keep gY
  have W8:=((W5.keep (Chg.drew [] w5)).mv m6).keep gY
  have M8:Mvb (wb :: (fp (some ⟨b,o,none⟩) c1++fp a2 c2)) tag tag6 w (w6.alloc (.cells [.int .u64 (t:Int),.bool q.lf,.slice q.ka q.K.length q.kc,.slice q.va q.V.length q.vc,.bool q.lf,.slice q.ka q.K.length q.kc,.slice q.va q.V.length q.vc,.int .i64 (0:Nat)].toArray 139)):=((M5.wrote (Chg.drew [] w5) (by simp)).trans (m6.b []) (fun _ h _ => h) (by simp)).wrote gY (by simp)
  have sX8:=((sX5.chg (Chg.drew [] w5) (by simp)).mv m6 tX3).chg gY (by simp)
  have tX8:=m6.four tX3 sX5.lt
  have nx18:=((nx15.keep (Chg.drew [] w5)).mv m6).keep gY
  have nx28:=((nx25.keep (Chg.drew [] w5)).mv m6).keep gY
  have sY8:StepAt (w6.alloc (.cells [.int .u64 (t:Int),.bool q.lf,.slice q.ka q.K.length q.kc,.slice q.va q.V.length q.vc,.bool q.lf,.slice q.ka q.K.length q.kc,.slice q.va q.V.length q.vc,.int .i64 (0:Nat)].toArray 139)) w6.heap.size 0 ⟨t,q,q,0⟩:=new_step w6 ⟨t,q,q,0⟩ 139
  have tY8:tag6 w6.heap.size=4:=h6.hi _ (Nat.le_refl _)
  have nq8:=y6.keep gY
  have ck8:=gY.cellv (m6.cellv ((Chg.drew [] w5).cellv ck (by simp)) (kt5 t5k)) (by simp)
  have hyx:bx < w6.heap.size:=by have h8:bx < w5.drew.heap.size:=sX5.lt;have:=m6.size;omega
  have hyw:w.heap.size≤w6.heap.size:=by have h8:=HBX.out;omega
  have nyf:w6.heap.size ∉ fp (some ⟨b,o,none⟩) c1:=fun hm => by have h8:=HLT.out.1 _ hm;omega
  clear hS6 gZ gY h6 m6 y6 cSA h5 W5 M5 sX5 sA5 nx15 nx25 hS5 ck f0 f1 f2 f3 f4 f5 f6 f7 k0 k1 k2 k3 k4 k5 k6 k7 p5 hH
  generalize (w6.alloc (.cells [.int .u64 (t:Int),.bool q.lf,.slice q.ka q.K.length q.kc,.slice q.va q.V.length q.vc,.bool q.lf,.slice q.ka q.K.length q.kc,.slice q.va q.V.length q.vc,.int .i64 (0:Nat)].toArray 139))=w8 at *
  generalize w6.heap.size=yb at *
  have hsr:r.nd.sq:=by
   have h9:=HRN.out.1
   rw [h9]
   have h8:=HD.out.2.2.2.2.1.1
   exact ⟨by show (a.node.K.set a.pl x0).length=(a.node.V.set a.pl x.t).length;rw [List.length_set,List.length_set];exact h8.1,by show (a.node.K.set a.pl x0).length≤100;rw [List.length_set];exact h8.2⟩
  have htn:t < 2 ^ 64:=by have:=h8.lens;omega
  obtain ⟨b',o',e',sA8,-⟩:=W8.r1.step (List.getElem?_set_self hjl)
  cases e'
  have nr8:NdAt w8 tag6 r:=(W8.r1.nd _ (List.mem_of_getElem? (List.getElem?_set_self hjl))).2
  have tb8:=W8.r1.tg b hbf
  have cS2:=set_anyT (h8.keep (Chg.drew [] w8)) b (o+j * 8) ⟨a.t,a.was,r,a.pl⟩ (sA8.chg (Chg.drew [] w8) (by simp)) tb8 (nr8.keep (Chg.drew [] w8)) hsr z k t hzK hkB htn
  obtain ⟨⟨f0,f1,f2,f3,f4,f5,f6,f7⟩,-⟩:=sX8.all
  simp only [Nat.zero_add] at f0 f1 f2 f3 f4 f5 f6 f7
  obtain ⟨⟨y0,y1,y2,y3,y4,y5,y6,y7⟩,-⟩:=sY8.all
  simp only [Nat.zero_add] at y0 y1 y2 y3 y4 y5 y6 y7
  obtain ⟨⟨k0,k1,k2,k3,k4,k5,k6,k7⟩,-⟩:=sA8.all
  try dsimp only at k0 k1 k2 k3 k4 k5 k6 k7 y0 y1 y2 y3 y4 y5 y6 y7
  rw [HRN.out.2.2.2.2.2] at k5
  go_wp2_with fail
  go_still_tail 12,(by kernel_rfl)
  have hdr:({ heap:=w8.heap,tape:=w8.tape,drawn:=w8.drawn+1,os:=w8.os,output:=w8.output }:World)=w8.drew:=rfl
  rw [hdr]
  clear hdr
  go_wp2_with fail
  refine cS2.mono ?_
  rintro e w9' ⟨rfl,r2,tag9,w9,hr2,h9,m9,n9,rfl⟩
  have W9:=(W8.keep (Chg.drew [] w8)).mv m9
  have M9:=(M8.wrote (Chg.drew [] w8) (by simp)).trans (m9.b []) (fun _ h _ => h) (by simp)
  obtain ⟨WA,gA⟩:=W9.wr (List.getElem?_set_self hjl) n9
  rw [List.set_set] at WA
  have hSA:∀ k9,k9∈fp (some ⟨b,o,none⟩) c1→tag9 k9=4:=W9.r1.tg
  have nbf:bx ∉ fp (some ⟨b,o,none⟩) c1:=fun hm => by have h8:=HLT.out.1 _ hm;have h9:=HBX.out;omega
  have hA:=h9.wrote gA hSA
  have MA:Mvb (wb :: (fp (some ⟨b,o,none⟩) c1++fp a2 c2)) tag tag9 w (wr3 w9 b (o+j * 8) r2):=M9.wrote gA (fun k9 hk9 _ => List.mem_cons_of_mem _ (List.mem_append_left _ hk9))
  have sXA:=((sX8.chg (Chg.drew [] w8) (by simp)).mv m9 tX8).chg gA nbf
  have sYA:=((sY8.chg (Chg.drew [] w8) (by simp)).mv m9 tY8).chg gA nyf
  have tXA:=m9.four tX8 sX8.lt
  have tYA:=m9.four tY8 sY8.lt
  have nx1A:=((nx18.keep (Chg.drew [] w8)).mv m9).wrote gA hSA
  have nx2A:=((nx28.keep (Chg.drew [] w8)).mv m9).wrote gA hSA
  have nqA:=((nq8.keep (Chg.drew [] w8)).mv m9).wrote gA hSA
  obtain ⟨wA,hwA⟩:∃ wA,wA=wr3 w9 b (o+j * 8) r2:=⟨_,rfl⟩
  rw [← hwA] at WA hA MA sXA sYA nx1A nx2A nqA ⊢
  clear hwA gA M9 W9 n9 m9 h9 cS2 sX8 sY8 sA8 nx18 nx28 nq8 nr8 W8 h8 M8 ck8 f0 f1 f2 f3 f4 f5 f6 f7 y0 y1 y2 y3 y4 y5 y6 y7 k0 k1 k2 k3 k4 k5 k6 k7
  obtain ⟨b',o',e',sAA,-⟩:=WA.r1.step (List.getElem?_set_self hjl)
  cases e'
  have HN:=mkHid (And.intro hr2 (And.intro hqm (And.intro ht6 htn)))
  clear hr2 hqm ht6 htn
  obtain ⟨⟨f0,f1,f2,f3,f4,f5,f6,f7⟩,-⟩:=sXA.all
  simp only [Nat.zero_add] at f0 f1 f2 f3 f4 f5 f6 f7
  obtain ⟨⟨y0,y1,y2,y3,y4,y5,y6,y7⟩,-⟩:=sYA.all
  simp only [Nat.zero_add] at y0 y1 y2 y3 y4 y5 y6 y7
  obtain ⟨⟨k0,k1,k2,k3,k4,k5,k6,k7⟩,-⟩:=sAA.all
  try dsimp only at k0 k1 k2 k3 k4 k5 k6 k7 y0 y1 y2 y3 y4 y5 y6 y7
  have hqs:q.nd.sq:=by
   have h7:=(HD.out.2.2.2.2.2.2.1).lt (X:=X) (HSV.out)
   rw [HN.out.2.1]
   exact good_sq h7.2
  have hr2s:r2.nd.sq∧r2.K.length=r.K.length:=by
   have e2:r2.K=r.K.set z k:=congrArg Nd.K HN.out.1
   have e3:r2.V=r.V.set z t:=congrArg Nd.V HN.out.1
   exact ⟨⟨by show r2.K.length=r2.V.length;rw [e2,e3,List.length_set,List.length_set];exact hsr.1,by show r2.K.length≤100;rw [e2,List.length_set];exact hsr.2⟩,by rw [e2,List.length_set]⟩
  have hab:(⟨a.t,a.was,r2,a.pl⟩:CS).abs=⟨a.t,a.was.nd,(a.node.nd.put a.pl (x.node.K.getD 0 0) x.t).put z k t,a.pl⟩:=by
   show (⟨a.t,a.was.nd,r2.nd,a.pl⟩:AS)=_
   rw [HN.out.1,HRN.out.1]
   have e1:x.node.K.getD 0 0=x0:=by rw [List.getD_eq_getElem?_getD,HD.out.2.2.2.2.2.1];rfl
   rw [e1]
  have hyb:(⟨t,q,q,0⟩:CS).abs=⟨t,m,m,0⟩:=by
   show (⟨t,q.nd,q.nd,0⟩:AS)=_
   rw [HN.out.2.1]
  have HFIN:Hid (∀ e w',GrownPost w0 wA tag9 sb rb n C (u+2+2) wb (some ⟨b,o,none⟩) c1 a2 c2 od th (.ok (N2,X1,((S.set j ⟨a.t,a.was,r2,a.pl⟩).map CS.abs).set j a3,V2,rt)) e w'→GrownPost w0 w tag sb rb n C (u+4) wb (some ⟨b,o,none⟩) c1 a2 c2 od th (.ok (N2,X1,(S.map CS.abs).set j a3,V2,rt)) e w'):=mkHid fun e w' hp => by
   obtain ⟨he,tgz,az,cz,Sz,Vz,z1,z2,z3,z4,z5,z6,z7⟩:=hp
   refine ⟨he,tgz,az,cz,Sz,Vz,z1,MA.trans z2 (fun _ h _ => h) (fun _ h _ => h),z3,?_,z5,fun k9 hk9 => (z6 k9 hk9).imp id (fun h9 => Nat.le_trans MA.size h9),z7⟩
   rw [z4,List.map_set,List.set_set]
  by_cases hlt:z < a.pl
  ·have dlt:decide ((z:Int) < (a.pl:Int))=true:=decide_eq_true (by omega)
   have hme:meetA N1 (V.map CS.abs) (⟨a.t,a.was,r2,a.pl⟩:CS).abs (⟨t,q,q,0⟩:CS).abs x.abs a.pl=some (N2,V2,a3):=by
    have h7:=HME.out
    rw [if_pos hlt] at h7
    rw [hab,hyb]
    exact h7
   go_wp2_with fail
   have nbf1:b ≠ bx:=fun e9 => nbf (e9 ▸ hbf)
   have nbf2:b ≠ yb:=fun e9 => nyf (e9 ▸ hbf)
   have hxy:bx ≠ yb:=by omega
   have hyx':yb ≠ bx:=by omega
   obtain ⟨-,z0,z1,z2,z3,z4,z5,z6,z7⟩:=sXA.all
   obtain ⟨-,l0,l1,l2,l3,l4,l5,l6,l7⟩:=sYA.all
   simp only [Nat.zero_add] at z0 z1 z2 z3 z4 z5 z6 z7 l0 l1 l2 l3 l4 l5 l6 l7
   have gB:Chg [bx] wA (set8 wA bx ⟨t,q,q,0⟩):=set8_chg wA bx ⟨t,q,q,0⟩
   have gC:Chg [yb] (set8 wA bx ⟨t,q,q,0⟩) (set8 (set8 wA bx ⟨t,q,q,0⟩) yb x):=set8_chg _ yb x
   have sXB:StepAt (set8 wA bx ⟨t,q,q,0⟩) bx 0 ⟨t,q,q,0⟩:=set8_step (there_step sXA) ⟨t,q,q,0⟩
   have sXC:=(sXB.chg gC (by simpa using hxy)).chg (Chg.drew [] _) (by simp)
   have sYB:=sYA.chg gB (by simpa using hyx')
   have sYC:StepAt (set8 (set8 wA bx ⟨t,q,q,0⟩) yb x).drew yb 0 x:=(set8_step (there_step (sYA.chg gB (by simpa using hyx'))) x).chg (Chg.drew [] _) (by simp)
   have g2:Chg [bx,yb] wA (set8 (set8 wA bx ⟨t,q,q,0⟩) yb x).drew:=(gB.trans gC (fun k9 hk9 _ => List.mem_cons.2 (Or.inl (by simpa using hk9))) (fun k9 hk9 _ => List.mem_cons.2 (Or.inr hk9))).then (Chg.drew [] _)
   have hS2:∀ k9,k9∈[bx,yb]→tag9 k9=4:=fun k9 hk9 => by
    simp at hk9
    rcases hk9 with rfl | rfl
    ·exact tXA
    ·exact tYA
   have hwb2:wb ∉ [bx,yb]:=by have h7:=HLT.out.2;have h8:=HBX.out;simp;omega
   have hf1:∀ k9,k9∈fp (some ⟨b,o,none⟩) c1→k9 ∉ [bx,yb]:=fun k9 hk9 hm => by
    simp at hm
    rcases hm with rfl | rfl
    ·exact nbf hk9
    ·exact nyf hk9
   have hf2:∀ k9,k9∈fp a2 c2→k9 ∉ [bx,yb]:=fun k9 hk9 hm => by
    have h7:=HF2.out k9 hk9
    have h8:=HBX.out
    simp at hm
    omega
   have hC:=hA.wrote g2 hS2
   have WC:=WA.wrote g2 hS2 hwb2 hf1 hf2
   have MC:=MA.wrote g2 (fun k9 hk9 hlt => by have h8:=HBX.out;simp at hk9;omega)
   have nx1C:=nx1A.wrote g2 hS2
   have nx2C:=nx2A.wrote g2 hS2
   have nqC:=nqA.wrote g2 hS2
   have kd7:=(Chg.drew [] wA).cellv k7 (by simp)
   have kB6:=gB.cellv k7 (by simpa using nbf1)
   have kB7:=(Chg.drew [] _).cellv kB6 (by simp)
   have kC7:=(Chg.drew [] _).cellv (gC.cellv kB6 (by simpa using nbf2)) (by simp)
   have eB:((((((((wA.setCell ⟨bx,0,none⟩ (.int .u64 (t:Int))).setCell ⟨bx,1,none⟩ (.bool q.lf)).setCell ⟨bx,2,none⟩ (.slice q.ka q.K.length q.kc)).setCell ⟨bx,3,none⟩ (.slice q.va q.V.length q.vc)).setCell ⟨bx,4,none⟩ (.bool q.lf)).setCell ⟨bx,5,none⟩ (.slice q.ka q.K.length q.kc)).setCell ⟨bx,6,none⟩ (.slice q.va q.V.length q.vc)).setCell ⟨bx,7,none⟩ (.int .i64 0))=set8 wA bx ⟨t,q,q,0⟩:=rfl
   have eC:(((((((((set8 wA bx ⟨t,q,q,0⟩).setCell ⟨yb,0,none⟩ (.int .u64 (x.t:Int))).setCell ⟨yb,1,none⟩ (.bool x.was.lf)).setCell ⟨yb,2,none⟩ (.slice x.was.ka x.was.K.length x.was.kc)).setCell ⟨yb,3,none⟩ (.slice x.was.va x.was.V.length x.was.vc)).setCell ⟨yb,4,none⟩ (.bool x.node.lf)).setCell ⟨yb,5,none⟩ (.slice (some ⟨kb,ko,none⟩) x.node.K.length x.node.kc)).setCell ⟨yb,6,none⟩ (.slice x.node.va x.node.V.length x.node.vc)).setCell ⟨yb,7,none⟩ (.int .i64 (x.pl:Int)))=set8 (set8 wA bx ⟨t,q,q,0⟩) yb x:=by rw [← hka];rfl
   have HE:=mkHid (And.intro eB eC)
   have HYB:=mkHid sYB
   clear eB eC kB6
   have HC2:=mkHid (And.intro hC (And.intro WC (And.intro MC (And.intro nx1C (And.intro nx2C (And.intro nqC (And.intro sXC sYC)))))))
   clear hC WC MC nx1C nx2C nqC sXC sYC g2 gB gC sXB sYB hA MA WA sXA sYA sAA nx1A nx2A nqA
   refine wp_region_held_drew (S:=(fun u9:World => u9.cell? ⟨b,o+j * 8+7,none⟩=some (.int .i64 (a.pl:Int)))) (by kernel_rfl) ?_ (fun hH => ?_)
   ·exact k7
   refine wpAnyH_take (i:=2) (oi:={ dst:=some 95,op:=_,type:=_,pos:=_,after:=_,guard:=none }) (v:=?_) rfl (by kernel_rfl) (by kernel_rfl) (by kernel_rfl) (fun _ _ _ h => h) (Or.inl ⟨by rfl,?_⟩) hH ?_
   rotate_left
   ·intro u9 hSu
    try dsimp only at hSu
    go_simp
    try with_reducible rfl
   try simp only [Act.put,zqf,zqg,zqh]
   refine wpAnyH_take (i:=3) (oi:={ dst:=some 96,op:=_,type:=_,pos:=_,after:=_,guard:=none }) (v:=?_) rfl (by kernel_rfl) (by kernel_rfl) (by kernel_rfl) (fun _ _ _ h => h) (Or.inl ⟨by rfl,?_⟩) hH ?_
   rotate_left
   ·intro u9 hSu
    try dsimp only at hSu
    go_simp
    try with_reducible rfl
   try simp only [Act.put,zqf,zqg,zqh]
   refine wpAnyH_take (i:=4) (oi:={ dst:=some 97,op:=_,type:=_,pos:=_,after:=_,guard:=none }) (v:=?_) rfl (by kernel_rfl) (by kernel_rfl) (by kernel_rfl) (fun _ _ _ h => h) (Or.inl ⟨by rfl,?_⟩) hH ?_
   rotate_left
   ·intro u9 hSu
    try dsimp only at hSu
    go_simp
    try with_reducible rfl
   try simp only [Act.put,zqf,zqg,zqh]
   refine wpAnyH_take (i:=5) (oi:={ dst:=some 98,op:=_,type:=_,pos:=_,after:=_,guard:=none }) (v:=?_) rfl (by kernel_rfl) (by kernel_rfl) (by kernel_rfl) (fun _ _ _ h => h) (Or.inl ⟨by rfl,?_⟩) hH ?_
   rotate_left
   ·intro u9 hSu
    try dsimp only at hSu
    go_simp
    try with_reducible rfl
   try simp only [Act.put,zqf,zqg,zqh]
   refine wpAnyH_ready (rs:=[0,1]) (by kernel_rfl) (by simp) ?_
   refine AllReadyH.cons (o:={ dst:=some 93,op:=_,type:=_,pos:=_,after:=_,guard:=none }) rfl (fun K9 hK => ?_) (AllReadyH.cons (o:={ dst:=some 94,op:=_,type:=_,pos:=_,after:=_,guard:=none }) rfl (fun K9 hK => ?_) AllReadyH.nil)
   ·go_simp
    clear hH
    refine hK.out _ _ kd7 (fun hH => ?_)
    clear hK K9
    try simp only [Act.put,zqf,zqg,zqh]
    refine wpAnyH_ready (rs:=[1]) (by kernel_rfl) (by simp) ?_
    refine AllReadyH.cons (o:={ dst:=some 94,op:=_,type:=_,pos:=_,after:=_,guard:=none }) rfl (fun K9 hK => ?_) AllReadyH.nil
    go_simp
    clear hH
    refine hK.out _ _ kd7 (fun hH => ?_)
    clear hK K9
    try simp only [Act.put,zqf,zqg,zqh]
    refine wpAnyH_ready (rs:=[6]) (by kernel_rfl) (by simp) ?_
    refine AllReadyH.cons (o:={ dst:=none,op:=_,type:=_,pos:=_,after:=_,guard:=none }) rfl (fun K9 hK => ?_) AllReadyH.nil
    go_simp
    clear hH
    rw [HE.out.1]
    refine hK.out _ _ kB7 (fun hH => ?_)
    clear hK K9
    try simp only [Act.put,zqf,zqg,zqh]
    clear f0 f1 f2 f3 f4 f5 f6 f7 y0 y1 y2 y3 y4 y5 y6 y7 k0 k1 k2 k3 k4 k5 k6 k7 z0 z1 z2 z3 z4 z5 z6 z7 l0 l1 l2 l3 l4 l5 l6 l7
    obtain ⟨⟨y0,y1,y2,y3,y4,y5,y6,y7⟩,l0,l1,l2,l3,l4,l5,l6,l7⟩:=HYB.out.all
    simp only [Nat.zero_add] at y0 y1 y2 y3 y4 y5 y6 y7 l0 l1 l2 l3 l4 l5 l6 l7
    refine wpAnyH_ready (rs:=[7]) (by kernel_rfl) (by simp) ?_
    refine AllReadyH.cons (o:={ dst:=none,op:=_,type:=_,pos:=_,after:=_,guard:=none }) rfl (fun K9 hK => ?_) AllReadyH.nil
    go_simp
    clear hH
    rw [HE.out.2]
    refine hK.out _ _ kC7 (fun hH => ?_)
    clear hK K9
    try simp only [Act.put,zqf,zqg,zqh]
    clear y0 y1 y2 y3 y4 y5 y6 y7 l0 l1 l2 l3 l4 l5 l6 l7
    refine wpAnyH_ready (rs:=[8]) (by kernel_rfl) (by simp) ?_
    refine AllReadyH.cons (o:={ dst:=some 6,op:=_,type:=_,pos:=_,after:=_,guard:=none }) rfl (fun K9 hK => ?_) AllReadyH.nil
    go_simp
    clear hH
    refine hK.out _ _ kC7 (fun hH => ?_)
    clear hK K9
    try simp only [Act.put,zqf,zqg,zqh]
    refine wpAnyH_done (by kernel_rfl) ?_ _
    obtain ⟨hC,WC,MC,nx1C,nx2C,nqC,sXC,sYC⟩:=HC2.out
    have cM:=meet_any hC WC hVl hrt j ⟨a.t,a.was,r2,a.pl⟩ (List.getElem?_set_self hjl) hr2s.1 ⟨t,q,q,0⟩ x ⟨nqC,nqC⟩ ⟨nx1C,nx2C⟩ hqs HD.out.2.2.2.1.2 HD.out.2.2.2.1.1 a.pl (by show a.pl < r2.K.length;rw [hr2s.2,show r.K.length=a.node.K.length from by rw [show r.K=a.node.K.set a.pl x0 from congrArg Nd.K HRN.out.1,List.length_set]];exact HD.out.2.2.2.2.1.2) N2 V2 a3 hme
    have HFIN2:∀ e w',GrownPost w0 (set8 (set8 wA bx ⟨t,q,q,0⟩) yb x).drew tag9 sb rb n C (u+2+2) wb (some ⟨b,o,none⟩) c1 a2 c2 od th (.ok (N2,X1,((S.set j ⟨a.t,a.was,r2,a.pl⟩).map CS.abs).set j a3,V2,rt)) e w'→GrownPost w0 w tag sb rb n C (u+4) wb (some ⟨b,o,none⟩) c1 a2 c2 od th (.ok (N2,X1,(S.map CS.abs).set j a3,V2,rt)) e w':=fun e w' hp => by
     obtain ⟨he,tgz,az,cz,Sz,Vz,z1,z2,z3,z4,z5,z6,z7⟩:=hp
     refine ⟨he,tgz,az,cz,Sz,Vz,z1,MC.trans z2 (fun _ h _ => h) (fun _ h _ => h),z3,?_,z5,fun k9 hk9 => (z6 k9 hk9).imp id (fun h9 => Nat.le_trans MC.size h9),z7⟩
     rw [z4,List.map_set,List.set_set]
    obtain ⟨⟨f0,f1,f2,f3,f4,f5,f6,f7⟩,-⟩:=sXC.all
    simp only [Nat.zero_add] at f0 f1 f2 f3 f4 f5 f6 f7
    obtain ⟨⟨y0,y1,y2,y3,y4,y5,y6,y7⟩,-⟩:=sYC.all
    simp only [Nat.zero_add] at y0 y1 y2 y3 y4 y5 y6 y7
    try dsimp only at f0 f1 f2 f3 f4 f5 f6 f7 y0 y1 y2 y3 y4 y5 y6 y7
    rw [hka] at y5
    unfold CS.val stepV at cM
    try dsimp only at cM
    rw [hka] at cM
    generalize (set8 (set8 wA bx ⟨t,q,q,0⟩) yb x).drew=wC at *
    clear hme hab hyb hC WC MC sXC sYC nx1C nx2C nqC kd7 kB7 kC7
    go_wp2_with fail
    refine cM.mono ?_
    rintro e w' hp
    obtain ⟨rfl,-⟩:=id hp
    go_wp2_with fail
    go_end0
    exact HFIN2 _ _ hp
   ·go_simp
    clear hH
    refine hK.out _ _ kd7 (fun hH => ?_)
    clear hK K9
    try simp only [Act.put,zqf,zqg,zqh]
    refine wpAnyH_ready (rs:=[0]) (by kernel_rfl) (by simp) ?_
    refine AllReadyH.cons (o:={ dst:=some 93,op:=_,type:=_,pos:=_,after:=_,guard:=none }) rfl (fun K9 hK => ?_) AllReadyH.nil
    go_simp
    clear hH
    refine hK.out _ _ kd7 (fun hH => ?_)
    clear hK K9
    try simp only [Act.put,zqf,zqg,zqh]
    refine wpAnyH_ready (rs:=[6]) (by kernel_rfl) (by simp) ?_
    refine AllReadyH.cons (o:={ dst:=none,op:=_,type:=_,pos:=_,after:=_,guard:=none }) rfl (fun K9 hK => ?_) AllReadyH.nil
    go_simp
    clear hH
    rw [HE.out.1]
    refine hK.out _ _ kB7 (fun hH => ?_)
    clear hK K9
    try simp only [Act.put,zqf,zqg,zqh]
    clear f0 f1 f2 f3 f4 f5 f6 f7 y0 y1 y2 y3 y4 y5 y6 y7 k0 k1 k2 k3 k4 k5 k6 k7 z0 z1 z2 z3 z4 z5 z6 z7 l0 l1 l2 l3 l4 l5 l6 l7
    obtain ⟨⟨y0,y1,y2,y3,y4,y5,y6,y7⟩,l0,l1,l2,l3,l4,l5,l6,l7⟩:=HYB.out.all
    simp only [Nat.zero_add] at y0 y1 y2 y3 y4 y5 y6 y7 l0 l1 l2 l3 l4 l5 l6 l7
    refine wpAnyH_ready (rs:=[7]) (by kernel_rfl) (by simp) ?_
    refine AllReadyH.cons (o:={ dst:=none,op:=_,type:=_,pos:=_,after:=_,guard:=none }) rfl (fun K9 hK => ?_) AllReadyH.nil
    go_simp
    clear hH
    rw [HE.out.2]
    refine hK.out _ _ kC7 (fun hH => ?_)
    clear hK K9
    try simp only [Act.put,zqf,zqg,zqh]
    clear y0 y1 y2 y3 y4 y5 y6 y7 l0 l1 l2 l3 l4 l5 l6 l7
    refine wpAnyH_ready (rs:=[8]) (by kernel_rfl) (by simp) ?_
    refine AllReadyH.cons (o:={ dst:=some 6,op:=_,type:=_,pos:=_,after:=_,guard:=none }) rfl (fun K9 hK => ?_) AllReadyH.nil
    go_simp
    clear hH
    refine hK.out _ _ kC7 (fun hH => ?_)
    clear hK K9
    try simp only [Act.put,zqf,zqg,zqh]
    refine wpAnyH_done (by kernel_rfl) ?_ _
    obtain ⟨hC,WC,MC,nx1C,nx2C,nqC,sXC,sYC⟩:=HC2.out
    have cM:=meet_any hC WC hVl hrt j ⟨a.t,a.was,r2,a.pl⟩ (List.getElem?_set_self hjl) hr2s.1 ⟨t,q,q,0⟩ x ⟨nqC,nqC⟩ ⟨nx1C,nx2C⟩ hqs HD.out.2.2.2.1.2 HD.out.2.2.2.1.1 a.pl (by show a.pl < r2.K.length;rw [hr2s.2,show r.K.length=a.node.K.length from by rw [show r.K=a.node.K.set a.pl x0 from congrArg Nd.K HRN.out.1,List.length_set]];exact HD.out.2.2.2.2.1.2) N2 V2 a3 hme
    have HFIN2:∀ e w',GrownPost w0 (set8 (set8 wA bx ⟨t,q,q,0⟩) yb x).drew tag9 sb rb n C (u+2+2) wb (some ⟨b,o,none⟩) c1 a2 c2 od th (.ok (N2,X1,((S.set j ⟨a.t,a.was,r2,a.pl⟩).map CS.abs).set j a3,V2,rt)) e w'→GrownPost w0 w tag sb rb n C (u+4) wb (some ⟨b,o,none⟩) c1 a2 c2 od th (.ok (N2,X1,(S.map CS.abs).set j a3,V2,rt)) e w':=fun e w' hp => by
     obtain ⟨he,tgz,az,cz,Sz,Vz,z1,z2,z3,z4,z5,z6,z7⟩:=hp
     refine ⟨he,tgz,az,cz,Sz,Vz,z1,MC.trans z2 (fun _ h _ => h) (fun _ h _ => h),z3,?_,z5,fun k9 hk9 => (z6 k9 hk9).imp id (fun h9 => Nat.le_trans MC.size h9),z7⟩
     rw [z4,List.map_set,List.set_set]
    obtain ⟨⟨f0,f1,f2,f3,f4,f5,f6,f7⟩,-⟩:=sXC.all
    simp only [Nat.zero_add] at f0 f1 f2 f3 f4 f5 f6 f7
    obtain ⟨⟨y0,y1,y2,y3,y4,y5,y6,y7⟩,-⟩:=sYC.all
    simp only [Nat.zero_add] at y0 y1 y2 y3 y4 y5 y6 y7
    try dsimp only at f0 f1 f2 f3 f4 f5 f6 f7 y0 y1 y2 y3 y4 y5 y6 y7
    rw [hka] at y5
    unfold CS.val stepV at cM
    try dsimp only at cM
    rw [hka] at cM
    generalize (set8 (set8 wA bx ⟨t,q,q,0⟩) yb x).drew=wC at *
    clear hme hab hyb hC WC MC sXC sYC nx1C nx2C nqC kd7 kB7 kC7
    go_wp2_with fail
    refine cM.mono ?_
    rintro e w' hp
    obtain ⟨rfl,-⟩:=id hp
    go_wp2_with fail
    go_end0
    exact HFIN2 _ _ hp
  ·have dlt:decide ((z:Int) < (a.pl:Int))=false:=decide_eq_false (by omega)
   have hme:meetA N1 (V.map CS.abs) (⟨a.t,a.was,r2,a.pl⟩:CS).abs x.abs (⟨t,q,q,0⟩:CS).abs z=some (N2,V2,a3):=by
    have h7:=HME.out
    rw [if_neg hlt] at h7
    rw [hab,hyb]
    exact h7
   have cM:=meet_any hA WA hVl hrt j ⟨a.t,a.was,r2,a.pl⟩ (List.getElem?_set_self hjl) hr2s.1 x ⟨t,q,q,0⟩ ⟨nx1A,nx2A⟩ ⟨nqA,nqA⟩ HD.out.2.2.2.1.2 hqs HN.out.2.2.1 z (by show z < r2.K.length;rw [hr2s.2];exact hzK) N2 V2 a3 hme
   unfold CS.val stepV at cM
   try dsimp only at cM
   rw [hka] at cM
   clear hme hab hyb hA MA WA sXA sYA sAA nx1A nx2A nqA
   go_wp2_with fail
   refine cM.mono ?_
   rintro e w' hp
   obtain ⟨rfl,-⟩:=id hp
   go_wp2_with fail
   go_end0
   exact HFIN.out _ _ hp
 ·go_simp
  have gZ:=Chg.alloc [] w5.drew (.cells #[.int .u64 0,.bool false,.slice none 0 0,.slice none 0 0,.bool false,.slice none 0 0,.slice none 0 0,.int .i64 0] 139)
  have gZ5:=(Chg.drew [] w5).then gZ
  clear hH
  have hSZ:(fun u9:World => u9.cell? ⟨wb,0,none⟩=some (.pointer (some ⟨sb,0,none⟩))∧u9.cell? ⟨b,o+j * 8+6,none⟩=some (.slice (some ⟨vb,vo,none⟩) r.V.length r.vc)∧u9.cell? ⟨vb,vo+z,none⟩=some (.int .u64 (v:Int))) (w5.drew.alloc (.cells #[.int .u64 0,.bool false,.slice none 0 0,.slice none 0 0,.bool false,.slice none 0 0,.slice none 0 0,.int .i64 0] 139)):=⟨gZ5.cellv p5 (by simp),gZ5.cellv k6 (by simp),gZ5.cellv cv (by simp)⟩
  refine hK.out _ _ hSZ (fun hH => ?_)
  clear hK K9
  try simp only [Act.put,zqf,zqg,zqh]
  have cSB:=shadow_any hT (h5.keep gZ5) v (by omega) _ hsh (by simp)
  have thZ:=new8 w5.drew 139
  have hszZ:w5.heap.size < (w5.drew.alloc (.cells stepZ 139)).heap.size:=by simp
  refine wpAnyH_ready (rs:=[12]) (by kernel_rfl) (by simp) ?_
  refine AllReadyH.cons (o:={ dst:=some 73,op:=_,type:=_,pos:=_,after:=_,guard:=none }) rfl (fun K9 hK => ?_) AllReadyH.nil
  go_simp
  go_at_call 72
  refine cSB.mono ?_
  rintro e w6 ⟨q,rfl,hqm,ht6,tag6,h6,m6,y6⟩
  have hS6:(fun u9:World => u9.cell? ⟨wb,0,none⟩=some (.pointer (some ⟨sb,0,none⟩))∧u9.cell? ⟨b,o+j * 8+6,none⟩=some (.slice (some ⟨vb,vo,none⟩) r.V.length r.vc)∧u9.cell? ⟨vb,vo+z,none⟩=some (.int .u64 (v:Int))) w6:=⟨m6.cellv hSZ.1 (kt4 W5.tb),m6.cellv hSZ.2.1 (kt4 tb2),m6.cellv hSZ.2.2 (kt5 t5v)⟩
  clear hH
  refine hK.out _ _ hS6 (fun hH => ?_)
  clear hK K9
  try simp only [Act.put,zqf,zqg,zqh]
  have tyb:tag2 w5.heap.size=4:=h5.hi _ (Nat.le_refl _)
  have th6:w6.there w5.heap.size 0 8:=m6.there thZ tyb
  have ex:∀ i,i < 8→(∃ v9,w6.cell? ⟨w5.heap.size,i,none⟩=some v9)∧w6.frozen? ⟨w5.heap.size,i,none⟩=false:=fun i hi9 => by
   obtain ⟨a1,a2⟩:=th6 i hi9
   rw [Nat.zero_add] at a1 a2
   exact ⟨Option.isSome_iff_exists.1 a1,a2⟩
  obtain ⟨⟨vv0,b0⟩,d0⟩:=ex 0 (by decide)
  obtain ⟨⟨vv1,b1⟩,d1⟩:=ex 1 (by decide)
  obtain ⟨⟨vv2,b2⟩,d2⟩:=ex 2 (by decide)
  obtain ⟨⟨vv3,b3⟩,d3⟩:=ex 3 (by decide)
  obtain ⟨⟨vv4,b4⟩,d4⟩:=ex 4 (by decide)
  obtain ⟨⟨vv5,b5⟩,d5⟩:=ex 5 (by decide)
  obtain ⟨⟨vv6,b6⟩,d6⟩:=ex 6 (by decide)
  obtain ⟨⟨vv7,b7⟩,d7⟩:=ex 7 (by decide)
  have gY:Chg [w5.heap.size] w6 (set8 w6 w5.heap.size ⟨t,q,q,0⟩):=set8_chg w6 w5.heap.size ⟨t,q,q,0⟩
  have nb9:b ≠ w5.heap.size:=by have:=block_lt_of_cell k6;dsimp only at this;omega
  have nv9:vb ≠ w5.heap.size:=by have:=block_lt_of_cell cv;dsimp only at this;omega
  have nw9:wb ≠ w5.heap.size:=by have:=block_lt_of_cell p5;dsimp only at this;omega
  have hS8:(fun u9:World => u9.cell? ⟨wb,0,none⟩=some (.pointer (some ⟨sb,0,none⟩))∧u9.cell? ⟨b,o+j * 8+6,none⟩=some (.slice (some ⟨vb,vo,none⟩) r.V.length r.vc)∧u9.cell? ⟨vb,vo+z,none⟩=some (.int .u64 (v:Int))) (set8 w6 w5.heap.size ⟨t,q,q,0⟩):=⟨gY.cellv hS6.1 (by simpa using nw9),gY.cellv hS6.2.1 (by simpa using nb9),gY.cellv hS6.2.2 (by simpa using nv9)⟩
  refine wpAnyH_ready (rs:=[14]) (by kernel_rfl) (by simp) ?_
  refine AllReadyH.cons (o:={ dst:=none,op:=_,type:=_,pos:=_,after:=_,guard:=none }) rfl (fun K9 hK => ?_) AllReadyH.nil
  unfold stepV
  go_simp
  clear hH
  refine hK.out _ _ hS8 (fun hH => ?_)
  clear hK K9
  try simp only [Act.put,zqf,zqg,zqh]
  refine wpAnyH_done (by kernel_rfl) ?_ _
  have nbx:bx ≠ w5.heap.size:=by have:=sX5.lt;omega
  have nyf:w5.heap.size ∉ fp (some ⟨b,o,none⟩) c1:=fun hm => by have h8:=HLT.out.1 _ hm;have h9:=M5.size;have h7:=HBX.out;omega
  have W6:=(W5.keep gZ5).mv m6
  have hSy:∀ k9,k9∈[w5.heap.size]→tag6 k9=4:=fun k9 hk9 => by simp at hk9;subst hk9;exact m6.four tyb hszZ
  have h8:=h6.wrote gY hSy
  have W8:=W6.wrote gY hSy (by simpa using nw9) (fun k9 hk9 hm => by simp at hm;subst hm;exact nyf hk9) (fun k9 hk9 hm => by simp at hm;subst hm;have h8:=(W5.r2.rm.lt _ hk9).2;omega)
  have M8:Mvb (wb :: (fp (some ⟨b,o,none⟩) c1++fp a2 c2)) tag tag6 w (set8 w6 w5.heap.size ⟨t,q,q,0⟩):=((M5.wrote gZ5 (by simp)).trans (m6.b []) (fun _ h _ => h) (by simp)).wrote gY (fun k9 hk9 hlt => by simp at hk9;have h9:=M5.size;omega)
  have sX8:=((sX5.chg gZ5 (by simp)).mv m6 tX3).chg gY (by simpa using nbx)
  have tX8:=m6.four tX3 (sX5.chg gZ5 (by simp)).lt
  have nx18:=((nx15.keep gZ5).mv m6).wrote gY hSy
  have nx28:=((nx25.keep gZ5).mv m6).wrote gY hSy
  have sY8:StepAt (set8 w6 w5.heap.size ⟨t,q,q,0⟩) w5.heap.size 0 ⟨t,q,q,0⟩:=set8_step th6 ⟨t,q,q,0⟩
  have tY8:tag6 w5.heap.size=4:=m6.four tyb hszZ
  have nq8:=y6.wrote gY hSy
  have nl9:lb ≠ w5.heap.size:=by have:=block_lt_of_cell ck;dsimp only at this;omega
  have ck8:=gY.cellv (m6.cellv (gZ5.cellv ck (by simp)) (kt5 t5k)) (by simpa using nl9)
  have hyx:bx < w5.heap.size:=sX5.lt
  have hyw:w.heap.size≤w5.heap.size:=M5.size
  change Exit.then _ _ Exit.normal _ (set8 w6 w5.heap.size ⟨t,q,q,0⟩)
  clear hS6 gZ gZ5 gY h6 m6 y6 cSA cSB h5 W5 W6 M5 sX5 sA5 nx15 nx25 hS5 hSZ hS8 ck f0 f1 f2 f3 f4 f5 f6 f7 k0 k1 k2 k3 k4 k5 k6 k7 p5 hH thZ hszZ th6 ex b0 b1 b2 b3 b4 b5 b6 b7 d1 d2 d3 d4 d5 d6 d7 nb9 nv9 nw9 nl9 nbx
  generalize (set8 w6 w5.heap.size ⟨t,q,q,0⟩)=w8 at *
  generalize w5.heap.size=yb at *
  have hsr:r.nd.sq:=by
   have h9:=HRN.out.1
   rw [h9]
   have h8:=HD.out.2.2.2.2.1.1
   exact ⟨by show (a.node.K.set a.pl x0).length=(a.node.V.set a.pl x.t).length;rw [List.length_set,List.length_set];exact h8.1,by show (a.node.K.set a.pl x0).length≤100;rw [List.length_set];exact h8.2⟩
  have htn:t < 2 ^ 64:=by have:=h8.lens;omega
  obtain ⟨b',o',e',sA8,-⟩:=W8.r1.step (List.getElem?_set_self hjl)
  cases e'
  have nr8:NdAt w8 tag6 r:=(W8.r1.nd _ (List.mem_of_getElem? (List.getElem?_set_self hjl))).2
  have tb8:=W8.r1.tg b hbf
  have cS2:=set_anyT (h8.keep (Chg.drew [] w8)) b (o+j * 8) ⟨a.t,a.was,r,a.pl⟩ (sA8.chg (Chg.drew [] w8) (by simp)) tb8 (nr8.keep (Chg.drew [] w8)) hsr z k t hzK hkB htn
  obtain ⟨⟨f0,f1,f2,f3,f4,f5,f6,f7⟩,-⟩:=sX8.all
  simp only [Nat.zero_add] at f0 f1 f2 f3 f4 f5 f6 f7
  obtain ⟨⟨y0,y1,y2,y3,y4,y5,y6,y7⟩,-⟩:=sY8.all
  simp only [Nat.zero_add] at y0 y1 y2 y3 y4 y5 y6 y7
  obtain ⟨⟨k0,k1,k2,k3,k4,k5,k6,k7⟩,-⟩:=sA8.all
  try dsimp only at k0 k1 k2 k3 k4 k5 k6 k7 y0 y1 y2 y3 y4 y5 y6 y7
  rw [HRN.out.2.2.2.2.2] at k5
  go_wp2_with fail
  go_still_tail 12,(by kernel_rfl)
  have hdr:({ heap:=w8.heap,tape:=w8.tape,drawn:=w8.drawn+1,os:=w8.os,output:=w8.output }:World)=w8.drew:=rfl
  rw [hdr]
  clear hdr
  go_wp2_with fail
  refine cS2.mono ?_
  rintro e w9' ⟨rfl,r2,tag9,w9,hr2,h9,m9,n9,rfl⟩
  have W9:=(W8.keep (Chg.drew [] w8)).mv m9
  have M9:=(M8.wrote (Chg.drew [] w8) (by simp)).trans (m9.b []) (fun _ h _ => h) (by simp)
  obtain ⟨WA,gA⟩:=W9.wr (List.getElem?_set_self hjl) n9
  rw [List.set_set] at WA
  have hSA:∀ k9,k9∈fp (some ⟨b,o,none⟩) c1→tag9 k9=4:=W9.r1.tg
  have nbf:bx ∉ fp (some ⟨b,o,none⟩) c1:=fun hm => by have h8:=HLT.out.1 _ hm;have h9:=HBX.out;omega
  have hA:=h9.wrote gA hSA
  have MA:Mvb (wb :: (fp (some ⟨b,o,none⟩) c1++fp a2 c2)) tag tag9 w (wr3 w9 b (o+j * 8) r2):=M9.wrote gA (fun k9 hk9 _ => List.mem_cons_of_mem _ (List.mem_append_left _ hk9))
  have sXA:=((sX8.chg (Chg.drew [] w8) (by simp)).mv m9 tX8).chg gA nbf
  have sYA:=((sY8.chg (Chg.drew [] w8) (by simp)).mv m9 tY8).chg gA nyf
  have tXA:=m9.four tX8 sX8.lt
  have tYA:=m9.four tY8 sY8.lt
  have nx1A:=((nx18.keep (Chg.drew [] w8)).mv m9).wrote gA hSA
  have nx2A:=((nx28.keep (Chg.drew [] w8)).mv m9).wrote gA hSA
  have nqA:=((nq8.keep (Chg.drew [] w8)).mv m9).wrote gA hSA
  obtain ⟨wA,hwA⟩:∃ wA,wA=wr3 w9 b (o+j * 8) r2:=⟨_,rfl⟩
  rw [← hwA] at WA hA MA sXA sYA nx1A nx2A nqA ⊢
  clear hwA gA M9 W9 n9 m9 h9 cS2 sX8 sY8 sA8 nx18 nx28 nq8 nr8 W8 h8 M8 ck8 f0 f1 f2 f3 f4 f5 f6 f7 y0 y1 y2 y3 y4 y5 y6 y7 k0 k1 k2 k3 k4 k5 k6 k7
  obtain ⟨b',o',e',sAA,-⟩:=WA.r1.step (List.getElem?_set_self hjl)
  cases e'
  have HN:=mkHid (And.intro hr2 (And.intro hqm (And.intro ht6 htn)))
  clear hr2 hqm ht6 htn
  obtain ⟨⟨f0,f1,f2,f3,f4,f5,f6,f7⟩,-⟩:=sXA.all
  simp only [Nat.zero_add] at f0 f1 f2 f3 f4 f5 f6 f7
  obtain ⟨⟨y0,y1,y2,y3,y4,y5,y6,y7⟩,-⟩:=sYA.all
  simp only [Nat.zero_add] at y0 y1 y2 y3 y4 y5 y6 y7
  obtain ⟨⟨k0,k1,k2,k3,k4,k5,k6,k7⟩,-⟩:=sAA.all
  try dsimp only at k0 k1 k2 k3 k4 k5 k6 k7 y0 y1 y2 y3 y4 y5 y6 y7
  have hqs:q.nd.sq:=by
   have h7:=(HD.out.2.2.2.2.2.2.1).lt (X:=X) (HSV.out)
   rw [HN.out.2.1]
   exact good_sq h7.2
  have hr2s:r2.nd.sq∧r2.K.length=r.K.length:=by
   have e2:r2.K=r.K.set z k:=congrArg Nd.K HN.out.1
   have e3:r2.V=r.V.set z t:=congrArg Nd.V HN.out.1
   exact ⟨⟨by show r2.K.length=r2.V.length;rw [e2,e3,List.length_set,List.length_set];exact hsr.1,by show r2.K.length≤100;rw [e2,List.length_set];exact hsr.2⟩,by rw [e2,List.length_set]⟩
  have hab:(⟨a.t,a.was,r2,a.pl⟩:CS).abs=⟨a.t,a.was.nd,(a.node.nd.put a.pl (x.node.K.getD 0 0) x.t).put z k t,a.pl⟩:=by
   show (⟨a.t,a.was.nd,r2.nd,a.pl⟩:AS)=_
   rw [HN.out.1,HRN.out.1]
   have e1:x.node.K.getD 0 0=x0:=by rw [List.getD_eq_getElem?_getD,HD.out.2.2.2.2.2.1];rfl
   rw [e1]
  have hyb:(⟨t,q,q,0⟩:CS).abs=⟨t,m,m,0⟩:=by
   show (⟨t,q.nd,q.nd,0⟩:AS)=_
   rw [HN.out.2.1]
  have HFIN:Hid (∀ e w',GrownPost w0 wA tag9 sb rb n C (u+2+2) wb (some ⟨b,o,none⟩) c1 a2 c2 od th (.ok (N2,X1,((S.set j ⟨a.t,a.was,r2,a.pl⟩).map CS.abs).set j a3,V2,rt)) e w'→GrownPost w0 w tag sb rb n C (u+4) wb (some ⟨b,o,none⟩) c1 a2 c2 od th (.ok (N2,X1,(S.map CS.abs).set j a3,V2,rt)) e w'):=mkHid fun e w' hp => by
   obtain ⟨he,tgz,az,cz,Sz,Vz,z1,z2,z3,z4,z5,z6,z7⟩:=hp
   refine ⟨he,tgz,az,cz,Sz,Vz,z1,MA.trans z2 (fun _ h _ => h) (fun _ h _ => h),z3,?_,z5,fun k9 hk9 => (z6 k9 hk9).imp id (fun h9 => Nat.le_trans MA.size h9),z7⟩
   rw [z4,List.map_set,List.set_set]
  by_cases hlt:z < a.pl
  ·have dlt:decide ((z:Int) < (a.pl:Int))=true:=decide_eq_true (by omega)
   have hme:meetA N1 (V.map CS.abs) (⟨a.t,a.was,r2,a.pl⟩:CS).abs (⟨t,q,q,0⟩:CS).abs x.abs a.pl=some (N2,V2,a3):=by
    have h7:=HME.out
    rw [if_pos hlt] at h7
    rw [hab,hyb]
    exact h7
   go_wp2_with fail
   have nbf1:b ≠ bx:=fun e9 => nbf (e9 ▸ hbf)
   have nbf2:b ≠ yb:=fun e9 => nyf (e9 ▸ hbf)
   have hxy:bx ≠ yb:=by omega
   have hyx':yb ≠ bx:=by omega
   obtain ⟨-,z0,z1,z2,z3,z4,z5,z6,z7⟩:=sXA.all
   obtain ⟨-,l0,l1,l2,l3,l4,l5,l6,l7⟩:=sYA.all
   simp only [Nat.zero_add] at z0 z1 z2 z3 z4 z5 z6 z7 l0 l1 l2 l3 l4 l5 l6 l7
   have gB:Chg [bx] wA (set8 wA bx ⟨t,q,q,0⟩):=set8_chg wA bx ⟨t,q,q,0⟩
   have gC:Chg [yb] (set8 wA bx ⟨t,q,q,0⟩) (set8 (set8 wA bx ⟨t,q,q,0⟩) yb x):=set8_chg _ yb x
   have sXB:StepAt (set8 wA bx ⟨t,q,q,0⟩) bx 0 ⟨t,q,q,0⟩:=set8_step (there_step sXA) ⟨t,q,q,0⟩
   have sXC:=(sXB.chg gC (by simpa using hxy)).chg (Chg.drew [] _) (by simp)
   have sYB:=sYA.chg gB (by simpa using hyx')
   have sYC:StepAt (set8 (set8 wA bx ⟨t,q,q,0⟩) yb x).drew yb 0 x:=(set8_step (there_step (sYA.chg gB (by simpa using hyx'))) x).chg (Chg.drew [] _) (by simp)
   have g2:Chg [bx,yb] wA (set8 (set8 wA bx ⟨t,q,q,0⟩) yb x).drew:=(gB.trans gC (fun k9 hk9 _ => List.mem_cons.2 (Or.inl (by simpa using hk9))) (fun k9 hk9 _ => List.mem_cons.2 (Or.inr hk9))).then (Chg.drew [] _)
   have hS2:∀ k9,k9∈[bx,yb]→tag9 k9=4:=fun k9 hk9 => by
    simp at hk9
    rcases hk9 with rfl | rfl
    ·exact tXA
    ·exact tYA
   have hwb2:wb ∉ [bx,yb]:=by have h7:=HLT.out.2;have h8:=HBX.out;simp;omega
   have hf1:∀ k9,k9∈fp (some ⟨b,o,none⟩) c1→k9 ∉ [bx,yb]:=fun k9 hk9 hm => by
    simp at hm
    rcases hm with rfl | rfl
    ·exact nbf hk9
    ·exact nyf hk9
   have hf2:∀ k9,k9∈fp a2 c2→k9 ∉ [bx,yb]:=fun k9 hk9 hm => by
    have h7:=HF2.out k9 hk9
    have h8:=HBX.out
    simp at hm
    omega
   have hC:=hA.wrote g2 hS2
   have WC:=WA.wrote g2 hS2 hwb2 hf1 hf2
   have MC:=MA.wrote g2 (fun k9 hk9 hlt => by have h8:=HBX.out;simp at hk9;omega)
   have nx1C:=nx1A.wrote g2 hS2
   have nx2C:=nx2A.wrote g2 hS2
   have nqC:=nqA.wrote g2 hS2
   have kd7:=(Chg.drew [] wA).cellv k7 (by simp)
   have kB6:=gB.cellv k7 (by simpa using nbf1)
   have kB7:=(Chg.drew [] _).cellv kB6 (by simp)
   have kC7:=(Chg.drew [] _).cellv (gC.cellv kB6 (by simpa using nbf2)) (by simp)
   have eB:((((((((wA.setCell ⟨bx,0,none⟩ (.int .u64 (t:Int))).setCell ⟨bx,1,none⟩ (.bool q.lf)).setCell ⟨bx,2,none⟩ (.slice q.ka q.K.length q.kc)).setCell ⟨bx,3,none⟩ (.slice q.va q.V.length q.vc)).setCell ⟨bx,4,none⟩ (.bool q.lf)).setCell ⟨bx,5,none⟩ (.slice q.ka q.K.length q.kc)).setCell ⟨bx,6,none⟩ (.slice q.va q.V.length q.vc)).setCell ⟨bx,7,none⟩ (.int .i64 0))=set8 wA bx ⟨t,q,q,0⟩:=rfl
   have eC:(((((((((set8 wA bx ⟨t,q,q,0⟩).setCell ⟨yb,0,none⟩ (.int .u64 (x.t:Int))).setCell ⟨yb,1,none⟩ (.bool x.was.lf)).setCell ⟨yb,2,none⟩ (.slice x.was.ka x.was.K.length x.was.kc)).setCell ⟨yb,3,none⟩ (.slice x.was.va x.was.V.length x.was.vc)).setCell ⟨yb,4,none⟩ (.bool x.node.lf)).setCell ⟨yb,5,none⟩ (.slice (some ⟨kb,ko,none⟩) x.node.K.length x.node.kc)).setCell ⟨yb,6,none⟩ (.slice x.node.va x.node.V.length x.node.vc)).setCell ⟨yb,7,none⟩ (.int .i64 (x.pl:Int)))=set8 (set8 wA bx ⟨t,q,q,0⟩) yb x:=by rw [← hka];rfl
   have HE:=mkHid (And.intro eB eC)
   have HYB:=mkHid sYB
   clear eB eC kB6
   have HC2:=mkHid (And.intro hC (And.intro WC (And.intro MC (And.intro nx1C (And.intro nx2C (And.intro nqC (And.intro sXC sYC)))))))
   clear hC WC MC nx1C nx2C nqC sXC sYC g2 gB gC sXB sYB hA MA WA sXA sYA sAA nx1A nx2A nqA
   refine wp_region_held_drew (S:=(fun u9:World => u9.cell? ⟨b,o+j * 8+7,none⟩=some (.int .i64 (a.pl:Int)))) (by kernel_rfl) ?_ (fun hH => ?_)
   ·exact k7
   refine wpAnyH_take (i:=2) (oi:={ dst:=some 95,op:=_,type:=_,pos:=_,after:=_,guard:=none }) (v:=?_) rfl (by kernel_rfl) (by kernel_rfl) (by kernel_rfl) (fun _ _ _ h => h) (Or.inl ⟨by rfl,?_⟩) hH ?_
   rotate_left
   ·intro u9 hSu
    try dsimp only at hSu
    go_simp
    try with_reducible rfl
   try simp only [Act.put,zqf,zqg,zqh]
   refine wpAnyH_take (i:=3) (oi:={ dst:=some 96,op:=_,type:=_,pos:=_,after:=_,guard:=none }) (v:=?_) rfl (by kernel_rfl) (by kernel_rfl) (by kernel_rfl) (fun _ _ _ h => h) (Or.inl ⟨by rfl,?_⟩) hH ?_
   rotate_left
   ·intro u9 hSu
    try dsimp only at hSu
    go_simp
    try with_reducible rfl
   try simp only [Act.put,zqf,zqg,zqh]
   refine wpAnyH_take (i:=4) (oi:={ dst:=some 97,op:=_,type:=_,pos:=_,after:=_,guard:=none }) (v:=?_) rfl (by kernel_rfl) (by kernel_rfl) (by kernel_rfl) (fun _ _ _ h => h) (Or.inl ⟨by rfl,?_⟩) hH ?_
   rotate_left
   ·intro u9 hSu
    try dsimp only at hSu
    go_simp
    try with_reducible rfl
   try simp only [Act.put,zqf,zqg,zqh]
   refine wpAnyH_take (i:=5) (oi:={ dst:=some 98,op:=_,type:=_,pos:=_,after:=_,guard:=none }) (v:=?_) rfl (by kernel_rfl) (by kernel_rfl) (by kernel_rfl) (fun _ _ _ h => h) (Or.inl ⟨by rfl,?_⟩) hH ?_
   rotate_left
   ·intro u9 hSu
    try dsimp only at hSu
    go_simp
    try with_reducible rfl
   try simp only [Act.put,zqf,zqg,zqh]
   refine wpAnyH_ready (rs:=[0,1]) (by kernel_rfl) (by simp) ?_
   refine AllReadyH.cons (o:={ dst:=some 93,op:=_,type:=_,pos:=_,after:=_,guard:=none }) rfl (fun K9 hK => ?_) (AllReadyH.cons (o:={ dst:=some 94,op:=_,type:=_,pos:=_,after:=_,guard:=none }) rfl (fun K9 hK => ?_) AllReadyH.nil)
   ·go_simp
    clear hH
    refine hK.out _ _ kd7 (fun hH => ?_)
    clear hK K9
    try simp only [Act.put,zqf,zqg,zqh]
    refine wpAnyH_ready (rs:=[1]) (by kernel_rfl) (by simp) ?_
    refine AllReadyH.cons (o:={ dst:=some 94,op:=_,type:=_,pos:=_,after:=_,guard:=none }) rfl (fun K9 hK => ?_) AllReadyH.nil
    go_simp
    clear hH
    refine hK.out _ _ kd7 (fun hH => ?_)
    clear hK K9
    try simp only [Act.put,zqf,zqg,zqh]
    refine wpAnyH_ready (rs:=[6]) (by kernel_rfl) (by simp) ?_
    refine AllReadyH.cons (o:={ dst:=none,op:=_,type:=_,pos:=_,after:=_,guard:=none }) rfl (fun K9 hK => ?_) AllReadyH.nil
    go_simp
    clear hH
    rw [HE.out.1]
    refine hK.out _ _ kB7 (fun hH => ?_)
    clear hK K9
    try simp only [Act.put,zqf,zqg,zqh]
    clear f0 f1 f2 f3 f4 f5 f6 f7 y0 y1 y2 y3 y4 y5 y6 y7 k0 k1 k2 k3 k4 k5 k6 k7 z0 z1 z2 z3 z4 z5 z6 z7 l0 l1 l2 l3 l4 l5 l6 l7
    obtain ⟨⟨y0,y1,y2,y3,y4,y5,y6,y7⟩,l0,l1,l2,l3,l4,l5,l6,l7⟩:=HYB.out.all
    simp only [Nat.zero_add] at y0 y1 y2 y3 y4 y5 y6 y7 l0 l1 l2 l3 l4 l5 l6 l7
    refine wpAnyH_ready (rs:=[7]) (by kernel_rfl) (by simp) ?_
    refine AllReadyH.cons (o:={ dst:=none,op:=_,type:=_,pos:=_,after:=_,guard:=none }) rfl (fun K9 hK => ?_) AllReadyH.nil
    go_simp
    clear hH
    rw [HE.out.2]
    refine hK.out _ _ kC7 (fun hH => ?_)
    clear hK K9
    try simp only [Act.put,zqf,zqg,zqh]
    clear y0 y1 y2 y3 y4 y5 y6 y7 l0 l1 l2 l3 l4 l5 l6 l7
    refine wpAnyH_ready (rs:=[8]) (by kernel_rfl) (by simp) ?_
    refine AllReadyH.cons (o:={ dst:=some 6,op:=_,type:=_,pos:=_,after:=_,guard:=none }) rfl (fun K9 hK => ?_) AllReadyH.nil
    go_simp
    clear hH
    refine hK.out _ _ kC7 (fun hH => ?_)
    clear hK K9
    try simp only [Act.put,zqf,zqg,zqh]
    refine wpAnyH_done (by kernel_rfl) ?_ _
    obtain ⟨hC,WC,MC,nx1C,nx2C,nqC,sXC,sYC⟩:=HC2.out
    have cM:=meet_any hC WC hVl hrt j ⟨a.t,a.was,r2,a.pl⟩ (List.getElem?_set_self hjl) hr2s.1 ⟨t,q,q,0⟩ x ⟨nqC,nqC⟩ ⟨nx1C,nx2C⟩ hqs HD.out.2.2.2.1.2 HD.out.2.2.2.1.1 a.pl (by show a.pl < r2.K.length;rw [hr2s.2,show r.K.length=a.node.K.length from by rw [show r.K=a.node.K.set a.pl x0 from congrArg Nd.K HRN.out.1,List.length_set]];exact HD.out.2.2.2.2.1.2) N2 V2 a3 hme
    have HFIN2:∀ e w',GrownPost w0 (set8 (set8 wA bx ⟨t,q,q,0⟩) yb x).drew tag9 sb rb n C (u+2+2) wb (some ⟨b,o,none⟩) c1 a2 c2 od th (.ok (N2,X1,((S.set j ⟨a.t,a.was,r2,a.pl⟩).map CS.abs).set j a3,V2,rt)) e w'→GrownPost w0 w tag sb rb n C (u+4) wb (some ⟨b,o,none⟩) c1 a2 c2 od th (.ok (N2,X1,(S.map CS.abs).set j a3,V2,rt)) e w':=fun e w' hp => by
     obtain ⟨he,tgz,az,cz,Sz,Vz,z1,z2,z3,z4,z5,z6,z7⟩:=hp
     refine ⟨he,tgz,az,cz,Sz,Vz,z1,MC.trans z2 (fun _ h _ => h) (fun _ h _ => h),z3,?_,z5,fun k9 hk9 => (z6 k9 hk9).imp id (fun h9 => Nat.le_trans MC.size h9),z7⟩
     rw [z4,List.map_set,List.set_set]
    obtain ⟨⟨f0,f1,f2,f3,f4,f5,f6,f7⟩,-⟩:=sXC.all
    simp only [Nat.zero_add] at f0 f1 f2 f3 f4 f5 f6 f7
    obtain ⟨⟨y0,y1,y2,y3,y4,y5,y6,y7⟩,-⟩:=sYC.all
    simp only [Nat.zero_add] at y0 y1 y2 y3 y4 y5 y6 y7
    try dsimp only at f0 f1 f2 f3 f4 f5 f6 f7 y0 y1 y2 y3 y4 y5 y6 y7
    rw [hka] at y5
    unfold CS.val stepV at cM
    try dsimp only at cM
    rw [hka] at cM
    generalize (set8 (set8 wA bx ⟨t,q,q,0⟩) yb x).drew=wC at *
    clear hme hab hyb hC WC MC sXC sYC nx1C nx2C nqC kd7 kB7 kC7
    go_wp2_with fail
    refine cM.mono ?_
    rintro e w' hp
    obtain ⟨rfl,-⟩:=id hp
    go_wp2_with fail
    go_end0
    exact HFIN2 _ _ hp
   ·go_simp
    clear hH
    refine hK.out _ _ kd7 (fun hH => ?_)
    clear hK K9
    try simp only [Act.put,zqf,zqg,zqh]
    refine wpAnyH_ready (rs:=[0]) (by kernel_rfl) (by simp) ?_
    refine AllReadyH.cons (o:={ dst:=some 93,op:=_,type:=_,pos:=_,after:=_,guard:=none }) rfl (fun K9 hK => ?_) AllReadyH.nil
    go_simp
    clear hH
    refine hK.out _ _ kd7 (fun hH => ?_)
    clear hK K9
    try simp only [Act.put,zqf,zqg,zqh]
    refine wpAnyH_ready (rs:=[6]) (by kernel_rfl) (by simp) ?_
    refine AllReadyH.cons (o:={ dst:=none,op:=_,type:=_,pos:=_,after:=_,guard:=none }) rfl (fun K9 hK => ?_) AllReadyH.nil
    go_simp
    clear hH
    rw [HE.out.1]
    refine hK.out _ _ kB7 (fun hH => ?_)
    clear hK K9
    try simp only [Act.put,zqf,zqg,zqh]
    clear f0 f1 f2 f3 f4 f5 f6 f7 y0 y1 y2 y3 y4 y5 y6 y7 k0 k1 k2 k3 k4 k5 k6 k7 z0 z1 z2 z3 z4 z5 z6 z7 l0 l1 l2 l3 l4 l5 l6 l7
    obtain ⟨⟨y0,y1,y2,y3,y4,y5,y6,y7⟩,l0,l1,l2,l3,l4,l5,l6,l7⟩:=HYB.out.all
    simp only [Nat.zero_add] at y0 y1 y2 y3 y4 y5 y6 y7 l0 l1 l2 l3 l4 l5 l6 l7
    refine wpAnyH_ready (rs:=[7]) (by kernel_rfl) (by simp) ?_
    refine AllReadyH.cons (o:={ dst:=none,op:=_,type:=_,pos:=_,after:=_,guard:=none }) rfl (fun K9 hK => ?_) AllReadyH.nil
    go_simp
    clear hH
    rw [HE.out.2]
    refine hK.out _ _ kC7 (fun hH => ?_)
    clear hK K9
    try simp only [Act.put,zqf,zqg,zqh]
    clear y0 y1 y2 y3 y4 y5 y6 y7 l0 l1 l2 l3 l4 l5 l6 l7
    refine wpAnyH_ready (rs:=[8]) (by kernel_rfl) (by simp) ?_
    refine AllReadyH.cons (o:={ dst:=some 6,op:=_,type:=_,pos:=_,after:=_,guard:=none }) rfl (fun K9 hK => ?_) AllReadyH.nil
    go_simp
    clear hH
    refine hK.out _ _ kC7 (fun hH => ?_)
    clear hK K9
    try simp only [Act.put,zqf,zqg,zqh]
    refine wpAnyH_done (by kernel_rfl) ?_ _
    obtain ⟨hC,WC,MC,nx1C,nx2C,nqC,sXC,sYC⟩:=HC2.out
    have cM:=meet_any hC WC hVl hrt j ⟨a.t,a.was,r2,a.pl⟩ (List.getElem?_set_self hjl) hr2s.1 ⟨t,q,q,0⟩ x ⟨nqC,nqC⟩ ⟨nx1C,nx2C⟩ hqs HD.out.2.2.2.1.2 HD.out.2.2.2.1.1 a.pl (by show a.pl < r2.K.length;rw [hr2s.2,show r.K.length=a.node.K.length from by rw [show r.K=a.node.K.set a.pl x0 from congrArg Nd.K HRN.out.1,List.length_set]];exact HD.out.2.2.2.2.1.2) N2 V2 a3 hme
    have HFIN2:∀ e w',GrownPost w0 (set8 (set8 wA bx ⟨t,q,q,0⟩) yb x).drew tag9 sb rb n C (u+2+2) wb (some ⟨b,o,none⟩) c1 a2 c2 od th (.ok (N2,X1,((S.set j ⟨a.t,a.was,r2,a.pl⟩).map CS.abs).set j a3,V2,rt)) e w'→GrownPost w0 w tag sb rb n C (u+4) wb (some ⟨b,o,none⟩) c1 a2 c2 od th (.ok (N2,X1,(S.map CS.abs).set j a3,V2,rt)) e w':=fun e w' hp => by
     obtain ⟨he,tgz,az,cz,Sz,Vz,z1,z2,z3,z4,z5,z6,z7⟩:=hp
     refine ⟨he,tgz,az,cz,Sz,Vz,z1,MC.trans z2 (fun _ h _ => h) (fun _ h _ => h),z3,?_,z5,fun k9 hk9 => (z6 k9 hk9).imp id (fun h9 => Nat.le_trans MC.size h9),z7⟩
     rw [z4,List.map_set,List.set_set]
    obtain ⟨⟨f0,f1,f2,f3,f4,f5,f6,f7⟩,-⟩:=sXC.all
    simp only [Nat.zero_add] at f0 f1 f2 f3 f4 f5 f6 f7
    obtain ⟨⟨y0,y1,y2,y3,y4,y5,y6,y7⟩,-⟩:=sYC.all
    simp only [Nat.zero_add] at y0 y1 y2 y3 y4 y5 y6 y7
    try dsimp only at f0 f1 f2 f3 f4 f5 f6 f7 y0 y1 y2 y3 y4 y5 y6 y7
    rw [hka] at y5
    unfold CS.val stepV at cM
    try dsimp only at cM
    rw [hka] at cM
    generalize (set8 (set8 wA bx ⟨t,q,q,0⟩) yb x).drew=wC at *
    clear hme hab hyb hC WC MC sXC sYC nx1C nx2C nqC kd7 kB7 kC7
    go_wp2_with fail
    refine cM.mono ?_
    rintro e w' hp
    obtain ⟨rfl,-⟩:=id hp
    go_wp2_with fail
    go_end0
    exact HFIN2 _ _ hp
  ·have dlt:decide ((z:Int) < (a.pl:Int))=false:=decide_eq_false (by omega)
   have hme:meetA N1 (V.map CS.abs) (⟨a.t,a.was,r2,a.pl⟩:CS).abs x.abs (⟨t,q,q,0⟩:CS).abs z=some (N2,V2,a3):=by
    have h7:=HME.out
    rw [if_neg hlt] at h7
    rw [hab,hyb]
    exact h7
   have cM:=meet_any hA WA hVl hrt j ⟨a.t,a.was,r2,a.pl⟩ (List.getElem?_set_self hjl) hr2s.1 x ⟨t,q,q,0⟩ ⟨nx1A,nx2A⟩ ⟨nqA,nqA⟩ HD.out.2.2.2.1.2 hqs HN.out.2.2.1 z (by show z < r2.K.length;rw [hr2s.2];exact hzK) N2 V2 a3 hme
   unfold CS.val stepV at cM
   try dsimp only at cM
   rw [hka] at cM
   clear hme hab hyb hA MA WA sXA sYA sAA nx1A nx2A nqA
   go_wp2_with fail
   refine cM.mono ?_
   rintro e w' hp
   obtain ⟨rfl,-⟩:=id hp
   go_wp2_with fail
   go_end0
   exact HFIN.out _ _ hp
end
end
end Go.Proofs.YtdgkbicelnnfpaaGreatDoor
