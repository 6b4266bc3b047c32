/- Texts Tqj, Tqk, Trb of the library, joined. -/
import Derived.Test.YtdgkbicelnnfpaaGreatDoorM35
set_option linter.unusedVariables false
set_option linter.unusedSimpArgs false
namespace Go.Proofs.YtdgkbicelnnfpaaGreatDoor
section
set_option maxRecDepth 200000
open Go.RowKit
attribute [local go_sem ↓] Go.wp_at_zero Go.wp_at_succ
section
variable {w0 w:World} {tag:Nat→Nat} {sb rb n:Nat} {N C:List UInt8} {X:Nat→Option Nd} {u:Nat} {wb:Nat} {b o:Nat} {c1:Nat} {a2:Option Addr} {c2:Nat} {S V:List CS} {rt od:Nat} {th:Bool}
set_option maxHeartbeats 4000000 in
theorem shrunk_full (hT:Tab w0) (h:HasX w0 w tag sb rb n N C X u) (hw:WayAt w w0.heap.size tag wb sb (some ⟨b,o,none⟩) c1 a2 c2 S V rt od th) (hu:u≤90000000) (hVl:V.length≤100) (hSl:S.length≤20) (hrt:rt < 2 ^ 64) (i j:Nat) (hij:i=j+1) (x a:CS) (hx:S[i]?=some x) (hj:S[j]?=some a) (hxq:x.t < n∧x.node.nd.sq) (haq:a.node.nd.sq∧a.pl < a.node.K.length) (h0:0 < x.node.K.length) (hmore:¬ 4≤x.node.K.length) (z:Nat) (hz:neighI a.pl a.node.K.length=(z:Int)) (v k:Nat) (hv:(a.node.nd.put a.pl (x.node.K.getD 0 0) x.t).V[z]?=some v) (hk:(a.node.nd.put a.pl (x.node.K.getD 0 0) x.t).K[z]?=some k) (hsh:shadowA N C X v=.full) :
  Calls Tryz.prog 115 #[.pointer (some ⟨wb,0,none⟩),.int .i64 (i:Int)] w (GrownPost w0 w tag sb rb n C (u+4) wb (some ⟨b,o,none⟩) c1 a2 c2 od th .full):=by
 have hi:=(List.getElem?_eq_some_iff.1 hx).1
 obtain ⟨b',o',e',hst,hbf⟩:=hw.r1.step hx
 cases e'
 have hle:=hw.r1.le
 obtain ⟨b',o',e',sA,hbf⟩:=hw.r1.step hj
 cases e'
 have tb:=hw.r1.tg b hbf
 have hnd:=hw.r1.nd x (List.mem_of_getElem? hx)
 have hna:=hw.r1.nd a (List.mem_of_getElem? hj)
 have p1:=hw.p1
 have p0:=hw.p0
 obtain ⟨⟨e0,e1,e2,e3,e4,e5,e6,e7⟩,-⟩:=hst.all
 have hxn:x.t < 2 ^ 64:=by have:=h.lens;omega
 have gK:=Chg.alloc [] w (.cells x.cells.toArray 139)
 have sX:=new_step w x 139
 have h1:=h.keep gK
 have W1:=hw.keep gK
 have M1:=Mv.made gK h.hi
 have sA1:=sA.chg gK (by simp)
 have na1:=hna.2.keep gK
 have nx1:=hnd.1.keep gK
 have nx2:=hnd.2.keep gK
 have tX:=h.hi w.heap.size (Nat.le_refl _)
 obtain ⟨kb,ko,hka,hc⟩:=nx2.rd.rk (by simpa [uvs_len] using h0)
 obtain ⟨x0,hx0⟩:∃ v,x.node.K[0]?=some v:=⟨_,List.getElem?_eq_getElem h0⟩
 have cx:=hc 0 _ (uvs_get hx0)
 rw [Nat.add_zero] at cx
 have bx0:x0 < 2 ^ 64:=nx2.bK _ (List.mem_of_getElem? hx0)
 have hi2:(0:Int) < (x.node.K.length:Int):=by omega
 have dg1:decide ((x.node.K.length:Int) > 0)=true:=decide_eq_true (by omega)
 have dg2:decide (0 < x.node.K.length)=true:=decide_eq_true h0
 have d0:((i:Int) == 0)=false:=by simp;omega
 have hwr:IntKind.i64.wrap ((i:Int) - 1)=(j:Int):=by rw [Go.IntWalk.i64_in _ (by omega)];omega
 have hjS:(j:Int) < (S.length:Int):=by omega
 have cS:=set_anyT (h1.keep (Chg.drew [] _)) b (o+j * 8) a (sA1.chg (Chg.drew [] _) (by simp)) tb (na1.keep (Chg.drew [] _)) haq.1 a.pl x0 x.t haq.2 bx0 hxn
 have hpl:a.pl≤100:=by have h8:a.node.K.length≤100:=haq.1.2;have:=haq.2;omega
 obtain ⟨⟨f0,f1,f2,f3,f4,f5,f6,f7⟩,-⟩:=sX.all
 simp only [Nat.zero_add] at f1 f2 f3 f4 f5 f6 f7
 obtain ⟨⟨k0,k1,k2,k3,k4,k5,k6,k7⟩,-⟩:=sA1.all
 have HD:=mkHid (And.intro hij (And.intro hx (And.intro hj (And.intro hxq (And.intro haq (And.intro hx0 (And.intro h hw)))))))
 have HLT:Hid ((∀ k,k∈fp (some ⟨b,o,none⟩) c1→k < w.heap.size)∧wb < w.heap.size):=mkHid ⟨fun k hk => (hw.r1.rm.lt k hk).2,hw.lt⟩
 unfold CS.cells at gK sX h1 W1 M1 sA1 na1 nx1 nx2 cx cS f0 f1 f2 f3 f4 f5 f6 f7 k0 k1 k2 k3 k4 k5 k6 k7
 rw [hka] at f5 cS h1 W1 M1 sA1 na1 nx1 nx2 cx gK sX f0 f1 f2 f3 f4 f6 f7 k0 k1 k2 k3 k4 k5 k6 k7 e5
 have p11:=W1.p1
 have p01:=W1.p0
 clear hx hj hxq haq hx0 hst sA hna hnd hc hij h hw
 go_enter Tryz.func115,Tryz.ntmps115
 go_wp2_with fail
 generalize (w.alloc (.cells [.int .u64 (x.t:Int),.bool x.was.lf,.slice x.was.ka x.was.K.length x.was.kc,.slice x.was.va x.was.V.length x.was.vc,.bool x.node.lf,.slice (some ⟨kb,ko,none⟩) x.node.K.length x.node.kc,.slice x.node.va x.node.V.length x.node.vc,.int .i64 (x.pl:Int)].toArray 139))=w1 at *
 generalize hbx:w.heap.size=bx at *
 have HBX:=mkHid hbx
 clear hbx
 go_still_tail 12,(by kernel_rfl)
 have hdr:({ heap:=w1.heap,tape:=w1.tape,drawn:=w1.drawn+1,os:=w1.os,output:=w1.output }:World)=w1.drew:=rfl
 rw [hdr]
 clear hdr
 go_wp2_with fail
 refine cS.mono ?_
 rintro e w9 ⟨rfl,r,tag2,w2,hrn,h2,m2,n2,rfl⟩
 obtain ⟨hij,hx,hj,hxq,haq,hx0,h,hw⟩:=HD.out
 have W2:=(W1.keep (Chg.drew [] w1)).mv m2
 have M2:=(M1.then (Chg.drew [] w1)).trans m2
 obtain ⟨W3,g3⟩:=W2.wr hj n2
 have hS3:∀ k,k∈fp (some ⟨b,o,none⟩) c1→tag2 k=4:=W2.r1.tg
 have nbx:bx ∉ fp (some ⟨b,o,none⟩) c1:=fun hm => by have h8:=HLT.out.1 _ hm;have h9:=HBX.out;omega
 have h3:=h2.wrote g3 hS3
 have M3:Mvb (wb :: (fp (some ⟨b,o,none⟩) c1++fp a2 c2)) tag tag2 w (wr3 w2 b (o+j * 8) r):=(M2.b _).wrote g3 (fun k hk _ => List.mem_cons_of_mem _ (List.mem_append_left _ hk))
 have sX3:=(((sX.chg (Chg.drew [] w1) (by simp)).mv m2 tX)).chg g3 nbx
 have tX3:=m2.four tX sX.lt
 have nx13:=((nx1.keep (Chg.drew [] w1)).mv m2).wrote g3 hS3
 have nx23:=((nx2.keep (Chg.drew [] w1)).mv m2).wrote g3 hS3
 have hjl:j < S.length:=(List.getElem?_eq_some_iff.1 hj).1
 obtain ⟨b',o',e',sA3,-⟩:=W3.r1.step (List.getElem?_set_self hjl)
 cases e'
 try dsimp only at sA3
 try dsimp only at W3
 have hrK:r.K.length=a.node.K.length:=by
  have e1:r.K=a.node.K.set a.pl x0:=congrArg Nd.K hrn
  rw [e1,List.length_set]
 obtain ⟨w3,hw3⟩:∃ w3,w3=wr3 w2 b (o+j * 8) r:=⟨_,rfl⟩
 rw [← hw3] at W3 h3 M3 sX3 nx13 nx23 sA3 ⊢
 obtain ⟨⟨f0,f1,f2,f3,f4,f5,f6,f7⟩,-⟩:=sX3.all
 simp only [Nat.zero_add] at f0 f1 f2 f3 f4 f5 f6 f7
 obtain ⟨⟨k0,k1,k2,k3,k4,k5,k6,k7⟩,-⟩:=sA3.all
 try dsimp only at k0 k1 k2 k3 k4 k5 k6 k7
 have cN:=neigh_any ⟨a.t,a.was,r,a.pl⟩ (by dsimp only;omega) w3
 try dsimp only at cN
 unfold CS.val stepV at cN
 try dsimp only at cN
 clear hw3 cS h1 W1 M1 h2 W2 M2 g3 m2 n2 hx hj hxq haq hx0 h hw hij sA1 na1 nx1 nx2 cx p11 p01 sX hrK
 go_wp2_with fail
 refine cN.mono ?_
 rintro e w5 ⟨rfl,g5⟩
 have h5:=h3.keep g5
 have W5:=W3.keep g5
 have M5:=M3.wrote g5 (by simp)
 have sX5:=sX3.chg g5 (by simp)
 have sA5:=sA3.chg g5 (by simp)
 have nx15:=nx13.keep g5
 have nx25:=nx23.keep g5
 obtain ⟨⟨f0,f1,f2,f3,f4,f5,f6,f7⟩,-⟩:=sX5.all
 simp only [Nat.zero_add] at f0 f1 f2 f3 f4 f5 f6 f7
 clear cN h3 W3 M3 sX3 sA3 nx13 nx23 g5 k0 k1 k2 k3 k4 k5 k6 k7
 have hzr:neighI a.pl r.K.length=(z:Int):=by
  have e1:r.K=a.node.K.set a.pl x0:=congrArg Nd.K hrn
  rw [e1,List.length_set]
  exact hz
 rw [hzr]
 have e1:x.node.K.getD 0 0=x0:=by rw [List.getD_eq_getElem?_getD,HD.out.2.2.2.2.2.1];rfl
 rw [e1] at hv hk
 have hv:r.V[z]?=some v:=by rw [show r.V=(a.node.nd.put a.pl x0 x.t).V from congrArg Nd.V hrn];exact hv
 have hk:r.K[z]?=some k:=by rw [show r.K=(a.node.nd.put a.pl x0 x.t).K from congrArg Nd.K hrn];exact hk
 have nr5:NdAt w5 tag2 r:=(W5.r1.nd _ (List.mem_of_getElem? (List.getElem?_set_self hjl))).2
 have hzV:z < r.V.length:=(List.getElem?_eq_some_iff.1 hv).1
 have hzK:z < r.K.length:=(List.getElem?_eq_some_iff.1 hk).1
 obtain ⟨vb,vo,hva,hvc⟩:=nr5.rd.rv (by simp only [uvs_len];omega)
 obtain ⟨lb,lo,hla,hkc⟩:=nr5.rd.rk (by simp only [uvs_len];omega)
 have cv:=hvc z _ (uvs_get hv)
 have ck:=hkc z _ (uvs_get hk)
 have hvB:v < 2 ^ 64:=nr5.bV v (List.mem_of_getElem? hv)
 have hkB:k < 2 ^ 64:=nr5.bK k (List.mem_of_getElem? hk)
 have t5v:tag2 vb=5:=nr5.kv (by omega) vb (by rw [hva];simp [blk])
 have t5k:tag2 lb=5:=nr5.kk (by omega) lb (by rw [hla];simp [blk])
 have hzi:(z:Int) < (r.V.length:Int):=by omega
 have hzj:(z:Int) < (r.K.length:Int):=by omega
 have q1:decide ((x.node.K.length:Int) ≥ 4)=false:=decide_eq_false (by omega)
 have q2:decide (4≤(x.node.K.length:Int))=false:=decide_eq_false (by omega)
 have q3:decide (4≤x.node.K.length)=false:=decide_eq_false (by omega)
 have q4:decide ((z:Int) < 0)=false:=decide_eq_false (by omega)
 obtain ⟨⟨k0,k1,k2,k3,k4,k5,k6,k7⟩,-⟩:=sA5.all
 try dsimp only at k0 k1 k2 k3 k4 k5 k6 k7
 rw [hva] at k6
 rw [hla] at k5
 rw [hka] at f5
 have p5:=W5.p0
 have HRN:=mkHid (And.intro hrn (And.intro hv (And.intro hk (And.intro hz (And.intro hva hla)))))
 have HF:=mkHid (And.intro h5 (And.intro M5 W5))
 clear hrn hv hk hz hva hla hzr hvc hkc e1
 go_wp2_with fail
 have tb2:tag2 b=4:=W5.r1.tg b hbf
 have cSA:=shadow_any hT (h5.keep (Chg.drew [] w5)) v (by omega) _ hsh (by simp)
 have hS5:(fun u9:World => u9.cell? ⟨wb,0,none⟩=some (.pointer (some ⟨sb,0,none⟩))∧u9.cell? ⟨b,o+j * 8+6,none⟩=some (.slice (some ⟨vb,vo,none⟩) r.V.length r.vc)∧u9.cell? ⟨vb,vo+z,none⟩=some (.int .u64 (v:Int))) w5:=⟨p5,k6,cv⟩
 refine wp_region_held_drew (S:=(fun u9:World => u9.cell? ⟨wb,0,none⟩=some (.pointer (some ⟨sb,0,none⟩))∧u9.cell? ⟨b,o+j * 8+6,none⟩=some (.slice (some ⟨vb,vo,none⟩) r.V.length r.vc)∧u9.cell? ⟨vb,vo+z,none⟩=some (.int .u64 (v:Int)))) (by kernel_rfl) ?_ (fun hH => ?_)
 ·exact ⟨p5,k6,cv⟩
 refine wpAnyH_take (i:=0) (oi:={ dst:=some 61,op:=_,type:=_,pos:=_,after:=_,guard:=none }) (v:=?_) rfl (by kernel_rfl) (by kernel_rfl) (by kernel_rfl) (fun _ _ _ h => h) (Or.inl ⟨by rfl,?_⟩) hH ?_
 rotate_left
 ·intro u9 hSu
  try dsimp only at hSu
  obtain ⟨s1,s2,s3⟩:=hSu
  go_simp
  try with_reducible rfl
 try simp only [Act.put,zqf,zqg,zqh]
 refine wpAnyH_take (i:=1) (oi:={ dst:=some 62,op:=_,type:=_,pos:=_,after:=_,guard:=none }) (v:=?_) rfl (by kernel_rfl) (by kernel_rfl) (by kernel_rfl) (fun _ _ _ h => h) (Or.inl ⟨by rfl,?_⟩) hH ?_
 rotate_left
 ·intro u9 hSu
  try dsimp only at hSu
  obtain ⟨s1,s2,s3⟩:=hSu
  go_simp
  try with_reducible rfl
 try simp only [Act.put,zqf,zqg,zqh]
 refine wpAnyH_take (i:=2) (oi:={ dst:=some 63,op:=_,type:=_,pos:=_,after:=_,guard:=none }) (v:=?_) rfl (by kernel_rfl) (by kernel_rfl) (by kernel_rfl) (fun _ _ _ h => h) (Or.inl ⟨by rfl,?_⟩) hH ?_
 rotate_left
 ·intro u9 hSu
  try dsimp only at hSu
  obtain ⟨s1,s2,s3⟩:=hSu
  go_simp
  try with_reducible rfl
 try simp only [Act.put,zqf,zqg,zqh]
 refine wpAnyH_take (i:=3) (oi:={ dst:=some 64,op:=_,type:=_,pos:=_,after:=_,guard:=none }) (v:=?_) rfl (by kernel_rfl) (by kernel_rfl) (by kernel_rfl) (fun _ _ _ h => h) (Or.inl ⟨by rfl,?_⟩) hH ?_
 rotate_left
 ·intro u9 hSu
  try dsimp only at hSu
  obtain ⟨s1,s2,s3⟩:=hSu
  go_simp
  try with_reducible rfl
 try simp only [Act.put,zqf,zqg,zqh]
 refine wpAnyH_take (i:=4) (oi:={ dst:=some 65,op:=_,type:=_,pos:=_,after:=_,guard:=none }) (v:=?_) rfl (by kernel_rfl) (by kernel_rfl) (by kernel_rfl) (fun _ _ _ h => h) (Or.inl ⟨by rfl,?_⟩) hH ?_
 rotate_left
 ·intro u9 hSu
  try dsimp only at hSu
  obtain ⟨s1,s2,s3⟩:=hSu
  go_simp
  try with_reducible rfl
 try simp only [Act.put,zqf,zqg,zqh]
 refine wpAnyH_take (i:=5) (oi:={ dst:=some 66,op:=_,type:=_,pos:=_,after:=_,guard:=none }) (v:=?_) rfl (by kernel_rfl) (by kernel_rfl) (by kernel_rfl) (fun _ _ _ h => h) (Or.inl ⟨by rfl,?_⟩) hH ?_
 rotate_left
 ·intro u9 hSu
  try dsimp only at hSu
  obtain ⟨s1,s2,s3⟩:=hSu
  go_simp
  try with_reducible rfl
 try simp only [Act.put,zqf,zqg,zqh]
 refine wpAnyH_take (i:=6) (oi:={ dst:=some 67,op:=_,type:=_,pos:=_,after:=_,guard:=none }) (v:=?_) rfl (by kernel_rfl) (by kernel_rfl) (by kernel_rfl) (fun _ _ _ h => h) (Or.inl ⟨by rfl,?_⟩) hH ?_
 rotate_left
 ·intro u9 hSu
  try dsimp only at hSu
  obtain ⟨s1,s2,s3⟩:=hSu
  go_simp
  try with_reducible rfl
 try simp only [Act.put,zqf,zqg,zqh]
 refine wpAnyH_take (i:=7) (oi:={ dst:=some 68,op:=_,type:=_,pos:=_,after:=_,guard:=none }) (v:=?_) rfl (by kernel_rfl) (by kernel_rfl) (by kernel_rfl) (fun _ _ _ h => h) (Or.inl ⟨by rfl,?_⟩) hH ?_
 rotate_left
 ·intro u9 hSu
  try dsimp only at hSu
  obtain ⟨s1,s2,s3⟩:=hSu
  go_simp
  try with_reducible rfl
 try simp only [Act.put,zqf,zqg,zqh]
 refine wpAnyH_take (i:=8) (oi:={ dst:=some 69,op:=_,type:=_,pos:=_,after:=_,guard:=none }) (v:=?_) rfl (by kernel_rfl) (by kernel_rfl) (by kernel_rfl) (fun _ _ _ h => h) (Or.inl ⟨by rfl,?_⟩) hH ?_
 rotate_left
 ·intro u9 hSu
  try dsimp only at hSu
  obtain ⟨s1,s2,s3⟩:=hSu
  go_simp
  try with_reducible rfl
 try simp only [Act.put,zqf,zqg,zqh]
 refine wpAnyH_take (i:=9) (oi:={ dst:=some 70,op:=_,type:=_,pos:=_,after:=_,guard:=none }) (v:=?_) rfl (by kernel_rfl) (by kernel_rfl) (by kernel_rfl) (fun _ _ _ h => h) (Or.inl ⟨by rfl,?_⟩) hH ?_
 rotate_left
 ·intro u9 hSu
  try dsimp only at hSu
  obtain ⟨s1,s2,s3⟩:=hSu
  go_simp
  try with_reducible rfl
 try simp only [Act.put,zqf,zqg,zqh]
 refine wpAnyH_take (i:=10) (oi:={ dst:=some 71,op:=_,type:=_,pos:=_,after:=_,guard:=none }) (v:=?_) rfl (by kernel_rfl) (by kernel_rfl) (by kernel_rfl) (fun _ _ _ h => h) (Or.inl ⟨by rfl,?_⟩) hH ?_
 rotate_left
 ·intro u9 hSu
  try dsimp only at hSu
  obtain ⟨s1,s2,s3⟩:=hSu
  go_simp
  try with_reducible rfl
 try simp only [Act.put,zqf,zqg,zqh]
 refine wpAnyH_take (i:=11) (oi:={ dst:=some 72,op:=_,type:=_,pos:=_,after:=_,guard:=none }) (v:=?_) rfl (by kernel_rfl) (by kernel_rfl) (by kernel_rfl) (fun _ _ _ h => h) (Or.inl ⟨by rfl,?_⟩) hH ?_
 rotate_left
 ·intro u9 hSu
  try dsimp only at hSu
  obtain ⟨s1,s2,s3⟩:=hSu
  go_simp
  try with_reducible rfl
 try simp only [Act.put,zqf,zqg,zqh]
 refine wpAnyH_ready (rs:=[12,13]) (by kernel_rfl) (by simp) ?_
 refine AllReadyH.cons (o:={ dst:=some 73,op:=_,type:=_,pos:=_,after:=_,guard:=none }) rfl (fun K9 hK => ?_) (AllReadyH.cons (o:={ dst:=some 7,op:=_,type:=_,pos:=_,after:=_,guard:=none }) rfl (fun K9 hK => ?_) AllReadyH.nil)
 ·go_simp
  go_at_call 72
  refine cSA.mono ?_
  rintro e w6 ⟨rfl,tag6,N6,X6,h6,m6⟩
  exact end_thrown (P:=Tryz.prog) (fn:=Tryz.f115) rfl ⟨rfl,tag6,N6,X6,h6.mono (by omega),(M5.wrote (Chg.drew [] w5) (by simp)).trans (m6.b []) (fun _ h _ => h) (by simp)⟩
 ·go_simp
  have gZ:=Chg.alloc [] w5.drew (.cells #[.int .u64 0,.bool false,.slice none 0 0,.slice none 0 0,.bool false,.slice none 0 0,.slice none 0 0,.int .i64 0] 139)
  have gZ5:=(Chg.drew [] w5).then gZ
  clear hH
  have hSZ:(fun u9:World => u9.cell? ⟨wb,0,none⟩=some (.pointer (some ⟨sb,0,none⟩))∧u9.cell? ⟨b,o+j * 8+6,none⟩=some (.slice (some ⟨vb,vo,none⟩) r.V.length r.vc)∧u9.cell? ⟨vb,vo+z,none⟩=some (.int .u64 (v:Int))) (w5.drew.alloc (.cells #[.int .u64 0,.bool false,.slice none 0 0,.slice none 0 0,.bool false,.slice none 0 0,.slice none 0 0,.int .i64 0] 139)):=⟨gZ5.cellv p5 (by simp),gZ5.cellv k6 (by simp),gZ5.cellv cv (by simp)⟩
  refine hK.out _ _ hSZ (fun hH => ?_)
  clear hK K9
  try simp only [Act.put,zqf,zqg,zqh]
  have cSB:=shadow_any hT (h5.keep gZ5) v (by omega) _ hsh (by simp)
  refine wpAnyH_ready (rs:=[12]) (by kernel_rfl) (by simp) ?_
  refine AllReadyH.cons (o:={ dst:=some 73,op:=_,type:=_,pos:=_,after:=_,guard:=none }) rfl (fun K9 hK => ?_) AllReadyH.nil
  go_simp
  go_at_call 72
  refine cSB.mono ?_
  rintro e w6 ⟨rfl,tag6,N6,X6,h6,m6⟩
  exact end_thrown (P:=Tryz.prog) (fn:=Tryz.f115) rfl ⟨rfl,tag6,N6,X6,h6.mono (by omega),(M5.wrote gZ5 (by simp)).trans (m6.b []) (fun _ h _ => h) (by simp)⟩
end
end
section
set_option maxRecDepth 200000
open Go.RowKit
section
variable {w0 w:World} {tag:Nat→Nat} {sb rb n:Nat} {N C:List UInt8} {X:Nat→Option Nd} {u:Nat} {wb:Nat} {a1:Option Addr} {c1:Nat} {a2:Option Addr} {c2:Nat} {S V:List CS} {rt od:Nat} {th:Bool}
theorem GrownPost.mono {u u':Nat} (hu:u≤u') {r:Out (List UInt8 × (Nat→Option Nd) × List AS × List AS × Nat)} {e:Ending} {w':World} (hp:GrownPost w0 w tag sb rb n C u wb a1 c1 a2 c2 od th r e w'):GrownPost w0 w tag sb rb n C u' wb a1 c1 a2 c2 od th r e w':=by
 unfold GrownPost at hp ⊢
 split at hp
 ·trivial
 ·obtain ⟨he,t,N,X,h1,h2⟩:=hp
  exact ⟨he,t,N,X,h1.mono hu,h2⟩
 ·obtain ⟨he,t,a,c,S,V,h1,h2⟩:=hp
  exact ⟨he,t,a,c,S,V,h1.mono hu,h2⟩
theorem shrunk_any (hT:Tab w0) (h:HasX w0 w tag sb rb n N C X u) (hw:WayAt w w0.heap.size tag wb sb a1 c1 a2 c2 S V rt od th) (hu:u≤90000000) (i:Nat) (hi:i < S.length) (hSl:S.length≤20) (hVl:V.length≤100) (hrt:rt < 2 ^ 64)
  (hxq:∀ s,S[i]?=some s→s.t < n∧s.node.nd.sq) (haq:∀ j a,i=j+1→S[j]?=some a→a.node.nd.sq∧a.pl < a.node.K.length)
  (r:Out (List UInt8 × (Nat→Option Nd) × List AS × List AS × Nat)) (hr:shrunkA N C X (S.map CS.abs) (V.map CS.abs) rt i=r) (hne:r ≠ .stuck) :
  Calls Tryz.prog 115 #[.pointer (some ⟨wb,0,none⟩),.int .i64 (i:Int)] w (GrownPost w0 w tag sb rb n C (u+4) wb a1 c1 a2 c2 od th r):=by
 obtain ⟨x,hx⟩:∃ x,S[i]?=some x:=⟨_,List.getElem?_eq_getElem hi⟩
 obtain ⟨b,o,rfl,-,-⟩:=hw.r1.step hx
 have hq:=hxq x hx
 unfold shrunkA at hr
 rw [List.getElem?_map,hx] at hr
 dsimp only [Option.map_some] at hr
 by_cases h0:i=0
 ·rw [if_pos h0] at hr
  cases ht:topA N (V.map CS.abs) rt x.abs with
  | none => rw [ht] at hr;exact absurd hr.symm hne
  | some q =>
   obtain ⟨N',V',rt'⟩:=q
   rw [ht] at hr
   dsimp only at hr
   subst hr
   exact (shrunk_root h hw hu hVl hSl hrt i h0 x hx hq N' V' rt' ht).mono fun _ _ hp => hp.mono (by omega)
 ·rw [if_neg h0] at hr
  obtain ⟨j,rfl⟩:∃ j,i=j+1:=⟨i - 1,by omega⟩
  rw [Nat.add_sub_cancel] at hr
  obtain ⟨a,ha⟩:∃ a,S[j]?=some a:=⟨_,List.getElem?_eq_getElem (by omega)⟩
  have hqa:=haq j a rfl ha
  rw [List.getElem?_map,ha] at hr
  dsimp only [Option.map_some] at hr
  by_cases hk0:x.node.K.length=0
  ·rw [if_pos (show x.abs.node.K.length=0 from hk0)] at hr
   exact absurd hr.symm hne
  ·rw [if_neg (show ¬ x.abs.node.K.length=0 from hk0)] at hr
   by_cases hf:4≤x.node.K.length ∨ neighI a.pl a.node.K.length < 0
   ·rw [if_pos (show 4≤x.abs.node.K.length ∨ neighI a.abs.pl a.abs.node.K.length < 0 from hf)] at hr
    subst hr
    exact (shrunk_few h hw hu hVl hSl hrt (j+1) j rfl x a hx ha hq hqa (by omega) hf).mono fun _ _ hp => hp.mono (by omega)
   ·rw [if_neg (show ¬ (4≤x.abs.node.K.length ∨ neighI a.abs.pl a.abs.node.K.length < 0) from hf)] at hr
    obtain ⟨z,hz⟩:∃ z:Nat,neighI a.pl a.node.K.length=(z:Int):=⟨(neighI a.pl a.node.K.length).toNat,by omega⟩
    have hz2:(neighI a.abs.pl a.abs.node.K.length).toNat=z:=by
     show (neighI a.pl a.node.K.length).toNat=z
     rw [hz]
     rfl
    rw [hz2] at hr
    cases hv:(a.abs.node.put a.abs.pl (x.abs.node.K.getD 0 0) x.abs.t).V[z]? with
    | none => rw [hv] at hr;exact absurd hr.symm hne
    | some v =>
     cases hk:(a.abs.node.put a.abs.pl (x.abs.node.K.getD 0 0) x.abs.t).K[z]? with
     | none => rw [hv,hk] at hr;exact absurd hr.symm hne
     | some k =>
      rw [hv,hk] at hr
      dsimp only at hr
      cases hs:shadowA N C X v with
      | stuck => rw [hs] at hr;exact absurd hr.symm hne
      | full =>
       rw [hs] at hr
       have hr:Out.full=r:=hr
       subst hr
       exact shrunk_full hT h hw hu hVl hSl hrt (j+1) j rfl x a hx ha hq hqa (by omega) (by omega) z hz v k hv hk hs
      | ok q =>
       obtain ⟨N1,X1,t,m⟩:=q
       rw [hs] at hr
       dsimp only at hr
       obtain ⟨me,hme⟩:∃ me,(if z < a.abs.pl then meetA N1 (V.map CS.abs) ⟨a.abs.t,a.abs.was,(a.abs.node.put a.abs.pl (x.abs.node.K.getD 0 0) x.abs.t).put z k t,a.abs.pl⟩ ⟨t,m,m,0⟩ x.abs a.abs.pl else meetA N1 (V.map CS.abs) ⟨a.abs.t,a.abs.was,(a.abs.node.put a.abs.pl (x.abs.node.K.getD 0 0) x.abs.t).put z k t,a.abs.pl⟩ x.abs ⟨t,m,m,0⟩ z)=me:=⟨_,rfl⟩
       rw [hme] at hr
       cases me with
       | none => exact absurd hr.symm hne
       | some q =>
        obtain ⟨N2,V2,a3⟩:=q
        dsimp only at hr
        subst hr
        exact shrunk_more hT h hw hu hVl hSl hrt (j+1) j rfl x a hx ha hq hqa (by omega) (by omega) z hz v k hv hk N1 X1 t m hs N2 V2 a3 hme
end
end
section
set_option maxRecDepth 200000
open Go.RowKit
attribute [local go_sem ↓] Go.wp_at_zero Go.wp_at_succ
def shrinks (L:List AS) (i:Nat):Bool:=
 match L[i]? with
 | none => false
 | some x => decide (x.node.K.length=x.node.V.length∧x.node.K.length≤100) && (i == 0 || (match L[i - 1]? with
  | none => false
  | some y => decide (y.node.K.length=y.node.V.length∧y.node.K.length≤100∧y.pl < y.node.K.length)))
def comeS (n:Nat) (C:List UInt8) (s:WaySt) (i:Nat):Out WaySt:=
 if shrinks s.2.2.1 i=true then (match shrunkA s.1 C s.2.1 s.2.2.1 s.2.2.2.1 s.2.2.2.2 i with
  | .stuck => .stuck
  | .full => .full
  | .ok r => if r.2.2.2.1.all (fun z => decide (z.t < n))=true then .ok r else .stuck) else .stuck
def takenL (L:List AS) (key:Nat):Out (List AS × Nat × Bool):=
 match L[L.length - 1]? with
 | none => .stuck
 | some x => .ok (L.set (L.length - 1) ⟨x.t,x.was,(if x.node.is key then x.node.rem (x.node.find key) else x.node),x.pl⟩,(if x.node.is key then x.node.V.getD (x.node.find key) 0 else 0),x.node.is key)
def removedA (N C:List UInt8) (X:Nat→Option Nd) (root key:Nat):Out (List UInt8 × (Nat→Option Nd) × Nat × Nat × Bool):=
 match downA N C X root key with
 | .stuck => .stuck
 | .full => .full
 | .ok (N1,X1,L) =>
  match takenL L key,L[0]? with
  | .ok (L2,od,th),some y =>
   match upA (comeS N.length C) (N1,X1,L2,[],y.t) with
   | .stuck => .stuck
   | .full => .full
   | .ok (N2,X2,_,_,rt) => .ok (N2,X2,rt,od,th)
  | _,_ => .stuck
theorem shrinks_x {L:List AS} {i:Nat} (h:shrinks L i=true) {x:AS} (hx:L[i]?=some x):x.node.sq:=by
 unfold shrinks at h
 rw [hx] at h
 simp only [Bool.and_eq_true,decide_eq_true_eq] at h
 exact h.1
theorem shrinks_y {L:List AS} {j:Nat} (h:shrinks L (j+1)=true) {y:AS} (hy:L[j]?=some y):y.node.sq∧y.pl < y.node.K.length:=by
 unfold shrinks at h
 cases hx:L[j+1]? with
 | none => rw [hx] at h;cases h
 | some x =>
  rw [hx] at h
  dsimp only at h
  rw [Nat.add_sub_cancel,hy] at h
  simp only [Bool.or_eq_true,Bool.and_eq_true,decide_eq_true_eq] at h
  rcases h with ⟨-,h | h⟩
  ·simp at h
  ·exact ⟨⟨h.1,h.2.1⟩,h.2.2⟩
theorem topA_len {N:List UInt8} {V:List AS} {rt:Nat} {x:AS} {N':List UInt8} {V':List AS} {rt':Nat} (h:topA N V rt x=some (N',V',rt')):V'.length≤V.length+2:=by
 rcases topA_cases h with ⟨-,-,-,rfl,-⟩ | ⟨-,-,-,-,rfl⟩ | ⟨-,-,rfl,-⟩
 ·omega
 ·omega
 ·have:=kept_len V x;omega
theorem meetA_is {N:List UInt8} {V:List AS} {ah x y:AS} {z:Nat} {N':List UInt8} {V':List AS} {a':AS} (h:meetA N V ah x y z=some (N',V',a')):V'.length≤V.length+2∧a'.t=ah.t:=by
 unfold meetA at h
 split at h
 ·cases hl:lessA N y.t with
  | none => rw [hl] at h;cases h
  | some N2 =>
   rw [hl] at h
   cases h
   have:=kept_len V ⟨x.t,x.was,x.node.cat y.node,x.pl⟩
   exact ⟨by omega,rfl⟩
 ·cases h
  have h1:=kept_len V ⟨x.t,x.was,(x.node.cat y.node).lo,x.pl⟩
  have h2:=kept_len (keptV V ⟨x.t,x.was,(x.node.cat y.node).lo,x.pl⟩) ⟨y.t,y.was,(x.node.cat y.node).hi,y.pl⟩
  exact ⟨by omega,rfl⟩
theorem shrunk_len {N C:List UInt8} {X:Nat→Option Nd} {L V:List AS} {rt i:Nat} {N':List UInt8} {X':Nat→Option Nd} {L' V':List AS} {rt':Nat} (h:shrunkA N C X L V rt i=.ok (N',X',L',V',rt')) :
  L'.length=L.length∧V'.length≤V.length+2∧∀ z,z∈L'→∃ z0,z0∈L∧z.t=z0.t:=by
 have hset:∀ (a:AS) (q:AS),L[i - 1]?=some a→q.t=a.t→(L.set (i - 1) q).length=L.length∧∀ z,z∈L.set (i - 1) q→∃ z0,z0∈L∧z.t=z0.t:=fun a q ha hq => ⟨by simp,fun z hz => by
  rcases List.mem_or_eq_of_mem_set hz with h9 | rfl
  ·exact ⟨z,h9,rfl⟩
  ·exact ⟨a,List.mem_of_getElem? ha,hq⟩⟩
 unfold shrunkA at h
 cases hx:L[i]? with
 | none => rw [hx] at h;cases h
 | some x =>
  rw [hx] at h
  dsimp only at h
  split at h
  ·cases ht:topA N V rt x with
   | none => rw [ht] at h;cases h
   | some q =>
    obtain ⟨N2,V2,rt2⟩:=q
    rw [ht] at h
    cases h
    exact ⟨rfl,topA_len ht,fun z hz => ⟨z,hz,rfl⟩⟩
  ·cases ha:L[i - 1]? with
   | none => rw [ha] at h;cases h
   | some a =>
    rw [ha] at h
    dsimp only at h
    split at h
    ·cases h
    ·split at h
     ·cases h
      obtain ⟨h1,h2⟩:=hset a ⟨a.t,a.was,a.node.put a.pl (x.node.K.getD 0 0) x.t,a.pl⟩ ha rfl
      have:=kept_len V x
      exact ⟨h1,by omega,h2⟩
     ·split at h
      ·split at h
       ·cases h
       ·cases h
       ·split at h
        ·cases h
        ·rename_i N3 V3 a3 hme
         have hm:V3.length≤V.length+2∧a3.t=a.t:=by
          split at hme
          ·have q9:=meetA_is hme;exact ⟨q9.1,q9.2⟩
          ·have q9:=meetA_is hme;exact ⟨q9.1,q9.2⟩
         cases h
         obtain ⟨h1,h2⟩:=hset a _ ha hm.2
         exact ⟨h1,hm.1,h2⟩
      ·cases h
theorem comeS_is {n:Nat} {C:List UInt8} {s:WaySt} {i:Nat} (h:comeS n C s i ≠ .stuck):shrinks s.2.2.1 i=true∧comeS n C s i=shrunkA s.1 C s.2.1 s.2.2.1 s.2.2.2.1 s.2.2.2.2 i:=by
 unfold comeS at h ⊢
 split at h
 case isFalse => exact absurd rfl h
 case isTrue hs =>
  refine ⟨hs,?_⟩
  rw [if_pos hs]
  split at h
  ·exact absurd rfl h
  ·rename_i h1;rw [h1]
  ·rename_i r h1
   rw [h1]
   try dsimp only
   split at h
   ·rename_i h2;rw [if_pos h2]
   ·exact absurd rfl h
theorem comeS_ok {n:Nat} {C:List UInt8} {s s':WaySt} {i:Nat} (h:comeS n C s i=.ok s'):s'.2.2.1.length=s.2.2.1.length∧s'.2.2.2.1.length≤s.2.2.2.1.length+2∧(∀ z,z∈s'.2.2.1→∃ z0,z0∈s.2.2.1∧z.t=z0.t)∧∀ z,z∈s'.2.2.2.1→z.t < n:=by
 have h1:=(comeS_is (n:=n) (C:=C) (s:=s) (i:=i) (by rw [h];simp)).2
 have h2:∀ z,z∈s'.2.2.2.1→z.t < n:=by
  unfold comeS at h
  split at h
  case isFalse => cases h
  case isTrue hs =>
   split at h
   ·cases h
   ·cases h
   ·split at h
    ·rename_i h3
     cases h
     intro z hz
     simpa using List.all_eq_true.1 h3 z hz
    ·cases h
 rw [h] at h1
 obtain ⟨N',X',L',V',rt'⟩:=s'
 obtain ⟨e1,e2,e3⟩:=shrunk_len h1.symm
 exact ⟨e1,e2,e3,h2⟩
section
variable {w0 w:World} {tag:Nat→Nat} {sb rb n:Nat} {N C:List UInt8} {X:Nat→Option Nd} {u:Nat}
theorem shrunk_enters:∀ (args:Array Value) (w:World),(callFunc 115 args).run Tryz.prog w=.ok (.enter 115 args) w:=enters_of Tryz.func115 (by kernel_rfl) rfl
set_option maxHeartbeats 2000000 in
theorem removed_any (hT:Tab w0) (h:HasX w0 w tag sb rb n N C X u) (root key:Nat) (hkey:key < 2 ^ 64) (hu:u≤70000000) (r:Out (List UInt8 × (Nat→Option Nd) × Nat × Nat × Bool)) (hr:removedA N C X root key=r) (hne:r ≠ .stuck) :
  Calls Tryz.prog 63 #[.pointer (some ⟨sb,0,none⟩),.int .u64 (root:Int),.int .u64 (key:Int)] w (InsPost w0 w tag sb rb n C (u+4000) r):=by
 have g0:=Chg.alloc [] w (.cells wayZ 124)
 have h0:=h.keep g0
 have t0:=new6 w 124
 have tb:=h.hi _ (Nat.le_refl _)
 have M0:=Mv.made g0 h.hi
 have hz0:(w.alloc (.cells wayZ 124)).heap.size=w.heap.size+1:=by simp
 unfold removedA at hr
 obtain ⟨dr,hdr⟩:∃ dr,downA N C X root key=dr:=⟨_,rfl⟩
 rw [hdr] at hr
 have HT:=mkHid hT
 go_enter Tryz.func63,Tryz.ntmps63
 go_wp2_with fail
 unfold wayZ at h0 t0 M0 hz0 g0
 generalize (w.alloc (.cells #[.pointer none,.slice none 0 0,.slice none 0 0,.int .u64 0,.int .u64 0,.bool false] 124))=w1 at *
 cases dr with
 | stuck => exact absurd hr.symm hne
 | full =>
  have hr:Out.full=r:=hr
  subst hr
  refine (down_anyT hT h0 root key hkey (by omega) .full hdr (by simp)).mono ?_
  rintro e w2 ⟨rfl,tag2,N2,X2,h2,m2⟩
  exact end_thrown rfl ⟨rfl,tag2,N2,X2,h2.mono (by omega),M0.trans m2⟩
 | ok dq =>
  obtain ⟨N1,X1,L⟩:=dq
  dsimp only at hr
  refine (down_anyT hT h0 root key hkey (by omega) _ hdr (by simp)).mono ?_
  rintro e w2 ⟨wb,a1,c1,S,rt,rfl,rfl,⟨y,hy,hyt⟩,hSn,hSl,hwb,hfp,tag2,h2,m2,W2⟩
  have hwr1:w.heap.size < w1.heap.size:=by omega
  have t2:=m2.there t0 tb
  have b2:=m2.four tb hwr1
  have M2:=M0.trans m2
  obtain ⟨k,hk⟩:∃ k,S.length=k+1:=⟨S.length - 1,by have:=(List.getElem?_eq_some_iff.1 hy).1;omega⟩
  obtain ⟨x,hx⟩:∃ x,S[k]?=some x:=⟨_,List.getElem?_eq_getElem (by omega)⟩
  have hxs:=hSn x (List.mem_of_getElem? hx)
  have cT:=take_anyT h2 W2 k hk (by omega) x hx hxs.2 key
  obtain ⟨fi,hfi⟩:∃ fi,x.node.nd.find key=fi:=⟨_,rfl⟩
  obtain ⟨is,his⟩:∃ is,x.node.nd.is key=is:=⟨_,rfl⟩
  rw [hfi,his] at cT
  have hfl:fi≤x.node.K.length:=by rw [← hfi];exact find_le key
  have hil:is=true→fi < x.node.K.length:=fun e => by
   have:=is_lt (his.trans e)
   rw [hfi] at this
   exact this.1
  have HB:=mkHid (And.intro hwb hfp)
  have HFI:=mkHid (And.intro hfi his)
  have HK:=mkHid hk
  clear hwb hfp hfi his
  go_wp2_with fail
  refine cT.mono ?_
  rintro e w3 ⟨rfl,tag3,q,h3,m3,W3,hqn⟩
  obtain ⟨od9,hod9⟩:∃ od9,(if is=true then x.node.nd.V.getD fi 0 else 0)=od9:=⟨_,rfl⟩
  rw [hod9,Bool.or_false] at W3
  have HOD:=mkHid hod9
  clear hod9
  have hkS:S.length=k+1:=HK.out
  have hy6:(S.set k { x with node:=q }).length=k+1:=by rw [List.length_set];exact hkS
  have m03:Mv tag tag3 w w3:=mv_of m3 M2 (fun j hj => by
   rcases List.mem_cons.1 hj with rfl | h9
   ·have:=HB.out.1;omega
   ·have:=HB.out.2 j h9;omega)
  have nb:w.heap.size ∉ wb :: fp a1 c1:=fun hm => by
   rcases List.mem_cons.1 hm with e9 | h9
   ·have:=HB.out.1;omega
   ·have:=HB.out.2 _ h9;omega
  have t3:w3.there w.heap.size 0 6:=by
   obtain ⟨T,hT3,h1⟩:=m3.c
   exact there_chg t2 hT3 (fun hm => (h1 _ hm).elim (by omega) (fun q => q.elim (by omega) nb))
  have b3:=m3.four b2 (there_lt t2 (by decide))
  have hleaf:takenL (S.map CS.abs) key=.ok ((S.set k { x with node:=q }).map CS.abs,od9,is):=by
   rw [← HOD.out]
   unfold takenL
   rw [List.length_map,hkS,Nat.add_sub_cancel,List.getElem?_map,hx]
   dsimp only [Option.map_some]
   rw [show x.abs.node.find key=fi from HFI.out.1,show x.abs.node.is key=is from HFI.out.2,List.map_set]
   have e9:CS.abs { x with node:=q }=⟨x.t,x.was.nd,q.nd,x.pl⟩:=rfl
   rw [e9,hqn]
   rfl
  have hroot:(S.map CS.abs)[0]?=some y.abs:=by rw [List.getElem?_map,hy];rfl
  rw [hleaf,hroot] at hr
  dsimp only at hr
  rw [show y.abs.t=rt from hyt,show N.length=n from h.lens.1] at hr
  obtain ⟨ur,hur⟩:∃ ur,upA (comeS n C) (N1,X1,(S.set k { x with node:=q }).map CS.abs,[],rt)=ur:=⟨_,rfl⟩
  rw [hur] at hr
  have htS:∀ z,z∈(S.set k { x with node:=q }).map CS.abs→z.t < n:=fun z hz => by
   obtain ⟨z',hz',rfl⟩:=List.mem_map.1 hz
   rcases List.mem_or_eq_of_mem_set hz' with h9 | rfl
   ·exact (hSn z' h9).1
   ·exact hxs.1
  have hrtn:rt < 2 ^ 64:=by
   have:=(hSn y (List.mem_of_getElem? hy)).1
   have:=h.lens
   omega
  have HUR:=mkHid hur
  have HR:=mkHid hr
  have HMB:=mkHid (And.intro m03 nb)
  have HTS:=mkHid htS
  have hrtn':=hrtn
  have W6:=W3
  have h6:=h3
  have t6:=t3
  have b5:=b3
  clear hur hr htS hleaf hroot m03 nb hqn
  have cU:=fun (rr:Out WaySt) (hrr:upA (comeS n C) (N1,X1,(S.set k { x with node:=q }).map CS.abs,[],rt)=rr) (hrn:rr ≠ .stuck) => up_anyT HT.out h6 W6 (by omega) 4 (by decide) (by omega) (by omega) hrtn 115 shrunk_enters (comeS n C) (fun _ s => (∀ z,z∈s.2.2.1→z.t < n)∧∀ z,z∈s.2.2.2.1→z.t < n) (fun i s s' hI hc => by
    obtain ⟨-,-,hL1,hV1⟩:=comeS_ok hc
    refine ⟨fun z hz => ?_,hV1⟩
    obtain ⟨z0,h1,h2⟩:=hL1 z hz
    rw [h2]
    exact hI.1 z0 h1) (fun i s s' hI hc => by
    obtain ⟨hL0,hL2,-,-⟩:=comeS_ok hc
    exact ⟨hL0,hL2⟩) (fun s hs => hs.2) (fun i w1 tg N1 X1 u1 b2 d2 S1 V1 rt1 hi hS1 hV1 hI hr1 hu1 hX1 hW1 hne1 => by
    obtain ⟨hsp,hcg⟩:=comeS_is hne1
    dsimp only at hsp hcg
    refine shrunk_any HT.out hX1 hW1 hu1 i hi hS1 (by omega) hr1 (fun s hs => ?_) (fun j a hj ha => ?_) _ hcg.symm hne1
    ·have hm:(S1.map CS.abs)[i]?=some s.abs:=by rw [List.getElem?_map,hs];rfl
     exact ⟨hI.1 _ (List.mem_of_getElem? hm),shrinks_x hsp hm⟩
    ·subst hj
     have hy2:(S1.map CS.abs)[j]?=some a.abs:=by rw [List.getElem?_map,ha];rfl
     exact shrinks_y hsp hy2) ⟨HTS.out,by simp⟩ rfl rr hrr hrn
  obtain ⟨m06,nb⟩:=HMB.out
  have HM:=mkHid (And.intro m06 nb)
  clear m06 nb
  cases ur with
  | stuck => exact absurd HR.out.symm hne
  | full =>
   have cU1:=cU .full HUR.out (by simp)
   have hr:Out.full=r:=HR.out
   subst hr
   clear cU
   go_wp2_with fail
   refine cU1.mono ?_
   rintro e w7 ⟨rfl,tag7,N7,X7,h7,m7⟩
   refine end_thrown rfl ⟨rfl,tag7,N7,X7,h7.mono (by omega),mv_of m7 HM.out.1 (fun j hj => ?_)⟩
   rcases List.mem_cons.1 hj with rfl | h9
   ·have:=HB.out.1;omega
   ·rcases List.mem_append.1 h9 with h8 | h8
    ·have:=HB.out.2 j h8;omega
    ·simp [fp_zero] at h8
  | ok uq =>
   obtain ⟨N7,X7,L7,V7,r7⟩:=uq
   have cU1:=cU _ HUR.out (by simp)
   have hr:Out.ok (N7,X7,r7,od9,is)=r:=HR.out
   subst hr
   clear cU
   go_wp2_with fail
   refine cU1.mono ?_
   rintro e w7 ⟨rfl,tag7,a2',c2',S7,V7',h7,m7,W7,eS,eV,hf7,hrt7⟩
   have hjj:∀ j,j∈wb :: (fp a1 c1++fp none 0)→w.heap.size+1≤j:=fun j hj => by
    rcases List.mem_cons.1 hj with rfl | h9
    ·have:=HB.out.1;omega
    ·rcases List.mem_append.1 h9 with h8 | h8
     ·have:=HB.out.2 j h8;omega
     ·simp [fp_zero] at h8
   have m07:=mv_of m7 HM.out.1 (fun j hj => by have:=hjj j hj;omega)
   have t7:w7.there w.heap.size 0 6:=by
    obtain ⟨T,hT7,h1⟩:=m7.c
    exact there_chg t6 hT7 (fun hm => (h1 _ hm).elim (by omega) (fun q => q.elim (by omega) (fun hm => by have:=hjj _ hm;omega)))
   have b7:=m7.four b5 (there_lt t6 (by decide))
   obtain ⟨⟨v0,v1,v2,v3,v4,v5,r0,r1,r2,r3,r4,r5⟩,y0,y1,y2,y3,y4,y5⟩:=cells6 t7
   have p0:=W7.p0
   have p1:=W7.p1
   have p2:=W7.p2
   have p3:=W7.p3
   have p4:=W7.p4
   have p5:=W7.p5
   have H7:=mkHid (And.intro h7 (And.intro m07 b7))
   clear h7 m7 W7 eS eV hf7 m07 t7
   go_wp2_with fail
   refine bodyPost_ret (v:=wayV sb a1 S7.length c1 a2' V7'.length c2' r7 od9 is) (by simp [results,Tryz.results63,go_sem,r0,r1,r2,r3,r4,r5,wayV]) rfl ?_
   obtain ⟨h7,m07,b7⟩:=H7.out
   have G:=six_chg w7 w.heap.size (.pointer (some ⟨sb,0,none⟩)) (.slice a1 S7.length c1) (.slice a2' V7'.length c2') (.int .u64 (r7:Int)) (.int .u64 (od9:Int)) (.bool is)
   exact ⟨a1,S7.length,c1,a2',V7'.length,c2',rfl,tag7,(h7.wrote G (fun j hj => by simp at hj;subst hj;exact b7)).mono (by omega),m07.wrote G (fun j hj => by simp at hj;omega)⟩
end
end
end Go.Proofs.YtdgkbicelnnfpaaGreatDoor
