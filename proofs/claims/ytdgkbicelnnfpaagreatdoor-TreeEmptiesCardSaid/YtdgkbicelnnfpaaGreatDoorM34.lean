/- Texts Tqg, Tqh of the library, joined. -/
import Derived.Test.YtdgkbicelnnfpaaGreatDoorM33
set_option linter.unusedVariables false
set_option linter.unusedSimpArgs false
namespace Go.Proofs.YtdgkbicelnnfpaaGreatDoor
section
set_option maxRecDepth 200000
open Go.RowKit
attribute [local go_sem ↓] Go.wp_at_zero Go.wp_at_succ
section
variable {w0 w:World} {tag:Nat→Nat} {sb rb n:Nat} {N C:List UInt8} {X:Nat→Option Nd} {u:Nat} {wb:Nat} {b o:Nat} {c1:Nat} {a2:Option Addr} {c2:Nat} {S V:List CS} {rt od:Nat} {th:Bool}
set_option maxHeartbeats 2000000 in
theorem meet_join (h:HasX w0 w tag sb rb n N C X u) (hw:WayAt w w0.heap.size tag wb sb (some ⟨b,o,none⟩) c1 a2 c2 S V rt od th) (hVl:V.length≤100) (hrt:rt < 2 ^ 64) (j:Nat) (ah:CS) (hj:S[j]?=some ah) (ha:ah.node.nd.sq) (x y:CS) (hx:NdAt w tag x.was∧NdAt w tag x.node) (hy:NdAt w tag y.was∧NdAt w tag y.node) (hxs:x.node.nd.sq) (hys:y.node.nd.sq) (hyt:y.t < n) (z:Nat) (hz:z < ah.node.K.length) (h8:x.node.K.length+y.node.K.length≤8) (N':List UInt8) (hl:lessA N y.t=some N') :
  Calls Tryz.prog 161 #[.pointer (some ⟨wb,0,none⟩),.pointer (some ⟨b,o+j * 8,none⟩),x.val,y.val,.int .i64 (z:Int)] w (GrownPost w0 w tag sb rb n C u wb (some ⟨b,o,none⟩) c1 a2 c2 od th (.ok (N',X,(S.map CS.abs).set j ⟨ah.t,ah.was.nd,ah.node.nd.rem z,ah.pl⟩,keptV (V.map CS.abs) ⟨x.t,x.was.nd,x.node.nd.cat y.node.nd,x.pl⟩,rt))):=by
 have hyn:y.t < 2 ^ 64:=by have:=h.lens;omega
 have gX:=Chg.alloc [] w (.cells x.cells.toArray 139)
 have gY:=Chg.alloc [] (w.alloc (.cells x.cells.toArray 139)) (.cells y.cells.toArray 139)
 have sX:=(new_step w x 139).chg gY (by simp)
 have sY:=new_step (w.alloc (.cells x.cells.toArray 139)) y 139
 rw [show (w.alloc (.cells x.cells.toArray 139)).heap.size=w.heap.size+1 by simp] at sY
 have h2:=(h.keep gX).keep gY
 have W2:=(hw.keep gX).keep gY
 have M2:=(Mv.made gX h.hi).then gY
 have x1:=(hx.1.keep gX).keep gY
 have x2:=(hx.2.keep gX).keep gY
 have y1:=(hy.1.keep gX).keep gY
 have y2:=(hy.2.keep gX).keep gY
 have tX:=h.hi w.heap.size (Nat.le_refl _)
 have tY:=h.hi (w.heap.size+1) (by omega)
 have hwl:=hw.lt
 have HLT:Hid ((∀ k,k∈fp (some ⟨b,o,none⟩) c1→k < w.heap.size)∧(∀ k,k∈fp a2 c2→k < w.heap.size)∧wb < w.heap.size):=mkHid ⟨fun k hk => (hw.r1.rm.lt k hk).2,fun k hk => (hw.r2.rm.lt k hk).2,hwl⟩
 obtain ⟨⟨f0,f1,f2,f3,f4,f5,f6,f7⟩,z0,z1,z2,z3,z4,z5,z6,z7⟩:=sX.all
 obtain ⟨⟨k0,k1,k2,k3,k4,k5,k6,k7⟩,-⟩:=sY.all
 simp only [Nat.zero_add] at f1 f2 f3 f4 f5 f6 f7 z0 z1 z2 z3 z4 z5 z6 z7 k1 k2 k3 k4 k5 k6 k7
 have cJ:=kjoinN h2 x.node y.node x2 hxs y2 hys
 unfold CS.val stepV
 unfold CN.val at cJ
 unfold CS.cells at gX gY sX sY h2 W2 M2 x1 x2 y1 y2 f0 f1 f2 f3 f4 f5 f6 f7 k0 k1 k2 k3 k4 k5 k6 k7 z4 z5 z6 cJ
 clear z0 z1 z2 z3 z7 gX gY
 have hxl:x.node.K.length≤100:=hxs.2
 have hyl:y.node.K.length≤100:=hys.2
 have hsum:IntKind.i64.wrap ((x.node.K.length:Int)+(y.node.K.length:Int))=((x.node.K.length+y.node.K.length:Nat):Int):=by rw [Go.IntWalk.i64_in _ (by omega)];omega
 have d8:decide (((x.node.K.length+y.node.K.length:Nat):Int)≤8)=true:=decide_eq_true (by omega)
 have HV:=mkHid (And.intro h hw)
 clear h hw
 go_enter Tryz.func161,Tryz.ntmps161
 go_wp2_with fail
 generalize ((w.alloc (.cells [.int .u64 (x.t:Int),.bool x.was.lf,.slice x.was.ka x.was.K.length x.was.kc,.slice x.was.va x.was.V.length x.was.vc,.bool x.node.lf,.slice x.node.ka x.node.K.length x.node.kc,.slice x.node.va x.node.V.length x.node.vc,.int .i64 (x.pl:Int)].toArray 139)).alloc (.cells [.int .u64 (y.t:Int),.bool y.was.lf,.slice y.was.ka y.was.K.length y.was.kc,.slice y.was.va y.was.V.length y.was.vc,.bool y.node.lf,.slice y.node.ka y.node.K.length y.node.kc,.slice y.node.va y.node.V.length y.node.vc,.int .i64 (y.pl:Int)].toArray 139))=w2 at *
 have HSZ:Hid (w.heap.size+1 < w2.heap.size):=mkHid (by have:=sY.lt;exact this)
 generalize hbx:w.heap.size=bx at *
 generalize hby:bx+1=by' at *
 have HBX:=mkHid (And.intro hbx hby)
 have hne:bx ≠ by':=by omega
 clear hbx hby
 refine cJ.mono ?_
 rintro e w3 ⟨q,rfl,hq,tag3,h3,m3,n3⟩
 have W3:=W2.mv m3
 have M3:=M2.trans m3
 have sX3:=sX.mv m3 tX
 have sY3:=sY.mv m3 tY
 have x13:=x1.mv m3
 have tX3:=m3.four tX sX.lt
 have tY3:=m3.four tY sY.lt
 obtain ⟨⟨f0,f1,f2,f3,f4,f5,f6,f7⟩,z0,z1,z2,z3,z4,z5,z6,z7⟩:=sX3.all
 simp only [Nat.zero_add] at f0 f1 f2 f3 f4 f5 f6 f7 z0 z1 z2 z3 z4 z5 z6 z7
 obtain ⟨w4,hw4⟩:∃ w4,w4=wr3 w3 bx 0 q:=⟨_,rfl⟩
 have g4:Chg [bx] w3 w4:=by rw [hw4];exact wr3_chg w3 bx 0 q
 have hSx:∀ k,k∈[bx]→tag3 k=4:=fun k hk => by simp at hk;subst hk;exact tX3
 have hxa:∀ k,k∈fp (some ⟨b,o,none⟩) c1→k ∉ [bx]:=fun k hk hm => by have h1:=HLT.out.1 k hk;have h2:=HBX.out.1;simp at hm;omega
 have hxb:∀ k,k∈fp a2 c2→k ∉ [bx]:=fun k hk hm => by have h1:=HLT.out.2.1 k hk;have h2:=HBX.out.1;simp at hm;omega
 have h4:=h3.wrote g4 hSx
 have W4:=W3.wrote g4 hSx (by have h1:=HLT.out.2.2;have h2:=HBX.out.1;simp;omega) hxa hxb
 have M4:=M3.wrote g4 (fun k hk => by simp at hk;have h2:=HBX.out.1;omega)
 have sX4:StepAt w4 bx 0 ⟨x.t,x.was,q,x.pl⟩:=by rw [hw4];exact sX3.wr q
 have sY4:=sY3.chg g4 (by simpa using fun h => hne h.symm)
 have x14:=x13.wrote g4 hSx
 have q4:=n3.wrote g4 hSx
 have cK:=keep_any h4 W4 ⟨x.t,x.was,q,x.pl⟩ ⟨x14,q4⟩ (by omega)
 unfold CS.val stepV at cK
 try dsimp only at cK
 have HW:=mkHid hw4
 unfold CN.val
 clear h3 m3 n3 W3 M3 x13 g4 hw4 sX sY h2 W2 M2 x1 x2 y1 y2 cJ k0 k1 k2 k3 k4 k5 k6 k7
 go_wp2_with fail
 rw [show (((w3.setCell ⟨bx,4,none⟩ (.bool q.lf)).setCell ⟨bx,5,none⟩ (.slice q.ka q.K.length q.kc)).setCell ⟨bx,6,none⟩ (.slice q.va q.V.length q.vc))=w4 by rw [HW.out];unfold wr3;simp only [Nat.zero_add]]
 refine cK.mono ?_
 rintro e w5 ⟨rfl,a2',c2',W5,g5,hf5⟩
 have hS5:∀ k,k∈wb :: fp a2 c2→tag3 k=4:=fun k hk => by
  rcases List.mem_cons.1 hk with rfl | h9
  ·exact W4.tb
  ·exact W4.r2.tg k h9
 have nby:by' ∉ wb :: fp a2 c2:=fun hm => by
  have h2:=HBX.out
  rcases List.mem_cons.1 hm with h8 | h9
  ·have h1:=HLT.out.2.2;omega
  ·have h1:=HLT.out.2.1 _ h9;omega
 have h5:=h4.wrote g5 hS5
 have sY5:=sY4.chg g5 nby
 have M5:Mvb (wb :: (fp (some ⟨b,o,none⟩) c1++fp a2 c2)) tag tag3 w w5:=(M4.b _).wrote g5 (fun k hk _ => by
  rcases List.mem_cons.1 hk with rfl | h9
  ·simp
  ·exact List.mem_cons_of_mem _ (List.mem_append_right _ h9))
 have hf5':∀ k,k∈fp a2' c2'→k∈fp a2 c2 ∨ w.heap.size≤k:=fun k hk => (hf5 k hk).imp id (fun h9 => Nat.le_trans M4.size h9)
 have cL:=less_some (h5.keep (Chg.drew [] w5)) y.t hyn hl
 obtain ⟨⟨k0,-,-,-,-,-,-,-⟩,-⟩:=sY5.all
 have p5:=W5.p0
 have HF:=mkHid (And.intro M5 hf5')
 clear cK h4 W4 M4 sX4 sY4 x14 q4 g5 hf5 hS5 nby sX3 sY3 f0 f1 f2 f3 f4 f5 f6 f7 z0 z1 z2 z3 z4 z5 z6 z7 M5 hf5'
 go_wp2_with fail
 go_still_tail 6,(by kernel_rfl)
 have hdr:({ heap:=w5.heap,tape:=w5.tape,drawn:=w5.drawn+1,os:=w5.os,output:=w5.output }:World)=w5.drew:=rfl
 rw [hdr]
 clear hdr
 go_wp2_with fail
 refine cL.mono ?_
 rintro e w6 ⟨rfl,tag6,h6,m6⟩
 have W6:=(W5.keep (Chg.drew [] w5)).mv m6
 have M6:=(HF.out.1.wrote (Chg.drew [] w5) (by simp)).trans (m6.b []) (fun _ h _ => h) (by simp)
 obtain ⟨b',o',e',sA,hbf⟩:=W6.r1.step hj
 cases e'
 have nA:=(W6.r1.nd _ (List.mem_of_getElem? hj)).2
 have cR:=kremN h6 ah.node nA ha z hz
 have tb6:=W6.r1.tg b hbf
 unfold CN.val at cR
 obtain ⟨⟨e0,e1,e2,e3,e4,e5,e6,e7⟩,-⟩:=sA.all
 clear cL h5 W5 m6 sY5 k0 p5
 go_wp2_with fail
 refine cR.mono ?_
 rintro e w7 ⟨r,rfl,hrn,tag7,h7,m7,n7⟩
 have W7:=W6.mv m7
 have M7:=M6.trans (m7.b []) (fun _ h _ => h) (by simp)
 have sA7:=sA.mv m7 tb6
 obtain ⟨W8,g8⟩:=W7.wr hj n7
 have hS7:∀ k,k∈fp (some ⟨b,o,none⟩) c1→tag7 k=4:=W7.r1.tg
 have H8:=mkHid (And.intro (h7.wrote g8 hS7) (And.intro W8 (M7.wrote g8 (fun k hk _ => List.mem_cons_of_mem _ (List.mem_append_left _ hk)))))
 obtain ⟨-,z0,z1,z2,z3,z4,z5,z6,z7⟩:=sA7.all
 obtain ⟨⟨e0,e1,e2,e3,e4,e5,e6,e7⟩,-⟩:=sA7.all
 unfold CN.val
 clear cR h6 W6 M6 m7 h7 W7 M7 W8 g8 sA sA7
 go_wp2_with fail
 go_end0
 obtain ⟨h8,W8,M8⟩:=H8.out
 refine ⟨rfl,tag7,a2',c2',_,_,h8,M8,W8,?_,?_,HF.out.2,hrt⟩
 ·rw [List.map_set]
  show (S.map CS.abs).set j ⟨ah.t,ah.was.nd,r.nd,ah.pl⟩=_
  rw [hrn]
 ·rw [keep_abs]
  show keptV _ ⟨x.t,x.was.nd,q.nd,x.pl⟩=_
  rw [hq]
set_option maxHeartbeats 2000000 in
theorem meet_even (h:HasX w0 w tag sb rb n N C X u) (hw:WayAt w w0.heap.size tag wb sb (some ⟨b,o,none⟩) c1 a2 c2 S V rt od th) (hVl:V.length≤100) (hrt:rt < 2 ^ 64) (j:Nat) (ah:CS) (hj:S[j]?=some ah) (ha:ah.node.nd.sq) (x y:CS) (hx:NdAt w tag x.was∧NdAt w tag x.node) (hy:NdAt w tag y.was∧NdAt w tag y.node) (hxs:x.node.nd.sq) (hys:y.node.nd.sq) (hyt:y.t < n) (z:Nat) (hz:z < ah.node.K.length) (hpl:True) (h8:¬ x.node.K.length+y.node.K.length≤8) :
  Calls Tryz.prog 161 #[.pointer (some ⟨wb,0,none⟩),.pointer (some ⟨b,o+j * 8,none⟩),x.val,y.val,.int .i64 (z:Int)] w (GrownPost w0 w tag sb rb n C u wb (some ⟨b,o,none⟩) c1 a2 c2 od th (.ok (N,X,(S.map CS.abs).set j ⟨ah.t,ah.was.nd,ah.node.nd.put z ((x.node.nd.cat y.node.nd).hi.K.getD 0 0) y.t,ah.pl⟩,keptV (keptV (V.map CS.abs) ⟨x.t,x.was.nd,(x.node.nd.cat y.node.nd).lo,x.pl⟩) ⟨y.t,y.was.nd,(x.node.nd.cat y.node.nd).hi,y.pl⟩,rt))):=by
 have hyn:y.t < 2 ^ 64:=by have:=h.lens;omega
 have gX:=Chg.alloc [] w (.cells x.cells.toArray 139)
 have gY:=Chg.alloc [] (w.alloc (.cells x.cells.toArray 139)) (.cells y.cells.toArray 139)
 have sX:=(new_step w x 139).chg gY (by simp)
 have sY:=new_step (w.alloc (.cells x.cells.toArray 139)) y 139
 rw [show (w.alloc (.cells x.cells.toArray 139)).heap.size=w.heap.size+1 by simp] at sY
 have h2:=(h.keep gX).keep gY
 have W2:=(hw.keep gX).keep gY
 have M2:=(Mv.made gX h.hi).then gY
 have x1:=(hx.1.keep gX).keep gY
 have x2:=(hx.2.keep gX).keep gY
 have y1:=(hy.1.keep gX).keep gY
 have y2:=(hy.2.keep gX).keep gY
 have tX:=h.hi w.heap.size (Nat.le_refl _)
 have tY:=h.hi (w.heap.size+1) (by omega)
 have hwl:=hw.lt
 have HLT:Hid ((∀ k,k∈fp (some ⟨b,o,none⟩) c1→k < w.heap.size)∧(∀ k,k∈fp a2 c2→k < w.heap.size)∧wb < w.heap.size):=mkHid ⟨fun k hk => (hw.r1.rm.lt k hk).2,fun k hk => (hw.r2.rm.lt k hk).2,hwl⟩
 obtain ⟨⟨f0,f1,f2,f3,f4,f5,f6,f7⟩,z0,z1,z2,z3,z4,z5,z6,z7⟩:=sX.all
 obtain ⟨⟨k0,k1,k2,k3,k4,k5,k6,k7⟩,-⟩:=sY.all
 simp only [Nat.zero_add] at f1 f2 f3 f4 f5 f6 f7 z0 z1 z2 z3 z4 z5 z6 z7 k1 k2 k3 k4 k5 k6 k7
 have cJ:=kevenN h2 x.node y.node x2 hxs y2 hys
 unfold CS.val stepV
 unfold CN.val at cJ
 unfold CS.cells at gX gY sX sY h2 W2 M2 x1 x2 y1 y2 f0 f1 f2 f3 f4 f5 f6 f7 k0 k1 k2 k3 k4 k5 k6 k7 z4 z5 z6 cJ
 clear z0 z1 z2 z3 z7 gX gY
 have hxl:x.node.K.length≤100:=hxs.2
 have hyl:y.node.K.length≤100:=hys.2
 have hsum:IntKind.i64.wrap ((x.node.K.length:Int)+(y.node.K.length:Int))=((x.node.K.length+y.node.K.length:Nat):Int):=by rw [Go.IntWalk.i64_in _ (by omega)];omega
 have d8:decide (((x.node.K.length+y.node.K.length:Nat):Int)≤8)=false:=decide_eq_false (by omega)
 have d9:decide ((x.node.K.length:Int)+(y.node.K.length:Int)≤8)=false:=decide_eq_false (by omega)
 have HV:=mkHid (And.intro h hw)
 clear h hw
 go_enter Tryz.func161,Tryz.ntmps161
 go_wp2_with fail
 generalize ((w.alloc (.cells [.int .u64 (x.t:Int),.bool x.was.lf,.slice x.was.ka x.was.K.length x.was.kc,.slice x.was.va x.was.V.length x.was.vc,.bool x.node.lf,.slice x.node.ka x.node.K.length x.node.kc,.slice x.node.va x.node.V.length x.node.vc,.int .i64 (x.pl:Int)].toArray 139)).alloc (.cells [.int .u64 (y.t:Int),.bool y.was.lf,.slice y.was.ka y.was.K.length y.was.kc,.slice y.was.va y.was.V.length y.was.vc,.bool y.node.lf,.slice y.node.ka y.node.K.length y.node.kc,.slice y.node.va y.node.V.length y.node.vc,.int .i64 (y.pl:Int)].toArray 139))=w2 at *
 have HSZ:Hid (w.heap.size+1 < w2.heap.size):=mkHid (by have:=sY.lt;exact this)
 generalize hbx:w.heap.size=bx at *
 generalize hby:bx+1=by' at *
 have HBX:=mkHid (And.intro hbx hby)
 have hne:bx ≠ by':=by omega
 clear hbx hby
 refine cJ.mono ?_
 rintro e w3 ⟨q,q',rfl,hq,hq',tag3,h3,m3,n3,n3'⟩
 have W3:=W2.mv m3
 have M3:=M2.trans m3
 have sX3:=sX.mv m3 tX
 have sY3:=sY.mv m3 tY
 have x13:=x1.mv m3
 have y13:=y1.mv m3
 have tX3:=m3.four tX sX.lt
 have tY3:=m3.four tY sY.lt
 obtain ⟨⟨f0,f1,f2,f3,f4,f5,f6,f7⟩,z0,z1,z2,z3,z4,z5,z6,z7⟩:=sX3.all
 simp only [Nat.zero_add] at f0 f1 f2 f3 f4 f5 f6 f7 z0 z1 z2 z3 z4 z5 z6 z7
 obtain ⟨⟨k0,k1,k2,k3,k4,k5,k6,k7⟩,l0,l1,l2,l3,l4,l5,l6,l7⟩:=sY3.all
 simp only [Nat.zero_add] at k0 k1 k2 k3 k4 k5 k6 k7 l0 l1 l2 l3 l4 l5 l6 l7
 obtain ⟨wa,hwa⟩:∃ wa,wa=wr3 w3 bx 0 q:=⟨_,rfl⟩
 obtain ⟨w4,hw4⟩:∃ w4,w4=wr3 wa by' 0 q':=⟨_,rfl⟩
 have ga:Chg [bx] w3 wa:=by rw [hwa];exact wr3_chg w3 bx 0 q
 have gb:Chg [by'] wa w4:=by rw [hw4];exact wr3_chg wa by' 0 q'
 have g4:Chg [bx,by'] w3 w4:=ga.trans gb (fun k hk => by simp at hk ⊢;omega) (fun k hk _ => by simp at hk ⊢;omega)
 have hSx:∀ k,k∈[bx,by']→tag3 k=4:=fun k hk => by
  simp at hk
  rcases hk with rfl | rfl
  ·exact tX3
  ·exact tY3
 have hxa:∀ k,k∈fp (some ⟨b,o,none⟩) c1→k ∉ [bx,by']:=fun k hk hm => by have h1:=HLT.out.1 k hk;have h2:=HBX.out;simp at hm;omega
 have hxb:∀ k,k∈fp a2 c2→k ∉ [bx,by']:=fun k hk hm => by have h1:=HLT.out.2.1 k hk;have h2:=HBX.out;simp at hm;omega
 have h4:=h3.wrote g4 hSx
 have W4:=W3.wrote g4 hSx (by have h1:=HLT.out.2.2;have h2:=HBX.out;simp;omega) hxa hxb
 have M4:=M3.wrote g4 (fun k hk => by simp at hk;have h2:=HBX.out;omega)
 have sX4:StepAt w4 bx 0 ⟨x.t,x.was,q,x.pl⟩:=by
  have:=sX3.wr q
  rw [← hwa] at this
  exact this.chg gb (by simpa using hne)
 have sY4:StepAt w4 by' 0 ⟨y.t,y.was,q',y.pl⟩:=by
  rw [hw4]
  exact (sY3.chg ga (by simpa using fun h => hne h.symm)).wr q'
 have x14:=x13.wrote g4 hSx
 have y14:=y13.wrote g4 hSx
 have q4:=n3.wrote g4 hSx
 have q4':=n3'.wrote g4 hSx
 have cK:=keep_any h4 W4 ⟨x.t,x.was,q,x.pl⟩ ⟨x14,q4⟩ (by omega)
 unfold CS.val stepV at cK
 try dsimp only at cK
 have HW:=mkHid (And.intro hwa hw4)
 unfold CN.val
 clear h3 m3 n3 n3' W3 M3 x13 y13 g4 ga gb sX sY h2 W2 M2 x1 x2 y1 y2 cJ
 clear hw4
 clear hwa
 go_wp2_with fail
 rw [show ((((((w3.setCell ⟨bx,4,none⟩ (.bool q.lf)).setCell ⟨bx,5,none⟩ (.slice q.ka q.K.length q.kc)).setCell ⟨bx,6,none⟩ (.slice q.va q.V.length q.vc)).setCell ⟨by',4,none⟩ (.bool q'.lf)).setCell ⟨by',5,none⟩ (.slice q'.ka q'.K.length q'.kc)).setCell ⟨by',6,none⟩ (.slice q'.va q'.V.length q'.vc))=w4 by rw [HW.out.2,HW.out.1];unfold wr3;simp only [Nat.zero_add]]
 refine cK.mono ?_
 rintro e w5 ⟨rfl,a2',c2',W5,g5,hf5⟩
 have hS5:∀ k,k∈wb :: fp a2 c2→tag3 k=4:=fun k hk => by
  rcases List.mem_cons.1 hk with rfl | h9
  ·exact W4.tb
  ·exact W4.r2.tg k h9
 have nby:by' ∉ wb :: fp a2 c2:=fun hm => by
  have h2:=HBX.out
  rcases List.mem_cons.1 hm with h8 | h9
  ·have h1:=HLT.out.2.2;omega
  ·have h1:=HLT.out.2.1 _ h9;omega
 have h5:=h4.wrote g5 hS5
 have sY5:=sY4.chg g5 nby
 have y15:=y14.wrote g5 hS5
 have q5':=q4'.wrote g5 hS5
 have M5:Mvb (wb :: (fp (some ⟨b,o,none⟩) c1++fp a2 c2)) tag tag3 w w5:=(M4.b _).wrote g5 (fun k hk _ => by
  rcases List.mem_cons.1 hk with rfl | h9
  ·simp
  ·exact List.mem_cons_of_mem _ (List.mem_append_right _ h9))
 have hf5':∀ k,k∈fp a2' c2'→k∈fp a2 c2 ∨ w.heap.size≤k:=fun k hk => (hf5 k hk).imp id (fun h9 => Nat.le_trans M4.size h9)
 have hkl:(keepA V ⟨x.t,x.was,q,x.pl⟩).length≤V.length+1:=by
  unfold keepA
  split
  ·omega
  ·simp
 have cK2:=keep_any h5 W5 ⟨y.t,y.was,q',y.pl⟩ ⟨y15,q5'⟩ (by omega)
 unfold CS.val stepV at cK2
 try dsimp only at cK2
 obtain ⟨⟨k0,k1,k2,k3,k4,k5,k6,k7⟩,-⟩:=sY5.all
 simp only [Nat.zero_add] at k0 k1 k2 k3 k4 k5 k6 k7
 try dsimp only at k0 k1 k2 k3 k4 k5 k6 k7
 have nby5:by' ∉ wb :: fp a2' c2':=fun hm => by
  rcases List.mem_cons.1 hm with h8 | h9
  ·exact nby (by rw [h8];simp)
  ·rcases hf5 _ h9 with h8 | h8
   ·exact nby (List.mem_cons_of_mem _ h8)
   ·have:=sY4.lt;omega
 have HF:=mkHid (And.intro M5 hf5')
 clear cK h4 W4 M4 sX4 sY4 x14 y14 q4 q4' g5 hf5 hS5 nby sX3 sY3 f0 f1 f2 f3 f4 f5 f6 f7 z0 z1 z2 z3 z4 z5 z6 z7 l0 l1 l2 l3 l4 l5 l6 l7 M5 hf5'
 go_wp2_with fail
 refine cK2.mono ?_
 rintro e w6 ⟨rfl,a3,c3,W6,g6,hf6⟩
 have hS6:∀ k,k∈wb :: fp a2' c2'→tag3 k=4:=fun k hk => by
  rcases List.mem_cons.1 hk with rfl | h9
  ·exact W5.tb
  ·exact W5.r2.tg k h9
 have h6:=h5.wrote g6 hS6
 have sY6:=sY5.chg g6 nby5
 have q6':=q5'.wrote g6 hS6
 have hfin:∀ k,k∈fp a3 c3→k∈fp a2 c2 ∨ w.heap.size≤k:=fun k hk => by
  rcases hf6 k hk with h9 | h9
  ·exact HF.out.2 k h9
  ·exact Or.inr (Nat.le_trans HF.out.1.size h9)
 have M6:Mvb (wb :: (fp (some ⟨b,o,none⟩) c1++fp a2 c2)) tag tag3 w w6:=HF.out.1.wrote g6 (fun k hk hlt => by
  rcases List.mem_cons.1 hk with rfl | h9
  ·simp
  ·rcases HF.out.2 k h9 with h8 | h8
   ·exact List.mem_cons_of_mem _ (List.mem_append_right _ h8)
   ·omega)
 have hl2:0 < q'.K.length:=by
  have e1:q'.K=(x.node.K++y.node.K).drop (half (x.node.K++y.node.K).length):=congrArg Nd.K hq'
  rw [e1]
  simp only [List.length_drop,List.length_append,half]
  omega
 obtain ⟨kb',ko',hka',hc2⟩:=q6'.rd.rk (by simpa [uvs_len] using hl2)
 obtain ⟨y0,hy0⟩:∃ v,q'.K[0]?=some v:=⟨_,List.getElem?_eq_getElem hl2⟩
 have cy:=hc2 0 _ (uvs_get hy0)
 rw [Nat.add_zero] at cy
 have by0:y0 < 2 ^ 64:=q6'.bK _ (List.mem_of_getElem? hy0)
 have hi2:(0:Int) < (q'.K.length:Int):=by omega
 obtain ⟨⟨k0,k1,k2,k3,k4,k5,k6,k7⟩,-⟩:=sY6.all
 simp only [Nat.zero_add] at k0 k1 k2 k3 k4 k5 k6 k7
 try dsimp only at k0 k1 k2 k3 k4 k5 k6 k7
 rw [hka'] at k5
 obtain ⟨b',o',e',sA,hbf⟩:=W6.r1.step hj
 cases e'
 have nA:=(W6.r1.nd _ (List.mem_of_getElem? hj)).2
 have tb6:=W6.r1.tg b hbf
 have cS:=set_anyT (h6.keep (Chg.drew [] w6)) b (o+j * 8) ah (sA.chg (Chg.drew [] w6) (by simp)) tb6 (nA.keep (Chg.drew [] w6)) ha z y0 y.t hz by0 hyn
 have HK:=mkHid (And.intro hy0 (And.intro M6 hfin))
 clear cK2 h5 W5 sY5 sY6 y15 q5' q6' g6 hf6 hS6 nby5 hka' hc2 hy0 M6 hfin
 go_wp2_with fail
 go_still_tail 9,(by kernel_rfl)
 have hdr:({ heap:=w6.heap,tape:=w6.tape,drawn:=w6.drawn+1,os:=w6.os,output:=w6.output }:World)=w6.drew:=rfl
 rw [hdr]
 clear hdr
 go_wp2_with fail
 refine cS.mono ?_
 rintro e w8 ⟨rfl,r,tag7,w7,hrn,h7,m7,n7,rfl⟩
 have W7:=(W6.keep (Chg.drew [] w6)).mv m7
 have M7:=(HK.out.2.1.wrote (Chg.drew [] w6) (by simp)).trans (m7.b []) (fun _ h _ => h) (by simp)
 obtain ⟨W8,g8⟩:=W7.wr hj n7
 have hS7:∀ k,k∈fp (some ⟨b,o,none⟩) c1→tag7 k=4:=W7.r1.tg
 have H8:=mkHid (And.intro (h7.wrote g8 hS7) (And.intro W8 (M7.wrote g8 (fun k hk _ => List.mem_cons_of_mem _ (List.mem_append_left _ hk)))))
 clear cS h6 W6 m7 h7 W7 M7 W8 g8 sA
 go_wp2_with fail
 go_end0
 obtain ⟨h8',W8,M8⟩:=H8.out
 refine ⟨rfl,tag7,a3,c3,_,_,h8',M8,W8,?_,?_,HK.out.2.2,hrt⟩
 ·rw [List.map_set]
  show (S.map CS.abs).set j ⟨ah.t,ah.was.nd,r.nd,ah.pl⟩=_
  rw [hrn]
  have e1:(x.node.nd.cat y.node.nd).hi.K.getD 0 0=y0:=by rw [← hq',List.getD_eq_getElem?_getD,show q'.nd.K=q'.K from rfl,HK.out.1];rfl
  rw [e1]
 ·rw [keep_abs,keep_abs]
  show keptV (keptV _ ⟨x.t,x.was.nd,q.nd,x.pl⟩) ⟨y.t,y.was.nd,q'.nd,y.pl⟩=_
  rw [hq,hq']
end
end
section
set_option maxRecDepth 200000
open Go.RowKit
attribute [local go_sem ↓] Go.wp_at_zero Go.wp_at_succ
def meetA (N:List UInt8) (V:List AS) (ah x y:AS) (z:Nat):Option (List UInt8 × List AS × AS):=
 if x.node.K.length+y.node.K.length≤8 then (match lessA N y.t with
  | none => none
  | some N' => some (N',keptV V ⟨x.t,x.was,x.node.cat y.node,x.pl⟩,⟨ah.t,ah.was,ah.node.rem z,ah.pl⟩)) else
 some (N,keptV (keptV V ⟨x.t,x.was,(x.node.cat y.node).lo,x.pl⟩) ⟨y.t,y.was,(x.node.cat y.node).hi,y.pl⟩,⟨ah.t,ah.was,ah.node.put z ((x.node.cat y.node).hi.K.getD 0 0) y.t,ah.pl⟩)
def shrunkA (N C:List UInt8) (X:Nat→Option Nd) (L V:List AS) (rt i:Nat):Out (List UInt8 × (Nat→Option Nd) × List AS × List AS × Nat):=
 match L[i]? with
 | none => .stuck
 | some x =>
  if i=0 then (match topA N V rt x with
   | none => .stuck
   | some (N',V',rt') => .ok (N',X,L,V',rt')) else
  match L[i - 1]? with
  | none => .stuck
  | some a =>
   if x.node.K.length=0 then .stuck else
   if 4≤x.node.K.length ∨ neighI a.pl a.node.K.length < 0 then .ok (N,X,L.set (i - 1) ⟨a.t,a.was,a.node.put a.pl (x.node.K.getD 0 0) x.t,a.pl⟩,keptV V x,rt) else
   match (a.node.put a.pl (x.node.K.getD 0 0) x.t).V[(neighI a.pl a.node.K.length).toNat]?,(a.node.put a.pl (x.node.K.getD 0 0) x.t).K[(neighI a.pl a.node.K.length).toNat]? with
   | some v,some k =>
    (match shadowA N C X v with
    | .stuck => .stuck
    | .full => .full
    | .ok (N1,X1,t,m) =>
     (match (if (neighI a.pl a.node.K.length).toNat < a.pl then meetA N1 V ⟨a.t,a.was,(a.node.put a.pl (x.node.K.getD 0 0) x.t).put (neighI a.pl a.node.K.length).toNat k t,a.pl⟩ ⟨t,m,m,0⟩ x a.pl else meetA N1 V ⟨a.t,a.was,(a.node.put a.pl (x.node.K.getD 0 0) x.t).put (neighI a.pl a.node.K.length).toNat k t,a.pl⟩ x ⟨t,m,m,0⟩ (neighI a.pl a.node.K.length).toNat) with
     | none => .stuck
     | some (N2,V2,a3) => .ok (N2,X1,L.set (i - 1) a3,V2,rt)))
   | _,_ => .stuck
section
variable {w0 w:World} {tag:Nat→Nat} {sb rb n:Nat} {N C:List UInt8} {X:Nat→Option Nd} {u:Nat} {wb:Nat} {b o:Nat} {c1:Nat} {a2:Option Addr} {c2:Nat} {S V:List CS} {rt od:Nat} {th:Bool}
theorem meet_any (h:HasX w0 w tag sb rb n N C X u) (hw:WayAt w w0.heap.size tag wb sb (some ⟨b,o,none⟩) c1 a2 c2 S V rt od th) (hVl:V.length≤100) (hrt:rt < 2 ^ 64) (j:Nat) (ah:CS) (hj:S[j]?=some ah) (ha:ah.node.nd.sq) (x y:CS) (hx:NdAt w tag x.was∧NdAt w tag x.node) (hy:NdAt w tag y.was∧NdAt w tag y.node) (hxs:x.node.nd.sq) (hys:y.node.nd.sq) (hyt:y.t < n) (z:Nat) (hz:z < ah.node.K.length)
  (N':List UInt8) (V':List AS) (a':AS) (hr:meetA N (V.map CS.abs) ah.abs x.abs y.abs z=some (N',V',a')) :
  Calls Tryz.prog 161 #[.pointer (some ⟨wb,0,none⟩),.pointer (some ⟨b,o+j * 8,none⟩),x.val,y.val,.int .i64 (z:Int)] w (GrownPost w0 w tag sb rb n C (u+2) wb (some ⟨b,o,none⟩) c1 a2 c2 od th (.ok (N',X,(S.map CS.abs).set j a',V',rt))):=by
 have hmono:∀ {r:Out (List UInt8 × (Nat→Option Nd) × List AS × List AS × Nat)} {e:Ending} {w':World},GrownPost w0 w tag sb rb n C u wb (some ⟨b,o,none⟩) c1 a2 c2 od th r e w'→GrownPost w0 w tag sb rb n C (u+2) wb (some ⟨b,o,none⟩) c1 a2 c2 od th r e w':=fun {r e w'} hp => by
  unfold GrownPost at hp ⊢
  split at hp
  ·trivial
  ·obtain ⟨he,t,N,X,h1,h2⟩:=hp
   exact ⟨he,t,N,X,h1.mono (by omega),h2⟩
  ·obtain ⟨he,t,a,c,S,V,h1,h2⟩:=hp
   exact ⟨he,t,a,c,S,V,h1.mono (by omega),h2⟩
 unfold meetA at hr
 by_cases h8:x.node.K.length+y.node.K.length≤8
 ·rw [if_pos (show x.abs.node.K.length+y.abs.node.K.length≤8 from h8)] at hr
  cases hl:lessA N y.abs.t with
  | none => rw [hl] at hr;cases hr
  | some N2 =>
   rw [hl] at hr
   cases hr
   exact (meet_join h hw hVl hrt j ah hj ha x y hx hy hxs hys hyt z hz h8 _ hl).mono fun _ _ hp => hmono hp
 ·rw [if_neg (show ¬ x.abs.node.K.length+y.abs.node.K.length≤8 from h8)] at hr
  cases hr
  exact (meet_even h hw hVl hrt j ah hj ha x y hx hy hxs hys hyt z hz trivial h8).mono fun _ _ hp => hmono hp
set_option maxHeartbeats 1000000 in
theorem shrunk_root (h:HasX w0 w tag sb rb n N C X u) (hw:WayAt w w0.heap.size tag wb sb (some ⟨b,o,none⟩) c1 a2 c2 S V rt od th) (hu:u≤90000000) (hVl:V.length≤100) (hSl:S.length≤20) (hrt:rt < 2 ^ 64) (i:Nat) (hi0:i=0) (x:CS) (hx:S[i]?=some x) (hxq:x.t < n∧x.node.nd.sq) (N':List UInt8) (V':List AS) (rt':Nat) (hr:topA N (V.map CS.abs) rt x.abs=some (N',V',rt')) :
  Calls Tryz.prog 115 #[.pointer (some ⟨wb,0,none⟩),.int .i64 (i:Int)] w (GrownPost w0 w tag sb rb n C (u+2) wb (some ⟨b,o,none⟩) c1 a2 c2 od th (.ok (N',X,S.map CS.abs,V',rt'))):=by
 have hi:=(List.getElem?_eq_some_iff.1 hx).1
 obtain ⟨b',o',e',hst,hbf⟩:=hw.r1.step hx
 cases e'
 have hle:=hw.r1.le
 have hnd:=hw.r1.nd x (List.mem_of_getElem? hx)
 have p1:=hw.p1
 have p0:=hw.p0
 obtain ⟨⟨e0,e1,e2,e3,e4,e5,e6,e7⟩,-⟩:=hst.all
 have gK:=Chg.alloc [] w (.cells x.cells.toArray 139)
 have cT:=top_any (h.keep gK) (hw.keep gK) hVl hrt x ⟨hnd.1.keep gK,hnd.2.keep gK⟩ hxq.1 hxq.2 N' V' rt' hr
 have d0:((i:Int) == 0)=true:=by simpa using hi0
 have HD:=mkHid (And.intro hi0 (And.intro hx hr))
 obtain ⟨f0,f1,f2,f3,f4,f5,f6,f7⟩:=(new_step w x 139).all.1
 simp only [Nat.zero_add] at f1 f2 f3 f4 f5 f6 f7
 unfold CS.val stepV at cT
 unfold CS.cells at gK cT f0 f1 f2 f3 f4 f5 f6 f7
 clear hx hr hi0
 go_enter Tryz.func115,Tryz.ntmps115
 go_wp2_with fail
 refine cT.mono ?_
 rintro e w2 ⟨rfl,tag2,a3,c3,V3,h3,m3,W3,hV3,hf3,hrt3⟩
 go_wp2_with fail
 go_end0
 refine ⟨rfl,tag2,a3,c3,S,V3,h3.mono (by omega),?_,W3,rfl,hV3,fun k hk => (hf3 k hk).imp id (fun q => Nat.le_trans gK.size q),hrt3⟩
 exact ((Mv.made gK h.hi).b []).trans m3 (by simp) (fun k hk hlt => hk)
set_option maxHeartbeats 2000000 in
theorem shrunk_few (h:HasX w0 w tag sb rb n N C X u) (hw:WayAt w w0.heap.size tag wb sb (some ⟨b,o,none⟩) c1 a2 c2 S V rt od th) (hu:u≤90000000) (hVl:V.length≤100) (hSl:S.length≤20) (hrt:rt < 2 ^ 64) (i j:Nat) (hij:i=j+1) (x a:CS) (hx:S[i]?=some x) (hj:S[j]?=some a) (hxq:x.t < n∧x.node.nd.sq) (haq:a.node.nd.sq∧a.pl < a.node.K.length) (h0:0 < x.node.K.length) (hfew:4≤x.node.K.length ∨ neighI a.pl a.node.K.length < 0) :
  Calls Tryz.prog 115 #[.pointer (some ⟨wb,0,none⟩),.int .i64 (i:Int)] w (GrownPost w0 w tag sb rb n C (u+2) wb (some ⟨b,o,none⟩) c1 a2 c2 od th (.ok (N,X,(S.map CS.abs).set j ⟨a.t,a.was.nd,a.node.nd.put a.pl (x.node.K.getD 0 0) x.t,a.pl⟩,keptV (V.map CS.abs) x.abs,rt))):=by
 have hi:=(List.getElem?_eq_some_iff.1 hx).1
 obtain ⟨b',o',e',hst,hbf⟩:=hw.r1.step hx
 cases e'
 have hle:=hw.r1.le
 obtain ⟨b',o',e',sA,hbf⟩:=hw.r1.step hj
 cases e'
 have tb:=hw.r1.tg b hbf
 have hnd:=hw.r1.nd x (List.mem_of_getElem? hx)
 have hna:=hw.r1.nd a (List.mem_of_getElem? hj)
 have p1:=hw.p1
 have p0:=hw.p0
 obtain ⟨⟨e0,e1,e2,e3,e4,e5,e6,e7⟩,-⟩:=hst.all
 have hxn:x.t < 2 ^ 64:=by have:=h.lens;omega
 have gK:=Chg.alloc [] w (.cells x.cells.toArray 139)
 have sX:=new_step w x 139
 have h1:=h.keep gK
 have W1:=hw.keep gK
 have M1:=Mv.made gK h.hi
 have sA1:=sA.chg gK (by simp)
 have na1:=hna.2.keep gK
 have nx1:=hnd.1.keep gK
 have nx2:=hnd.2.keep gK
 have tX:=h.hi w.heap.size (Nat.le_refl _)
 obtain ⟨kb,ko,hka,hc⟩:=nx2.rd.rk (by simpa [uvs_len] using h0)
 obtain ⟨x0,hx0⟩:∃ v,x.node.K[0]?=some v:=⟨_,List.getElem?_eq_getElem h0⟩
 have cx:=hc 0 _ (uvs_get hx0)
 rw [Nat.add_zero] at cx
 have bx0:x0 < 2 ^ 64:=nx2.bK _ (List.mem_of_getElem? hx0)
 have hi2:(0:Int) < (x.node.K.length:Int):=by omega
 have dg1:decide ((x.node.K.length:Int) > 0)=true:=decide_eq_true (by omega)
 have dg2:decide (0 < x.node.K.length)=true:=decide_eq_true h0
 have d0:((i:Int) == 0)=false:=by simp;omega
 have hwr:IntKind.i64.wrap ((i:Int) - 1)=(j:Int):=by rw [Go.IntWalk.i64_in _ (by omega)];omega
 have hjS:(j:Int) < (S.length:Int):=by omega
 have cS:=set_anyT (h1.keep (Chg.drew [] _)) b (o+j * 8) a (sA1.chg (Chg.drew [] _) (by simp)) tb (na1.keep (Chg.drew [] _)) haq.1 a.pl x0 x.t haq.2 bx0 hxn
 have hpl:a.pl≤100:=by have h8:a.node.K.length≤100:=haq.1.2;have:=haq.2;omega
 obtain ⟨⟨f0,f1,f2,f3,f4,f5,f6,f7⟩,-⟩:=sX.all
 simp only [Nat.zero_add] at f1 f2 f3 f4 f5 f6 f7
 obtain ⟨⟨k0,k1,k2,k3,k4,k5,k6,k7⟩,-⟩:=sA1.all
 have HD:=mkHid (And.intro hij (And.intro hx (And.intro hj (And.intro hxq (And.intro haq (And.intro hx0 (And.intro h hw)))))))
 have HLT:Hid ((∀ k,k∈fp (some ⟨b,o,none⟩) c1→k < w.heap.size)∧wb < w.heap.size):=mkHid ⟨fun k hk => (hw.r1.rm.lt k hk).2,hw.lt⟩
 unfold CS.cells at gK sX h1 W1 M1 sA1 na1 nx1 nx2 cx cS f0 f1 f2 f3 f4 f5 f6 f7 k0 k1 k2 k3 k4 k5 k6 k7
 rw [hka] at f5 cS h1 W1 M1 sA1 na1 nx1 nx2 cx gK sX f0 f1 f2 f3 f4 f6 f7 k0 k1 k2 k3 k4 k5 k6 k7 e5
 have p11:=W1.p1
 have p01:=W1.p0
 clear hx hj hxq haq hx0 hst sA hna hnd hc hij h hw
 go_enter Tryz.func115,Tryz.ntmps115
 go_wp2_with fail
 generalize (w.alloc (.cells [.int .u64 (x.t:Int),.bool x.was.lf,.slice x.was.ka x.was.K.length x.was.kc,.slice x.was.va x.was.V.length x.was.vc,.bool x.node.lf,.slice (some ⟨kb,ko,none⟩) x.node.K.length x.node.kc,.slice x.node.va x.node.V.length x.node.vc,.int .i64 (x.pl:Int)].toArray 139))=w1 at *
 generalize hbx:w.heap.size=bx at *
 have HBX:=mkHid hbx
 clear hbx
 go_still_tail 12,(by kernel_rfl)
 have hdr:({ heap:=w1.heap,tape:=w1.tape,drawn:=w1.drawn+1,os:=w1.os,output:=w1.output }:World)=w1.drew:=rfl
 rw [hdr]
 clear hdr
 go_wp2_with fail
 refine cS.mono ?_
 rintro e w9 ⟨rfl,r,tag2,w2,hrn,h2,m2,n2,rfl⟩
 obtain ⟨hij,hx,hj,hxq,haq,hx0,h,hw⟩:=HD.out
 have W2:=(W1.keep (Chg.drew [] w1)).mv m2
 have M2:=(M1.then (Chg.drew [] w1)).trans m2
 obtain ⟨W3,g3⟩:=W2.wr hj n2
 have hS3:∀ k,k∈fp (some ⟨b,o,none⟩) c1→tag2 k=4:=W2.r1.tg
 have nbx:bx ∉ fp (some ⟨b,o,none⟩) c1:=fun hm => by have h8:=HLT.out.1 _ hm;have h9:=HBX.out;omega
 have h3:=h2.wrote g3 hS3
 have M3:Mvb (wb :: (fp (some ⟨b,o,none⟩) c1++fp a2 c2)) tag tag2 w (wr3 w2 b (o+j * 8) r):=(M2.b _).wrote g3 (fun k hk _ => List.mem_cons_of_mem _ (List.mem_append_left _ hk))
 have sX3:=(((sX.chg (Chg.drew [] w1) (by simp)).mv m2 tX)).chg g3 nbx
 have tX3:=m2.four tX sX.lt
 have nx13:=((nx1.keep (Chg.drew [] w1)).mv m2).wrote g3 hS3
 have nx23:=((nx2.keep (Chg.drew [] w1)).mv m2).wrote g3 hS3
 have hjl:j < S.length:=(List.getElem?_eq_some_iff.1 hj).1
 obtain ⟨b',o',e',sA3,-⟩:=W3.r1.step (List.getElem?_set_self hjl)
 cases e'
 try dsimp only at sA3
 try dsimp only at W3
 have hrK:r.K.length=a.node.K.length:=by
  have e1:r.K=a.node.K.set a.pl x0:=congrArg Nd.K hrn
  rw [e1,List.length_set]
 obtain ⟨w3,hw3⟩:∃ w3,w3=wr3 w2 b (o+j * 8) r:=⟨_,rfl⟩
 rw [← hw3] at W3 h3 M3 sX3 nx13 nx23 sA3 ⊢
 obtain ⟨⟨f0,f1,f2,f3,f4,f5,f6,f7⟩,-⟩:=sX3.all
 simp only [Nat.zero_add] at f0 f1 f2 f3 f4 f5 f6 f7
 obtain ⟨⟨k0,k1,k2,k3,k4,k5,k6,k7⟩,-⟩:=sA3.all
 try dsimp only at k0 k1 k2 k3 k4 k5 k6 k7
 have cN:=neigh_any ⟨a.t,a.was,r,a.pl⟩ (by dsimp only;omega) w3
 try dsimp only at cN
 unfold CS.val stepV at cN
 try dsimp only at cN
 clear hw3 cS h1 W1 M1 h2 W2 M2 g3 m2 n2 hx hj hxq haq hx0 h hw hij sA1 na1 nx1 nx2 cx p11 p01 sX hrK
 go_wp2_with fail
 refine cN.mono ?_
 rintro e w5 ⟨rfl,g5⟩
 have h5:=h3.keep g5
 have W5:=W3.keep g5
 have M5:=M3.wrote g5 (by simp)
 have sX5:=sX3.chg g5 (by simp)
 have sA5:=sA3.chg g5 (by simp)
 have nx15:=nx13.keep g5
 have nx25:=nx23.keep g5
 obtain ⟨⟨f0,f1,f2,f3,f4,f5,f6,f7⟩,-⟩:=sX5.all
 simp only [Nat.zero_add] at f0 f1 f2 f3 f4 f5 f6 f7
 clear cN h3 W3 M3 sX3 sA3 nx13 nx23 g5 k0 k1 k2 k3 k4 k5 k6 k7
 have hz:neighI a.pl r.K.length=neighI a.pl a.node.K.length:=by
  have e1:r.K=a.node.K.set a.pl x0:=congrArg Nd.K hrn
  rw [e1,List.length_set]
 rw [hz]
 obtain ⟨z,hzz⟩:∃ z,neighI a.pl a.node.K.length=z:=⟨_,rfl⟩
 rw [hzz] at hfew ⊢
 have cK:=keep_any h5 W5 x ⟨nx15,nx25⟩ (by omega)
 unfold CS.val stepV at cK
 have HF:=mkHid (And.intro h5 (And.intro M5 W5))
 have HRN:=mkHid hrn
 clear hz hzz hrn h5 W5 M5 sX5 sA5
 have hq:(decide ((x.node.K.length:Int) ≥ 4)=true∧decide (4≤(x.node.K.length:Int))=true∧decide (4≤x.node.K.length)=true) ∨ (decide ((x.node.K.length:Int) ≥ 4)=false∧decide (4≤(x.node.K.length:Int))=false∧decide (4≤x.node.K.length)=false∧decide (z < 0)=true):=by
  by_cases h4:4≤x.node.K.length
  ·exact Or.inl ⟨decide_eq_true (by omega),decide_eq_true (by omega),decide_eq_true h4⟩
  ·exact Or.inr ⟨decide_eq_false (by omega),decide_eq_false (by omega),decide_eq_false h4,decide_eq_true (by omega)⟩
 clear hfew
 have HQ:=mkHid hq
 clear hq
 rw [hka] at f5
 rw [hka] at cK
 rcases HQ.out with ⟨q1,q2,q3⟩ | ⟨q1,q2,q3,q4⟩
 all_goals
  go_wp2_with fail
  refine cK.mono ?_
  rintro e w6 ⟨rfl,a2',c2',W6,g6,hf6⟩
  go_wp2_with fail
  go_end0
  obtain ⟨h5,M5,W5⟩:=HF.out
  have hS6:∀ k,k∈wb :: fp a2 c2→tag2 k=4:=fun k hk => by
   rcases List.mem_cons.1 hk with rfl | h9
   ·exact W5.tb
   ·exact W5.r2.tg k h9
  refine ⟨rfl,tag2,a2',c2',_,_,(h5.wrote g6 hS6).mono (by omega),M5.wrote g6 (fun k hk _ => ?_),W6,?_,keep_abs _ _,fun k hk => (hf6 k hk).imp id (fun q => Nat.le_trans M5.size q),hrt⟩
  ·rcases List.mem_cons.1 hk with rfl | h9
   ·simp
   ·exact List.mem_cons_of_mem _ (List.mem_append_right _ h9)
  ·rw [List.map_set]
   show (S.map CS.abs).set j ⟨a.t,a.was.nd,r.nd,a.pl⟩=_
   rw [HRN.out]
   have e1:x.node.K.getD 0 0=x0:=by rw [List.getD_eq_getElem?_getD,HD.out.2.2.2.2.2.1];rfl
   rw [e1]
end
end
end Go.Proofs.YtdgkbicelnnfpaaGreatDoor
