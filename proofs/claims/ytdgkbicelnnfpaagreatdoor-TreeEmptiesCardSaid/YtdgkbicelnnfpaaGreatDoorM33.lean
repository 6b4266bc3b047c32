/- Texts Tr, Tqf of the library, joined. -/
import Derived.Test.YtdgkbicelnnfpaaGreatDoorM32
import Derived.StillTailTactics
set_option linter.unusedVariables false
set_option linter.unusedSimpArgs false
namespace Go.Proofs.YtdgkbicelnnfpaaGreatDoor
section
set_option maxRecDepth 200000
open Go.RowKit
attribute [local go_sem ↓] Go.wp_at_zero Go.wp_at_succ
def splits (L:List AS) (i:Nat):Bool:=
 match L[i]? with
 | none => false
 | some x => decide (x.node.K.length≤8) || (decide (x.node.K.length=x.node.V.length∧x.node.K.length≤100) && (i == 0 || (match L[i - 1]? with
  | none => false
  | some y => decide (y.node.K.length=y.node.V.length∧y.node.K.length≤100∧y.pl+1≤y.node.K.length))))
def comeG (C:List UInt8) (s:WaySt) (i:Nat):Out WaySt:=
 if splits s.2.2.1 i=true then grownA s.1 C s.2.1 s.2.2.1 s.2.2.2.1 s.2.2.2.2 i else .stuck
def leafed (L:List AS) (key val:Nat):Out (List AS × Nat × Bool):=
 match L[L.length - 1]? with
 | none => .stuck
 | some x => .ok (L.set (L.length - 1) ⟨x.t,x.was,(if x.node.is key then x.node.rem (x.node.find key) else x.node).ins (x.node.find key) key val,x.pl⟩,(if x.node.is key then x.node.V.getD (x.node.find key) 0 else 0),x.node.is key)
def insertedA (N C:List UInt8) (X:Nat→Option Nd) (root key val:Nat):Out (List UInt8 × (Nat→Option Nd) × Nat × Nat × Bool):=
 match downA N C X root key with
 | .stuck => .stuck
 | .full => .full
 | .ok (N1,X1,L) =>
  match leafed L key val,L[0]? with
  | .ok (L2,od,th),some y =>
   match upA (comeG C) (N1,X1,L2,[],y.t) with
   | .stuck => .stuck
   | .full => .full
   | .ok (N2,X2,_,_,rt) => .ok (N2,X2,rt,od,th)
  | _,_ => .stuck
def wayV (sb:Nat) (a1:Option Addr) (l1 c1:Nat) (a2:Option Addr) (l2 c2 rt od:Nat) (th:Bool):Value:=.agg #[.pointer (some ⟨sb,0,none⟩),.slice a1 l1 c1,.slice a2 l2 c2,.int .u64 (rt:Int),.int .u64 (od:Int),.bool th]
theorem splits_x {L:List AS} {i:Nat} (h:splits L i=true) {x:AS} (hx:L[i]?=some x) (h8:¬ x.node.K.length≤8):x.node.sq:=by
 unfold splits at h
 rw [hx] at h
 simp only [Bool.or_eq_true,Bool.and_eq_true,decide_eq_true_eq] at h
 rcases h with h | h
 ·exact absurd h h8
 ·exact h.1
theorem splits_y {L:List AS} {j:Nat} (h:splits L (j+1)=true) {x y:AS} (hx:L[j+1]?=some x) (h8:¬ x.node.K.length≤8) (hy:L[j]?=some y):y.node.sq∧y.pl+1≤y.node.K.length:=by
 unfold splits at h
 rw [hx] at h
 dsimp only at h
 rw [Nat.add_sub_cancel,hy] at h
 simp only [Bool.or_eq_true,Bool.and_eq_true,decide_eq_true_eq] at h
 rcases h with h | ⟨-,h | h⟩
 ·exact absurd h h8
 ·simp at h
 ·exact ⟨⟨h.1,h.2.1⟩,h.2.2⟩
theorem comeG_ok {C:List UInt8} {s s':WaySt} {i:Nat} (h:comeG C s i=.ok s'):∃ x v,s.2.2.1[i]?=some x∧v.t=x.t∧s'.2.2.2.1=keptV s.2.2.2.1 v∧s'.2.2.1.length=s.2.2.1.length∧∀ z,z∈s'.2.2.1→∃ z0,z0∈s.2.2.1∧z.t=z0.t:=by
 unfold comeG at h
 split at h
 case isFalse => cases h
 unfold grownA at h
 cases hx:s.2.2.1[i]? with
 | none => rw [hx] at h;cases h
 | some x =>
  rw [hx] at h
  dsimp only at h
  by_cases h8:x.node.K.length≤8
  ·rw [if_pos h8] at h
   cases h
   exact ⟨x,x,rfl,rfl,rfl,rfl,fun z hz => ⟨z,hz,rfl⟩⟩
  ·rw [if_neg h8] at h
   cases h1:makeA s.1 C s.2.1 x.node.hi with
   | stuck => rw [h1] at h;cases h
   | full => rw [h1] at h;cases h
   | ok m1 =>
    obtain ⟨N1,X1,t⟩:=m1
    rw [h1] at h
    dsimp only at h
    by_cases h0:i=0
    ·rw [if_pos h0] at h
     cases h2:makeA N1 C X1 (topN (x.node.lo.K.getD 0 0) (x.node.hi.K.getD 0 0) x.t t) with
     | stuck => rw [h2] at h;cases h
     | full => rw [h2] at h;cases h
     | ok m2 =>
      obtain ⟨N2,X2,t2⟩:=m2
      rw [h2] at h
      dsimp only at h
      cases h
      exact ⟨x,⟨x.t,x.was,x.node.lo,x.pl⟩,rfl,rfl,rfl,rfl,fun z hz => ⟨z,hz,rfl⟩⟩
    ·rw [if_neg h0] at h
     cases hy:s.2.2.1[i - 1]? with
     | none => rw [hy] at h;cases h
     | some y =>
      rw [hy] at h
      dsimp only at h
      cases h
      refine ⟨x,⟨x.t,x.was,x.node.lo,x.pl⟩,rfl,rfl,rfl,by simp,fun z hz => ?_⟩
      rcases List.mem_or_eq_of_mem_set hz with h9 | rfl
      ·exact ⟨z,h9,rfl⟩
      ·exact ⟨y,List.mem_of_getElem? hy,rfl⟩
theorem kept_mem {V:List AS} {x y:AS} (h:y∈keptV V x):y∈V ∨ y=x:=by
 unfold keptV at h
 split at h
 ·exact Or.inl h
 ·exact (List.mem_append.1 h).imp id (fun q => by simpa using q)
theorem kept_len (V:List AS) (x:AS):(keptV V x).length≤V.length+1:=by
 unfold keptV
 split
 ·omega
 ·simp
def InsPost (w0 w:World) (tag:Nat→Nat) (sb rb n:Nat) (C:List UInt8) (u:Nat) (r:Out (List UInt8 × (Nat→Option Nd) × Nat × Nat × Bool)) (e:Ending) (w':World):Prop:=
 match r with
 | .stuck => True
 | .full => e=Thrown 8∧∃ (tag':Nat→Nat) (N':List UInt8) (X':Nat→Option Nd),HasX w0 w' tag' sb rb n N' C X' u∧Mv tag tag' w w'
 | .ok (N',X',rt,od,th) => ∃ (a1:Option Addr) (l1 c1:Nat) (a2:Option Addr) (l2 c2:Nat),e=.returned (wayV sb a1 l1 c1 a2 l2 c2 rt od th)∧∃ (tag':Nat→Nat),HasX w0 w' tag' sb rb n N' C X' u∧Mv tag tag' w w'
theorem mv_of {w w':World} {tag tag':Nat→Nat} {S:List Nat} (m:Mvb S tag tag' w w') {w1:World} {t1:Nat→Nat} (m0:Mv t1 tag w1 w) (hS:∀ k,k∈S→w1.heap.size≤k):Mv t1 tag' w1 w':=by
 have h:=(m0.b []).trans (U:=[]) m (by simp) (fun k hk hlt => by have:=hS k hk;omega)
 obtain ⟨T,hT,h1⟩:=h.c
 exact ⟨⟨T,hT,fun k hk => (h1 k hk).elim Or.inl (fun q => q.elim Or.inr (by simp))⟩,h.o,h.d⟩
def wayZ:Array Value:=#[.pointer none,.slice none 0 0,.slice none 0 0,.int .u64 0,.int .u64 0,.bool false]
theorem new6 (w:World) (t:TypeId):(w.alloc (.cells wayZ t)).there w.heap.size 0 6:=fun j hj => by
 refine ⟨?_,frozen_of_row _ _ _ _ _ (heap_alloc_last w _)⟩
 rw [cell_of_row _ _ _ _ _ _ (heap_alloc_last w _),Nat.zero_add]
 match j,hj with
 | 0,_ => rfl
 | 1,_ => rfl
 | 2,_ => rfl
 | 3,_ => rfl
 | 4,_ => rfl
 | 5,_ => rfl
theorem cells6 {w:World} {b:Nat} (h:w.there b 0 6):(∃ v0 v1 v2 v3 v4 v5,w.cell? ⟨b,0,none⟩=some v0∧w.cell? ⟨b,1,none⟩=some v1∧w.cell? ⟨b,2,none⟩=some v2∧w.cell? ⟨b,3,none⟩=some v3∧w.cell? ⟨b,4,none⟩=some v4∧w.cell? ⟨b,5,none⟩=some v5) ∧
  w.frozen? ⟨b,0,none⟩=false∧w.frozen? ⟨b,1,none⟩=false∧w.frozen? ⟨b,2,none⟩=false∧w.frozen? ⟨b,3,none⟩=false∧w.frozen? ⟨b,4,none⟩=false∧w.frozen? ⟨b,5,none⟩=false:=by
 have f:∀ j,j < 6→∃ v,w.cell? ⟨b,j,none⟩=some v:=fun j hj => by
  obtain ⟨v,r⟩:=Option.isSome_iff_exists.1 (h j hj).1
  rw [Nat.zero_add] at r
  exact ⟨v,r⟩
 have g:∀ j,j < 6→w.frozen? ⟨b,j,none⟩=false:=fun j hj => by
  have:=(h j hj).2
  rwa [Nat.zero_add] at this
 obtain ⟨v0,r0⟩:=f 0 (by decide)
 obtain ⟨v1,r1⟩:=f 1 (by decide)
 obtain ⟨v2,r2⟩:=f 2 (by decide)
 obtain ⟨v3,r3⟩:=f 3 (by decide)
 obtain ⟨v4,r4⟩:=f 4 (by decide)
 obtain ⟨v5,r5⟩:=f 5 (by decide)
 exact ⟨⟨v0,v1,v2,v3,v4,v5,r0,r1,r2,r3,r4,r5⟩,g 0 (by decide),g 1 (by decide),g 2 (by decide),g 3 (by decide),g 4 (by decide),g 5 (by decide)⟩
theorem six_chg (w:World) (b:Nat) (x0 x1 x2 x3 x4 x5:Value):Chg [b] w ((((((w.setCell ⟨b,0,none⟩ x0).setCell ⟨b,1,none⟩ x1).setCell ⟨b,2,none⟩ x2).setCell ⟨b,3,none⟩ x3).setCell ⟨b,4,none⟩ x4).setCell ⟨b,5,none⟩ x5):=by
 have f:∀ {a c:World} (i:Nat) (x:Value),Chg [b] a c→Chg [b] a (c.setCell ⟨b,i,none⟩ x):=fun i x g => g.trans (Chg.setCell _ ⟨b,i,none⟩ x) (fun _ h _ => h) (fun _ h _ => h)
 exact f 5 x5 (f 4 x4 (f 3 x3 (f 2 x2 (f 1 x1 (Chg.setCell w ⟨b,0,none⟩ x0)))))
section
variable {w0 w:World} {tag:Nat→Nat} {sb rb n:Nat} {N C:List UInt8} {X:Nat→Option Nd} {u:Nat}
theorem grown_enters:∀ (args:Array Value) (w:World),(callFunc 113 args).run Tryz.prog w=.ok (.enter 113 args) w:=enters_of Tryz.func113 (by kernel_rfl) rfl
set_option maxHeartbeats 2000000 in
theorem inserted_any (hT:Tab w0) (h:HasX w0 w tag sb rb n N C X u) (root key val:Nat) (hkey:key < 2 ^ 64) (hval:val < 2 ^ 64) (hu:u≤70000000) (r:Out (List UInt8 × (Nat→Option Nd) × Nat × Nat × Bool)) (hr:insertedA N C X root key val=r) (hne:r ≠ .stuck) :
  Calls Tryz.prog 59 #[.pointer (some ⟨sb,0,none⟩),.int .u64 (root:Int),.int .u64 (key:Int),.int .u64 (val:Int)] w (InsPost w0 w tag sb rb n C (u+4000) r):=by
 have g0:=Chg.alloc [] w (.cells wayZ 124)
 have h0:=h.keep g0
 have t0:=new6 w 124
 have tb:=h.hi _ (Nat.le_refl _)
 have M0:=Mv.made g0 h.hi
 have hz0:(w.alloc (.cells wayZ 124)).heap.size=w.heap.size+1:=by simp
 unfold insertedA at hr
 obtain ⟨dr,hdr⟩:∃ dr,downA N C X root key=dr:=⟨_,rfl⟩
 rw [hdr] at hr
 have HT:=mkHid hT
 go_enter Tryz.func59,Tryz.ntmps59
 go_wp2_with fail
 unfold wayZ at h0 t0 M0 hz0 g0
 generalize (w.alloc (.cells #[.pointer none,.slice none 0 0,.slice none 0 0,.int .u64 0,.int .u64 0,.bool false] 124))=w1 at *
 cases dr with
 | stuck => exact absurd hr.symm hne
 | full =>
  have hr:Out.full=r:=hr
  subst hr
  refine (down_anyT hT h0 root key hkey (by omega) .full hdr (by simp)).mono ?_
  rintro e w2 ⟨rfl,tag2,N2,X2,h2,m2⟩
  exact end_thrown rfl ⟨rfl,tag2,N2,X2,h2.mono (by omega),M0.trans m2⟩
 | ok dq =>
  obtain ⟨N1,X1,L⟩:=dq
  dsimp only at hr
  refine (down_anyT hT h0 root key hkey (by omega) _ hdr (by simp)).mono ?_
  rintro e w2 ⟨wb,a1,c1,S,rt,rfl,rfl,⟨y,hy,hyt⟩,hSn,hSl,hwb,hfp,tag2,h2,m2,W2⟩
  have hwr1:w.heap.size < w1.heap.size:=by omega
  have t2:=m2.there t0 tb
  have b2:=m2.four tb hwr1
  have M2:=M0.trans m2
  obtain ⟨k,hk⟩:∃ k,S.length=k+1:=⟨S.length - 1,by have:=(List.getElem?_eq_some_iff.1 hy).1;omega⟩
  obtain ⟨x,hx⟩:∃ x,S[k]?=some x:=⟨_,List.getElem?_eq_getElem (by omega)⟩
  have hxs:=hSn x (List.mem_of_getElem? hx)
  have cT:=take_anyT h2 W2 k hk (by omega) x hx hxs.2 key
  obtain ⟨fi,hfi⟩:∃ fi,x.node.nd.find key=fi:=⟨_,rfl⟩
  obtain ⟨is,his⟩:∃ is,x.node.nd.is key=is:=⟨_,rfl⟩
  rw [hfi,his] at cT
  have hfl:fi≤x.node.K.length:=by rw [← hfi];exact find_le key
  have hil:is=true→fi < x.node.K.length:=fun e => by
   have:=is_lt (his.trans e)
   rw [hfi] at this
   exact this.1
  have HB:=mkHid (And.intro hwb hfp)
  have HFI:=mkHid (And.intro hfi his)
  have HK:=mkHid hk
  clear hwb hfp hfi his
  go_wp2_with fail
  refine cT.mono ?_
  rintro e w3 ⟨rfl,tag3,q,h3,m3,W3,hqn⟩
  obtain ⟨od9,hod9⟩:∃ od9,(if is=true then x.node.nd.V.getD fi 0 else 0)=od9:=⟨_,rfl⟩
  rw [hod9,Bool.or_false] at W3
  have HOD:=mkHid hod9
  clear hod9
  have hkS:S.length=k+1:=HK.out
  have hx3:(S.set k { x with node:=q })[k]?=some { x with node:=q }:=List.getElem?_set_self (by omega)
  have cL:=leaf_any W3 k (by rw [List.length_set];exact hkS) (by omega)
  have m03:Mv tag tag3 w w3:=mv_of m3 M2 (fun j hj => by
   rcases List.mem_cons.1 hj with rfl | h9
   ·have:=HB.out.1;omega
   ·have:=HB.out.2 j h9;omega)
  have nb:w.heap.size ∉ wb :: fp a1 c1:=fun hm => by
   rcases List.mem_cons.1 hm with e9 | h9
   ·have:=HB.out.1;omega
   ·have:=HB.out.2 _ h9;omega
  have t3:w3.there w.heap.size 0 6:=by
   obtain ⟨T,hT3,h1⟩:=m3.c
   exact there_chg t2 hT3 (fun hm => (h1 _ hm).elim (by omega) (fun q => q.elim (by omega) nb))
  have b3:=m3.four b2 (there_lt t2 (by decide))
  clear cT h2 m2 W2 M2 t2 b2 m3
  go_wp2_with fail
  refine cL.mono ?_
  rintro e w4 ⟨b,o,rfl,rfl,g4⟩
  have h4:=h3.keep g4
  have W4:=W3.keep g4
  have m04:=m03.then g4
  have t4:=there_chg t3 g4 (by simp)
  obtain ⟨b',o',e',st4,hbf⟩:=W4.r1.step hx3
  cases e'
  have nq4:=(W4.r1.nd _ (List.mem_of_getElem? hx3)).2
  dsimp only at nq4
  have hsq:q.nd.sq∧fi≤q.K.length:=by
   cases is with
   | false =>
    rw [if_neg (by simp)] at hqn
    refine ⟨by rw [hqn];exact hxs.2,?_⟩
    rw [show q.K=x.node.K from congrArg Nd.K hqn]
    exact hfl
   | true =>
    rw [if_pos rfl] at hqn
    have h1:=hil rfl
    have h2:=hxs.2.1
    have h3:=hxs.2.2
    have e1:q.K=x.node.K.eraseIdx fi:=congrArg Nd.K hqn
    have e2:q.V=x.node.V.eraseIdx fi:=congrArg Nd.V hqn
    have l1:q.K.length=x.node.K.length - 1:=by rw [e1,List.length_eraseIdx,if_pos h1]
    have l2:q.V.length=x.node.V.length - 1:=by rw [e2,List.length_eraseIdx,if_pos (by have:x.node.K.length=x.node.V.length:=h2;omega)]
    have h2':x.node.K.length=x.node.V.length:=h2
    have h3':x.node.K.length≤100:=h3
    exact ⟨⟨show q.K.length=q.V.length by omega,show q.K.length≤100 by omega⟩,by omega⟩
  have cI:=kinsN h4 q nq4 hsq.1 fi key val hsq.2 hkey hval
  unfold CN.val at cI
  obtain ⟨⟨e0,e1,e2,e3,e4,e5,e6,e7⟩,-⟩:=st4.all
  dsimp only at e0 e1 e2 e3 e4 e5 e6 e7
  have tb4:=W4.r1.tg b hbf
  clear cL h3 W3 m03 t3 g4
  go_wp2_with fail
  refine cI.mono ?_
  rintro e w5 ⟨q',rfl,hq'n,tag5,h5,m5,nq5⟩
  have W5:=W4.mv m5
  have m05:=m04.trans m5
  have st5:=st4.mv m5 tb4
  have t5:=m5.there t4 b3
  have b5:=m5.four b3 (there_lt t4 (by decide))
  obtain ⟨W6,g6⟩:=W5.wr hx3 nq5
  rw [List.set_set] at W6
  dsimp only at W6 g6
  obtain ⟨⟨f0,f1,f2,f3,f4,f5,f6,f7⟩,z0,z1,z2,z3,z4,z5,z6,z7⟩:=st5.all
  dsimp only at f0 f1 f2 f3 f4 f5 f6 f7
  obtain ⟨w6,hw6⟩:∃ w6,w6=wr3 w5 b (o+k * 8) q':=⟨_,rfl⟩
  rw [← hw6] at W6 g6
  have hS6:∀ j,j∈fp (some ⟨b,o,none⟩) c1→tag5 j=4:=W5.r1.tg
  have h6:=h5.wrote g6 hS6
  have m06:=m05.wrote g6 (fun j hj => by have:=HB.out.2 j hj;omega)
  have t6:=there_chg t5 g6 (fun hm => nb (List.mem_cons_of_mem _ hm))
  have HW6:=mkHid hw6
  unfold CN.val
  have hy6:(S.set k { t:=x.t,was:=x.was,node:=q',pl:=x.pl }).length=k+1:=by rw [List.length_set];exact hkS
  have hleaf:leafed (S.map CS.abs) key val=.ok ((S.set k { t:=x.t,was:=x.was,node:=q',pl:=x.pl }).map CS.abs,od9,is):=by
   rw [← HOD.out]
   unfold leafed
   rw [List.length_map,hkS,Nat.add_sub_cancel,List.getElem?_map,hx]
   dsimp only [Option.map_some]
   rw [show x.abs.node.find key=fi from HFI.out.1,show x.abs.node.is key=is from HFI.out.2,List.map_set]
   have e9:CS.abs { t:=x.t,was:=x.was,node:=q',pl:=x.pl }=⟨x.t,x.was.nd,q'.nd,x.pl⟩:=rfl
   rw [e9,hq'n,hqn]
   rfl
  have hroot:(S.map CS.abs)[0]?=some y.abs:=by rw [List.getElem?_map,hy];rfl
  rw [hleaf,hroot] at hr
  dsimp only at hr
  rw [show y.abs.t=rt from hyt] at hr
  obtain ⟨ur,hur⟩:∃ ur,upA (comeG C) (N1,X1,(S.set k { t:=x.t,was:=x.was,node:=q',pl:=x.pl }).map CS.abs,[],rt)=ur:=⟨_,rfl⟩
  rw [hur] at hr
  have htS:∀ z,z∈(S.set k { t:=x.t,was:=x.was,node:=q',pl:=x.pl }).map CS.abs→z.t < n:=fun z hz => by
   obtain ⟨z',hz',rfl⟩:=List.mem_map.1 hz
   rcases List.mem_or_eq_of_mem_set hz' with h9 | rfl
   ·exact (hSn z' h9).1
   ·exact hxs.1
  have hrtn:rt < 2 ^ 64:=by
   have:=(hSn y (List.mem_of_getElem? hy)).1
   have:=h.lens
   omega
  have HUR:=mkHid hur
  have HR:=mkHid hr
  have HMB:=mkHid (And.intro m06 nb)
  have HTS:=mkHid htS
  have HH6:=mkHid (And.intro h6 W6)
  clear hur hr htS hleaf hroot hw6 hqn hq'n m06 nb h5 W5 m05 t5 cI st4 st5 nq4 nq5 hS6 g6 h4 W4 m04 t4 hx3 h0 t0 M0 h6 W6
  have W6:=HH6.out.2
  have h6:=HH6.out.1
  have cU:=fun (rr:Out WaySt) (hrr:upA (comeG C) (N1,X1,(S.set k { t:=x.t,was:=x.was,node:=q',pl:=x.pl }).map CS.abs,[],rt)=rr) (hrn:rr ≠ .stuck) => up_anyT HT.out h6 W6 (by omega) 2 (by decide) (by omega) (by omega) hrtn 113 grown_enters (comeG C) (fun _ s => (∀ z,z∈s.2.2.1→z.t < n)∧∀ z,z∈s.2.2.2.1→z.t < n) (fun i s s' hI hc => by
    obtain ⟨x1,v1,hx1,hv1,hV1,-,hL1⟩:=comeG_ok hc
    refine ⟨fun z hz => ?_,fun z hz => ?_⟩
    ·obtain ⟨z0,h1,h2⟩:=hL1 z hz
     rw [h2]
     exact hI.1 z0 h1
    ·rw [hV1] at hz
     rcases kept_mem hz with h1 | h1
     ·exact hI.2 z h1
     ·rw [h1,hv1]
      exact hI.1 x1 (List.mem_of_getElem? hx1)) (fun i s s' hI hc => by
    obtain ⟨x1,v1,hx1,hv1,hV1,hL0,-⟩:=comeG_ok hc
    exact ⟨hL0,by rw [hV1];have:=kept_len s.2.2.2.1 v1;omega⟩) (fun s hs => hs.2) (fun i w1 tg N1 X1 u1 b2 d2 S1 V1 rt1 hi hS1 hV1 hI hr1 hu1 hX1 hW1 hne1 => by
    have hsp:splits (S1.map CS.abs) i=true:=by
     unfold comeG at hne1
     dsimp only at hne1
     by_cases hs:splits (S1.map CS.abs) i=true
     ·exact hs
     ·rw [if_neg hs] at hne1;exact absurd rfl hne1
    have hcg:comeG C (N1,X1,S1.map CS.abs,V1.map CS.abs,rt1) i=grownA N1 C X1 (S1.map CS.abs) (V1.map CS.abs) rt1 i:=by
     unfold comeG
     dsimp only
     rw [if_pos hsp]
    refine grown_any HT.out hX1 hW1 hu1 i hi hS1 (by omega) hr1 (fun s hs h8 => ?_) (fun j y s hj hs h8 hy => ?_) _ hcg.symm hne1
    ·have hm:(S1.map CS.abs)[i]?=some s.abs:=by rw [List.getElem?_map,hs];rfl
     exact ⟨hI.1 _ (List.mem_of_getElem? hm),splits_x hsp hm h8⟩
    ·subst hj
     have hm:(S1.map CS.abs)[j+1]?=some s.abs:=by rw [List.getElem?_map,hs];rfl
     have hy2:(S1.map CS.abs)[j]?=some y.abs:=by rw [List.getElem?_map,hy];rfl
     exact splits_y hsp hm h8 hy2) ⟨HTS.out,by simp⟩ rfl rr hrr hrn
  have hsp:_=_:=HW6.out
  unfold wr3 at hsp
  have HSP:=mkHid hsp
  clear hsp
  obtain ⟨m06,nb⟩:=HMB.out
  have HM:=mkHid (And.intro m06 nb)
  clear m06 nb
  cases ur with
  | stuck => exact absurd HR.out.symm hne
  | full =>
   have cU1:=cU .full HUR.out (by simp)
   have hr:Out.full=r:=HR.out
   subst hr
   clear cU
   go_wp2_with fail
   rw [← HSP.out]
   refine cU1.mono ?_
   rintro e w7 ⟨rfl,tag7,N7,X7,h7,m7⟩
   refine end_thrown rfl ⟨rfl,tag7,N7,X7,h7.mono (by omega),mv_of m7 HM.out.1 (fun j hj => ?_)⟩
   rcases List.mem_cons.1 hj with rfl | h9
   ·have:=HB.out.1;omega
   ·rcases List.mem_append.1 h9 with h8 | h8
    ·have:=HB.out.2 j h8;omega
    ·simp [fp_zero] at h8
  | ok uq =>
   obtain ⟨N7,X7,L7,V7,r7⟩:=uq
   have cU1:=cU _ HUR.out (by simp)
   have hr:Out.ok (N7,X7,r7,od9,is)=r:=HR.out
   subst hr
   clear cU
   go_wp2_with fail
   rw [← HSP.out]
   refine cU1.mono ?_
   rintro e w7 ⟨rfl,tag7,a2',c2',S7,V7',h7,m7,W7,eS,eV,hf7,hrt7⟩
   have hjj:∀ j,j∈wb :: (fp (some ⟨b,o,none⟩) c1++fp none 0)→w.heap.size+1≤j:=fun j hj => by
    rcases List.mem_cons.1 hj with rfl | h9
    ·have:=HB.out.1;omega
    ·rcases List.mem_append.1 h9 with h8 | h8
     ·have:=HB.out.2 j h8;omega
     ·simp [fp_zero] at h8
   have m07:=mv_of m7 HM.out.1 (fun j hj => by have:=hjj j hj;omega)
   have t7:w7.there w.heap.size 0 6:=by
    obtain ⟨T,hT7,h1⟩:=m7.c
    exact there_chg t6 hT7 (fun hm => (h1 _ hm).elim (by omega) (fun q => q.elim (by omega) (fun hm => by have:=hjj _ hm;omega)))
   have b7:=m7.four b5 (there_lt t6 (by decide))
   obtain ⟨⟨v0,v1,v2,v3,v4,v5,r0,r1,r2,r3,r4,r5⟩,y0,y1,y2,y3,y4,y5⟩:=cells6 t7
   have p0:=W7.p0
   have p1:=W7.p1
   have p2:=W7.p2
   have p3:=W7.p3
   have p4:=W7.p4
   have p5:=W7.p5
   have H7:=mkHid (And.intro h7 (And.intro m07 b7))
   clear h7 m7 W7 eS eV hf7 m07 t7
   go_wp2_with fail
   refine bodyPost_ret (v:=wayV sb (some ⟨b,o,none⟩) S7.length c1 a2' V7'.length c2' r7 od9 is) (by simp [results,Tryz.results59,go_sem,r0,r1,r2,r3,r4,r5,wayV]) rfl ?_
   obtain ⟨h7,m07,b7⟩:=H7.out
   have G:=six_chg w7 w.heap.size (.pointer (some ⟨sb,0,none⟩)) (.slice (some ⟨b,o,none⟩) S7.length c1) (.slice a2' V7'.length c2') (.int .u64 (r7:Int)) (.int .u64 (od9:Int)) (.bool is)
   exact ⟨some ⟨b,o,none⟩,S7.length,c1,a2',V7'.length,c2',rfl,tag7,(h7.wrote G (fun j hj => by simp at hj;subst hj;exact b7)).mono (by omega),m07.wrote G (fun j hj => by simp at hj;omega)⟩
end
end
section
set_option maxRecDepth 200000
open Go.RowKit
attribute [local go_sem ↓] Go.wp_at_zero Go.wp_at_succ
def neighI (p k:Nat):Int:=if p+1 < k then (p:Int)+1 else (p:Int) - 1
theorem neigh_any (s:CS) (hp:s.pl≤1000) (w:World):Calls Tryz.prog 160 #[s.val] w fun e w' => e=.returned (.int .i64 (neighI s.pl s.node.K.length))∧Chg [] w w':=by
 unfold CS.val stepV
 have g0:=Chg.alloc [] w (.cells s.cells.toArray 139)
 have sX:=new_step w s 139
 obtain ⟨⟨f0,f1,f2,f3,f4,f5,f6,f7⟩,-⟩:=sX.all
 simp only [Nat.zero_add] at f1 f2 f3 f4 f5 f6 f7
 have e1:IntKind.i64.wrap ((s.pl:Int)+1)=((s.pl:Int)+1):=Go.IntWalk.i64_in _ (by omega)
 have e2:IntKind.i64.wrap ((s.pl:Int) - 1)=((s.pl:Int) - 1):=Go.IntWalk.i64_in _ (by omega)
 unfold CS.cells at g0 f0 f1 f2 f3 f4 f5 f6 f7
 by_cases hlt:s.pl+1 < s.node.K.length
 ·have d:decide (((s.pl:Int)+1) < (s.node.K.length:Int))=true:=decide_eq_true (by omega)
  have hn:neighI s.pl s.node.K.length=(s.pl:Int)+1:=if_pos hlt
  rw [hn]
  clear sX hn
  go_enter Tryz.func160,Tryz.ntmps160
  go_wp2_with fail
  go_ret
  exact ⟨rfl,g0⟩
 ·have d:decide (((s.pl:Int)+1) < (s.node.K.length:Int))=false:=decide_eq_false (by omega)
  have hn:neighI s.pl s.node.K.length=(s.pl:Int) - 1:=if_neg hlt
  rw [hn]
  clear sX hn
  go_enter Tryz.func160,Tryz.ntmps160
  go_wp2_with fail
  go_ret
  exact ⟨rfl,g0⟩
def lessA (N:List UInt8) (t:Nat):Option (List UInt8):=if (decN N (blkI t)).2.1=0 then some (decN N (blkI t)).2.2 else none
def topA (N:List UInt8) (V:List AS) (rt:Nat) (x:AS):Option (List UInt8 × List AS × Nat):=
 if x.node.lf=true∧x.node.K.length=0 then (match lessA N x.t with
  | none => none
  | some N' => some (N',V,0)) else
 if x.node.lf=false∧x.node.K.length=1 then (match lessA N x.t,x.node.V[0]? with
  | some N',some v => some (N',V,v)
  | _,_ => none) else some (N,keptV V x,rt)
theorem topA_cases {N:List UInt8} {V:List AS} {rt:Nat} {x:AS} {N':List UInt8} {V':List AS} {rt':Nat} (h:topA N V rt x=some (N',V',rt')) :
  (x.node.lf=true∧x.node.K.length=0∧lessA N x.t=some N'∧V'=V∧rt'=0) ∨ (x.node.lf=false∧x.node.K.length=1∧lessA N x.t=some N'∧x.node.V[0]?=some rt'∧V'=V) ∨
  (((x.node.lf=true∧x.node.K.length ≠ 0) ∨ (x.node.lf=false∧x.node.K.length ≠ 1))∧N'=N∧V'=keptV V x∧rt'=rt):=by
 unfold topA at h
 split at h
 case isTrue h1 =>
  cases hl:lessA N x.t with
  | none => rw [hl] at h;cases h
  | some N2 => rw [hl] at h;cases h;exact Or.inl ⟨h1.1,h1.2,rfl,rfl,rfl⟩
 case isFalse h1 =>
  split at h
  case isTrue h2 =>
   cases hl:lessA N x.t with
   | none => rw [hl] at h;cases h
   | some N2 =>
    cases hv:x.node.V[0]? with
    | none => rw [hl,hv] at h;cases h
    | some v => rw [hl,hv] at h;cases h;exact Or.inr (Or.inl ⟨h2.1,h2.2,rfl,rfl,rfl⟩)
  case isFalse h2 =>
   cases h
   refine Or.inr (Or.inr ⟨?_,rfl,rfl,rfl⟩)
   cases hlf:x.node.lf with
   | true => exact Or.inl ⟨rfl,fun q => h1 ⟨hlf,q⟩⟩
   | false => exact Or.inr ⟨rfl,fun q => h2 ⟨hlf,q⟩⟩
def TopPost (w0 w:World) (tag:Nat→Nat) (sb rb n:Nat) (C:List UInt8) (X:Nat→Option Nd) (u wb:Nat) (a1:Option Addr) (c1:Nat) (a2:Option Addr) (c2:Nat) (S:List CS) (od:Nat) (th:Bool) (N':List UInt8) (V':List AS) (rt':Nat) (e:Ending) (w':World):Prop:=
 e=.returned (.tuple #[])∧∃ (tag':Nat→Nat) (a2':Option Addr) (c2':Nat) (V:List CS),HasX w0 w' tag' sb rb n N' C X u∧Mvb (wb :: (fp a1 c1++fp a2 c2)) tag tag' w w'∧WayAt w' w0.heap.size tag' wb sb a1 c1 a2' c2' S V rt' od th∧V.map CS.abs=V'∧(∀ k,k∈fp a2' c2'→k∈fp a2 c2 ∨ w.heap.size≤k)∧rt' < 2 ^ 64
section
variable {w0 w:World} {tag:Nat→Nat} {sb rb n:Nat} {N C:List UInt8} {X:Nat→Option Nd} {u:Nat} {wb:Nat} {a1:Option Addr} {c1:Nat} {a2:Option Addr} {c2:Nat} {S V:List CS} {rt od:Nat} {th:Bool}
theorem less_some (h:HasX w0 w tag sb rb n N C X u) (t:Nat) (ht:t < 2 ^ 64) {N':List UInt8} (hl:lessA N t=some N'):Calls Tryz.prog 124 #[.pointer (some ⟨sb,0,none⟩),.int .u64 (t:Int)] w fun e w' => e=.returned (.tuple #[])∧∃ tag',HasX w0 w' tag' sb rb n N' C X u∧Mv tag tag' w w':=by
 unfold lessA at hl
 split at hl
 case isFalse => cases hl
 case isTrue h0 =>
  cases hl
  exact less_x h t ht (decN N (blkI t)).1 _ (Prod.ext rfl (Prod.ext h0 rfl))
set_option maxHeartbeats 2000000 in
theorem top_any (h:HasX w0 w tag sb rb n N C X u) (hw:WayAt w w0.heap.size tag wb sb a1 c1 a2 c2 S V rt od th) (hVl:V.length≤100) (hrt:rt < 2 ^ 64) (x:CS) (hx:NdAt w tag x.was∧NdAt w tag x.node) (hxt:x.t < n) (hsq:x.node.nd.sq)
  (N':List UInt8) (V9:List AS) (rt':Nat) (hr:topA N (V.map CS.abs) rt x.abs=some (N',V9,rt')) :
  Calls Tryz.prog 159 #[.pointer (some ⟨wb,0,none⟩),x.val] w (TopPost w0 w tag sb rb n C X u wb a1 c1 a2 c2 S od th N' V9 rt'):=by
 have hxn:x.t < 2 ^ 64:=by have:=h.lens;omega
 have gK:=Chg.alloc [] w (.cells x.cells.toArray 139)
 have sX:=new_step w x 139
 have h1:=h.keep gK
 have W1:=hw.keep gK
 have cK:=keep_any h1 W1 x ⟨hx.1.keep gK,hx.2.keep gK⟩ (by omega)
 obtain ⟨⟨f0,f1,f2,f3,f4,f5,f6,f7⟩,-⟩:=sX.all
 simp only [Nat.zero_add] at f1 f2 f3 f4 f5 f6 f7
 have M1:=Mv.made gK h.hi
 have hbx:=h.hi w.heap.size (Nat.le_refl _)
 have hcs:=topA_cases hr
 clear hr
 have HX:=mkHid hx
 clear hx sX
 have p0:=W1.p0
 have p3:=W1.p3
 have hz3:=W1.f 3
 unfold CS.val stepV at cK ⊢
 unfold CS.cells at gK f0 f1 f2 f3 f4 f5 f6 f7 h1 W1 cK M1 p0 p3 hz3
 have hwl:=hw.lt
 have hfin:Hid (∀ (w':World) (a2':Option Addr) (c2':Nat),WayAt w' w0.heap.size tag wb sb a1 c1 a2' c2' S (keepA V x) rt od th→∀ w1,Chg [] w w1→Chg (wb :: fp a2 c2) w1 w'→HasX w0 w1 tag sb rb n N C X u→(∀ k,k∈fp a2' c2'→k∈fp a2 c2 ∨ w1.heap.size≤k)→TopPost w0 w tag sb rb n C X u wb a1 c1 a2 c2 S od th N (keptV (V.map CS.abs) x.abs) rt (.returned (.tuple #[])) w'):=mkHid fun w' a2' c2' W2 w1 g1 g2 h1 hf => by
  have hS:∀ k,k∈wb :: fp a2 c2→tag k=4:=fun k hk => by
   rcases List.mem_cons.1 hk with rfl | h9
   ·exact hw.tb
   ·exact hw.r2.tg k h9
  have G:Chg (wb :: fp a2 c2) w w':=g1.trans g2 (by simp) (fun k hk _ => hk)
  refine ⟨rfl,tag,a2',c2',keepA V x,h1.wrote g2 hS,?_,W2,keep_abs _ _,fun k hk => (hf k hk).imp id (fun h9 => Nat.le_trans g1.size h9),hrt⟩
  exact ((Mv.made (Chg.refl [] w) h.hi).b _).wrote G (fun k hk _ => by
   rcases List.mem_cons.1 hk with rfl | h9
   ·simp
   ·exact List.mem_cons_of_mem _ (List.mem_append_right _ h9))
 have HH:=mkHid h
 have HW:=mkHid hw
 clear h hw
 rcases hcs with ⟨hlf,h0,hl,rfl,rfl⟩ | ⟨hlf,h0,hl,hv,rfl⟩ | ⟨hlf,rfl,rfl,rfl⟩
 ·obtain ⟨xt,was,⟨lf,ka,kc,va,vc,K,V'⟩,xp⟩:=x
  have hlf:lf=true:=hlf
  subst hlf
  dsimp only at hxt hxn f0 f1 f2 f3 f4 f5 f6 f7 p0 p3 hz3 gK h1 W1 M1
  have h0:K.length=0:=h0
  have d0:((K.length:Int) == 0)=true:=beq_iff_eq.2 (show (K.length:Int)=0 by omega)
  clear h0
  clear cK hfin h1 W1 M1
  have GS:Chg [wb] w (w.setCell ⟨wb,3,none⟩ (.int .u64 0)):=Chg.setCell w ⟨wb,3,none⟩ _
  have WS:WayAt (w.setCell ⟨wb,3,none⟩ (.int .u64 0)) w0.heap.size tag wb sb a1 c1 a2 c2 S V 0 od th:=HW.out.root 0
  have hS:HasX w0 (w.setCell ⟨wb,3,none⟩ (.int .u64 0)) tag sb rb n N C X u:=HH.out.set HW.out.tb
  have gS:=Chg.alloc [] (w.setCell ⟨wb,3,none⟩ (.int .u64 0)) (.cells [.int .u64 (xt:Int),.bool was.lf,.slice was.ka was.K.length was.kc,.slice was.va was.V.length was.vc,.bool true,.slice ka K.length kc,.slice va V'.length vc,.int .i64 (xp:Int)].toArray 139)
  have hS2:=hS.keep gS
  have WS2:=WS.keep gS
  have MS2:Mvb (wb :: (fp a1 c1++fp a2 c2)) tag tag w ((w.setCell ⟨wb,3,none⟩ (.int .u64 0)).alloc (.cells [.int .u64 (xt:Int),.bool was.lf,.slice was.ka was.K.length was.kc,.slice was.va was.V.length was.vc,.bool true,.slice ka K.length kc,.slice va V'.length vc,.int .i64 (xp:Int)].toArray 139)):=(((Mv.made (Chg.refl [] w) HH.out.hi).b _).wrote GS (fun k hk _ => by simp at hk;subst hk;simp)).wrote gS (by simp)
  have fS0:((w.setCell ⟨wb,3,none⟩ (.int .u64 0)).alloc (.cells [.int .u64 (xt:Int),.bool was.lf,.slice was.ka was.K.length was.kc,.slice was.va was.V.length was.vc,.bool true,.slice ka K.length kc,.slice va V'.length vc,.int .i64 (xp:Int)].toArray 139)).cell? ⟨w.heap.size,0,none⟩=some (.int .u64 (xt:Int)):=by
   have q:=(new_step (w.setCell ⟨wb,3,none⟩ (.int .u64 0)) ⟨xt,was,⟨true,ka,kc,va,vc,K,V'⟩,xp⟩ 139).all.1.1
   rw [show (w.setCell ⟨wb,3,none⟩ (.int .u64 0)).heap.size=w.heap.size by simp] at q
   exact q
  have pS0:=WS2.p0
  have HM:=mkHid (And.intro MS2 WS2)
  clear GS WS hS gS WS2 MS2
  go_enter Tryz.func159,Tryz.ntmps159
  go_wp2_with fail
  generalize ((w.setCell ⟨wb,3,none⟩ (.int .u64 0)).alloc (.cells [.int .u64 (xt:Int),.bool was.lf,.slice was.ka was.K.length was.kc,.slice was.va was.V.length was.vc,.bool true,.slice ka K.length kc,.slice va V'.length vc,.int .i64 (xp:Int)].toArray 139))=w2 at *
  have cL:=less_some (hS2.keep (Chg.drew [] w2)) xt hxn hl
  go_still_tail 6,(by kernel_rfl)
  have hdr:({ heap:=w2.heap,tape:=w2.tape,drawn:=w2.drawn+1,os:=w2.os,output:=w2.output }:World)=w2.drew:=rfl
  rw [hdr]
  clear hdr
  go_wp2_with fail
  refine cL.mono ?_
  rintro e w3 ⟨rfl,tag3,h3,m3⟩
  go_wp2_with fail
  go_end0
  obtain ⟨M2,W2⟩:=HM.out
  exact ⟨rfl,tag3,a2,c2,V,h3,(M2.wrote (Chg.drew [] w2) (by simp)).trans (m3.b []) (fun _ h _ => h) (by simp),(W2.keep (Chg.drew [] w2)).mv m3,rfl,fun k hk => Or.inl hk,by decide⟩
 ·obtain ⟨xt,was,⟨lf,ka,kc,va,vc,K,V'⟩,xp⟩:=x
  have hlf:lf=false:=hlf
  subst hlf
  dsimp only at hxt hxn f0 f1 f2 f3 f4 f5 f6 f7 p0 p3 hz3 gK h1 W1 M1
  have hk1:K.length=1:=h0
  have hlV:V'.length=1:=by have h9:K.length=V'.length:=hsq.1;omega
  have hv:V'[0]?=some rt':=hv
  obtain ⟨vb,vo,hva,hc⟩:=HX.out.2.rd.rv (by simp [uvs_len];omega)
  have cv0:=hc 0 _ (uvs_get hv)
  rw [Nat.add_zero] at cv0
  have cv:=gK.cellv cv0 (by simp)
  have hvb:rt' < 2 ^ 64:=HX.out.2.bV _ (List.mem_of_getElem? hv)
  dsimp only at hva
  subst hva
  dsimp only
  try rw [hk1] at gK
  try rw [hk1] at f0
  try rw [hk1] at f1
  try rw [hk1] at f2
  try rw [hk1] at f3
  try rw [hk1] at f4
  try rw [hk1] at f5
  try rw [hk1] at f6
  try rw [hk1] at f7
  try rw [hk1] at p0
  try rw [hk1] at p3
  try rw [hk1] at hz3
  try rw [hk1] at cv
  rw [hk1]
  have hi0:(0:Int) < (V'.length:Int):=by omega
  have hvn:vb ≠ w.heap.size:=by have:=block_lt_of_cell cv0;dsimp only at this;omega
  clear hlV hc hv
  clear cK hfin h1 W1 M1
  have GS:Chg [wb] w (w.setCell ⟨wb,3,none⟩ (.int .u64 (rt':Int))):=Chg.setCell w ⟨wb,3,none⟩ _
  have WS:WayAt (w.setCell ⟨wb,3,none⟩ (.int .u64 (rt':Int))) w0.heap.size tag wb sb a1 c1 a2 c2 S V rt' od th:=HW.out.root rt'
  have hS:HasX w0 (w.setCell ⟨wb,3,none⟩ (.int .u64 (rt':Int))) tag sb rb n N C X u:=HH.out.set HW.out.tb
  have gS:=Chg.alloc [] (w.setCell ⟨wb,3,none⟩ (.int .u64 (rt':Int))) (.cells [.int .u64 (xt:Int),.bool was.lf,.slice was.ka was.K.length was.kc,.slice was.va was.V.length was.vc,.bool false,.slice ka 1 kc,.slice (some ⟨vb,vo,none⟩) V'.length vc,.int .i64 (xp:Int)].toArray 139)
  have hS2:=hS.keep gS
  have WS2:=WS.keep gS
  have MS2:Mvb (wb :: (fp a1 c1++fp a2 c2)) tag tag w ((w.setCell ⟨wb,3,none⟩ (.int .u64 (rt':Int))).alloc (.cells [.int .u64 (xt:Int),.bool was.lf,.slice was.ka was.K.length was.kc,.slice was.va was.V.length was.vc,.bool false,.slice ka 1 kc,.slice (some ⟨vb,vo,none⟩) V'.length vc,.int .i64 (xp:Int)].toArray 139)):=(((Mv.made (Chg.refl [] w) HH.out.hi).b _).wrote GS (fun k hk _ => by simp at hk;subst hk;simp)).wrote gS (by simp)
  have fS0:((w.setCell ⟨wb,3,none⟩ (.int .u64 (rt':Int))).alloc (.cells [.int .u64 (xt:Int),.bool was.lf,.slice was.ka was.K.length was.kc,.slice was.va was.V.length was.vc,.bool false,.slice ka 1 kc,.slice (some ⟨vb,vo,none⟩) V'.length vc,.int .i64 (xp:Int)].toArray 139)).cell? ⟨w.heap.size,0,none⟩=some (.int .u64 (xt:Int)):=by
   have q:=(new_step (w.setCell ⟨wb,3,none⟩ (.int .u64 (rt':Int))) ⟨xt,was,⟨false,ka,kc,(some ⟨vb,vo,none⟩),vc,K,V'⟩,xp⟩ 139).all.1.1
   rw [show (w.setCell ⟨wb,3,none⟩ (.int .u64 (rt':Int))).heap.size=w.heap.size by simp] at q
   unfold CS.cells at q
   dsimp only at q
   rw [hk1] at q
   exact q
  have pS0:=WS2.p0
  clear hk1
  have HM:=mkHid (And.intro MS2 WS2)
  clear GS WS hS gS WS2 MS2
  go_enter Tryz.func159,Tryz.ntmps159
  go_wp2_with fail
  generalize ((w.setCell ⟨wb,3,none⟩ (.int .u64 (rt':Int))).alloc (.cells [.int .u64 (xt:Int),.bool was.lf,.slice was.ka was.K.length was.kc,.slice was.va was.V.length was.vc,.bool false,.slice ka 1 kc,.slice (some ⟨vb,vo,none⟩) V'.length vc,.int .i64 (xp:Int)].toArray 139))=w2 at *
  have cL:=less_some (hS2.keep (Chg.drew [] w2)) xt hxn hl
  go_still_tail 6,(by kernel_rfl)
  have hdr:({ heap:=w2.heap,tape:=w2.tape,drawn:=w2.drawn+1,os:=w2.os,output:=w2.output }:World)=w2.drew:=rfl
  rw [hdr]
  clear hdr
  go_wp2_with fail
  refine cL.mono ?_
  rintro e w3 ⟨rfl,tag3,h3,m3⟩
  go_wp2_with fail
  go_end0
  obtain ⟨M2,W2⟩:=HM.out
  exact ⟨rfl,tag3,a2,c2,V,h3,(M2.wrote (Chg.drew [] w2) (by simp)).trans (m3.b []) (fun _ h _ => h) (by simp),(W2.keep (Chg.drew [] w2)).mv m3,rfl,fun k hk => Or.inl hk,hvb⟩
 ·rcases hlf with ⟨hlf,h0⟩ | ⟨hlf,h0⟩
  ·obtain ⟨xt,was,⟨lf,ka,kc,va,vc,K,V'⟩,xp⟩:=x
   have hlf:lf=true:=hlf
   subst hlf
   dsimp only at hxt hxn f0 f1 f2 f3 f4 f5 f6 f7 p0 p3 hz3 gK h1 W1 M1 cK
   have h0:K.length ≠ 0:=h0
   have d0:((K.length:Int) == 0)=false:=by simpa using (show ¬ (K.length:Int)=0 by omega)
   have HK:=mkHid (And.intro h1 gK)
   clear h1 W1 M1
   go_enter Tryz.func159,Tryz.ntmps159
   go_wp2_with fail
   refine cK.mono ?_
   rintro e w2 ⟨rfl,a2',c2',W2,g2,hf2⟩
   go_wp2_with fail
   go_end0
   exact hfin.out w2 a2' c2' W2 _ HK.out.2 g2 HK.out.1 hf2
  ·obtain ⟨xt,was,⟨lf,ka,kc,va,vc,K,V'⟩,xp⟩:=x
   have hlf:lf=false:=hlf
   subst hlf
   dsimp only at hxt hxn f0 f1 f2 f3 f4 f5 f6 f7 p0 p3 hz3 gK h1 W1 M1 cK
   have h0:K.length ≠ 1:=h0
   have d0:((K.length:Int) == 1)=false:=by simpa using (show ¬ (K.length:Int)=1 by omega)
   have HK:=mkHid (And.intro h1 gK)
   clear h1 W1 M1
   go_enter Tryz.func159,Tryz.ntmps159
   go_wp2_with fail
   refine cK.mono ?_
   rintro e w2 ⟨rfl,a2',c2',W2,g2,hf2⟩
   go_wp2_with fail
   go_end0
   exact hfin.out w2 a2' c2' W2 _ HK.out.2 g2 HK.out.1 hf2
end
end
end Go.Proofs.YtdgkbicelnnfpaaGreatDoor
