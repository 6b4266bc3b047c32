/- Texts Te, Tf, Tg, Ig of the library, joined. -/
import Derived.Test.YtdgkbicelnnfpaaGreatDoorM18
import Derived.Deep.RegionLaw
set_option linter.unusedVariables false
set_option linter.unusedSimpArgs false
namespace Go.Proofs.YtdgkbicelnnfpaaGreatDoor
section
set_option maxRecDepth 200000
open Go.RowKit Go.Maps
attribute [local go_sem ↓] Go.wp_at_zero Go.wp_at_succ
def saveN (Y:Nat→List UInt8) (n a:Nat) (m:Nd):Int × (Nat→List UInt8):=
 if 2147483647 < a then (1,Y) else if mayB m.K m.V=false then (1,Y) else if n≤a then (6,Y) else (0,fun x => if x=a then sealB (formN m.lf m.K m.V) a 1 else Y x)
section
variable {w0 w:World} {tag:Nat→Nat} {sb rb n:Nat} {N C:List UInt8} {Y:Nat→List UInt8} {u:Nat}
def SavePost (w0 w:World) (tag:Nat→Nat) (sb rb n:Nat) (N C:List UInt8) (u:Nat) (r:Int × (Nat→List UInt8)) (e:Ending) (w':World):Prop:=
 e=.returned (.int .i64 r.1)∧∃ tag',HasF w0 w' tag' sb rb n N C r.2 u∧Mv tag tag' w w'
theorem save_any (hT:Tab w0) (h:HasF w0 w tag sb rb n N C Y u) (a:Nat) (ha:a < 2 ^ 64) (hu:u≤100000000) (m:CN) (hm:NdAt w tag m) (r:Int × (Nat→List UInt8)) (hr:saveN Y n a m.nd=r):Calls Tryz.prog 16 #[.pointer (some ⟨sb,0,none⟩),.int .u64 (a:Int),m.val] w (SavePost w0 w tag sb rb n N C (u+1) r):=by
 obtain ⟨lf,ka,kc,va,vc,K,V⟩:=m
 unfold CN.val
 unfold saveN CN.nd at hr
 dsimp only at hr ⊢
 have g0:=Chg.alloc [] w (.cells #[.bool lf,.slice ka K.length kc,.slice va V.length vc] 53)
 have h0:=h.keep g0
 have n0:=hm.keep g0
 have hz0:(w.alloc (.cells #[.bool lf,.slice ka K.length kc,.slice va V.length vc] 53)).heap.size=w.heap.size+1:=by simp
 have M0:=Mv.made g0 h.l.hi
 by_cases c1:2147483647 < a
 ·rw [if_pos c1] at hr
  subst hr
  have cA:=asked_noT a c1 h0
  go_enter Tryz.func16,Tryz.ntmps16
  go_wp2_with (first | (go_at_call 46;refine cA.mono ?_;rintro e w' ⟨rfl,rfl⟩))
  go_ret
  exact ⟨rfl,tag,h0.mono (by omega),M0⟩
 ·rw [if_neg c1] at hr
  have cA:=asked_yesT a (by omega) h0
  have hcv:IntKind.i64.wrap (a:Int)=(a:Int):=Go.IntWalk.i64_in _ (by omega)
  obtain ⟨cb,hk,hs1⟩:=h0.k
  have HT:=mkHid hT
  have L0:=laid3 w (.bool lf) (.slice ka K.length kc) (.slice va V.length vc) 53
  obtain ⟨l0,l1,l2⟩:=L0
  by_cases c2:mayB K V=false
  ·rw [if_pos c2] at hr
   subst hr
   have cP:=put_node_no lf ka K.length kc va V.length vc K V _ n0.rd rfl rfl c2
   go_enter Tryz.func16,Tryz.ntmps16
   go_wp2_with fail
   generalize (w.alloc (.cells #[.bool lf,.slice ka K.length kc,.slice va V.length vc] 53))=w1 at *
   refine cA.mono ?_
   rintro e w' ⟨rfl,rfl⟩
   go_wp2_with fail
   refine cP.mono ?_
   rintro e w2 ⟨rfl,g2⟩
   go_wp2_with fail
   go_ret
   exact ⟨rfl,tag,(h0.keep g2).mono (by omega),M0.then g2⟩
  ·have c2':mayB K V=true:=by simpa using c2
   rw [if_neg c2] at hr
   obtain ⟨ml1,ml2,ml3⟩:=may_len c2'
   have hfl:(formN lf K V).length=2+16 * K.length:=form_len (by omega)
   have HM:=mkHid (And.intro ml1 ml2)
   clear ml3 ml1 ml2
   have cP:=put_node lf ka K.length kc va V.length vc K V _ n0.rd rfl rfl n0.bK n0.bV c2'
   generalize hF:formN lf K V=F at *
   have HR:=mkHid hr
   clear hr
   go_enter Tryz.func16,Tryz.ntmps16
   go_wp2_with fail
   generalize (w.alloc (.cells #[.bool lf,.slice ka K.length kc,.slice va V.length vc] 53))=w1 at *
   refine cA.mono ?_
   rintro e w' ⟨rfl,rfl⟩
   go_wp2_with fail
   refine cP.mono ?_
   rintro e w2 ⟨af,cf,rfl,rf,g2⟩
   have h2:=h0.keep g2
   have cS:=seal_any af F.length cf F (a:Int) 1 w2 (HT.out.then h2.chg) rf.reads rfl (by have:=HM.out;omega) (by decide)
   rw [show pn (a:Int)=a by unfold pn;omega] at cS
   have HFL:=mkHid hfl
   clear hfl
   go_wp2_with fail
   refine cS.mono ?_
   rintro e w3 ⟨xa,xc,rfl,rs,g3⟩
   have h3:=h2.keep g3
   have hk3:=(hk.keep g2).keep g3
   have G3:=g2.then g3
   have M3:=(M0.then g2).then g3
   have s13:=G3.cellv hs1 (by simp)
   have hsl:=seal_length F a 1 (by have:=HFL.out;have:=HM.out;omega)
   have hab:∀ k,k∈blk xa→k < w3.heap.size∧tag k ≠ 2:=fun k hk9 => by
    have h8:=rs.lt k (by unfold fp;rw [if_neg (by have:=rs.le;omega)];exact hk9)
    have:=h.l.hi k (by have:=g2.size;omega)
    exact ⟨h8.2,by omega⟩
   have HH:=mkHid hab
   clear hab
   by_cases c3:n≤a
   ·have hr:=HR.out
    rw [if_pos c3] at hr
    subst hr
    have cG:=k_put_no hk3 h3.l (a:Int) (Or.inr (by omega)) hu xa xc (sealB F a 1) hsl rs.reads HH.out
    clear hsl
    go_wp2_with fail
    refine cG.mono ?_
    rintro e w4 ⟨rfl,tag4,k4,l4,t4,m4⟩
    go_wp2_with fail
    go_ret
    exact ⟨rfl,tag4,h3.cache k4 l4 t4 s13,M3.trans m4⟩
   ·have hr:=HR.out
    rw [if_neg c3] at hr
    subst hr
    have cG:=k_put hk3 h3.l a (by omega) hu xa xc (sealB F a 1) hsl rs.reads HH.out
    clear hsl
    go_wp2_with fail
    refine cG.mono ?_
    rintro e w4 ⟨rfl,tag4,k4,l4,t4,m4⟩
    go_wp2_with fail
    go_ret
    exact ⟨rfl,tag4,h3.cache k4 l4 t4 s13,M3.trans m4⟩
theorem end_thrown {P:Program} {fn:Func} {R:Ending→World→Prop} {ch:List PanicEntry} {a:Act} {w:World} (h0:a.defers=[]) (h:R (.panicked ch) w):bodyPost P fn R (.panic ch) a w:=⟨h0,h⟩
theorem less_anyT (h:HasF w0 w tag sb rb n N C Y u) (a:Nat) (ha:a < 2 ^ 64) (b:Bool) (N':List UInt8) (hr:decN N (blkI a)=(b,0,N')):Calls Tryz.prog 124 #[.pointer (some ⟨sb,0,none⟩),.int .u64 (a:Int)] w fun e w' => e=.returned (.tuple #[])∧∃ tag',HasF w0 w' tag' sb rb n N' C Y u∧Mv tag tag' w w':=by
 have s0:=h.s0
 go_enter Tryz.func124,Tryz.ntmps124
 go_wp2_with fail
 have HD:=mkHid hr
 clear hr
 go_region_law (first
  | (go_simp;go_at_call 121;refine (block_no a _).mono ?_;rintro e w' ⟨rfl,rfl⟩)
  | (go_simp;go_at_call 24;refine (f_dec (h.keep (by first | exact Chg.refl [] _ | exact Chg.drew [] _ | exact (Chg.drew [] _).then (Chg.drew [] _))) (blkI a)).mono ?_;rw [HD.out];rintro e w' ⟨rfl,tag',h',m'⟩)
  | (go_simp;go_at_call 163;refine (surebool_ok b _).mono ?_;rintro e w' ⟨rfl,rfl⟩))
 all_goals
  go_wp2_with fail
  go_end0
  first | exact ⟨rfl,_,h',m'⟩ | exact ⟨rfl,_,h',(Mv.made (Chg.drew [] w) h.l.hi).trans m'⟩ | exact ⟨rfl,_,h',(Mv.made ((Chg.drew [] w).then (Chg.drew [] _)) h.l.hi).trans m'⟩
end
end
section
set_option maxRecDepth 200000
open Go.RowKit Go.Maps
attribute [local go_sem ↓] Go.wp_at_zero Go.wp_at_succ
def Nd.good (m:Nd):Prop:=mayB m.K m.V=true∧(∀ x∈m.K,x < 2 ^ 64)∧∀ x∈m.V,x < 2 ^ 64
def Rep (n:Nat) (X:Nat→Option Nd) (Y:Nat→List UInt8):Prop:=∀ a m,X a=some m→a < n∧m.good∧Y a=sealB (formN m.lf m.K m.V) a 1
def putX (X:Nat→Option Nd) (a:Nat) (m:Nd):Nat→Option Nd:=fun x => if x=a then some m else X x
theorem Rep.put {n:Nat} {X:Nat→Option Nd} {Y:Nat→List UInt8} (h:Rep n X Y) {a:Nat} {m:Nd} (ha:a < n) (hm:m.good):Rep n (putX X a m) (fun x => if x=a then sealB (formN m.lf m.K m.V) a 1 else Y x):=by
 intro x q hq
 unfold putX at hq
 by_cases e:x=a
 ·subst e
  rw [if_pos rfl] at hq
  cases hq
  exact ⟨ha,hm,if_pos rfl⟩
 ·rw [if_neg e] at hq
  obtain ⟨h1,h2,h3⟩:=h x q hq
  exact ⟨h1,h2,by dsimp only;rw [if_neg e];exact h3⟩
theorem load_of {n:Nat} {X:Nat→Option Nd} {Y:Nat→List UInt8} (h:Rep n X Y) (hn:n≤1024) {a:Nat} {m:Nd} (ha:X a=some m):loadN Y n a=(0,m):=by
 obtain ⟨h1,⟨h2,h3,h4⟩,h5⟩:=h a m ha
 obtain ⟨l1,l2,l3⟩:=may_len h2
 have hl:(formN m.lf m.K m.V).length≤240:=by rw [form_len (by omega)];omega
 unfold loadN
 rw [if_neg (by omega),if_neg (by omega),h5,opens_seal _ a 1 a 1 hl (by omega) (by decide)]
 simp only [ne_eq,not_true_eq_false,if_false]
 have e:(sealB (formN m.lf m.K m.V) a 1).take 240=formN m.lf m.K m.V++List.replicate (240 - (formN m.lf m.K m.V).length) 0:=by
  unfold sealB body
  rw [List.append_assoc,List.append_assoc,List.append_assoc,← List.append_assoc,List.take_append_of_le_length (by simp;omega),List.take_of_length_le (by simp;omega)]
 rw [e,take_form h2 h3 h4,if_pos (by simp)]
def HasX (w0 w:World) (tag:Nat→Nat) (sb rb n:Nat) (N C:List UInt8) (X:Nat→Option Nd) (u:Nat):Prop:=∃ Y,HasF w0 w tag sb rb n N C Y u∧Rep n X Y
section
variable {w0 w w':World} {tag:Nat→Nat} {sb rb n:Nat} {N C:List UInt8} {X:Nat→Option Nd} {u:Nat}
theorem HasX.keep (h:HasX w0 w tag sb rb n N C X u) (c:Chg [] w w'):HasX w0 w' tag sb rb n N C X u:=by
 obtain ⟨Y,h1,h2⟩:=h
 exact ⟨Y,h1.keep c,h2⟩
theorem HasX.mono (h:HasX w0 w tag sb rb n N C X u) {u':Nat} (hu:u≤u'):HasX w0 w tag sb rb n N C X u':=by
 obtain ⟨Y,h1,h2⟩:=h
 exact ⟨Y,h1.mono hu,h2⟩
theorem HasX.wrote (h:HasX w0 w tag sb rb n N C X u) {S:List Nat} (c:Chg S w w') (hS:∀ k,k∈S→tag k=4):HasX w0 w' tag sb rb n N C X u:=by
 obtain ⟨Y,h1,h2⟩:=h
 exact ⟨Y,h1.wrote c hS,h2⟩
theorem HasX.set (h:HasX w0 w tag sb rb n N C X u) {b i:Nat} {v:Value} (hb:tag b=4):HasX w0 (w.setCell ⟨b,i,none⟩ v) tag sb rb n N C X u:=by
 obtain ⟨Y,h1,h2⟩:=h
 exact ⟨Y,h1.set hb,h2⟩
theorem HasX.hi (h:HasX w0 w tag sb rb n N C X u):∀ k,w.heap.size≤k→tag k=4:=by
 obtain ⟨Y,h1,h2⟩:=h
 exact h1.l.hi
theorem HasX.lens (h:HasX w0 w tag sb rb n N C X u):N.length=n∧C.length=n∧0 < n∧n≤1024:=by
 obtain ⟨Y,h1,h2⟩:=h
 exact h1.r.lens
theorem HasX.s0 (h:HasX w0 w tag sb rb n N C X u):w.cell? ⟨sb,0,none⟩=some (.pointer (some ⟨rb,0,none⟩)):=by
 obtain ⟨Y,h1,h2⟩:=h
 exact h1.s0
theorem HasX.lt (h:HasX w0 w tag sb rb n N C X u) {a:Nat} {m:Nd} (ha:X a=some m):a < n∧m.good:=by
 obtain ⟨Y,h1,h2⟩:=h
 exact ⟨(h2 a m ha).1,(h2 a m ha).2.1⟩
theorem HasX.chg (h:HasX w0 w tag sb rb n N C X u):Chg [] w0 w:=by
 obtain ⟨Y,h1,h2⟩:=h
 exact h1.chg
def NodeOut (w0 w:World) (tag:Nat→Nat) (sb rb n:Nat) (N C:List UInt8) (X:Nat→Option Nd) (u:Nat) (m:Nd) (e:Ending) (w':World):Prop:=
 ∃ q:CN,e=.returned (.tuple #[q.val,.int .i64 0])∧q.nd=m∧∃ tag',HasX w0 w' tag' sb rb n N C X u∧Mv tag tag' w w'∧NdAt w' tag' q
theorem load_x (hT:Tab w0) (h:HasX w0 w tag sb rb n N C X u) (a:Nat) (m:Nd) (ha:X a=some m) (hu:u≤100000000):Calls Tryz.prog 17 #[.pointer (some ⟨sb,0,none⟩),.int .u64 (a:Int)] w (NodeOut w0 w tag sb rb n N C X (u+1) m):=by
 obtain ⟨Y,h1,h2⟩:=h
 have hn:=h1.r.lens.2.2.2
 have hl:=(h2 a m ha).1
 refine (load_any hT h1 a (by omega) hu (0,m) (load_of h2 hn ha)).mono ?_
 rintro e w' ⟨q,he,hq,tag',h3,h4,h5⟩
 exact ⟨q,he,hq,tag',⟨Y,h3,h2⟩,h4,h5⟩
theorem save_x (hT:Tab w0) (h:HasX w0 w tag sb rb n N C X u) (a:Nat) (ha:a < n) (hu:u≤100000000) (q:CN) (hq:NdAt w tag q) (hm:mayB q.K q.V=true):Calls Tryz.prog 16 #[.pointer (some ⟨sb,0,none⟩),.int .u64 (a:Int),q.val] w fun e w' => e=.returned (.int .i64 0)∧∃ tag',HasX w0 w' tag' sb rb n N C (putX X a q.nd) (u+1)∧Mv tag tag' w w':=by
 obtain ⟨Y,h1,h2⟩:=h
 have hn:=h1.r.lens.2.2.2
 refine (save_any hT h1 a (by omega) hu q hq (0,fun x => if x=a then sealB (formN q.lf q.K q.V) a 1 else Y x) ?_).mono ?_
 ·unfold saveN CN.nd
  rw [if_neg (by omega),if_neg (by simp [hm]),if_neg (by omega)]
 ·rintro e w' ⟨he,tag',h3,h4⟩
  exact ⟨he,tag',⟨_,h3,h2.put ha ⟨hm,hq.bK,hq.bV⟩⟩,h4⟩
theorem less_x (h:HasX w0 w tag sb rb n N C X u) (a:Nat) (ha:a < 2 ^ 64) (b:Bool) (N':List UInt8) (hr:decN N (blkI a)=(b,0,N')):Calls Tryz.prog 124 #[.pointer (some ⟨sb,0,none⟩),.int .u64 (a:Int)] w fun e w' => e=.returned (.tuple #[])∧∃ tag',HasX w0 w' tag' sb rb n N' C X u∧Mv tag tag' w w':=by
 obtain ⟨Y,h1,h2⟩:=h
 refine (less_anyT h1 a ha b N' hr).mono ?_
 rintro e w' ⟨he,tag',h3,h4⟩
 exact ⟨he,tag',⟨Y,h3,h2⟩,h4⟩
theorem x_alloc (h:HasX w0 w tag sb rb n N C X u) (r:Int × Int × List UInt8) (hr:allocN N C=r):Calls Tryz.prog 22 #[.pointer (some ⟨rb,0,none⟩)] w fun e w' => e=.returned (.tuple #[.int .i64 r.1,.int .i64 r.2.1])∧∃ tag',HasX w0 w' tag' sb rb n r.2.2 C X u∧Mv tag tag' w w':=by
 obtain ⟨Y,h1,h2⟩:=h
 subst hr
 refine (f_alloc h1).mono ?_
 rintro e w' ⟨he,tag',h3,h4⟩
 exact ⟨he,tag',⟨Y,h3,h2⟩,h4⟩
theorem x_inc (h:HasX w0 w tag sb rb n N C X u) (z:Int) (r:Int × List UInt8) (hr:incN N z=r):Calls Tryz.prog 27 #[.pointer (some ⟨rb,0,none⟩),.int .i64 z] w fun e w' => e=.returned (.int .i64 r.1)∧∃ tag',HasX w0 w' tag' sb rb n r.2 C X u∧Mv tag tag' w w':=by
 obtain ⟨Y,h1,h2⟩:=h
 subst hr
 refine (f_inc h1 z).mono ?_
 rintro e w' ⟨he,tag',h3,h4⟩
 exact ⟨he,tag',⟨Y,h3,h2⟩,h4⟩
theorem x_dec (h:HasX w0 w tag sb rb n N C X u) (z:Int) (r:Bool × Int × List UInt8) (hr:decN N z=r):Calls Tryz.prog 24 #[.pointer (some ⟨rb,0,none⟩),.int .i64 z] w fun e w' => e=.returned (.tuple #[.bool r.1,.int .i64 r.2.1])∧∃ tag',HasX w0 w' tag' sb rb n r.2.2 C X u∧Mv tag tag' w w':=by
 obtain ⟨Y,h1,h2⟩:=h
 subst hr
 refine (f_dec h1 z).mono ?_
 rintro e w' ⟨he,tag',h3,h4⟩
 exact ⟨he,tag',⟨Y,h3,h2⟩,h4⟩
theorem x_fresh (h:HasX w0 w tag sb rb n N C X u) (z:Int):Calls Tryz.prog 20 #[.pointer (some ⟨rb,0,none⟩),.int .i64 z] w fun e w' => e=.returned (.bool (newN N C z))∧w=w':=by
 obtain ⟨Y,h1,h2⟩:=h
 exact r_fresh h1.r z
theorem x_count (h:HasX w0 w tag sb rb n N C X u) (z:Int):Calls Tryz.prog 21 #[.pointer (some ⟨rb,0,none⟩),.int .i64 z] w fun e w' => e=.returned (.int .i64 (cntN N z))∧w=w':=by
 obtain ⟨Y,h1,h2⟩:=h
 exact r_count h1.r z
end
theorem freeL_mem {Is:List Bool} {x:Nat} (h:x∈freeL Is):Is[x]?=some true:=(mem_freeL _ _).1 h
theorem alloc_ok {N C:List UInt8} {n:Nat} (hN:N.length=n) (hC:C.length=n) {t:Int} {N':List UInt8} (h:allocN N C=(t,0,N')):∃ a:Nat,t=(a:Int)∧a < n∧N'=N.set a 1∧N[a]?=some 0∧C[a]?=some 0:=by
 unfold allocN at h
 cases hf:freeL (freeI N C) with
 | nil => rw [hf] at h;simp at h
 | cons x l =>
  rw [hf] at h
  simp only [Prod.mk.injEq,true_and] at h
  obtain ⟨rfl,rfl⟩:=h
  have h1:=freeL_mem (Is:=freeI N C) (x:=x) (by rw [hf];simp)
  obtain ⟨h2,h3⟩:=freeI_true.1 h1
  exact ⟨x,rfl,by have:=(List.getElem?_eq_some_iff.1 h2).1;omega,rfl,h2,h3⟩
theorem alloc_no {N C:List UInt8} {t e:Int} {N':List UInt8} (h:allocN N C=(t,e,N')) (he:e ≠ 0):t=0∧e=8∧N'=N:=by
 unfold allocN at h
 cases hf:freeL (freeI N C) with
 | nil => rw [hf] at h;simp at h;obtain ⟨rfl,rfl,rfl⟩:=h;exact ⟨rfl,rfl,rfl⟩
 | cons x l => rw [hf] at h;simp at h;omega
end
section
set_option maxRecDepth 200000
open Go.RowKit
attribute [local go_sem ↓] Go.wp_at_zero Go.wp_at_succ
def natAt:Value→Nat
 | .int _ q => q.toNat
 | _ => 0
inductive Out (α:Type) where
 | stuck:Out α
 | full:Out α
 | ok:α→Out α
def incAll:List UInt8→List Nat→Option (List UInt8)
 | N,[] => some N
 | N,v :: r => if (incN N (blkI v)).1=0 then incAll (incN N (blkI v)).2 r else none
def shadowA (N C:List UInt8) (X:Nat→Option Nd) (a:Nat):Out (List UInt8 × (Nat→Option Nd) × Nat × Nd):=
 match X a with
 | none => .stuck
 | some m =>
  if newN N C (a:Int)=true∧cntN N (a:Int)=1 then .ok (N,X,a,m) else
  if (allocN N C).2.1 ≠ 0 then .full else
  match (if 1 < cntN (allocN N C).2.2 (a:Int) then incAll (allocN N C).2.2 m.V else some (allocN N C).2.2) with
  | none => .stuck
  | some N2 => if (decN N2 (a:Int)).2.1 ≠ 0 then .stuck else .ok ((decN N2 (a:Int)).2.2,putX X (allocN N C).1.toNat m,(allocN N C).1.toNat,m)
def stepV (t:Nat) (x y:CN) (p:Int):Value:=.agg #[.int .u64 (t:Int),.bool x.lf,.slice x.ka x.K.length x.kc,.slice x.va x.V.length x.vc,.bool y.lf,.slice y.ka y.K.length y.kc,.slice y.va y.V.length y.vc,.int .i64 p]
def ShPost (w0 w:World) (tag:Nat→Nat) (sb rb n:Nat) (C:List UInt8) (u:Nat) (r:Out (List UInt8 × (Nat→Option Nd) × Nat × Nd)) (e:Ending) (w':World):Prop:=
 match r with
 | .stuck => True
 | .full => e=Thrown 8∧∃ tag' N' X',HasX w0 w' tag' sb rb n N' C X' u∧Mv tag tag' w w'
 | .ok (N',X',t,m) => ∃ q:CN,e=.returned (stepV t q q 0)∧q.nd=m∧t < n∧∃ tag',HasX w0 w' tag' sb rb n N' C X' u∧Mv tag tag' w w'∧NdAt w' tag' q
theorem blk_int {a:Nat} (h:a≤2147483647):blkI a=(a:Int):=by unfold blkI;rw [if_neg (by omega)]
def stepZ:Array Value:=#[.int .u64 0,.bool false,.slice none 0 0,.slice none 0 0,.bool false,.slice none 0 0,.slice none 0 0,.int .i64 0]
theorem new8 (w:World) (t:TypeId):(w.alloc (.cells stepZ t)).there w.heap.size 0 8:=fun j hj => by
 refine ⟨?_,frozen_of_row _ _ _ _ _ (heap_alloc_last w _)⟩
 rw [cell_of_row _ _ _ _ _ _ (heap_alloc_last w _),Nat.zero_add]
 match j,hj with
 | 0,_ => rfl
 | 1,_ => rfl
 | 2,_ => rfl
 | 3,_ => rfl
 | 4,_ => rfl
 | 5,_ => rfl
 | 6,_ => rfl
 | 7,_ => rfl
theorem cells8 {w:World} {b:Nat} (h:w.there b 0 8):(∃ v0 v1 v2 v3 v4 v5 v6 v7,w.cell? ⟨b,0,none⟩=some v0∧w.cell? ⟨b,1,none⟩=some v1∧w.cell? ⟨b,2,none⟩=some v2∧w.cell? ⟨b,3,none⟩=some v3∧w.cell? ⟨b,4,none⟩=some v4∧w.cell? ⟨b,5,none⟩=some v5∧w.cell? ⟨b,6,none⟩=some v6∧w.cell? ⟨b,7,none⟩=some v7) ∧
  w.frozen? ⟨b,0,none⟩=false∧w.frozen? ⟨b,1,none⟩=false∧w.frozen? ⟨b,2,none⟩=false∧w.frozen? ⟨b,3,none⟩=false∧w.frozen? ⟨b,4,none⟩=false∧w.frozen? ⟨b,5,none⟩=false∧w.frozen? ⟨b,6,none⟩=false∧w.frozen? ⟨b,7,none⟩=false:=by
 have f:∀ j,j < 8→∃ v,w.cell? ⟨b,j,none⟩=some v:=fun j hj => by
  obtain ⟨v,r⟩:=Option.isSome_iff_exists.1 (h j hj).1
  rw [Nat.zero_add] at r
  exact ⟨v,r⟩
 have g:∀ j,j < 8→w.frozen? ⟨b,j,none⟩=false:=fun j hj => by
  have:=(h j hj).2
  rwa [Nat.zero_add] at this
 obtain ⟨v0,r0⟩:=f 0 (by decide)
 obtain ⟨v1,r1⟩:=f 1 (by decide)
 obtain ⟨v2,r2⟩:=f 2 (by decide)
 obtain ⟨v3,r3⟩:=f 3 (by decide)
 obtain ⟨v4,r4⟩:=f 4 (by decide)
 obtain ⟨v5,r5⟩:=f 5 (by decide)
 obtain ⟨v6,r6⟩:=f 6 (by decide)
 obtain ⟨v7,r7⟩:=f 7 (by decide)
 exact ⟨⟨v0,v1,v2,v3,v4,v5,v6,v7,r0,r1,r2,r3,r4,r5,r6,r7⟩,g 0 (by decide),g 1 (by decide),g 2 (by decide),g 3 (by decide),g 4 (by decide),g 5 (by decide),g 6 (by decide),g 7 (by decide)⟩
theorem there_lt {w:World} {b o n:Nat} (h:w.there b o n) (hn:0 < n):b < w.heap.size:=by
 obtain ⟨v,r⟩:=Option.isSome_iff_exists.1 (h 0 hn).1
 exact block_lt_of_cell r
theorem eight_chg (w:World) (b:Nat) (x0 x1 x2 x3 x4 x5 x6 x7:Value):Chg [b] w ((((((((w.setCell ⟨b,0,none⟩ x0).setCell ⟨b,1,none⟩ x1).setCell ⟨b,2,none⟩ x2).setCell ⟨b,3,none⟩ x3).setCell ⟨b,4,none⟩ x4).setCell ⟨b,5,none⟩ x5).setCell ⟨b,6,none⟩ x6).setCell ⟨b,7,none⟩ x7):=by
 have f:∀ {a c:World} (i:Nat) (x:Value),Chg [b] a c→Chg [b] a (c.setCell ⟨b,i,none⟩ x):=fun i x g => g.trans (Chg.setCell _ ⟨b,i,none⟩ x) (fun _ h _ => h) (fun _ h _ => h)
 exact f 7 x7 (f 6 x6 (f 5 x5 (f 4 x4 (f 3 x3 (f 2 x2 (f 1 x1 (Chg.setCell w ⟨b,0,none⟩ x0)))))))
section
variable {w0 w:World} {tag:Nat→Nat} {sb rb n:Nat} {N C:List UInt8} {X:Nat→Option Nd} {u:Nat}
set_option maxHeartbeats 4000000 in
theorem shadow_any (hT:Tab w0) (h:HasX w0 w tag sb rb n N C X u) (a:Nat) (hu:u≤90000000) (r:Out (List UInt8 × (Nat→Option Nd) × Nat × Nd)) (hr:shadowA N C X a=r) (hne:r ≠ .stuck) :
  Calls Tryz.prog 72 #[.pointer (some ⟨sb,0,none⟩),.int .u64 (a:Int)] w (ShPost w0 w tag sb rb n C (u+2) r):=by
 unfold shadowA at hr
 cases hX:X a with
 | none => rw [hX] at hr;exact absurd hr.symm hne
 | some m =>
 rw [hX] at hr
 dsimp only at hr
 obtain ⟨hlt,hgood⟩:=h.lt hX
 obtain ⟨lN,lC,n0,nn⟩:=h.lens
 have g0:=Chg.alloc [] w (.cells stepZ 139)
 have h0:=h.keep g0
 have t0:=new8 w 139
 have tb:tag w.heap.size=4:=h.hi _ (Nat.le_refl _)
 have M0:=Mv.made g0 h.hi
 have hz0:(w.alloc (.cells stepZ 139)).heap.size=w.heap.size+1:=by simp
 have cL:=load_x hT h0 a m hX (by omega)
 have cB:=block_no a
 rw [blk_int (by omega)] at cB
 have HT:=mkHid hT
 have HL:=mkHid (And.intro lN lC)
 have HX:=mkHid hX
 have HM:=mkHid hr
 clear hr hX lN lC hT
 go_enter Tryz.func72,Tryz.ntmps72
 go_wp2_with fail
 unfold stepZ at cL h0 t0 M0 hz0 g0
 generalize (w.alloc (.cells #[.int .u64 0,.bool false,.slice none 0 0,.slice none 0 0,.bool false,.slice none 0 0,.slice none 0 0,.int .i64 0] 139))=w1 at *
 refine cL.mono ?_
 rintro e w2 ⟨⟨lf,ka,kc,va,vc,K,V⟩,rfl,hqm,tag2,h2,m2,q2⟩
 subst hqm
 unfold CN.val
 dsimp only
 go_wp2_with fail
 refine (surenode_ok lf ka K.length kc va V.length vc w2).mono ?_
 rintro e w3 ⟨rfl,g3⟩
 have hlo3:=g3.size
 have hlo2:=m2.size
 have tb2:=m2.four tb (by omega)
 have h3:=h2.keep g3
 have M3:=(M0.trans m2).then g3
 have t3:=there_chg (m2.there t0 tb) g3 (by simp)
 have q3:=q2.keep g3
 have g4:=Chg.alloc [] w3 (.cells #[.bool lf,.slice ka K.length kc,.slice va V.length vc] 53)
 have h4:=h3.keep g4
 have M4:=M3.then g4
 have t4:=there_chg t3 g4 (by simp)
 have q4:=q3.keep g4
 have b5:tag2 w3.heap.size=4:=h3.hi _ (Nat.le_refl _)
 obtain ⟨e0,e1,e2⟩:=laid3 w3 (.bool lf) (.slice ka K.length kc) (.slice va V.length vc) 53
 have hz4:w3.heap.size < (w3.alloc (.cells #[.bool lf,.slice ka K.length kc,.slice va V.length vc] 53)).heap.size:=by simp
 have hzb:w.heap.size < w3.heap.size:=by omega
 clear h2 m2 q2 g3 h3 M3 t3 q3 g4 M0 h0 t0 cL g0 hz0 hlo3 hlo2
 go_wp2_with fail
 generalize (w3.alloc (.cells #[.bool lf,.slice ka K.length kc,.slice va V.length vc] 53))=w4 at *
 generalize w3.heap.size=c at *
 refine (cB w4).mono ?_
 rintro e w' ⟨rfl,rfl⟩
 have cF:=x_fresh h4 (a:Int)
 have cC:=x_count h4 (a:Int)
 have s4:=h4.s0
 have hM:=HM.out
 generalize hf:newN N C (a:Int)=fr at *
 generalize hcn:cntN N (a:Int)=cn at *
 have HF:=mkHid (And.intro hf hcn)
 clear hf hcn HM
 by_cases hc:fr=true∧cn=1
 ·obtain ⟨rfl,rfl⟩:=hc
  rw [if_pos ⟨rfl,rfl⟩] at hM
  subst hM
  obtain ⟨⟨v0,v1,v2,v3,v4,v5,v6,v7,r0,r1,r2,r3,r4,r5,r6,r7⟩,f0,f1,f2,f3,f4,f5,f6,f7⟩:=cells8 t4
  go_wp2_with (first
   | (go_at_call 20;refine cF.mono ?_;rintro e w' ⟨rfl,rfl⟩)
   | (go_at_call 21;refine cC.mono ?_;rintro e w' ⟨rfl,rfl⟩))
  refine bodyPost_ret (v:=stepV a ⟨lf,ka,kc,va,vc,K,V⟩ ⟨lf,ka,kc,va,vc,K,V⟩ 0) (by simp [results,Tryz.results72,go_sem,r0,r1,r2,r3,r4,r5,r6,r7,stepV]) rfl ?_
  have G:=eight_chg w4 w.heap.size (.int .u64 (a:Int)) (.bool lf) (.slice ka K.length kc) (.slice va V.length vc) (.bool lf) (.slice ka K.length kc) (.slice va V.length vc) (.int .i64 0)
  have hS:∀ k,k∈[w.heap.size]→tag2 k=4:=fun k hk => by simp at hk;subst hk;exact tb2
  exact ⟨⟨lf,ka,kc,va,vc,K,V⟩,rfl,rfl,hlt,tag2,(h4.wrote G hS).mono (by omega),M4.wrote G (fun k hk => by simp at hk;omega),q4.wrote G hS⟩
 ·rw [if_neg hc] at hM
  have cA:=x_alloc h4 (allocN N C) rfl
  have hg:fr=false ∨ (fr=true∧(cn == 1)=false):=by
   by_cases h1:fr=true
   ·exact Or.inr ⟨h1,by simpa using fun h2 => hc ⟨h1,h2⟩⟩
   ·exact Or.inl (by simpa using h1)
  clear hc
  have HA:Hid (∀ t N',allocN N C=(t,0,N')→∃ x:Nat,t=(x:Int)∧x < n):=mkHid fun t N' h9 => by
   obtain ⟨x,h1,h2,-⟩:=alloc_ok HL.out.1 HL.out.2 h9
   exact ⟨x,h1,h2⟩
  have HE:Hid (∀ t e N',allocN N C=(t,e,N')→e ≠ 0→e=8):=mkHid fun t e N' h9 he => (alloc_no h9 he).2.1
  obtain ⟨al,hal⟩:∃ al,al=allocN N C:=⟨_,rfl⟩
  rw [← hal] at hM cA HA HE
  obtain ⟨t,er,N1⟩:=al
  have HAl:=mkHid hal
  have HMM:=mkHid hM
  clear hal hM
  rcases hg with rfl | ⟨rfl,hg⟩
  all_goals
   go_wp2_with (first
    | (go_at_call 20;refine cF.mono ?_;rintro e w' ⟨rfl,rfl⟩)
    | (go_at_call 21;refine cC.mono ?_;rintro e w' ⟨rfl,rfl⟩))
   refine cA.mono ?_
   rintro e w5 ⟨rfl,tag5,h5,m5⟩
   dsimp only
   have hsz5:=m5.size
   have t5:=m5.there t4 tb2
   have tb5:=m5.four tb2 (by omega)
   have b55:=m5.four b5 hz4
   have q5:=q4.mv m5
   have M5:=M4.trans m5
   have e05:=m5.cellv e0 (kt4 b5)
   have e15:=m5.cellv e1 (kt4 b5)
   have e25:=m5.cellv e2 (kt4 b5)
   have hz5:c < w5.heap.size:=by omega
   clear h4 q4 t4 tb2 b5 M4 e0 e1 e2 m5 cF cC cA
   by_cases her:er=0
   ·subst her
    obtain ⟨x,rfl,hx⟩:=HA.out t N1 rfl
    have hcx:IntKind.u64.wrap (x:Int)=(x:Int):=wraps_u64 _ (by omega) (by omega)
    have cC:=x_count h5 (a:Int)
    have s5:=h5.s0
    go_wp2_with fail
    refine (sureint_ok (x:Int) w5).mono ?_
    rintro e w' ⟨rfl,rfl⟩
    have hM:=HMM.out
    rw [if_neg (by simp)] at hM
    generalize hc1:cntN N1 (a:Int)=c1 at *
    by_cases hg1:1 < c1
    ·have hd:decide (1 < c1)=true:=decide_eq_true hg1
     rw [if_pos hg1] at hM
     go_wp2_with (first | (go_at_call 21;refine cC.mono ?_;rintro e w' ⟨rfl,rfl⟩))
     cases hia:incAll N1 V with
     | none => rw [show (CN.nd ⟨lf,ka,kc,va,vc,K,V⟩).V=V from rfl,hia] at hM;exact absurd hM.symm hne
     | some N2 =>
     rw [show (CN.nd ⟨lf,ka,kc,va,vc,K,V⟩).V=V from rfl,hia] at hM
     dsimp only at hM
     have hmx:=q5.rd.xv
     have hlv:V.length≤vc:=q5.rd.cv
     unfold maxLen at hmx
     have HW:=mkHid hM
     have HI:=mkHid hia
     have HD:=mkHid hd
     clear hM hia hd cC s5
     go_loopw [9,56] (fun _ i wr => ∃ (k:Nat) (Nk:List UInt8) (tg:Nat→Nat),i=.int .i64 k∧k≤V.length∧incAll Nk (V.drop k)=some N2∧HasX w0 wr tg sb rb n Nk C X (u+1)∧Mv tag tg w wr∧NdAt wr tg ⟨lf,ka,kc,va,vc,K,V⟩∧wr.there w.heap.size 0 8∧tg w.heap.size=4∧tg c=4∧c < wr.heap.size∧wr.cell? ⟨c,0,none⟩=some (.bool lf)∧wr.cell? ⟨c,1,none⟩=some (.slice ka K.length kc)∧wr.cell? ⟨c,2,none⟩=some (.slice va V.length vc)) (fun _ i _ => V.length - natAt i)
     case atStart => exact ⟨0,N1,tag5,rfl,by omega,by rw [List.drop_zero];exact HI.out,h5,M5,q5,t5,tb5,b55,hz5,e05,e15,e25⟩
     case round =>
      obtain ⟨k,Nk,tg,rfl,hk,hinc,h6,M6,q6,t6,tb6,b56,hz6,e06,e16,e26⟩:=hrel
      have HK:=mkHid hinc
      clear hinc
      have hrv:=q6.rd.rv
      by_cases hlt2:k < V.length
      ·have hget:V[k]?=some V[k]:=List.getElem?_eq_getElem hlt2
       have hdr:V.drop k=V[k] :: V.drop (k+1):=List.drop_eq_getElem_cons hlt2
       obtain ⟨vb,vo,rfl,hcell⟩:=hrv (by simpa [uvs_len] using Nat.lt_of_le_of_lt (Nat.zero_le k) hlt2)
       have hx1:=hcell k _ (uvs_get hget)
       have hinc:=HK.out
       rw [hdr] at hinc
       unfold incAll at hinc
       obtain ⟨vk,hvk⟩:∃ y,y=V[k]:=⟨_,rfl⟩
       rw [← hvk] at hx1 hinc
       obtain ⟨⟨ie,Ni⟩,hin⟩:∃ q,incN Nk (blkI vk)=q:=⟨_,rfl⟩
       rw [hin] at hinc
       dsimp only at hinc
       by_cases hie:ie=0
       ·subst hie
        rw [if_pos rfl] at hinc
        have HN:=mkHid hin
        have HI2:=mkHid hinc
        have HVK:=mkHid hvk
        have s6:=h6.s0
        clear hin hinc hvk hdr hget hcell
        go_wp2_with fail
        go_region_law (first
         | (go_simp;go_at_call 121;refine (block_no vk _).mono ?_;rintro e w' ⟨rfl,rfl⟩)
         | (go_simp;go_at_call 27;refine (x_inc (h6.keep (by first | exact Chg.refl [] _ | exact Chg.drew [] _ | exact (Chg.drew [] _).then (Chg.drew [] _))) (blkI vk) (0,Ni) HN.out).mono ?_;rintro e w' ⟨rfl,tag',h',m'⟩)
         | (go_simp;go_at_call 123;refine (must_ok _).mono ?_;rintro e w' ⟨rfl,rfl⟩))
        all_goals
         have hmm:Mv tg tag' wr w':=(Mv.made (Chg.drew [] wr) h6.hi).trans m'
         go_wp2_with fail
         go_roundw
         case rel => exact ⟨k+1,Ni,tag',by go_num,by omega,HI2.out,h',M6.trans hmm,q6.mv hmm,hmm.there t6 tb6,hmm.four tb6 (by have:=M6.size;omega),hmm.four b56 hz6,by have:=hmm.size;omega,hmm.cellv e06 (kt4 b56),hmm.cellv e16 (kt4 b56),hmm.cellv e26 (kt4 b56)⟩
         case measure => simp [natAt];omega
       ·rw [if_neg hie] at hinc
        exact absurd hinc (by simp)
      ·have hN2:Nk=N2:=by
        have:=HK.out
        rw [List.drop_of_length_le (by omega)] at this
        simpa [incAll] using this
       subst hN2
       have hM:=HW.out
       clear hrv
       go_wp2_with fail
       by_cases hd2:(decN Nk (a:Int)).2.1=0
       ·rw [if_neg (by simpa using hd2)] at hM
        obtain ⟨⟨bb,ee,N3⟩,hdec⟩:∃ q,decN Nk (a:Int)=q:=⟨_,rfl⟩
        rw [hdec] at hM hd2
        dsimp only at hd2
        subst hd2
        have cLs:=less_x h6 a (by omega) bb N3 (by rw [blk_int (by omega)];exact hdec)
        have HRR:=mkHid hM
        clear hM hdec
        go_wp2_with fail
        refine cLs.mono ?_
        rintro e w7 ⟨rfl,tag7,h7,m7⟩
        have hsz7:=m7.size
        have e07:=m7.cellv e06 (kt4 b56)
        have e17:=m7.cellv e16 (kt4 b56)
        have e27:=m7.cellv e26 (kt4 b56)
        have b57:=m7.four b56 (by omega)
        have t7:=m7.there t6 tb6
        have tb7:=m7.four tb6 (by omega)
        have q7:=q6.mv m7
        have M7:=M6.trans m7
        have cS:=save_x HT.out h7 x hx (by omega) ⟨lf,ka,kc,va,vc,K,V⟩ q7 hgood.1
        unfold CN.val at cS
        dsimp only at cS
        clear h6 m7 e06 e16 e26 t6 tb6 q6 M6
        go_wp2_with fail
        refine cS.mono ?_
        rintro e w8 ⟨rfl,tag8,h8,m8⟩
        have e08:=m8.cellv e07 (kt4 b57)
        have e18:=m8.cellv e17 (kt4 b57)
        have e28:=m8.cellv e27 (kt4 b57)
        have t8:=m8.there t7 tb7
        have tb8:=m8.four tb7 (by omega)
        have q8:=q7.mv m8
        have M8:=M7.trans m8
        obtain ⟨⟨v0,v1,v2,v3,v4,v5,v6,v7,r0,r1,r2,r3,r4,r5,r6,r7⟩,f0,f1,f2,f3,f4,f5,f6,f7⟩:=cells8 t8
        go_wp2_with (first | (go_at_call 123;refine (must_ok _).mono ?_;rintro e w' ⟨rfl,rfl⟩))
        have hr:=HRR.out
        subst hr
        refine bodyPost_ret (v:=stepV x ⟨lf,ka,kc,va,vc,K,V⟩ ⟨lf,ka,kc,va,vc,K,V⟩ 0) (by simp [results,Tryz.results72,go_sem,r0,r1,r2,r3,r4,r5,r6,r7,stepV]) rfl ?_
        have G:=eight_chg w8 w.heap.size (.int .u64 (x:Int)) (.bool lf) (.slice ka K.length kc) (.slice va V.length vc) (.bool lf) (.slice ka K.length kc) (.slice va V.length vc) (.int .i64 0)
        have hS:∀ k,k∈[w.heap.size]→tag8 k=4:=fun k hk => by simp at hk;subst hk;exact tb8
        exact ⟨⟨lf,ka,kc,va,vc,K,V⟩,rfl,rfl,hx,tag8,(h8.wrote G hS).mono (by omega),M8.wrote G (fun k hk => by simp at hk;omega),q8.wrote G hS⟩
       ·rw [if_pos hd2] at hM
        exact absurd hM.symm hne
    ·have hd:decide (1 < c1)=false:=decide_eq_false hg1
     rw [if_neg hg1] at hM
     dsimp only at hM
     go_wp2_with (first | (go_at_call 21;refine cC.mono ?_;rintro e w' ⟨rfl,rfl⟩))
     rename HasX w0 w5 tag5 sb rb n _ C X _ => h6
     rename w5.there w.heap.size 0 8 => t6
     rename tag5 w.heap.size=4 => tb6
     rename tag5 c=4 => b56
     rename NdAt w5 tag5 _ => q6
     rename Mv tag tag5 w w5 => M6
     rename w5.cell? ⟨c,0,none⟩=_ => e06
     rename w5.cell? ⟨c,1,none⟩=_ => e16
     rename w5.cell? ⟨c,2,none⟩=_ => e26
     generalize N1=N2 at *
     by_cases hd2:(decN N2 (a:Int)).2.1=0
     ·rw [if_neg (by simpa using hd2)] at hM
      obtain ⟨⟨bb,ee,N3⟩,hdec⟩:∃ q,decN N2 (a:Int)=q:=⟨_,rfl⟩
      rw [hdec] at hM hd2
      dsimp only at hd2
      subst hd2
      have cLs:=less_x h6 a (by omega) bb N3 (by rw [blk_int (by omega)];exact hdec)
      have HRR:=mkHid hM
      clear hM hdec
      go_wp2_with fail
      refine cLs.mono ?_
      rintro e w7 ⟨rfl,tag7,h7,m7⟩
      have hsz7:=m7.size
      have e07:=m7.cellv e06 (kt4 b56)
      have e17:=m7.cellv e16 (kt4 b56)
      have e27:=m7.cellv e26 (kt4 b56)
      have b57:=m7.four b56 (by omega)
      have t7:=m7.there t6 tb6
      have tb7:=m7.four tb6 (by omega)
      have q7:=q6.mv m7
      have M7:=M6.trans m7
      have cS:=save_x HT.out h7 x hx (by omega) ⟨lf,ka,kc,va,vc,K,V⟩ q7 hgood.1
      unfold CN.val at cS
      dsimp only at cS
      clear h6 m7 e06 e16 e26 t6 tb6 q6 M6
      go_wp2_with fail
      refine cS.mono ?_
      rintro e w8 ⟨rfl,tag8,h8,m8⟩
      have e08:=m8.cellv e07 (kt4 b57)
      have e18:=m8.cellv e17 (kt4 b57)
      have e28:=m8.cellv e27 (kt4 b57)
      have t8:=m8.there t7 tb7
      have tb8:=m8.four tb7 (by omega)
      have q8:=q7.mv m8
      have M8:=M7.trans m8
      obtain ⟨⟨v0,v1,v2,v3,v4,v5,v6,v7,r0,r1,r2,r3,r4,r5,r6,r7⟩,f0,f1,f2,f3,f4,f5,f6,f7⟩:=cells8 t8
      go_wp2_with (first | (go_at_call 123;refine (must_ok _).mono ?_;rintro e w' ⟨rfl,rfl⟩))
      have hr:=HRR.out
      subst hr
      refine bodyPost_ret (v:=stepV x ⟨lf,ka,kc,va,vc,K,V⟩ ⟨lf,ka,kc,va,vc,K,V⟩ 0) (by simp [results,Tryz.results72,go_sem,r0,r1,r2,r3,r4,r5,r6,r7,stepV]) rfl ?_
      have G:=eight_chg w8 w.heap.size (.int .u64 (x:Int)) (.bool lf) (.slice ka K.length kc) (.slice va V.length vc) (.bool lf) (.slice ka K.length kc) (.slice va V.length vc) (.int .i64 0)
      have hS:∀ k,k∈[w.heap.size]→tag8 k=4:=fun k hk => by simp at hk;subst hk;exact tb8
      exact ⟨⟨lf,ka,kc,va,vc,K,V⟩,rfl,rfl,hx,tag8,(h8.wrote G hS).mono (by omega),M8.wrote G (fun k hk => by simp at hk;omega),q8.wrote G hS⟩
     ·rw [if_pos hd2] at hM
      exact absurd hM.symm hne
   ·have h8:=HE.out t er N1 rfl her
    subst h8
    go_wp2_with fail
    refine (sureint_no t 8 (by decide) w5).mono ?_
    rintro e w' ⟨rfl,rfl⟩
    have hM:=HMM.out
    rw [if_pos (by decide)] at hM
    subst hM
    refine end_thrown rfl ⟨rfl,tag5,N1,X,h5.mono (by omega),M5⟩
end
end
section
open Go.RowKit
attribute [local go_sem ↓] Go.wp_at_zero Go.wp_at_succ
structure RmN (w:World) (B:Nat) (ka:Option Addr) (kc:Nat) (va:Option Addr) (vc:Nat) (K V:List Nat):Prop where
 rk:Room w B ka K.length kc (uvs K)
 rv:Room w B va V.length vc (uvs V)
 dj:∀ q,q∈fp ka kc→q ∉ fp va vc
def NOut (B:Nat) (lf:Bool) (K V:List Nat) (e:Ending) (w':World):Prop:=∃ ka kc va vc,e=.returned (.agg #[.bool lf,.slice ka K.length kc,.slice va V.length vc])∧RmN w' B ka kc va vc K V
theorem RmN.chg {w w':World} {S:List Nat} {B:Nat} {ka:Option Addr} {kc:Nat} {va:Option Addr} {vc:Nat} {K V:List Nat} (h:RmN w B ka kc va vc K V) (g:Chg S w w') (hS:∀ q,q∈S→q < B):RmN w' B ka kc va vc K V:=
 ⟨h.rk.chg g (fun q hq hm => by have:=(h.rk.lt q hq).1;have:=hS q hm;omega),h.rv.chg g (fun q hq hm => by have:=(h.rv.lt q hq).1;have:=hS q hm;omega),h.dj⟩
theorem RmN.keep {w w':World} {B:Nat} {ka:Option Addr} {kc:Nat} {va:Option Addr} {vc:Nat} {K V:List Nat} (h:RmN w B ka kc va vc K V) (g:Chg [] w w'):RmN w' B ka kc va vc K V:=h.chg g (by simp)
theorem RmN.mono {w:World} {B B':Nat} {ka:Option Addr} {kc:Nat} {va:Option Addr} {vc:Nat} {K V:List Nat} (h:RmN w B ka kc va vc K V) (hB:B'≤B):RmN w B' ka kc va vc K V:=⟨h.rk.mono hB,h.rv.mono hB,h.dj⟩
theorem RmN.rd {w:World} {B:Nat} {ka:Option Addr} {kc:Nat} {va:Option Addr} {vc:Nat} {K V:List Nat} (h:RmN w B ka kc va vc K V) (bk:K.length * 8≤140737488351232) (bv:V.length * 8≤140737488351232):RdN w ka kc va vc K V:=
 ⟨h.rk.reads,h.rv.reads,h.rk.le,h.rv.le,bk,bv,h.rk.max,h.rv.max⟩
def sub (L:List Nat) (f t:Nat):List Nat:=(L.take t).drop f
theorem sub_zero (L:List Nat) (t:Nat):sub L 0 t=L.take t:=rfl
end
end Go.Proofs.YtdgkbicelnnfpaaGreatDoor
