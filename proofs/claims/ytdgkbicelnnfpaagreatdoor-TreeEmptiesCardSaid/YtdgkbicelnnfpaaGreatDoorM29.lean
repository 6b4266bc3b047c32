/- Texts To, Tp of the library, joined. -/
import Derived.Test.YtdgkbicelnnfpaaGreatDoorM28
import Derived.Deep.RegionHeld3
set_option linter.unusedVariables false
set_option linter.unusedSimpArgs false
namespace Go.Proofs.YtdgkbicelnnfpaaGreatDoor
section
set_option maxRecDepth 200000
open Go.RowKit
attribute [local go_sem ↓] Go.wp_at_zero Go.wp_at_succ
def AS.same (x:AS):Bool:=sameB x.node.lf x.was.lf x.node.K x.node.V x.was.K x.was.V
def keptV (V:List AS) (x:AS):List AS:=if x.same=true then V else V++[x]
theorem keep_abs (V:List CS) (x:CS):(keepA V x).map CS.abs=keptV (V.map CS.abs) x.abs:=by
 unfold keepA keptV
 have e:x.abs.same=x.same:=rfl
 rw [e]
 split
 ·rfl
 ·simp
def topN (a b t p:Nat):Nd:=⟨false,[a,b],[t,p]⟩
def grownA (N C:List UInt8) (X:Nat→Option Nd) (L V:List AS) (rt i:Nat):Out (List UInt8 × (Nat→Option Nd) × List AS × List AS × Nat):=
 match L[i]? with
 | none => .stuck
 | some x =>
  if x.node.K.length≤8 then .ok (N,X,L,keptV V x,rt) else
  match makeA N C X x.node.hi with
  | .stuck => .stuck
  | .full => .full
  | .ok (N1,X1,t) =>
   if i=0 then
    match makeA N1 C X1 (topN (x.node.lo.K.getD 0 0) (x.node.hi.K.getD 0 0) x.t t) with
    | .stuck => .stuck
    | .full => .full
    | .ok (N2,X2,t2) => .ok (N2,X2,L,keptV V ⟨x.t,x.was,x.node.lo,x.pl⟩,t2)
   else
    match L[i - 1]? with
    | none => .stuck
    | some y => .ok (N1,X1,L.set (i - 1) ⟨y.t,y.was,y.node.ins (y.pl+1) (x.node.hi.K.getD 0 0) t,y.pl⟩,keptV V ⟨x.t,x.was,x.node.lo,x.pl⟩,rt)
def GrownPost (w0 w:World) (tag:Nat→Nat) (sb rb n:Nat) (C:List UInt8) (u wb:Nat) (a1:Option Addr) (c1:Nat) (a2:Option Addr) (c2:Nat) (od:Nat) (th:Bool) (r:Out (List UInt8 × (Nat→Option Nd) × List AS × List AS × Nat)) (e:Ending) (w':World):Prop:=
 match r with
 | .stuck => True
 | .full => e=Thrown 8∧∃ (tag':Nat→Nat) (N':List UInt8) (X':Nat→Option Nd),HasX w0 w' tag' sb rb n N' C X' u∧Mvb (wb :: (fp a1 c1++fp a2 c2)) tag tag' w w'
 | .ok (N',X',L',V',rt') => e=.returned (.tuple #[])∧∃ (tag':Nat→Nat) (a2':Option Addr) (c2':Nat) (S V:List CS),HasX w0 w' tag' sb rb n N' C X' u∧Mvb (wb :: (fp a1 c1++fp a2 c2)) tag tag' w w'∧WayAt w' w0.heap.size tag' wb sb a1 c1 a2' c2' S V rt' od th∧S.map CS.abs=L'∧V.map CS.abs=V'∧(∀ k,k∈fp a2' c2'→k∈fp a2 c2 ∨ w.heap.size≤k)∧rt' < 2 ^ 64
section
variable {w0 w:World} {tag:Nat→Nat} {sb rb n:Nat} {N C:List UInt8} {X:Nat→Option Nd} {u:Nat} {wb:Nat} {a1:Option Addr} {c1:Nat} {a2:Option Addr} {c2:Nat} {S V:List CS} {rt od:Nat} {th:Bool}
set_option maxHeartbeats 1000000 in
theorem grown_few (hT:Tab w0) (h:HasX w0 w tag sb rb n N C X u) (hw:WayAt w w0.heap.size tag wb sb a1 c1 a2 c2 S V rt od th) (hu:u≤90000000) (i:Nat) (hi:i < S.length) (hSl:S.length≤20) (hVl:V.length≤100) (hrt:rt < 2 ^ 64) (hfew:∀ s,S[i]?=some s→s.node.K.length≤8)
  (r:Out (List UInt8 × (Nat→Option Nd) × List AS × List AS × Nat)) (hr:grownA N C X (S.map CS.abs) (V.map CS.abs) rt i=r) (hne:r ≠ .stuck) :
  Calls Tryz.prog 113 #[.pointer (some ⟨wb,0,none⟩),.int .i64 (i:Int)] w (GrownPost w0 w tag sb rb n C (u+2) wb a1 c1 a2 c2 od th r):=by
 obtain ⟨x,hx⟩:∃ x,S[i]?=some x:=⟨_,List.getElem?_eq_getElem hi⟩
 have hxm:=List.mem_of_getElem? hx
 obtain ⟨b,o,rfl,hst,hbf⟩:=hw.r1.step hx
 have HT:=mkHid hT
 have hle:=hw.r1.le
 obtain ⟨qx1,qx2⟩:=hw.r1.nd x hxm
 unfold grownA at hr
 rw [List.getElem?_map,hx] at hr
 have tb:=hw.r1.tg b hbf
 have p1:=hw.p1
 have p0:=hw.p0
 obtain ⟨⟨e0,e1,e2,e3,e4,e5,e6,e7⟩,-⟩:=hst.all
 have hHX:=mkHid hx
 clear hx
 obtain ⟨xt,was,⟨lf,ka,kc,va,vc,K,V'⟩,xp⟩:=x
 unfold CS.abs CN.nd at hr
 dsimp only [Option.map_some] at hr e0 e1 e2 e3 e4 e5 e6 e7 qx1 qx2
 have h8:K.length≤8:=hfew _ hHX.out
 ·rw [if_pos h8] at hr
  have d8:decide ((K.length:Int)≤8)=true:=decide_eq_true (by omega)
  have HR:=mkHid hr
  clear hr
  have gK:=Chg.alloc [] w (.cells (CS.cells ⟨xt,was,⟨lf,ka,kc,va,vc,K,V'⟩,xp⟩).toArray 139)
  have cK:=keep_any (h.keep gK) (hw.keep gK) ⟨xt,was,⟨lf,ka,kc,va,vc,K,V'⟩,xp⟩ ⟨qx1.keep gK,qx2.keep gK⟩ (by omega)
  unfold CS.val stepV at cK
  unfold CS.cells at gK cK
  try dsimp only at gK cK
  go_enter Tryz.func113,Tryz.ntmps113
  go_wp2_with fail
  refine cK.mono ?_
  rintro e w2 ⟨rfl,a2',c2',W2,g2,hf2⟩
  go_wp2_with fail
  go_end0
  have hr:=HR.out
  subst hr
  have hS:∀ k,k∈wb :: fp a2 c2→tag k=4:=fun k hk => by
   rcases List.mem_cons.1 hk with rfl | h9
   ·exact hw.tb
   ·exact hw.r2.tg k h9
  have G:Chg (wb :: fp a2 c2) w w2:=gK.trans g2 (by simp) (fun k hk _ => hk)
  refine ⟨rfl,tag,a2',c2',S,keepA V ⟨xt,was,⟨lf,ka,kc,va,vc,K,V'⟩,xp⟩,(h.wrote G hS).mono (by omega),?_,W2,rfl,keep_abs _ _,fun k hk => (hf2 k hk).imp id (fun h9 => by simp at h9;omega),hrt⟩
  exact ((Mv.made (Chg.refl [] w) h.hi).b _).wrote G (fun k hk _ => by
   rcases List.mem_cons.1 hk with rfl | h9
   ·simp
   ·exact List.mem_cons_of_mem _ (List.mem_append_right _ h9))
end
end
section
set_option maxRecDepth 200000
open Go.RowKit
attribute [local go_sem ↓] Go.wp_at_zero Go.wp_at_succ
abbrev WaySt:=List UInt8 × (Nat→Option Nd) × List AS × List AS × Nat
def upL (come:WaySt→Nat→Out WaySt):Nat→WaySt→Out WaySt
 | 0,s => .ok s
 | i+1,s => match come s i with
  | .stuck => .stuck
  | .full => .full
  | .ok s' => upL come i s'
def saveAll (X:Nat→Option Nd) (V:List AS):Nat→Option Nd:=V.foldl (fun X s => putX X s.t s.node) X
theorem saveAll_snoc (X:Nat→Option Nd) (V:List AS) (x:AS):saveAll X (V++[x])=putX (saveAll X V) x.t x.node:=by unfold saveAll;rw [List.foldl_append];rfl
theorem saveAll_take {X:Nat→Option Nd} {V:List CS} {t:Nat} {x:CS} (h:V[t]?=some x):saveAll X ((V.map CS.abs).take (t+1))=putX (saveAll X ((V.map CS.abs).take t)) x.t x.node.nd:=by
 have h2:(V.map CS.abs)[t]?=some x.abs:=by rw [List.getElem?_map,h];rfl
 obtain ⟨hl,he⟩:=List.getElem?_eq_some_iff.1 h2
 rw [List.take_succ_eq_append_getElem hl,he,saveAll_snoc]
 rfl
def upA (come:WaySt→Nat→Out WaySt) (s:WaySt):Out WaySt:=
 match upL come s.2.2.1.length s with
 | .stuck => .stuck
 | .full => .full
 | .ok (N,X,L,V,rt) => if V.all (fun s => mayB s.node.K s.node.V) then .ok (N,saveAll X V,L,V,rt) else .stuck
theorem mvb_next {w w1 w2:World} {tag tg tg2:Nat→Nat} {wb:Nat} {a1 a2 b2:Option Addr} {c1 c2 d2:Nat} (hM:Mvb (wb :: (fp a1 c1++fp a2 c2)) tag tg w w1) (m2:Mvb (wb :: (fp a1 c1++fp b2 d2)) tg tg2 w1 w2) (hf:∀ q,q∈fp b2 d2→q∈fp a2 c2 ∨ w.heap.size≤q):Mvb (wb :: (fp a1 c1++fp a2 c2)) tag tg2 w w2:=
 hM.trans m2 (fun _ h _ => h) (fun k hk hlt => by
  rcases List.mem_cons.1 hk with rfl | h9
  ·simp
  ·rcases List.mem_append.1 h9 with h8 | h8
   ·exact List.mem_cons_of_mem _ (List.mem_append_left _ h8)
   ·rcases hf k h8 with h7 | h7
    ·exact List.mem_cons_of_mem _ (List.mem_append_right _ h7)
    ·omega)
def natAt1:Value→Nat
 | .int _ q => (q+1).toNat
 | _ => 0
section
variable {w0 w:World} {tag:Nat→Nat} {sb rb n:Nat} {N C:List UInt8} {X:Nat→Option Nd} {u:Nat} {wb:Nat} {a1:Option Addr} {c1:Nat} {a2:Option Addr} {c2:Nat} {S V:List CS} {rt od:Nat} {th:Bool}
set_option maxHeartbeats 2000000 in
theorem up_anyT (hT:Tab w0) (h:HasX w0 w tag sb rb n N C X u) (hw:WayAt w w0.heap.size tag wb sb a1 c1 a2 c2 S V rt od th) (hu:u≤80000000) (kc:Nat) (hkc:kc≤100) (hS:S.length≤20) (hS0:0 < S.length) (hrt:rt < 2 ^ 64)
  (g:Nat) (hg:∀ (args:Array Value) (w:World),(callFunc g args).run Tryz.prog w=.ok (.enter g args) w) (come:WaySt→Nat→Out WaySt) (Inv:Nat→WaySt→Prop)
  (hinv:∀ i s s',Inv (i+1) s→come s i=.ok s'→Inv i s') (hlen:∀ i s s',Inv (i+1) s→come s i=.ok s'→s'.2.2.1.length=s.2.2.1.length∧s'.2.2.2.1.length≤s.2.2.2.1.length+2)
  (hlast:∀ s,Inv 0 s→∀ x,x∈s.2.2.2.1→x.t < n)
  (hcome:∀ (i:Nat) (w1:World) (tg:Nat→Nat) (N1:List UInt8) (X1:Nat→Option Nd) (u1:Nat) (b2:Option Addr) (d2:Nat) (S1 V1:List CS) (rt1:Nat),i < S1.length→S1.length≤20→V1.length≤50→Inv (i+1) (N1,X1,S1.map CS.abs,V1.map CS.abs,rt1)→rt1 < 2 ^ 64→u1≤90000000→HasX w0 w1 tg sb rb n N1 C X1 u1→WayAt w1 w0.heap.size tg wb sb a1 c1 b2 d2 S1 V1 rt1 od th →
   come (N1,X1,S1.map CS.abs,V1.map CS.abs,rt1) i ≠ .stuck→Calls Tryz.prog g #[.pointer (some ⟨wb,0,none⟩),.int .i64 (i:Int)] w1 (GrownPost w0 w1 tg sb rb n C (u1+kc) wb a1 c1 b2 d2 od th (come (N1,X1,S1.map CS.abs,V1.map CS.abs,rt1) i)))
  (hI:Inv S.length (N,X,S.map CS.abs,V.map CS.abs,rt)) (hV:V=[])
  (r:Out WaySt) (hr:upA come (N,X,S.map CS.abs,V.map CS.abs,rt)=r) (hne:r ≠ .stuck) :
  Calls Tryz.prog 112 #[.pointer (some ⟨wb,0,none⟩),.func (.func g) #[.pointer (some ⟨wb,0,none⟩)] #[]] w (GrownPost w0 w tag sb rb n C (u+3000) wb a1 c1 a2 c2 od th r):=by
 obtain ⟨j,hj⟩:∃ j,S.length=j+1:=⟨S.length - 1,by omega⟩
 have p1:=hw.p1
 rw [hj] at p1
 have hw1:IntKind.i64.wrap (((j+1:Nat):Int) - 1)=(j:Int):=by rw [Go.IntWalk.i64_in _ (by omega)];omega
 unfold upA at hr
 dsimp only at hr
 rw [List.length_map,hj] at hr
 have HT:=mkHid hT
 have HH:=mkHid h
 have HWW:=mkHid hw
 have HG:=mkHid hg
 have HC:=mkHid hcome
 have HINV:=mkHid hinv
 have HLEN:=mkHid hlen
 have HLAST:=mkHid hlast
 have HJ:=mkHid hj
 have HR:=mkHid hr
 have HI:=mkHid hI
 clear hT h hw hcome hinv hlen hlast hr hI
 go_enter Tryz.func112,Tryz.ntmps112
 go_wp2_with fail
 go_loopw [4] (fun i wr => ∃ (k:Nat) (Nk:List UInt8) (Xk:Nat→Option Nd) (Sk Vk:List CS) (rk:Nat) (tg:Nat→Nat) (b2:Option Addr) (d2:Nat),((k=0∧i=.int .i64 (-1)) ∨ ∃ m,k=m+1∧i=.int .i64 (m:Nat))∧k≤j+1∧Sk.length=j+1∧Vk.length+2 * k≤2 * (j+1)∧rk < 2 ^ 64∧HasX w0 wr tg sb rb n Nk C Xk (u+kc * (j+1 - k))∧Mvb (wb :: (fp a1 c1++fp a2 c2)) tag tg w wr∧WayAt wr w0.heap.size tg wb sb a1 c1 b2 d2 Sk Vk rk od th∧(∀ q,q∈fp b2 d2→q∈fp a2 c2 ∨ w.heap.size≤q)∧Inv k (Nk,Xk,Sk.map CS.abs,Vk.map CS.abs,rk) ∧
   (match upL come k (Nk,Xk,Sk.map CS.abs,Vk.map CS.abs,rk) with
    | .stuck => Out.stuck
    | .full => Out.full
    | .ok (N,X,L,V,rt) => if V.all (fun s => mayB s.node.K s.node.V) then Out.ok (N,saveAll X V,L,V,rt) else Out.stuck)=r) (fun i _ => natAt1 i)
 case atStart =>
  refine ⟨j+1,N,X,S,V,rt,tag,a2,c2,Or.inr ⟨j,rfl,rfl⟩,Nat.le_refl _,HJ.out,by subst hV;simp,hrt,HH.out.mono (by simp),(Mv.made (Chg.refl [] w) HH.out.hi).b _,HWW.out,fun q hq => Or.inl hq,?_,HR.out⟩
  have:=HI.out
  rw [HJ.out] at this
  exact this
 case round =>
  obtain ⟨k,Nk,Xk,Sk,Vk,rk,tg,b2,d2,hik,hk,hSk,hVk,hrk,hX,hM,hW,hfp,hIk,hup⟩:=hrel
  rcases hik with ⟨rfl,rfl⟩ | ⟨m,rfl,rfl⟩
  ·by_cases hall:(Vk.map CS.abs).all (fun s => mayB s.node.K s.node.V)=true
   ·unfold upL at hup
    dsimp only at hup
    rw [if_pos hall] at hup
    have HALL:Hid (∀ x,x∈Vk→mayB x.node.K x.node.V=true∧x.t < n):=mkHid fun x hx => ⟨by
     have:=List.all_eq_true.1 hall x.abs (List.mem_map_of_mem hx)
     exact this,HLAST.out _ hIk x.abs (List.mem_map_of_mem hx)⟩
    have p2:=hW.p2
    have hVl:Vk.length≤50:=by omega
    have hkc2:kc * (j+1 - 0)≤2000:=by
     have h1:kc * (j+1 - 0)≤100 * 20:=Nat.mul_le_mul hkc (by have:=HJ.out;omega)
     omega
    have HX:=mkHid (And.intro hX (And.intro hM (And.intro hW (And.intro hfp (And.intro hup hkc2)))))
    have HRK:=mkHid (And.intro hrk (And.intro hSk hVk))
    clear hX hM hW hfp hup hall hIk hkc2 hVk hSk hk
    go_wp2_with fail
    obtain ⟨w3,hw3⟩:∃ w3,w3=wr:=⟨_,rfl⟩
    subst hw3
    go_loopw [6,27] (fun _ ix wr => ∃ t:Nat,ix=.int .i64 t∧t≤Vk.length∧Chg [] w3 wr) (fun _ ix _ => Vk.length - natAt ix)
    case atStart => exact ⟨0,rfl,Nat.zero_le _,Chg.refl [] w3⟩
    case round =>
     obtain ⟨t,rfl,ht,hg3⟩:=hrel
     by_cases hlt:t < Vk.length
     ·obtain ⟨x,hx⟩:∃ x,Vk[t]?=some x:=⟨_,List.getElem?_eq_getElem hlt⟩
      have hxm:=List.mem_of_getElem? hx
      have hX3:=HX.out.1
      have hW3:=HX.out.2.2.1
      obtain ⟨vb,vo,rfl,hst,-⟩:=(hW3.keep hg3).r2.step hx
      have hle:=(hW3.keep hg3).r2.le
      have qx:=((hW3.keep hg3).r2.nd x hxm).2
      have hmy:=(HALL.out x hxm).1
      have gB:=Chg.alloc [] wr (.cells x.cells.toArray 139)
      have sB:=new_step wr x 139
      have cN:=nmay ((hX3.keep hg3).keep gB) x.node (qx.keep gB)
      rw [hmy] at cN
      unfold CN.val at cN
      obtain ⟨⟨e0,e1,e2,e3,e4,e5,e6,e7⟩,-⟩:=hst.all
      obtain ⟨⟨k0,k1,k2,k3,k4,k5,k6,k7⟩,-⟩:=sB.all
      simp only [Nat.zero_add] at k0 k1 k2 k3 k4 k5 k6 k7
      unfold CS.cells at gB cN k0 k1 k2 k3 k4 k5 k6 k7
      have hG:=mkHid (hg3.then gB)
      clear hst sB hX3 hW3 qx hmy hx hg3 gB
      go_wp2_with fail
      refine cN.mono ?_
      rintro e w5 ⟨rfl,g5⟩
      go_wp2_with fail
      go_roundw
      case rel => exact ⟨t+1,by go_num,by omega,hG.out.then g5⟩
      case measure => simp [natAt];omega
     ·have ht2:t=Vk.length:=by omega
      have p2':=hg3.cellv p2 (by simp)
      have hG:=mkHid (And.intro ht2 hg3)
      clear ht2 hg3
      go_wp2_with fail
      obtain ⟨w4,hw4⟩:∃ w4,w4=wr:=⟨_,rfl⟩
      subst hw4
      go_loopw [8,42] (fun _ ix wr => ∃ (t:Nat) (tg':Nat→Nat),ix=.int .i64 t∧t≤Vk.length∧HasX w0 wr tg' sb rb n Nk C (saveAll Xk ((Vk.map CS.abs).take t)) (u+kc * (j+1 - 0)+t)∧Mvb (wb :: (fp a1 c1++fp a2 c2)) tag tg' w wr∧WayAt wr w0.heap.size tg' wb sb a1 c1 b2 d2 Sk Vk rk od th) (fun _ ix _ => Vk.length - natAt ix)
      case atStart =>
       obtain ⟨hX,hM,hW,hfp,hup,hkc2⟩:=HX.out
       exact ⟨0,tg,rfl,Nat.zero_le _,(hX.keep hG.out.2),hM.wrote hG.out.2 (by simp),hW.keep hG.out.2⟩
      case round =>
       obtain ⟨t,tg',rfl,ht,hX3,hM3,hW3⟩:=hrel
       by_cases hlt:t < Vk.length
       ·obtain ⟨x,hx⟩:∃ x,Vk[t]?=some x:=⟨_,List.getElem?_eq_getElem hlt⟩
        have hxm:=List.mem_of_getElem? hx
        obtain ⟨vb,vo,rfl,hst,-⟩:=hW3.r2.step hx
        have hle:=hW3.r2.le
        have qx:=(hW3.r2.nd x hxm).2
        obtain ⟨hmy,hxt⟩:=HALL.out x hxm
        have gB:=Chg.alloc [] wr (.cells x.cells.toArray 139)
        have sB:=new_step wr x 139
        have hkc2:=HX.out.2.2.2.2.2
        have cS:=save_x HT.out ((hX3.keep gB).keep (Chg.drew [] _)) x.t hxt (by omega) x.node ((qx.keep gB).keep (Chg.drew [] _)) hmy
        unfold CN.val at cS
        obtain ⟨⟨e0,e1,e2,e3,e4,e5,e6,e7⟩,-⟩:=hst.all
        obtain ⟨⟨k0,k1,k2,k3,k4,k5,k6,k7⟩,-⟩:=sB.all
        simp only [Nat.zero_add] at k0 k1 k2 k3 k4 k5 k6 k7
        have W5:=hW3.keep gB
        have p05:=W5.p0
        have M5:=(hM3.wrote gB (by simp)).wrote (Chg.drew [] _) (by simp)
        have hsz5:(wr.alloc (.cells x.cells.toArray 139)).heap.size=wr.heap.size+1:=by simp
        unfold CS.cells at gB cS k0 k1 k2 k3 k4 k5 k6 k7 W5 p05 M5 hsz5
        have HX2:=mkHid (And.intro hx (And.intro M5 W5))
        clear hst sB hX3 hW3 qx hmy hx hM3 gB M5 W5 hkc2
        go_wp2_with fail
        generalize (wr.alloc (.cells [.int .u64 (x.t:Int),.bool x.was.lf,.slice x.was.ka x.was.K.length x.was.kc,.slice x.was.va x.was.V.length x.was.vc,.bool x.node.lf,.slice x.node.ka x.node.K.length x.node.kc,.slice x.node.va x.node.V.length x.node.vc,.int .i64 (x.pl:Int)].toArray 139))=w5 at *
        go_region_law (first
         | (go_simp;go_at_call 16;refine cS.mono ?_;rintro e w6 ⟨rfl,tg6,h6,m6⟩)
         | (go_simp;go_at_call 123;refine (must_ok _).mono ?_;rintro e w' ⟨rfl,rfl⟩))
        all_goals
         obtain ⟨hx,M5,W5⟩:=HX2.out
         have W6:=(W5.keep (Chg.drew [] w5)).mv m6
         have M6:=M5.trans (m6.b []) (fun _ h _ => h) (by simp)
         rw [← saveAll_take hx] at h6
         go_wp2_with fail
         go_roundw
         case rel => exact ⟨t+1,tg6,by go_num,by omega,h6,M6,W6⟩
         case measure => simp [natAt];omega
       ·have ht3:t=Vk.length:=by omega
        subst ht3
        rw [List.take_of_length_le (by simp)] at hX3
        obtain ⟨-,-,-,hfp,hup,hkc2⟩:=HX.out
        have HF:=mkHid (And.intro hX3 (And.intro hM3 (And.intro hW3 (And.intro hfp (And.intro hup hkc2)))))
        clear hX3 hM3 hW3 hfp hup hkc2
        go_wp2_with fail
        go_end0
        obtain ⟨hX3,hM3,hW3,hfp,hup,hkc2⟩:=HF.out
        have hup:Out.ok (Nk,saveAll Xk (Vk.map CS.abs),Sk.map CS.abs,Vk.map CS.abs,rk)=r:=hup
        subst hup
        exact ⟨rfl,tg',b2,d2,Sk,Vk,hX3.mono (by omega),hM3,hW3,rfl,rfl,hfp,HRK.out.1⟩
   ·unfold upL at hup
    dsimp only at hup
    rw [if_neg hall] at hup
    exact absurd hup.symm hne
  ·have dge:decide ((m:Int) ≥ 0)=true:=decide_eq_true (by omega)
   have dge2:decide (0≤(m:Int))=true:=decide_eq_true (by omega)
   unfold upL at hup
   obtain ⟨cr,hcr⟩:∃ cr,come (Nk,Xk,Sk.map CS.abs,Vk.map CS.abs,rk) m=cr:=⟨_,rfl⟩
   rw [hcr] at hup
   have hkc2:kc * (j+1 - (m+1))≤2000:=by
    have h1:kc * (j+1 - (m+1))≤100 * 20:=Nat.mul_le_mul hkc (by omega)
    omega
   cases cr with
   | stuck => exact absurd hup.symm hne
   | full =>
    have hup:Out.full=r:=hup
    subst hup
    have cC:=HC.out m wr tg Nk Xk _ b2 d2 Sk Vk rk (by omega) (by omega) (by omega) hIk hrk (by omega) hX hW (by rw [hcr];simp)
    rw [hcr] at cC
    have HK:=mkHid (And.intro hX (And.intro hM hfp))
    have HK2:=mkHid hkc2
    clear hX hM hfp hcr hkc2
    go_wp2_with fail
    refine cC.mono ?_
    rintro e w2 ⟨rfl,tg2,N2,X2,h2,m2⟩
    obtain ⟨hX,hM,hfp⟩:=HK.out
    exact end_thrown (P:=Tryz.prog) (fn:=Tryz.f112) rfl ⟨rfl,tg2,N2,X2,h2.mono (by have:=HK2.out;omega),mvb_next hM m2 hfp⟩
   | ok cq =>
    have cC:=HC.out m wr tg Nk Xk _ b2 d2 Sk Vk rk (by omega) (by omega) (by omega) hIk hrk (by omega) hX hW (by rw [hcr];simp)
    rw [hcr] at cC
    have hIn:=HINV.out m _ _ hIk hcr
    obtain ⟨hl1,hl2⟩:=HLEN.out m _ _ hIk hcr
    have HK:=mkHid (And.intro hX (And.intro hM (And.intro hfp (And.intro hIn (And.intro hl1 (And.intro hl2 hup))))))
    have HK2:=mkHid hkc2
    obtain ⟨N2,X2,L2,V2,r2⟩:=cq
    clear hX hM hfp hcr hkc2 hIk hIn hl1 hl2 hup hW
    have hwr:(m=0∧IntKind.i64.wrap ((m:Int) - 1) = -1) ∨ ∃ p,m=p+1∧IntKind.i64.wrap ((m:Int) - 1)=(p:Nat):=by
     cases m with
     | zero => exact Or.inl ⟨rfl,by rw [Go.IntWalk.i64_in _ (by omega)];rfl⟩
     | succ p => exact Or.inr ⟨p,rfl,by rw [Go.IntWalk.i64_in _ (by omega)];omega⟩
    obtain ⟨nx,hnx⟩:∃ nx,IntKind.i64.wrap ((m:Int) - 1)=nx:=⟨_,rfl⟩
    rw [hnx] at hwr
    have HWR:=mkHid hwr
    clear hwr
    go_wp2_with fail
    refine cC.mono ?_
    rintro e w2 ⟨rfl,tg2,b2',d2',S2,V2',h2,m2,W2,eS,eV,hf2,hrt2⟩
    go_wp2_with fail
    obtain ⟨hX,hM,hfp,hIn,hl1,hl2,hup⟩:=HK.out
    have hmm:=hM.size
    subst eS eV
    simp only [List.length_map] at hl1 hl2
    go_roundw
    case rel =>
     refine ⟨m,N2,X2,S2,V2',r2,tg2,b2',d2',?_,by omega,by omega,by omega,hrt2,h2.mono ?_,mvb_next hM m2 hfp,W2,fun q hq => ?_,hIn,hup⟩
     ·rcases HWR.out with ⟨h1,h2⟩ | ⟨p,h1,h2⟩
      ·exact Or.inl ⟨h1,by first | rw [h2] | (rw [hnx,h2]) | rfl⟩
      ·exact Or.inr ⟨p,h1,by first | rw [h2] | (rw [hnx,h2])⟩
     ·rw [show j+1 - m=(j+1 - (m+1))+1 by omega,Nat.mul_add,Nat.mul_one,Nat.add_assoc]
      exact Nat.le_refl _
     ·rcases hf2 q hq with h9 | h9
      ·exact hfp q h9
      ·exact Or.inr (by omega)
    case measure =>
     rcases HWR.out with ⟨h1,h2⟩ | ⟨p,h1,h2⟩
     ·simp [natAt1,h2] <;> omega
     ·simp [natAt1,h2] <;> omega
end
end
end Go.Proofs.YtdgkbicelnnfpaaGreatDoor
