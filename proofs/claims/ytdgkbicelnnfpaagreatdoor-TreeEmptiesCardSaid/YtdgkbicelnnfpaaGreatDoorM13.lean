/- Texts Uf, Ug, Uk, Ul, Na, Nb, Nj, Sa of the library, joined. -/
import Derived.Test.YtdgkbicelnnfpaaGreatDoorM12
import Derived.Deep.QuietTactic
import Derived.BigQuiet
import Derived.RegionTactic
import Derived.Deep.RegionHeld3
import Derived.Deep.RegionLaw
import Derived.Deep.DeepCutAuto
import Derived.Deep.CutBlock
import Derived.Deep.DrawnRows
import Derived.WalkSpells
import Derived.WalkLawsBesides
import Derived.Test.YtdgkbicelnnfpaaGreatDoorRows
import Derived.WalkKit
set_option linter.unusedVariables false
set_option linter.unusedSimpArgs false
namespace Go.Proofs.YtdgkbicelnnfpaaGreatDoor
section
set_option maxRecDepth 200000
open Go.RowKit
attribute [local go_sem ↓] Go.wp_at_zero Go.wp_at_succ
theorem rfs_close {w:World} {B nb cb sb:Nat} {Fs:List Nat} {n:Nat} {N C:List UInt8} {t:TypeId} (hB:B≤w.heap.size) (rn:Room w B (some ⟨nb,0,none⟩) n n (bts N)) (rc:Room w B (some ⟨cb,0,none⟩) n n (bts C)) (sp:SpAt w B sb Fs (freeI N C)) (n0:0 < n) (nn:n≤1024) (d3:nb ≠ cb) (d5:nb ∉ Fs) (d6:cb ∉ Fs) :
  RfsAt (w.alloc (.cells #[.slice (some ⟨nb,0,none⟩) n n,.slice (some ⟨cb,0,none⟩) n n,.pointer (some ⟨sb,0,none⟩)] t)) B w.heap.size nb cb sb Fs n N C∧Chg [] w (w.alloc (.cells #[.slice (some ⟨nb,0,none⟩) n n,.slice (some ⟨cb,0,none⟩) n n,.pointer (some ⟨sb,0,none⟩)] t)):=by
 have g:=Chg.alloc [] w (.cells #[.slice (some ⟨nb,0,none⟩) n n,.slice (some ⟨cb,0,none⟩) n n,.pointer (some ⟨sb,0,none⟩)] t)
 have hcl:=fun j => cell_of_row (w.alloc (.cells #[.slice (some ⟨nb,0,none⟩) n n,.slice (some ⟨cb,0,none⟩) n n,.pointer (some ⟨sb,0,none⟩)] t)) w.heap.size j _ _ _ (heap_alloc_last w _)
 have hfz:=fun j => frozen_of_row (w.alloc (.cells #[.slice (some ⟨nb,0,none⟩) n n,.slice (some ⟨cb,0,none⟩) n n,.pointer (some ⟨sb,0,none⟩)] t)) w.heap.size j _ _ (heap_alloc_last w _)
 have l1:=(rn.lt nb (by rw [fp_some _ _ _ n0];simp)).2
 have l2:=(rc.lt cb (by rw [fp_some _ _ _ n0];simp)).2
 exact ⟨⟨hcl 0,hcl 1,hcl 2,hfz,rn.chg g (by simp),rc.chg g (by simp),sp.keep g,n0,nn,hB,by omega,by omega,d3,fun hk => by have:=(sp.lt _ hk).2;omega,d5,d6⟩,g⟩
def Part (n k:Nat) (X:List UInt8) (Is:List Bool):Prop:=Is.length=n∧(∀ j,j < k→Is[j]?=(freeI X X)[j]?)∧∀ j,k≤j→j < n→Is[j]?=some true
theorem Part.start (n:Nat) (X:List UInt8):Part n 0 X (List.replicate n true):=⟨by simp,fun j hj => by omega,fun j _ h => by simp [h]⟩
theorem Part.done {n:Nat} {X:List UInt8} {Is:List Bool} (hX:X.length=n) (h:Part n n X Is):Is=freeI X X:=by
 apply List.ext_getElem?
 intro j
 by_cases hj:j < n
 ·exact h.2.1 j hj
 ·rw [List.getElem?_eq_none (by rw [h.1];omega),List.getElem?_eq_none (by rw [freeI_len hX hX];omega)]
theorem Part.same {n k:Nat} {X:List UInt8} {Is:List Bool} (h:Part n k X Is) (hk:k < n) (ha:X[k]?=some 0):Part n (k+1) X Is:=by
 refine ⟨h.1,fun j hj => ?_,fun j hj => h.2.2 j (by omega)⟩
 by_cases hjk:j=k
 ·subst hjk
  rw [h.2.2 j (Nat.le_refl _) hk,freeI_get ha ha];rfl
 ·exact h.2.1 j (by omega)
theorem Part.claim {n k:Nat} {X:List UInt8} {Is:List Bool} {a:UInt8} (h:Part n k X Is) (hk:k < n) (ha:X[k]?=some a) (e:a ≠ 0):claimN Is (k:Int)=(0,Is.set k false)∧Part n (k+1) X (Is.set k false):=by
 have hI:=h.2.2 k (Nat.le_refl _) hk
 have hl:=h.1
 refine ⟨by unfold claimN;rw [if_neg (by omega),Int.toNat_natCast,if_pos hI],by simp [hl],fun j hj => ?_,fun j hj hjn => ?_⟩
 ·by_cases hjk:j=k
  ·subst hjk
   have:(a == 0)=false:=by simpa using e
   rw [List.getElem?_set_self (by omega),freeI_get ha ha,this];rfl
  ·rw [List.getElem?_set_ne (fun h => hjk h.symm)]
   exact h.2.1 j (by omega)
 ·rw [List.getElem?_set_ne (by omega)]
  exact h.2.2 j (by omega) hjn
set_option maxRecDepth 20000 in
theorem rnew_in (ao:Option Addr) (n c:Nat) (L:List UInt8) (w:World) (g:Reads w ao (bts L)) (gn:L.length=n) (n0:0 < n) (nn:n≤1024):Calls Tryz.prog 34 #[.slice ao n c] w fun e w' => ∃ rb nb cb sb Fs,e=.returned (.tuple #[.pointer (some ⟨rb,0,none⟩),.int .i64 0])∧RfsAt w' w.heap.size rb nb cb sb Fs n L L∧Chg [] w w':=by
 have d1:decide ((n:Int) < 1)=false:=decide_eq_false (by omega)
 have d1':decide (n < 1)=false:=decide_eq_false (by omega)
 have d2:decide ((n:Int) > 1024)=false:=decide_eq_false (by omega)
 have d3:decide ((1024:Int) < (n:Int))=false:=decide_eq_false (by omega)
 have d4:decide (1024 < n)=false:=decide_eq_false (by omega)
 have hM:=Part.start n L
 have cN:=new_yes n nn w
 generalize List.replicate n true=I0 at *
 go_enter Tryz.func34,Tryz.ntmps34
 go_wp2_with (first | (go_at_call 73;refine cN.mono ?_;rintro e w1 ⟨sb,F,rfl,hS,hg1⟩))
 clear cN
 go_loopw [27] (fun v wr => ∃ (k:Nat) (Is:List Bool) (Fk:List Nat),v=.int .i64 k∧k≤n∧Part n k L Is∧SpAt wr w.heap.size sb Fk Is∧Chg [] w wr) (fun v _ => n - (Go.RowKit.intOf v).toNat)
 case atStart => exact ⟨0,_,F,rfl,Nat.zero_le _,hM,hS,hg1⟩
 case round =>
  clear hM hS hg1
  obtain ⟨k,Is,Fk,rfl,hk,hM,hS,hg⟩:=hrel
  have gr:=g.keep hg
  by_cases hlt:k < n
  ·have hd:decide (k < n)=true:=decide_eq_true hlt
   have hd2:decide ((k:Int) < (n:Int))=true:=decide_eq_true (by omega)
   obtain ⟨a,m,ha,hm,hm2⟩:=byte_at gn hlt
   obtain ⟨ab,aoff,rfl,ci,_⟩:=reads_lt gr k _ (bts_at ha hm)
   by_cases hm0:m=0
   ·have hM':=hM.same hlt (by rw [ha,(u8_nat hm 0).2 hm0])
    have t1:decide ((m:Int) > 0)=false:=decide_eq_false (by omega)
    have t2:decide (0 < m)=false:=decide_eq_false (by omega)
    have t3:decide ((0:Int) < (m:Int))=false:=decide_eq_false (by omega)
    have HM:=mkHid hM'
    clear ha hm hM hM' hm0
    go_wp2_with fail
    exact ⟨⟨k+1,Is,Fk,by first | rfl | go_num,by omega,HM.out,hS,hg⟩,by simp [Go.RowKit.intOf];omega⟩
   ·have t1:decide ((m:Int) > 0)=true:=decide_eq_true (by omega)
    have t2:decide (0 < m)=true:=decide_eq_true (by omega)
    have t3:decide ((0:Int) < (m:Int))=true:=decide_eq_true (by omega)
    obtain ⟨eg,hM'⟩:=hM.claim hlt ha (fun e => hm0 ((u8_nat hm 0).1 e))
    have cG:=claim_any (k:Int) w.heap.size sb Fk Is wr hS
    rw [eg] at cG
    have HM:=mkHid hM'
    generalize Is.set k false=I2 at *
    clear ha hm hM hM' hm0 eg
    go_wp2_with (first | (go_at_call 74;refine cG.mono ?_;rintro e w2 ⟨rfl,hs⟩))
    obtain ⟨F2,s1,s2,s3⟩:=hs
    exact ⟨⟨k+1,I2,F2,by first | rfl | go_num,by omega,HM.out,s1,hg.trans s2 (fun _ h _ => h) (fun p hp hlt => by have:=(hS.lt p hp).1;omega)⟩,by simp [Go.RowKit.intOf];omega⟩
  ·have hkn:k=n:=by omega
   subst hkn
   have hd:decide (k < k)=false:=by simp
   have hI:=hM.done gn
   subst hI
   clear hM
   go_wp2_with fail
   refine (kept_any ao k c L wr gr gn n0 nn).mono ?_
   rintro e wa ⟨b1,rfl,hb1,ra,ga⟩
   go_wp2_with fail
   refine (kept_any ao k c L wa (gr.keep ga) gn n0 nn).mono ?_
   rintro e wb ⟨b2,rfl,hb2,rb2,gb⟩
   have hra:=(ra.mono hg.size).chg gb (by simp)
   have hrb:=rb2.mono (Nat.le_trans hg.size ga.size)
   have hSb:=(hS.keep ga).keep gb
   have l1:=(ra.lt b1 (by rw [fp_some _ _ _ n0];simp)).2
   obtain ⟨h1,h2⟩:=rfs_close (t:=112) (Nat.le_trans (Nat.le_trans hg.size ga.size) gb.size) hra hrb hSb n0 nn (by omega) (fun hk => by have:=(hS.lt _ hk).2;omega) (fun hk => by have:=(hS.lt _ hk).2;have:=ga.size;omega)
   have H1:=mkHid h1
   clear h1 hra hrb hSb gn
   go_wp2_with fail
   go_ret2
   exact ⟨_,b1,b2,sb,Fk,rfl,H1.out,((hg.then ga).then gb).then h2⟩
section
variable (B rb nb cb sb:Nat) (Fs:List Nat) (n:Nat) (N C:List UInt8) (w:World) (h:RfsAt w B rb nb cb sb Fs n N C)
include h
set_option maxRecDepth 20000 in
theorem rcopy_any:Calls Tryz.prog 105 #[.pointer (some ⟨rb,0,none⟩)] w fun e w' => ∃ rb' nb' cb' sb' Fs',e=.returned (.pointer (some ⟨rb',0,none⟩))∧RfsAt w' w.heap.size rb' nb' cb' sb' Fs' n N C∧Chg [] w w':=by
 have cM:=rmade_yes rb sb w h.c2
 have c0:=h.c0
 have c1:=h.c1
 have c2:=h.c2
 have n0:=h.n0
 have nn:=h.nn
 have hN:∀ w1,Chg [] w w1→Calls Tryz.prog 45 #[.slice (some ⟨nb,0,none⟩) n n] w1 fun e w' => ∃ b,e=.returned (.slice (some ⟨b,0,none⟩) n n)∧w1.heap.size≤b∧Room w' w.heap.size (some ⟨b,0,none⟩) n n (bts N)∧Chg [] w1 w'∧Chg [] w w'∧w'.cell? ⟨rb,0,none⟩=some (.slice (some ⟨nb,0,none⟩) n n)∧w'.cell? ⟨rb,1,none⟩=some (.slice (some ⟨cb,0,none⟩) n n)∧w'.cell? ⟨rb,2,none⟩=some (.pointer (some ⟨sb,0,none⟩)):=by
  intro w1 g
  have h1:=h.keep g
  refine (kept_any _ n n N w1 h1.rn.reads h.lN n0 nn).mono ?_
  rintro e w' ⟨b,he,hb,hr,hg⟩
  have h2:=h1.keep hg
  exact ⟨b,he,hb,hr.mono g.size,hg,g.then hg,h2.c0,h2.c1,h2.c2⟩
 have hC:∀ w1,Chg [] w w1→Calls Tryz.prog 45 #[.slice (some ⟨cb,0,none⟩) n n] w1 fun e w' => ∃ b,e=.returned (.slice (some ⟨b,0,none⟩) n n)∧w1.heap.size≤b∧Room w' w.heap.size (some ⟨b,0,none⟩) n n (bts C)∧Chg [] w1 w'∧Chg [] w w'∧w'.cell? ⟨rb,0,none⟩=some (.slice (some ⟨nb,0,none⟩) n n)∧w'.cell? ⟨rb,1,none⟩=some (.slice (some ⟨cb,0,none⟩) n n)∧w'.cell? ⟨rb,2,none⟩=some (.pointer (some ⟨sb,0,none⟩)):=by
  intro w1 g
  have h1:=h.keep g
  refine (kept_any _ n n C w1 h1.rc.reads h.lC n0 nn).mono ?_
  rintro e w' ⟨b,he,hb,hr,hg⟩
  have h2:=h1.keep hg
  exact ⟨b,he,hb,hr.mono g.size,hg,g.then hg,h2.c0,h2.c1,h2.c2⟩
 have hS:∀ w1,Chg [] w w1→Calls Tryz.prog 147 #[.pointer (some ⟨sb,0,none⟩)] w1 fun e w' => ∃ sb' F',e=.returned (.pointer (some ⟨sb',0,none⟩))∧(SpAt w' w.heap.size sb' F' (freeI N C)∧∀ k,k∈F'→w1.heap.size≤k)∧Chg [] w1 w'∧Chg [] w w'∧w'.cell? ⟨rb,0,none⟩=some (.slice (some ⟨nb,0,none⟩) n n)∧w'.cell? ⟨rb,1,none⟩=some (.slice (some ⟨cb,0,none⟩) n n)∧w'.cell? ⟨rb,2,none⟩=some (.pointer (some ⟨sb,0,none⟩)):=by
  intro w1 g
  have h1:=h.keep g
  refine (copy_any B sb Fs _ w1 h1.sp).mono ?_
  rintro e w' ⟨sb',F',he,hr,hg⟩
  have h2:=h1.keep hg
  exact ⟨sb',F',he,⟨hr.mono g.size,fun k hk => (hr.lt k hk).1⟩,hg,g.then hg,h2.c0,h2.c1,h2.c2⟩
 have HN:=mkHid hN
 have HC:=mkHid hC
 have HS:=mkHid hS
 clear hN hC hS h
 go_enter Tryz.func105,Tryz.ntmps105
 go_wp2_with (first | (go_at_call 44;refine cM.mono ?_;rintro e w' ⟨rfl,rfl⟩))
 go_region_held3 (fun u => u.cell? ⟨rb,0,none⟩=some (.slice (some ⟨nb,0,none⟩) n n)∧u.cell? ⟨rb,1,none⟩=some (.slice (some ⟨cb,0,none⟩) n n)∧u.cell? ⟨rb,2,none⟩=some (.pointer (some ⟨sb,0,none⟩)))
  (first | exact ⟨c0,c1,c2⟩ | exact ⟨ka0,ka1,ka2⟩ | exact ⟨kb0,kb1,kb2⟩ | exact ⟨kc0,kc1,kc2⟩ | exact ⟨(Chg.alloc [] wc _).cellv kc0 (by simp),(Chg.alloc [] wc _).cellv kc1 (by simp),(Chg.alloc [] wc _).cellv kc2 (by simp)⟩ | assumption)
  (first
  | (go_at_call_of 45 nb;refine (HN.out _ (by first | exact Chg.refl _ _ | exact Chg.drew _ _)).mono ?_;rintro e wa ⟨b1,rfl,hb1,ra,ga,gaa,ka0,ka1,ka2⟩)
  | (go_at_call_of 45 cb;refine (HC.out _ (by first | exact gaa | exact gaa.then (Chg.drew [] _))).mono ?_;rintro e wb ⟨b2,rfl,hb2,rb2,gb,gbb,kb0,kb1,kb2⟩)
  | (go_at_call 147;refine (HS.out _ (by first | exact gbb | exact gbb.then (Chg.drew [] _))).mono ?_;rintro e wc ⟨sb',F',rfl,hSp,gc,gcc,kc0,kc1,kc2⟩))
 go_wp2_with fail
 go_ret
 have l1:=(ra.lt b1 (by rw [fp_some _ _ _ n0];simp)).2
 have l2:=(rb2.lt b2 (by rw [fp_some _ _ _ n0];simp)).2
 obtain ⟨s1,s2⟩:=hSp
 have z1:=gb.size
 obtain ⟨h1,h2⟩:=rfs_close (t:=112) (N:=N) (C:=C) gcc.size ((ra.chg gb (by simp)).chg gc (by simp)) (rb2.chg gc (by simp)) s1 n0 nn (by omega) (fun hk => by have:=s2 _ hk;omega) (fun hk => by have:=s2 _ hk;omega)
 exact ⟨_,b1,b2,sb',F',rfl,h1,gcc.then h2⟩
section
variable (Bx xb mb db tb:Nat) (Fx:List Nat) (nx:Nat) (M D:List UInt8) (hx:RfsAt w Bx xb mb db tb Fx nx M D)
include hx
end
end
end
section
set_option maxRecDepth 200000
open Go.RowKit
attribute [local go_sem ↓] Go.wp_at_zero Go.wp_at_succ
def bvs (l:List Bool):List Value:=l.map Value.bool
def newL (N C:List UInt8):List Bool:=List.zipWith (fun a b => a != 0 && b == 0) N C
structure DAt (w:World) (B db b0 o0 k0 b1 o1 k1 b2 o2 k2 n:Nat) (N C:List UInt8):Prop where
 c0:w.cell? ⟨db,0,none⟩=some (.slice (some ⟨b0,o0,none⟩) n k0)
 c1:w.cell? ⟨db,1,none⟩=some (.slice (some ⟨b1,o1,none⟩) n k1)
 c2:w.cell? ⟨db,2,none⟩=some (.slice (some ⟨b2,o2,none⟩) n k2)
 fz:∀ j,w.frozen? ⟨db,j,none⟩=false
 r0:Room w B (some ⟨b0,o0,none⟩) n k0 (bts N)
 r1:Room w B (some ⟨b1,o1,none⟩) n k1 (bts C)
 r2:Room w B (some ⟨b2,o2,none⟩) n k2 (bvs (newL N C))
 n0:0 < n
 nn:n≤1024
 dB:B≤db
 d0:db ≠ b0
 d1:db ≠ b1
 d2:db ≠ b2
 e1:b0 ≠ b1
 e2:b0 ≠ b2
 e3:b1 ≠ b2
section
variable {w w':World} {B db b0 o0 k0 b1 o1 k1 b2 o2 k2 n:Nat} {N C:List UInt8}
end
def DO (w:World) (B db:Nat) (G:List Nat) (n:Nat) (N C:List UInt8):Prop:=∃ b0 o0 k0 b1 o1 k1 b2 o2 k2,DAt w B db b0 o0 k0 b1 o1 k1 b2 o2 k2 n N C∧G=[db,b0,b1,b2]
end
section
set_option maxRecDepth 200000
open Go.RowKit
attribute [local go_sem ↓] Go.wp_at_zero Go.wp_at_succ
section
variable {P:Program} {ops:Array Oper} {o:Oper} {a:Act} {w:World} {K:Act→World→Prop} {Q:Exit→Act→World→Prop} {E:Prop}
theorem step_append_row (hg:o.guard=none) (s x:Operand) (t:TypeId) (ho:o.op=.call { callee:=.builtin .append,args:=#[s,x],argTypes:=#[t,t] })
  (e:TypeId) (bytes:Nat) (helt:Elt P t e bytes)
  (B:Nat) (ao:Option Addr) (n c:Nat) (xs:List Value) (hs:a.eval s=.slice ao n c) (h:Room w B ao n c xs) (hB:B≤w.heap.size)
  (ax:Option Addr) (m cx:Nat) (news:List Value) (hxe:a.eval x=.slice ax m cx) (hx:Reads w ax news) (hm:news.length=m) (hone:∀ u∈news,u.oneCell'=true)
  (h63:n+m≤maxLen) (hbytes:(n+m) * bytes≤140737488355328)
  (hK:∀ ao' c' w',Room w' B ao' (n+m) c' (xs++news)→Chg (fp ao c) w w'→(fp ao' c'=fp ao c ∨ fp ao' c'=[w.heap.size])→K (a.put o.dst (.slice ao' (n+m) c')) w') :
  if Region.wanted o (yielded ops a.tmps)=true then Oper.wp P o a w K Q else E:=by
 have hw:Region.wanted o (yielded ops a.tmps)=true:=by simp [Region.wanted,hg]
 rw [if_pos hw]
 obtain ⟨ao',c',w',hr,h2,h3,h4⟩:=run_append_k (P:=P) w t o.type e bytes helt B ao n c xs h hB ax m cx news hx hm hone h63 hbytes
 unfold Oper.wp execOp
 simp only [ho,resolve,invoke,builtin,Sem.run_bind,Sem.run_pure,Result.andThen_ok,List.map_toArray,List.map_cons,List.map_nil,hs,hxe,hr]
 exact hK _ _ _ h2 h3 h4
end
section
variable (B db b0 o0 k0 b1 o1 k1 b2 o2 k2 n:Nat) (N C:List UInt8) (w:World) (h:DAt w B db b0 o0 k0 b1 o1 k1 b2 o2 k2 n N C)
include h
end
end
section
set_option maxRecDepth 200000
open Go.RowKit
attribute [local go_sem ↓] Go.wp_at_zero Go.wp_at_succ
def Turn (B:Nat) (tag tag':Nat→Nat) (i:Nat) (w w':World):Prop:=(∃ S,Chg S w w'∧∀ k,k∈S→tag k=i∧B≤k)∧∀ k,k < w.heap.size→tag' k=tag k
def Still (tag tag':Nat→Nat) (w w':World):Prop:=Chg [] w w'∧∀ k,k < w.heap.size→tag' k=tag k
theorem Still.turn {tag tag':Nat→Nat} {w w':World} (h:Still tag tag' w w') (B i:Nat):Turn B tag tag' i w w':=⟨⟨[],h.1,by simp⟩,h.2⟩
theorem Still.of {tag:Nat→Nat} {w w':World} (h:Chg [] w w'):Still tag tag w w':=⟨h,fun _ _ => rfl⟩
def mark (tag:Nat→Nat) (sz i:Nat):Nat→Nat:=fun k => if k < sz then tag k else i
theorem mark_old (tag:Nat→Nat) (sz i k:Nat) (h:k < sz):mark tag sz i k=tag k:=if_pos h
theorem mark_new (tag:Nat→Nat) (sz i k:Nat) (h:sz≤k):mark tag sz i k=i:=if_neg (by omega)
def HasR (B:Nat) (w:World) (tag:Nat→Nat) (i rb n:Nat) (N C:List UInt8):Prop:=∃ nb cb sb Fs,RfsAt w B rb nb cb sb Fs n N C∧∀ k,k∈rb :: nb :: cb :: Fs→tag k=i
def HasD (B:Nat) (w:World) (tag:Nat→Nat) (i db n:Nat) (N C:List UInt8):Prop:=∃ G,DO w B db G n N C∧∀ k,k∈G→tag k=i
section
variable {B:Nat} {w w':World} {tag tag':Nat→Nat} {i j:Nat}
theorem HasR.stay {rb n:Nat} {N C:List UInt8} (h:HasR B w tag j rb n N C) (t:Turn B tag tag' i w w') (hij:i ≠ j):HasR B w' tag' j rb n N C:=by
 obtain ⟨nb,cb,sb,Fs,h1,h2⟩:=h
 obtain ⟨⟨S,hS,h3⟩,h4⟩:=t
 exact ⟨nb,cb,sb,Fs,h1.chg hS (fun k hk hm => hij ((h3 k hm).1.symm.trans (h2 k hk))),fun k hk => (h4 k (h1.lt k hk).2).trans (h2 k hk)⟩
theorem HasR.still {rb n:Nat} {N C:List UInt8} (h:HasR B w tag j rb n N C) (t:Still tag tag' w w'):HasR B w' tag' j rb n N C:=h.stay (t.turn B (j+1)) (by omega)
theorem Turn.cellv (t:Turn B tag tag' i w w') {p:Addr} {v:Value} (hc:w.cell? p=some v) (hp:tag p.block=j) (hij:i ≠ j):w'.cell? p=some v∧tag' p.block=j:=by
 obtain ⟨⟨S,hS,h3⟩,h4⟩:=t
 exact ⟨hS.cellv hc (fun hm => hij ((h3 _ hm).1.symm.trans hp)),(h4 _ (block_lt_of_cell hc)).trans hp⟩
theorem HasR.lens {rb n:Nat} {N C:List UInt8} (h:HasR B w tag j rb n N C):N.length=n∧C.length=n∧0 < n∧n≤1024:=by
 obtain ⟨nb,cb,sb,Fs,h1,h2⟩:=h
 exact ⟨h1.lN,h1.lC,h1.n0,h1.nn⟩
end
theorem turn_r {B:Nat} {w:World} {tag:Nat→Nat} {i rb n:Nat} {N C N' C':List UInt8} {f:Nat} {args:Array Value} {post:Ending→Prop} (h:HasR B w tag i rb n N C)
  (hc:∀ nb cb sb Fs,RfsAt w B rb nb cb sb Fs n N C→Calls Tryz.prog f args w fun e w' => post e∧RStep w w' B rb nb cb sb Fs n N' C') :
  Calls Tryz.prog f args w fun e w' => post e∧∃ tag',HasR B w' tag' i rb n N' C'∧Turn B tag tag' i w w':=by
 obtain ⟨nb,cb,sb,Fs,h1,h2⟩:=h
 refine (hc nb cb sb Fs h1).mono ?_
 rintro e w' ⟨hp,Fs',s1,s2,s3⟩
 refine ⟨hp,mark tag w.heap.size i,⟨nb,cb,sb,Fs',s1,fun k hk => ?_⟩,⟨_,s2,fun k hk => ⟨h2 k hk,(h1.lt k hk).1⟩⟩,fun k hk => mark_old _ _ _ _ hk⟩
 by_cases hlt:k < w.heap.size
 ·rw [mark_old _ _ _ _ hlt]
  simp only [List.mem_cons] at hk
  rcases hk with rfl | rfl | rfl | hk
  ·exact h2 _ (by simp)
  ·exact h2 _ (by simp)
  ·exact h2 _ (by simp)
  ·exact (s3 k hk).elim (fun h => h2 k (by simp [h])) (fun h => by omega)
 ·exact mark_new _ _ _ _ (by omega)
section
variable {B:Nat} {w:World} {tag:Nat→Nat} {i rb n:Nat} {N C:List UInt8} (h:HasR B w tag i rb n N C)
include h
theorem r_alloc:Calls Tryz.prog 22 #[.pointer (some ⟨rb,0,none⟩)] w fun e w' => e=.returned (.tuple #[.int .i64 (allocN N C).1,.int .i64 (allocN N C).2.1])∧∃ tag',HasR B w' tag' i rb n (allocN N C).2.2 C∧Turn B tag tag' i w w':=
 turn_r h fun nb cb sb Fs h1 => alloc_any B rb nb cb sb Fs n N C w h1
theorem r_inc (z:Int):Calls Tryz.prog 27 #[.pointer (some ⟨rb,0,none⟩),.int .i64 z] w fun e w' => e=.returned (.int .i64 (incN N z).1)∧∃ tag',HasR B w' tag' i rb n (incN N z).2 C∧Turn B tag tag' i w w':=
 turn_r h fun nb cb sb Fs h1 => inc_any B rb nb cb sb Fs n N C w h1 z
theorem r_dec (z:Int):Calls Tryz.prog 24 #[.pointer (some ⟨rb,0,none⟩),.int .i64 z] w fun e w' => e=.returned (.tuple #[.bool (decN N z).1,.int .i64 (decN N z).2.1])∧∃ tag',HasR B w' tag' i rb n (decN N z).2.2 C∧Turn B tag tag' i w w':=
 turn_r h fun nb cb sb Fs h1 => dec_any B rb nb cb sb Fs n N C w h1 z
theorem r_commit:Calls Tryz.prog 28 #[.pointer (some ⟨rb,0,none⟩)] w fun e w' => e=.returned (.int .i64 0)∧∃ tag',HasR B w' tag' i rb n N N∧Turn B tag tag' i w w':=
 turn_r h fun nb cb sb Fs h1 => commit_any B rb nb cb sb Fs n N C w h1
theorem r_free:Calls Tryz.prog 30 #[.pointer (some ⟨rb,0,none⟩)] w fun e w' => e=.returned (.int .i64 (freeL (freeI N C)).length)∧w=w':=by
 obtain ⟨nb,cb,sb,Fs,h1,_⟩:=h
 exact rfree_any B rb nb cb sb Fs n N C w h1
theorem r_count (z:Int):Calls Tryz.prog 21 #[.pointer (some ⟨rb,0,none⟩),.int .i64 z] w fun e w' => e=.returned (.int .i64 (cntN N z))∧w=w':=by
 obtain ⟨nb,cb,sb,Fs,h1,_⟩:=h
 exact rcount_any B rb nb cb sb Fs n N C w h1 z
theorem r_fresh (z:Int):Calls Tryz.prog 20 #[.pointer (some ⟨rb,0,none⟩),.int .i64 z] w fun e w' => e=.returned (.bool (newN N C z))∧w=w':=by
 obtain ⟨nb,cb,sb,Fs,h1,_⟩:=h
 exact rfresh_any B rb nb cb sb Fs n N C w h1 z
end
section
variable {B:Nat} {w:World} {tag:Nat→Nat} {i db n:Nat} {N C:List UInt8} (h:HasD B w tag i db n N C)
include h
end
end
section
open Go.RowKit
attribute [local go_sem ↓] Go.wp_at_zero Go.wp_at_succ
theorem ret_bool' {a b:Bool} (h:a=b):Ending.returned (Value.bool a)=.returned (.bool b):=by rw [h]
theorem eltU:Elt Tryz.prog 35 34 8:=Elt.mk (z:=.int .u64 0) Tryz.underlying35 (by kernel_rfl) (by kernel_rfl)
def be (N:Nat):Nat→List UInt8
 | 0 => []
 | k+1 => UInt8.ofNat (N / 256 ^ k) :: be N k
theorem be_length (N k:Nat):(be N k).length=k:=by induction k <;> simp [be, *]
theorem be_snoc (N k:Nat):be N (k+1)=be (N / 256) k++[UInt8.ofNat N]:=by
 induction k with
 | zero => simp [be]
 | succ k ih => rw [be,ih,be];simp [Nat.div_div_eq_div_mul,Nat.pow_succ,Nat.mul_comm]
theorem ofNat_toNat (N:Nat):((UInt8.ofNat N).toNat:Int)=((N % 256:Nat):Int):=by simp
theorem shr_byte (N j:Nat):((N:Int) / 2 ^ (8 * j) % 256)=((UInt8.ofNat (N / 256 ^ j)).toNat:Int):=by
 have h:((2:Int) ^ (8 * j))=((256 ^ j:Nat):Int):=by rw [show 256=2 ^ 8 from rfl,← Nat.pow_mul];norm_cast
 rw [ofNat_toNat,h,Int.natCast_emod,Int.natCast_ediv]
 rfl
def val (l:List UInt8):Nat:=l.foldl (fun a x => a * 256+x.toNat) 0
theorem foldl_val (l:List UInt8) (a:Nat):l.foldl (fun a x => a * 256+x.toNat) a=a * 256 ^ l.length+val l:=by
 induction l generalizing a with
 | nil => simp [val]
 | cons x r ih =>
  have h:=ih (0 * 256+x.toNat)
  simp only [List.foldl_cons,val,List.length_cons] at h ⊢
  rw [ih,h,Nat.pow_succ]
  simp only [val]
  grind
theorem val_snoc (l:List UInt8) (x:UInt8):val (l++[x])=val l * 256+x.toNat:=by simp [val]
theorem val_lt (l:List UInt8):val l < 256 ^ l.length:=by
 induction l with
 | nil => simp [val]
 | cons x r ih =>
  have h:=foldl_val r (0 * 256+x.toNat)
  have hx:=x.toNat_lt
  simp only [val,List.foldl_cons,List.length_cons] at h ih ⊢
  rw [h,Nat.pow_succ]
  have h2:(x.toNat+1) * 256 ^ r.length≤256 * 256 ^ r.length:=Nat.mul_le_mul_right _ (by omega)
  have h3:val r < 256 ^ r.length:=ih
  grind
theorem val_take_succ (l:List UInt8) (k:Nat) (h:k < l.length):val (l.take (k+1))=val (l.take k) * 256+l[k].toNat:=by
 rw [List.take_succ_eq_append_getElem h,val_snoc]
theorem val_take_lt (l:List UInt8) (k:Nat) (h:k < 8):val (l.take k) < 2 ^ 56:=
 Nat.lt_of_lt_of_le (val_lt _) (by
  have h1:(l.take k).length≤7:=by simp;omega
  exact Nat.le_trans (Nat.pow_le_pow_right (by decide) h1) (by decide))
theorem wraps_u64 (n:Int) (h₀:0≤n) (h₁:n < 2 ^ 64):IntKind.u64.wrap n=n:=by
 rw [IntKind.wrap_u64];exact Int.emod_eq_of_lt h₀ h₁
theorem or_byte (A:Nat) (x:UInt8) (h:A < 2 ^ 56):bits BinOp.or IntKind.u64 (IntKind.u64.wrap ((A:Int) * 256)) (IntKind.u64.wrap (x.toNat:Int))=((A * 256+x.toNat:Nat):Int):=by
 have hx:=x.toNat_lt
 rw [wraps_u64 _ (by omega) (by omega),wraps_u64 _ (by omega) (by omega),bits_join .u64 64 (by decide) wraps_u64 8 _ _ (by omega) (by omega) (by omega) (by omega) (by omega) (by omega)]
 simp
theorem val_cons (x:UInt8) (l:List UInt8):val (x :: l)=x.toNat * 256 ^ l.length+val l:=by
 have:=foldl_val l (0 * 256+x.toNat)
 simp only [val,List.foldl_cons] at this ⊢
 rw [this];simp
theorem val_be (N k:Nat):val (be N k)=N % 256 ^ k:=by
 induction k with
 | zero => simp [be,val,Nat.mod_one]
 | succ k ih =>
  rw [be,val_cons,ih,be_length,Nat.pow_succ,Nat.mod_mul]
  simp [Nat.mul_comm,Nat.add_comm]
def uvs (L:List Nat):List Value:=L.map fun x:Nat => Value.int .u64 (x:Int)
theorem uvs_len (L:List Nat):(uvs L).length=L.length:=by simp [uvs]
theorem uvs_get {L:List Nat} {k x:Nat} (h:L[k]?=some x):(uvs L)[k]?=some (.int .u64 (x:Int)):=by simp [uvs,h]
theorem uvs_append (L M:List Nat):uvs (L++M)=uvs L++uvs M:=by simp [uvs]
theorem uvs_one (L:List Nat):∀ u∈uvs L,u.oneCell'=true:=by
 intro u hu
 obtain ⟨_,_,rfl⟩:=List.mem_map.1 hu
 rfl
def okAt (K V:List Nat) (i:Nat):Bool:=decide (0 < V.getD i 0) && (decide (i=0) || decide (K.getD (i - 1) 0 < K.getD i 0))
def mayB (K V:List Nat):Bool:=(decide (1≤K.length) && decide (K.length≤8) && decide (V.length=K.length)) && (List.range K.length).all (okAt K V)
theorem all_range_succ (f:Nat→Bool) (k:Nat):(List.range (k+1)).all f=((List.range k).all f && f k):=by rw [List.range_succ,List.all_append];simp
def pairsN:List Nat→List Nat→List UInt8
 | k :: K,v :: V => be k 8++(be v 8++pairsN K V)
 | _,_ => []
def formN (lf:Bool) (K V:List Nat):List UInt8:=(if lf then 1 else 0) :: UInt8.ofNat K.length :: pairsN K V
end
section
open Go.RowKit
attribute [local go_sem ↓] Go.wp_at_zero Go.wp_at_succ
def prev (k:Nat):Int:=(k:Int) - 1
theorem prev_zero:prev 0 = -1:=rfl
theorem prev_succ (j:Nat):prev (j+1)=j:=by simp [prev]
end
section
open Go.RowKit
def okB (n:Int):Bool:=decide (1≤n) && decide (n≤8)
theorem sized_any (n:Int) (w:World) :
  Calls Tryz.prog 135 #[.int .i64 n] w fun e w' => e=.returned (.bool (okB n))∧w=w':=by
 by_cases h1:1≤n
 ·by_cases h2:n≤8
  ·have:okB n=true:=by simp [okB,h1,h2]
   rw [this];clear this
   go_enter Tryz.func135,Tryz.ntmps135
   go_wp2
   go_ret
   exact ⟨rfl,rfl⟩
  ·have:okB n=false:=by simp [okB,h2]
   rw [this];clear this
   have h3:decide (n≤8)=false:=by simpa using h2
   go_enter Tryz.func135,Tryz.ntmps135
   go_wp2
   go_ret
   exact ⟨rfl,rfl⟩
 ·have:okB n=false:=by simp [okB,h1]
  rw [this];clear this
  have h3:decide (1≤n)=false:=by simpa using h1
  go_enter Tryz.func135,Tryz.ntmps135
  go_wp2
  go_ret
  exact ⟨rfl,rfl⟩
def PutPost (w:World) (ys:List Value) (e:Ending) (w':World):Prop:=
 ∃ ao c,e=.returned (.slice ao ys.length c)∧Room w' w.heap.size ao ys.length c ys∧Chg [] w w'
set_option maxHeartbeats 400000 in
theorem put_any (ao:Option Addr) (n c:Nat) (xs:List Value) (N:Nat) (size:Nat) (w:World) (hx:Reads w ao xs) (hn:xs.length=n) (hone:∀ u∈xs,u.oneCell'=true) (hle:n≤140737488355000) (h1:1≤size) (h8:size≤8) (hN:N < 2 ^ 64) :
  Calls Tryz.prog 86 #[.slice ao n c,.int .u64 N,.int .i64 size] w (PutPost w (xs++bts (be N size))):=by
 have hok:okB size=true:=by simp [okB];omega
 go_enter Tryz.func86,Tryz.ntmps86
 go_wp2_with (first | (go_at_call 135;refine (sized_any _ _).mono ?_;rintro e w' ⟨rfl,rfl⟩) | (at_make;refine wpList_make_k _ rfl _ _ 27 rfl 5 1 eltB w.heap.size .i64 .i64 _ (n+size) rfl rfl (by simp) (by omega) (by unfold maxLen;omega) (Nat.le_refl _) ?_;intro w1 hr1 hc1) | (at_builtin;refine wpList_append_k _ rfl (.tmp 17) (.tmp 18) 27 rfl 5 1 eltB w.heap.size _ 0 (n+size) [] rfl hr1 hc1.size ao n c xs rfl (hx.chg hc1 (by simp)) hn hone (by unfold maxLen;omega) (by omega) ?_;intro ao2 c2 w2 hr2 hc2 hf2))
 go_loopw [7,8] (fun v i wr => ∃ k ao3 c3,k≤size∧i=.int .i64 (prev k)∧v=.slice ao3 (n+(size - k)) c3∧Room wr w.heap.size ao3 (n+(size - k)) c3 (xs++bts (be (N / 256 ^ k) (size - k)))∧Chg [] w wr) (fun _ i _ => (Go.RowKit.intOf i+1).toNat)
 case atStart => exact ⟨size,ao2,c2,Nat.le_refl _,rfl,by simp,by simpa [be,bts] using hr2,hc1.own hc2 hr1⟩
 case round =>
  obtain ⟨k,ao3,c3,hk,rfl,rfl,hr3,hc3⟩:=hrel
  cases k with
  | zero =>
   simp only [prev_zero]
   go_wp2
   go_ret
   simp only [Nat.sub_zero,Nat.pow_zero,Nat.div_one] at hr3 ⊢
   have hl:(xs++bts (be N size)).length=n+size:=by simp [bts_length,be_length,hn]
   exact ⟨ao3,c3,by rw [hl];rfl,by rw [hl];exact hr3,hc3⟩
  | succ j =>
   simp only [prev_succ]
   go_wp2_with (first | (at_builtin;refine wpList_append_1 wr rfl (.tmp 26) (.tmp 32) 27 rfl 5 1 eltB w.heap.size ao3 (n+(size - (j+1))) c3 _ rfl hr3 hc3.size (.int .u8 ((N:Int) / 2 ^ (8 * j) % 256)) 1 rfl rfl (by unfold maxLen;omega) (by omega) ?_;intro ao4 c4 w4 hr4 hc4 hf4))
   go_roundw
   case rel =>
    refine ⟨j,ao4,c4,by omega,rfl,by rw [show size - j=size - (j+1)+1 by omega];rfl,?_,hc3.own hc4 hr3⟩
    have e:be (N / 256 ^ j) (size - j)=be (N / 256 ^ (j+1)) (size - (j+1))++[UInt8.ofNat (N / 256 ^ j)]:=by
     rw [show size - j=size - (j+1)+1 by omega,be_snoc,Nat.div_div_eq_div_mul,Nat.pow_succ]
    rw [show size - j=size - (j+1)+1 by omega] at e ⊢
    rw [e]
    have e2:=shr_byte N j
    rw [e2] at hr4
    simpa [bts,List.append_assoc,Nat.add_assoc] using hr4
   case measure => simp [Go.RowKit.intOf]
def GetPost (w:World) (l:List UInt8) (size:Nat) (e:Ending) (w':World):Prop:=
 e=.returned (.tuple #[.int .u64 (val (l.take size)),.int .i64 0])∧w=w'
set_option maxHeartbeats 400000 in
theorem get_yes (ao:Option Addr) (n c:Nat) (l:List UInt8) (size:Nat) (w:World) (hx:Reads w ao (bts l)) (hn:l.length=n) (hc:n≤c) (hle:c≤maxLen) (h1:1≤size) (h8:size≤8) (hl:size≤n) :
  Calls Tryz.prog 144 #[.slice ao n c,.int .i64 size] w (GetPost w l size):=by
 have hok:okB size=true:=by simp [okB];omega
 unfold maxLen at hle
 go_enter Tryz.func144,Tryz.ntmps144
 go_wp2_with (first | (go_at_call 135;refine (sized_any _ _).mono ?_;rintro e w' ⟨rfl,rfl⟩))
 go_loop [6,20] (fun v i => ∃ k:Nat,k≤size∧i=.int .i64 k∧v=.int .u64 (val (l.take k))) (fun _ i => size - (Go.RowKit.intOf i).toNat)
 case atStart => exact ⟨0,Nat.zero_le _,rfl,rfl⟩
 case round =>
  obtain ⟨k,hk,rfl,rfl⟩:=hrel
  by_cases hlt:k < size
  ·obtain ⟨b,o,rfl,hc⟩:=hx (by simp [bts_length];omega)
   have hcell:=hc k _ (bts_get l k (by omega))
   clear hc
   go_wp2
   go_round
   case rel =>
    refine ⟨k+1,by omega,by go_num,?_⟩
    rw [val_take_succ l k (by omega),or_byte _ _ (val_take_lt l k (by omega))]
   case measure => simp [Go.RowKit.intOf];omega
  ·have:k=size:=by omega
   subst this
   go_wp2
   go_ret2
   exact ⟨rfl,rfl⟩
theorem get_short (ao:Option Addr) (n c:Nat) (size:Nat) (w:World) (h1:1≤size) (h8:size≤8) (hl:n < size) :
  Calls Tryz.prog 144 #[.slice ao n c,.int .i64 size] w fun e w' => e=.returned (.tuple #[.int .u64 0,.int .i64 4])∧w=w':=by
 have hok:okB size=true:=by simp [okB];omega
 go_enter Tryz.func144,Tryz.ntmps144
 go_wp2_with (first | (go_at_call 135;refine (sized_any _ _).mono ?_;rintro e w' ⟨rfl,rfl⟩))
 go_ret2
 exact ⟨rfl,rfl⟩
end
section
set_option maxRecDepth 200000
open Go.RowKit
theorem part_any (b o n c f m:Nat) (F H:Int) (hF:F=(f:Int)) (hH:H=((f+m:Nat):Int)) (hm:0 < m) (hc:f+m≤c) (w:World) :
  Calls Tryz.prog 89 #[.slice (some ⟨b,o,none⟩) n c,.int .i64 F,.int .i64 H] w fun e w' => e=.returned (.slice (some ⟨b,o+f,none⟩) m m)∧w=w':=by
 have hr:∀ u:World,(Instr.slice 27 (.slice (some ⟨b,o,none⟩) n c) (some (.int .i64 F)) (some (.int .i64 H)) (some (.int .i64 H))).run Tryz.prog u=.ok (.slice (some ⟨b,o+f,none⟩) m m) u:=by
  intro u
  have hs:(Tryz.prog.info? 5).map (·.size)=some 1:=by kernel_rfl
  obtain ⟨i,hi,hi1⟩:=Option.map_eq_some_iff.1 hs
  have he:Tryz.prog.elem 27=5:=by simp [Program.elem,Tryz.underlying27]
  rw [run_slice_lhm u 27 _ n c (by rw [he];exact Tryz.underlying27) .i64 .i64 .i64 F H H (by omega) (by omega) (by omega) (by omega),he]
  have e1:H.toNat=f+m:=by omega
  have e0:F.toNat=f:=by omega
  have e2:¬ f+m=f:=by omega
  have e3:¬ m=0:=by omega
  simp [sizeOf,typeInfo,hi,hi1,sliced,e0,e1,e2,e3,Addr.add_lit]
 clear hF hH
 go_enter Tryz.func89,Tryz.ntmps89
 go_wp2_with fail
 go_ret
 exact ⟨rfl,rfl⟩
def pn (k:Int):Nat:=(k % 18446744073709551616).toNat
theorem pn_lt (k:Int):pn k < 2 ^ 64:=by unfold pn;omega
theorem pn_eq (k:Int):IntKind.u64.wrap k=(pn k:Int):=by rw [IntKind.wrap_u64];unfold pn;omega
theorem place_any (k:Int) (w:World):Calls Tryz.prog 90 #[.int .i64 k] w fun e w' => e=.returned (.int .u64 (pn k))∧w=w':=by
 have h:=pn_eq k
 go_enter Tryz.func90,Tryz.ntmps90
 go_wp2_with fail
 go_ret
 exact ⟨rfl,rfl⟩
theorem told_any (b o k:Nat) (l:List UInt8) (hl:l.length=k) (h1:1≤k) (h8:k≤8) (w:World) (g:Reads w (some ⟨b,o,none⟩) (bts l)) :
  Calls Tryz.prog 96 #[.slice (some ⟨b,o,none⟩) k k] w fun e w' => e=.returned (.int .u64 (val l))∧w=w':=by
 go_enter Tryz.func96,Tryz.ntmps96
 go_wp2_with (first | (go_at_call 144;refine (get_yes _ k k l k _ g hl (Nat.le_refl _) (by unfold maxLen;omega) h1 h8 (Nat.le_refl _)).mono ?_;rintro e w' ⟨rfl,rfl⟩))
 go_ret
 rw [List.take_of_length_le (by omega)]
 exact ⟨rfl,rfl⟩
theorem lay_any (b o k N:Nat) (h1:1≤k) (h8:k≤8) (hN:N < 2 ^ 64) (w:World) (hth:w.there b o k) :
  Calls Tryz.prog 88 #[.slice (some ⟨b,o,none⟩) k k,.int .u64 N] w fun e w' => e=.returned (.tuple #[])∧∃ w1,Chg [] w w1∧w'=w1.setCells b o (bts (be N k)):=by
 go_enter Tryz.func88,Tryz.ntmps88
 go_wp2_with (first | (go_at_call 86;refine (put_any none 0 0 [] N k _ (Reads.nil _ _) rfl (by simp) (by decide) h1 h8 hN).mono ?_;rintro e w1 ⟨a1,c1,rfl,hr1,hg1⟩;simp only [List.nil_append] at hr1;have hlen:(bts (be N k)).length=k:=by rw [bts_length,be_length]) | (refine wpList_copy_k rfl (.tmp 4) (.tmp 8) 27 27 5 rfl Tryz.underlying27 oneB b o k k a1 _ c1 (bts (be N k)) rfl rfl hr1.reads (by rw [hlen];exact (Nat.min_self _).symm) (by rw [hlen];exact there_chg hth hg1 (by simp)) (bts_one _) ?_))
 go_end0
 exact ⟨rfl,_,hg1,rfl⟩
theorem sumOf_any (b o n c:Nat) (l:List UInt8) (hl:252≤l.length) (hc:l.length≤c) (w:World) (hT:Tab w) (g:Reads w (some ⟨b,o,none⟩) (bts l)) :
  Calls Tryz.prog 91 #[.slice (some ⟨b,o,none⟩) n c] w fun e w' => e=.returned (.int .u64 ((csum (l.take 252)).toNat))∧Chg [] w w':=by
 have hS:((csum (l.take 252)).toNat:Int)=v32 (csum (l.take 252)):=rfl
 rw [hS]
 have h0:=v32_lt (csum (l.take 252))
 have hg:Reads w (some ⟨b,o,none⟩) (bts (l.take 252)):=by rw [← bts_take];exact g.take 252
 go_enter Tryz.func91,Tryz.ntmps91
 go_wp2_with (first | (go_at_call 89;refine (part_any b o n c 0 252 0 252 rfl rfl (by decide) (by omega) _).mono ?_;rintro e w' ⟨rfl,rfl⟩) | (go_at_call 136;refine (sum_any _ 252 252 (l.take 252) _ hT hg (by simp;omega) (by decide)).mono ?_;rintro e w1 ⟨rfl,hg1⟩))
 go_ret
 exact ⟨rfl,hg1⟩
theorem sumOf_as (b o n c:Nat) (l:List UInt8) (X:Nat) (hX:(csum (l.take 252)).toNat=X) (hl:252≤l.length) (hc:l.length≤c) (w:World) (hT:Tab w) (g:Reads w (some ⟨b,o,none⟩) (bts l)) :
  Calls Tryz.prog 91 #[.slice (some ⟨b,o,none⟩) n c] w fun e w' => e=.returned (.int .u64 X)∧Chg [] w w':=by
 subst hX
 exact sumOf_any b o n c l hl hc w hT g
end
end Go.Proofs.YtdgkbicelnnfpaaGreatDoor
