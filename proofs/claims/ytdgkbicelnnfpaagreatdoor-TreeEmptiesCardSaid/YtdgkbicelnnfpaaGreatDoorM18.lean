/- Texts X, Y, O, Ia, Tb, Ic, Tc, Td of the library, joined. -/
import Derived.Test.YtdgkbicelnnfpaaGreatDoorM17
import Derived.OrdersHeld
import Derived.StillTail
import Derived.Tactics
import Derived.WalkKit
import Derived.Deep.QuietTactic
import Derived.BigQuiet
import Derived.RegionTactic
import Derived.Deep.RegionHeld3
import Derived.Deep.RegionLaw
import Derived.Deep.DeepCutAuto
import Derived.Deep.CutBlock
import Derived.Deep.DrawnRows
import Derived.WalkSpells
import Derived.WalkLawsBesides
import Derived.Recover
set_option linter.unusedVariables false
set_option linter.unusedSimpArgs false
namespace Go.Proofs.YtdgkbicelnnfpaaGreatDoor
section
open Go.RowKit
theorem zeroCells_one (z:Value) (m:Nat):(Builtin.zeroCells #[z] m).toList=List.replicate m z:=by
 simp [Builtin.zeroCells]
 apply List.ext_getElem
 ·simp
 ·intro i h1 h2
  simp [Nat.mod_one]
section
variable {P:Program} (w:World)
theorem run_append_zeros (t tn ty e:TypeId) (bytes:Nat) (helt:Elt P t e bytes) (z:Value) (hz0:(P.info? e).map (·.zero)=some (some z)) (hzc:z.cells=#[z]) (kn k:IntKind) (htn:P.underlying tn=some (.int kn))
  (B:Nat) (ao:Option Addr) (n c:Nat) (xs:List Value) (h:Room w B ao n c xs) (hB:B≤w.heap.size) (m:Nat) (hroom:c < n+m) (hm:0 < m)
  (h63:n+m≤maxLen) (hbytes:(n+m) * bytes≤140737488355328) :
  ∃ ao' c' w',(Builtin.append_ #[t,tn] ty #[.slice ao n c,.int k (m:Int)]).run P w=.ok (.slice ao' (n+m) c') w'∧Room w' B ao' (n+m) c' (xs++List.replicate m z)∧Chg [] w w'∧fp ao' c'=[w.heap.size]:=by
 obtain ⟨ht,i,v,hi,hz,hsize,hby,hzs⟩:=helt
 subst hby
 have hv:v=z:=by
  rw [hi] at hz0
  simp [hz] at hz0
  exact hz0
 subst hv
 have hlen:(xs++List.replicate m v).length=n+m:=by rw [List.length_append,h.len,List.length_replicate]
 have hml:maxLen=9223372036854775807:=rfl
 have hnr:¬ (n+m≤c):=by omega
 have hfo:(Builtin.firstCells i.size n (.slice ao n c)).run P w.drew=.ok xs.toArray w.drew:=by
  cases ao with
  | none =>
   have hc:c=0:=by
    rcases Nat.eq_zero_or_pos c with h0 | h0
    ·exact h0
    ·obtain ⟨b,o,e,_⟩:=h.at_ h0;cases e
   have:xs=[]:=List.eq_nil_of_length_eq_zero (by have:=h.len;have:=h.le;omega)
   subst this
   rw [run_firstCells_none]
  | some ad =>
   exact run_firstCells_some (P:=P) w.drew i.size n ad n c xs (by simp [hsize,h.len]) (fun j u hu => by simpa using h.reads.addr ad rfl j u hu)
 have hge:=grownCap_ge w (n+m) c e
 have hcm:=grownCap_le_maxLen w (n+m) c e h63
 have hw:IntKind.i64.wrap (m:Int)=m:=by rw [IntKind.wrap_i64];omega
 have hneg:¬ ((m:Int) < 0):=by omega
 have h63':¬ (9223372036854775807 < ((n:Int)+(m:Int))):=by omega
 have hmb:m * i.bytes≤140737488355328:=Nat.le_trans (Nat.mul_le_mul_right _ (by omega)) hbytes
 have h48i:¬ (281474976710656 < (m:Int) * (i.bytes:Int)):=by
  rw [← Int.natCast_mul]
  omega
 have hm0:¬ (m=0):=by omega
 have h48':¬ (281474976710656 < Builtin.nextslicecap (n+m) c * i.bytes):=by have:=growslice_fits (old:=c) (need:=n+m) (by omega) hbytes;omega
 refine ⟨some ⟨w.heap.size,0,none⟩,grownCap w (n+m) c e,w.drew.alloc (.cells (xs.toArray++Builtin.zeroCells v.cells m++Builtin.zeroCells v.cells (grownCap w (n+m) c e - (n+m))) e),?_,?_,⟨rfl,rfl,rfl,by simp,fun k hk _ => Below.heap_alloc w.drew _ k hk⟩,fp_some _ _ _ (by omega)⟩
 ·simp [Builtin.append_,run_underlying ht,run_underlying htn,sizeOf,typeInfo,zeroValue,hi,hz,Builtin.lenOf,hnr,hw,hneg,h63',h48',h48i,hm0,hsize,asInt,asIntOf,Question.forced,hfo,newRow,grownCap]
  rw [hsize] at hfo
  simp [hfo]
 ·refine Room.of_owns (e:=e) ⟨by rw [hlen];simp,.inr ⟨w.heap.size,_,_,rfl,hB,heap_alloc_new w.drew _,hge,hcm,?_,?_⟩⟩
  ·simp only [Array.size_append,List.size_toArray,size_zeroCells,hzs,h.len]
   omega
  ·simp only [Array.toList_append,List.append_assoc]
   rw [← List.append_assoc,hzc,zeroCells_one,Nat.mul_one,← hlen]
   exact List.take_left
end
end
section
open Go.RowKit
section
variable {P:Program} (w:World)
theorem run_append_zeros_in (t tn ty e:TypeId) (bytes:Nat) (helt:Elt P t e bytes) (z:Value) (hz0:(P.info? e).map (·.zero)=some (some z)) (hzc:z.cells=#[z]) (hz1:z.oneCell'=true) (kn k:IntKind) (htn:P.underlying tn=some (.int kn))
  (B:Nat) (ao:Option Addr) (n c:Nat) (xs:List Value) (h:Room w B ao n c xs) (hB:B≤w.heap.size) (m:Nat) (hroom:n+m≤c)
  (h63:n+m≤maxLen) (hbytes:(n+m) * bytes≤140737488355328) :
  ∃ w',(Builtin.append_ #[t,tn] ty #[.slice ao n c,.int k (m:Int)]).run P w=.ok (.slice ao (n+m) c) w'∧Room w' B ao (n+m) c (xs++List.replicate m z)∧Chg (fp ao c) w w':=by
 obtain ⟨ht,i,v,hi,hz,hsize,hby,hzs⟩:=helt
 subst hby
 have hv:v=z:=by
  rw [hi] at hz0
  simp [hz] at hz0
  exact hz0
 subst hv
 have hml:maxLen=9223372036854775807:=rfl
 have hw:IntKind.i64.wrap (m:Int)=m:=by rw [IntKind.wrap_i64];omega
 have hneg:¬ ((m:Int) < 0):=by omega
 have hmb:m * i.bytes≤140737488355328:=Nat.le_trans (Nat.mul_le_mul_right _ (by omega)) hbytes
 have h48i:¬ (281474976710656 < (m:Int) * (i.bytes:Int)):=by
  rw [← Int.natCast_mul]
  omega
 by_cases hm0:m=0
 ·subst hm0
  refine ⟨w,?_,by simpa using h,Chg.refl _ _⟩
  have hw0:IntKind.i64.wrap 0=0:=by decide
  cases ao <;> simp [Builtin.append_,run_underlying ht,run_underlying htn,sizeOf,typeInfo,zeroValue,hi,hz,Builtin.lenOf,hw0,asInt,asIntOf,storeCells,h.le]
 ·obtain ⟨b,o,rfl,hBb,hs,hv⟩:=h.at_ (by omega)
  have hnl:(List.replicate m v).length=m:=by simp
  have hlen:(xs++List.replicate m v).length=n+m:=by rw [List.length_append,h.len,hnl]
  have hcell:∀ j,j < (List.replicate m v).length→(w.cell? ⟨b,o+n * i.size+0+j,none⟩).isSome=true:=fun j hj => by
   have:=(hs (n+j) (by omega)).1
   rwa [hsize,Nat.mul_one,Nat.add_zero,Nat.add_assoc]
  have hfr:∀ j,j < (List.replicate m v).length→w.frozen? ⟨b,o+n * i.size+0+j,none⟩=false:=fun j hj => by
   have:=(hs (n+j) (by omega)).2
   rwa [hsize,Nat.mul_one,Nat.add_zero,Nat.add_assoc]
  have hst:=run_storeCells_cells (P:=P) b (o+n * i.size) (List.replicate m v) 0 w hcell hfr (fun u hu => by rw [List.eq_of_mem_replicate hu];exact hz1)
  have hzl:(Builtin.zeroCells v.cells m).toList=List.replicate m v:=by rw [hzc,zeroCells_one]
  refine ⟨w.setCells b (o+n) (List.replicate m v),?_,⟨hlen,hroom,h.max,fun _ => ⟨b,o,rfl,hBb,fun j hj => ?_,fun j u hu => ?_⟩⟩,by rw [fp_some _ _ _ (by omega)];exact Chg.setCells b (List.replicate m v) (o+n) w⟩
  ·simp only [Nat.add_zero] at hst
   simp [Builtin.append_,run_underlying ht,run_underlying htn,sizeOf,typeInfo,zeroValue,hi,hz,Builtin.lenOf,hroom,hw,hneg,h48i,hm0,asInt,asIntOf,Addr.add_lit,hzl]
   simp only [hsize,Nat.mul_one] at hst
   simp [hst,hsize,hm0]
  ·obtain ⟨h1,h2⟩:=hs j hj
   refine ⟨?_,by rw [World.frozen?_setCells];exact h2⟩
   by_cases hin:n≤j∧j < n+(List.replicate m v).length
   ·have:=World.cell?_setCells_in b (List.replicate m v) (o+n) w (fun k hk => by rw [Nat.add_assoc];exact (hs (n+k) (by omega)).1) (j - n) (by omega)
    rw [show o+n+(j - n)=o+j by omega] at this
    rw [this];rfl
   ·rw [World.cell?_setCells_out b (List.replicate m v) (o+n) w _ (fun _ _ => by simp;simp at hin;omega)]
    exact h1
  ·by_cases hj:j < n
   ·rw [List.getElem?_append_left (by rw [h.len];exact hj)] at hu
    rw [World.cell?_setCells_out b (List.replicate m v) (o+n) w _ (fun _ _ => by simp;omega)]
    exact hv j u hu
   ·rw [List.getElem?_append_right (by rw [h.len];omega),h.len] at hu
    have hjn:j - n < (List.replicate m v).length:=(List.getElem?_eq_some_iff.1 hu).1
    have:=World.cell?_setCells_in b (List.replicate m v) (o+n) w (fun k hk => by rw [Nat.add_assoc];exact (hs (n+k) (by omega)).1) (j - n) hjn
    rw [show o+n+(j - n)=o+j by omega] at this
    rw [this]
    rw [List.getElem?_eq_getElem hjn] at hu
    exact hu
theorem run_append_zeros_k (t tn ty e:TypeId) (bytes:Nat) (helt:Elt P t e bytes) (z:Value) (hz0:(P.info? e).map (·.zero)=some (some z)) (hzc:z.cells=#[z]) (hz1:z.oneCell'=true) (kn k:IntKind) (htn:P.underlying tn=some (.int kn))
  (B:Nat) (ao:Option Addr) (n c:Nat) (xs:List Value) (h:Room w B ao n c xs) (hB:B≤w.heap.size) (m:Nat)
  (h63:n+m≤maxLen) (hbytes:(n+m) * bytes≤140737488355328) :
  ∃ ao' c' w',(Builtin.append_ #[t,tn] ty #[.slice ao n c,.int k (m:Int)]).run P w=.ok (.slice ao' (n+m) c') w'∧Room w' B ao' (n+m) c' (xs++List.replicate m z)∧Chg (fp ao c) w w'∧(fp ao' c'=fp ao c ∨ fp ao' c'=[w.heap.size]):=by
 by_cases hroom:n+m≤c
 ·obtain ⟨w',h1,h2,h3⟩:=run_append_zeros_in w t tn ty e bytes helt z hz0 hzc hz1 kn k htn B ao n c xs h hB m hroom h63 hbytes
  exact ⟨ao,c,w',h1,h2,h3,.inl rfl⟩
 ·have:=h.le
  obtain ⟨ao',c',w',h1,h2,h3,h4⟩:=run_append_zeros w t tn ty e bytes helt z hz0 hzc kn k htn B ao n c xs h hB m (by omega) (by omega) h63 hbytes
  exact ⟨ao',c',w',h1,h2,h3.mono (by simp),.inr h4⟩
end
theorem wpList_append_zeros_k {P:Program} (w:World) {ops:Array Oper} {rest:List Oper} {o:Oper} {a:Act} {Q:Exit→Act→World→Prop} (hgd:o.guard=none) (s x:Operand) (t tn:TypeId)
  (ho:o.op=.call { callee:=.builtin .append,args:=#[s,x],argTypes:=#[t,tn] })
  (e:TypeId) (bytes:Nat) (helt:Elt P t e bytes) (z:Value) (hz0:(P.info? e).map (·.zero)=some (some z)) (hzc:z.cells=#[z]) (hz1:z.oneCell'=true) (kn k:IntKind) (htn:P.underlying tn=some (.int kn))
  (B:Nat) (ao:Option Addr) (n c:Nat) (xs:List Value) (hs:a.eval s=.slice ao n c) (h:Room w B ao n c xs) (hB:B≤w.heap.size) (m:Nat) (hxe:a.eval x=.int k (m:Int))
  (h63:n+m≤maxLen) (hbytes:(n+m) * bytes≤140737488355328)
  (hK:∀ ao' c' w',Room w' B ao' (n+m) c' (xs++List.replicate m z)→Chg (fp ao c) w w'→(fp ao' c'=fp ao c ∨ fp ao' c'=[w.heap.size])→wpList P ops Q rest (a.put o.dst (.slice ao' (n+m) c')) w'):wpList P ops Q (o :: rest) a w:=by
 refine wpList_plain hgd fun K hK' => ?_
 obtain ⟨ao',c',w',hr,h2,h3,h4⟩:=run_append_zeros_k (P:=P) w t tn o.type e bytes helt z hz0 hzc hz1 kn k htn B ao n c xs h hB m h63 hbytes
 unfold Oper.wp execOp
 simp only [ho,resolve,invoke,builtin,Sem.run_bind,Sem.run_pure,Result.andThen_ok,List.map_toArray,List.map_cons,List.map_nil,hs,hxe,hr]
 exact hK' _ _ (hK ao' c' w' h2 h3 h4)
section
variable {P:Program} {ops:Array Oper} {o:Oper} {a:Act} {w:World} {K:Act→World→Prop} {Q:Exit→Act→World→Prop} {E:Prop}
end
end
section
open Go.RowKit
def updK (v:Nat→Value) (k:Nat) (x:Value):Nat→Value:=fun j => if j=k then x else v j
theorem upd_same (v:Nat→Value) (k:Nat) (x:Value):updK v k x k=x:=if_pos rfl
theorem upd_other (v:Nat→Value) {k j:Nat} (x:Value) (h:j ≠ k):updK v k x j=v j:=if_neg h
section
variable {P:Program} {ops:Array Oper} {Q:Exit→Act→World→Prop}
def lowB (ops:Array Oper):Bool:=(List.range ops.size).all fun j => ((ops[j]?).map fun o => o.guard.isNone && o.after.all fun e => decide (e.on < j)).getD true
theorem lowB_spec (h:lowB ops=true) {j:Nat} {o:Oper} (ho:ops[j]?=some o):o.guard=none∧∀ e∈o.after,e.on < j:=by
 have hj:=(Array.getElem?_eq_some_iff.1 ho).1
 have h1:=List.all_eq_true.1 h j (List.mem_range.2 hj)
 simp only [ho,Option.map_some,Option.getD_some,Bool.and_eq_true,Option.isNone_iff_eq_none,Array.all_eq_true_iff_forall_mem,decide_eq_true_eq] at h1
 exact h1
theorem ready_none (hl:lowB ops=true) {md:Region.Mode} {done:Array Bool} (hz:done.size=ops.size) (hr:Region.ready md ops done=[]):∀ j,j < ops.size→done.getD j false=true:=by
 intro j
 induction j using Nat.strongRecOn with
 | _ j ih =>
  intro hj
  cases hd:done.getD j false with
  | true => rfl
  | false =>
   have hm:j∈Region.ready md ops done:=mem_ready.2 ⟨getD_in (by omega) hd,ops[j],Array.getElem?_eq_getElem hj,fun e he hb => by
    have:=(lowB_spec hl (Array.getElem?_eq_getElem hj)).2 e he
    exact ih e.on this (by omega)⟩
   rw [hr] at hm
   cases hm
end
section
variable {P:Program} {ops:Array Oper} {Q:Exit→Act→World→Prop}
end
section
variable {P:Program} (w:World)
end
end
section
open Go.ChangeShapes Go.WideShapes Go.ChangeAt Go.RowKit
attribute [local go_sem ↓] Go.wp_at_zero Go.wp_at_succ
theorem lit_room (w:World) (B:Nat) (hB:B≤w.heap.size) (cs:Array Value) (e:TypeId) (xs:List Value) (n:Nat) (hc:cs.toList=xs) (hn:xs.length=n) (hx:n≤maxLen):Room (w.alloc (.cells cs e)) B (some ⟨w.heap.size,0,none⟩) n n xs:=by
 have h2:cs.size=n:=by rw [← hn,← hc];simp
 have hf:=fun j => frozen_of_row (w.alloc (.cells cs e)) w.heap.size j cs e (heap_alloc_last w (.cells cs e))
 have hcc:=fun j => cell_of_row (w.alloc (.cells cs e)) w.heap.size j cs e (0,0) (heap_alloc_last w (.cells cs e))
 refine ⟨hn,Nat.le_refl _,hx,fun _ => ⟨w.heap.size,0,rfl,hB,fun j hj => ?_,fun j u hu => ?_⟩⟩
 ·rw [Nat.zero_add]
  refine ⟨?_,hf j⟩
  rw [hcc,Array.getElem?_eq_getElem (by omega)]
  rfl
 ·rw [Nat.zero_add,hcc]
  rw [← hc] at hu
  simpa using hu
theorem laid3 (w:World) (x y z:Value) (t:TypeId):(w.alloc (.cells #[x,y,z] t)).cell? ⟨w.heap.size,0,none⟩=some x∧(w.alloc (.cells #[x,y,z] t)).cell? ⟨w.heap.size,1,none⟩=some y∧(w.alloc (.cells #[x,y,z] t)).cell? ⟨w.heap.size,2,none⟩=some z:=by
 have hl:=heap_alloc_last w (.cells #[x,y,z] t)
 have hc:=fun j => cell_of_row _ w.heap.size j _ _ _ hl
 exact ⟨by rw [hc];rfl,by rw [hc];rfl,by rw [hc];rfl⟩
section
variable {H:Type} {enc:TypeId × Value→H} {P:Program} {w:World} {base:Nat} {spare:Nat→Bool} {held:Bool}
end
end
section
set_option maxRecDepth 200000
open Go.RowKit Go.Maps
attribute [local go_sem ↓] Go.wp_at_zero Go.wp_at_succ
structure Nd where
 lf:Bool
 K:List Nat
 V:List Nat
structure CN where
 lf:Bool
 ka:Option Addr
 kc:Nat
 va:Option Addr
 vc:Nat
 K:List Nat
 V:List Nat
def CN.nd (m:CN):Nd:=⟨m.lf,m.K,m.V⟩
def CN.val (m:CN):Value:=.agg #[.bool m.lf,.slice m.ka m.K.length m.kc,.slice m.va m.V.length m.vc]
structure NdAt (w:World) (tag:Nat→Nat) (m:CN):Prop where
 rd:RdN w m.ka m.kc m.va m.vc m.K m.V
 kk:0 < m.K.length→∀ k,k∈blk m.ka→tag k=5
 kv:0 < m.V.length→∀ k,k∈blk m.va→tag k=5
 bK:∀ x∈m.K,x < 2 ^ 64
 bV:∀ x∈m.V,x < 2 ^ 64
theorem kt5 {tag:Nat→Nat} {k:Nat} (h:tag k=5):Kt tag k:=⟨by omega,by omega⟩
theorem NdAt.mv {w w':World} {tag tag':Nat→Nat} {m:CN} (h:NdAt w tag m) (g:Mv tag tag' w w'):NdAt w' tag' m:=
 ⟨⟨g.reads h.rd.rk (fun hx k hk => kt5 (h.kk (by simpa [uvs_len] using hx) k hk)),g.reads h.rd.rv (fun hx k hk => kt5 (h.kv (by simpa [uvs_len] using hx) k hk)),h.rd.ck,h.rd.cv,h.rd.bk,h.rd.bv,h.rd.xk,h.rd.xv⟩,
  fun hx k hk => (g.o k (reads_ltT h.rd.rk (by simpa [uvs_len] using hx) k hk)).trans (h.kk hx k hk),fun hx k hk => (g.o k (reads_ltT h.rd.rv (by simpa [uvs_len] using hx) k hk)).trans (h.kv hx k hk),h.bK,h.bV⟩
theorem NdAt.keep {w w':World} {tag:Nat→Nat} {m:CN} (h:NdAt w tag m) (c:Chg [] w w'):NdAt w' tag m:=
 ⟨h.rd.keep c,h.kk,h.kv,h.bK,h.bV⟩
theorem NdAt.wrote {w w':World} {tag:Nat→Nat} {m:CN} (h:NdAt w tag m) {S:List Nat} (c:Chg S w w') (hS:∀ k,k∈S→tag k=4):NdAt w' tag m:=
 ⟨⟨h.rd.rk.chg0 c (fun hx k hk hm => by have:=h.kk (by simpa [uvs_len] using hx) k hk;have:=hS k hm;omega),h.rd.rv.chg0 c (fun hx k hk hm => by have:=h.kv (by simpa [uvs_len] using hx) k hk;have:=hS k hm;omega),h.rd.ck,h.rd.cv,h.rd.bk,h.rd.bv,h.rd.xk,h.rd.xv⟩,h.kk,h.kv,h.bK,h.bV⟩
def CN.none:CN:=⟨false,.none,0,.none,0,[],[]⟩
theorem NdAt.none (w:World) (tag:Nat→Nat):NdAt w tag CN.none:=
 ⟨⟨fun h => by simp [uvs,CN.none] at h,fun h => by simp [uvs,CN.none] at h,by simp [CN.none],by simp [CN.none],by simp [CN.none],by simp [CN.none],by simp [CN.none,maxLen],by simp [CN.none,maxLen]⟩,by simp [CN.none],by simp [CN.none],by simp [CN.none],by simp [CN.none]⟩
def tag5 (tag:Nat→Nat) (z:Nat) (m:CN):Nat→Nat:=fun k => if z≤k∧(k∈fp m.ka m.kc ∨ k∈fp m.va m.vc) then 5 else tag k
theorem tag5_old {tag:Nat→Nat} {z:Nat} {m:CN} {k:Nat} (h:k < z):tag5 tag z m k=tag k:=if_neg (by omega)
structure New5 (w':World) (z:Nat) (m:CN):Prop where
 rk:Room w' z m.ka m.K.length m.kc (uvs m.K)
 rv:Room w' z m.va m.V.length m.vc (uvs m.V)
theorem New5.lt {w':World} {z:Nat} {m:CN} (h:New5 w' z m) {k:Nat} (hk:k∈fp m.ka m.kc ∨ k∈fp m.va m.vc):z≤k∧k < w'.heap.size:=hk.elim (h.rk.lt k) (h.rv.lt k)
theorem NdAt.new {w':World} {tag:Nat→Nat} {z:Nat} {m:CN} (h:New5 w' z m) (bk:m.K.length * 8≤140737488351232) (bv:m.V.length * 8≤140737488351232) (bK:∀ x∈m.K,x < 2 ^ 64) (bV:∀ x∈m.V,x < 2 ^ 64):NdAt w' (tag5 tag z m) m:=by
 have rk:=h.rk
 have rv:=h.rv
 refine ⟨⟨rk.reads,rv.reads,rk.le,rv.le,bk,bv,rk.max,rv.max⟩,fun hx k hk => ?_,fun hx k hk => ?_,bK,bV⟩
 ·have:=rk.le
  have hm:k∈fp m.ka m.kc:=by unfold fp;rw [if_neg (by omega)];exact hk
  exact if_pos ⟨(rk.lt k hm).1,Or.inl hm⟩
 ·have:=rv.le
  have hm:k∈fp m.va m.vc:=by unfold fp;rw [if_neg (by omega)];exact hk
  exact if_pos ⟨(rv.lt k hm).1,Or.inr hm⟩
theorem Mv.five {tag tag':Nat→Nat} {w w':World} (g:Mv tag tag' w w') {z:Nat} {m:CN} (h:New5 w' z m) (hz:w.heap.size≤z):Mv tag (tag5 tag' z m) w w':=
 ⟨g.c,fun k hk => (tag5_old (by omega)).trans (g.o k hk),fun k hk => by
  unfold tag5
  rw [if_neg (fun q => by have:=(h.lt q.2).2;omega)]
  exact g.d k hk⟩
theorem HasF.five {w0 w:World} {tag:Nat→Nat} {sb rb n:Nat} {N C:List UInt8} {Y:Nat→List UInt8} {u:Nat} (h:HasF w0 w tag sb rb n N C Y u) {z:Nat} {m:CN} (g:New5 w z m) (hz:∀ k,z≤k→tag k=4):HasF w0 w (tag5 tag z m) sb rb n N C Y u:=by
 obtain ⟨cb,⟨db,gg,fa,cf,st,mb,la,cl,E,L,most,uses,hp,hr⟩,h1⟩:=h.k
 obtain ⟨nb,c2,sp,Fs,r1,r2⟩:=h.r
 have hk:∀ k,tag k ≠ 4→tag5 tag z m k=tag k:=fun k hk => by
  unfold tag5
  rw [if_neg (fun q => hk (hz k q.1))]
 have h5:∀ k,tag5 tag z m k ≠ 2→tag k ≠ 2:=fun k hk2 h2 => hk2 ((hk k (by omega)).trans h2)
 refine ⟨⟨nb,c2,sp,Fs,r1,fun k hm => (hk k (by have:=r2 k hm;omega)).trans (r2 k hm)⟩,⟨cb,⟨db,gg,fa,cf,st,mb,la,cl,E,L,most,uses,hp.less (fun k q => ⟨q.1,h5 k q.2⟩),hr⟩,h1⟩,h.s0,(hk sb (by have:=h.ts;omega)).trans h.ts,⟨fun k hk0 => by rw [hk k (by have:=h.l.lo k hk0;omega)];exact h.l.lo k hk0,fun k hk0 => ?_⟩⟩
 unfold tag5
 rw [if_neg (fun q => by have:=(g.lt q.2).2;omega)]
 exact h.l.hi k hk0
section
variable {w0 w:World} {tag:Nat→Nat} {sb rb n:Nat} {N C:List UInt8} {Y:Nat→List UInt8} {u:Nat}
theorem made_yesT (h:HasF w0 w tag sb rb n N C Y u):Calls Tryz.prog 53 #[.pointer (some ⟨sb,0,none⟩)] w fun e w' => e=.returned (.bool true)∧w=w':=by
 have s0:=h.s0
 go_enter Tryz.func53,Tryz.ntmps53
 go_wp2
 go_ret
 exact ⟨rfl,rfl⟩
theorem asked_noT (a:Nat) (ha:2147483647 < a) (h:HasF w0 w tag sb rb n N C Y u):Calls Tryz.prog 46 #[.pointer (some ⟨sb,0,none⟩),.int .u64 (a:Int)] w fun e w' => e=.returned (.int .i64 1)∧w=w':=by
 have hd:decide ((2147483647:Int) < (a:Int))=true:=decide_eq_true (by omega)
 have hm:=made_yesT h
 go_enter Tryz.func46,Tryz.ntmps46
 go_wp2_with (first | (go_at_call 53;refine hm.mono ?_;rintro e w' ⟨rfl,rfl⟩))
 go_ret
 exact ⟨rfl,rfl⟩
theorem asked_yesT (a:Nat) (ha:a≤2147483647) (h:HasF w0 w tag sb rb n N C Y u):Calls Tryz.prog 46 #[.pointer (some ⟨sb,0,none⟩),.int .u64 (a:Int)] w fun e w' => e=.returned (.int .i64 0)∧w=w':=by
 have hd:decide ((2147483647:Int) < (a:Int))=false:=decide_eq_false (by omega)
 have hm:=made_yesT h
 go_enter Tryz.func46,Tryz.ntmps46
 go_wp2_with (first | (go_at_call 53;refine hm.mono ?_;rintro e w' ⟨rfl,rfl⟩))
 go_ret
 exact ⟨rfl,rfl⟩
end
end
section
open Go.RowKit
attribute [local go_sem ↓] Go.wp_at_zero Go.wp_at_succ
def np (K V:List Nat):Nat:=min K.length V.length
def runN (p:Nat→Bool) (K V:List Nat):Nat:=((K.take (np K V)).takeWhile p).length
def findN (x:Nat) (K V:List Nat):Nat:=runN (fun k => decide (k < x)) K V
def isN (x:Nat) (K V:List Nat):Bool:=decide ((K.take (np K V))[findN x K V]?=some x)
def childN (x:Nat) (K V:List Nat):Nat:=runN (fun k => decide (k≤x)) K V - 1
theorem tw_le {L:List Nat} {p:Nat→Bool}:(L.takeWhile p).length≤L.length:=(List.takeWhile_sublist p).length_le
theorem tw_step {p:Nat→Bool}:∀ {L:List Nat} {k y:Nat},k≤(L.takeWhile p).length→L[k]?=some y→p y=true→k+1≤(L.takeWhile p).length
 | [],k,y,_,h,_ => by simp at h
 | a :: L,0,y,_,h,hp => by
  simp at h
  subst h
  simp [List.takeWhile_cons,hp]
 | a :: L,k+1,y,hk,h,hp => by
  simp only [List.getElem?_cons_succ] at h
  rw [List.takeWhile_cons] at hk ⊢
  split at hk
  ·rename_i ha
   rw [if_pos ha]
   have:=tw_step (L:=L) (k:=k) (by simp at hk;omega) h hp
   simp;omega
  ·simp at hk
theorem tw_stop {p:Nat→Bool}:∀ {L:List Nat} {k y:Nat},k≤(L.takeWhile p).length→L[k]?=some y→p y=false→(L.takeWhile p).length=k
 | [],k,y,_,h,_ => by simp at h
 | a :: L,0,y,_,h,hp => by
  simp at h
  subst h
  simp [List.takeWhile_cons,hp]
 | a :: L,k+1,y,hk,h,hp => by
  simp only [List.getElem?_cons_succ] at h
  rw [List.takeWhile_cons] at hk ⊢
  split at hk
  ·rename_i ha
   rw [if_pos ha]
   have:=tw_stop (L:=L) (k:=k) (by simp at hk;omega) h hp
   simp;omega
  ·simp at hk
theorem np_le {K V:List Nat}:np K V≤K.length∧np K V≤V.length:=⟨Nat.min_le_left _ _,Nat.min_le_right _ _⟩
theorem take_np {K V:List Nat} {k:Nat} (h:k < np K V):(K.take (np K V))[k]?=K[k]?:=by rw [List.getElem?_take,if_pos h]
theorem run_le (p:Nat→Bool) (K V:List Nat):runN p K V≤np K V:=Nat.le_trans tw_le (by rw [List.length_take];exact Nat.min_le_left _ _)
theorem run_step {p:Nat→Bool} {K V:List Nat} {k y:Nat} (hk:k≤runN p K V) (hlt:k < np K V) (hy:K[k]?=some y) (hp:p y=true):k+1≤runN p K V:=tw_step hk (by rw [take_np hlt];exact hy) hp
theorem run_stop {p:Nat→Bool} {K V:List Nat} {k y:Nat} (hk:k≤runN p K V) (hlt:k < np K V) (hy:K[k]?=some y) (hp:p y=false):runN p K V=k:=tw_stop hk (by rw [take_np hlt];exact hy) hp
theorem run_end {p:Nat→Bool} {K V:List Nat} {k:Nat} (hk:k≤runN p K V) (hlt:¬ k < np K V):runN p K V=k:=by have:=run_le p K V;omega
theorem is_end {x:Nat} {K V:List Nat} (h:¬ findN x K V < np K V):isN x K V=false:=by
 unfold isN
 rw [decide_eq_false]
 intro he
 rw [List.getElem?_take,if_neg h] at he
 cases he
theorem is_at {x:Nat} {K V:List Nat} {y:Nat} (h:findN x K V < np K V) (hy:K[findN x K V]?=some y):isN x K V=decide (y=x):=by
 unfold isN
 rw [take_np h,hy]
 simp
theorem min_np {kl vl:Nat} {K V:List Nat} (hk:K.length=kl) (hv:V.length=vl):min kl vl=np K V:=by unfold np;rw [hk,hv]
theorem step3 {a0 a1 a2:Addr} {v0 v1 v2:Value} {W u u':World} (h:u.cell? a0=some v0∧u.cell? a1=some v1∧u.cell? a2=some v2∧Chg [] W u) (g:Chg [] u u'):u'.cell? a0=some v0∧u'.cell? a1=some v1∧u'.cell? a2=some v2∧Chg [] W u':=
 ⟨g.cellv h.1 (by simp),g.cellv h.2.1 (by simp),g.cellv h.2.2.1 (by simp),h.2.2.2.then g⟩
theorem step4 {a0 a1 a2 a3:Addr} {v0 v1 v2 v3:Value} {W u u':World} (h:u.cell? a0=some v0∧u.cell? a1=some v1∧u.cell? a2=some v2∧u.cell? a3=some v3∧Chg [] W u) (g:Chg [] u u'):u'.cell? a0=some v0∧u'.cell? a1=some v1∧u'.cell? a2=some v2∧u'.cell? a3=some v3∧Chg [] W u':=
 ⟨g.cellv h.1 (by simp),g.cellv h.2.1 (by simp),g.cellv h.2.2.1 (by simp),g.cellv h.2.2.2.1 (by simp),h.2.2.2.2.then g⟩
theorem pick3 {p0 p1 p2 q:Prop} (h:p0∧p1∧p2∧q):q:=h.2.2.2
theorem pick4 {p0 p1 p2 p3 q:Prop} (h:p0∧p1∧p2∧p3∧q):q:=h.2.2.2.2
set_option maxRecDepth 20000 in
theorem pairs_any (lf:Bool) (ka:Option Addr) (kl kc:Nat) (va:Option Addr) (vl vc:Nat) (P:Nat) (hP:min kl vl=P) (w:World):Calls Tryz.prog 150 #[.agg #[.bool lf,.slice ka kl kc,.slice va vl vc]] w fun e w' => e=.returned (.int .i64 (P:Int))∧Chg [] w w':=by
 by_cases h:kl≤vl
 ·obtain rfl:kl=P:=by omega
  have d1:decide (kl≤vl)=true:=decide_eq_true h
  have d2:decide ((kl:Int)≤(vl:Int))=true:=decide_eq_true (by omega)
  have d3:((kl:Int)≤(vl:Int))=True:=eq_true (by omega)
  clear hP
  go_enter Tryz.func150,Tryz.ntmps150
  go_wp2_with fail
  go_ret
  exact ⟨ret_int (by omega),Chg.alloc [] _ _⟩
 ·obtain rfl:vl=P:=by omega
  have d1:decide (kl≤vl)=false:=decide_eq_false h
  have d2:decide ((kl:Int)≤(vl:Int))=false:=decide_eq_false (by omega)
  have d3:((kl:Int)≤(vl:Int))=False:=eq_false (by omega)
  clear hP
  go_enter Tryz.func150,Tryz.ntmps150
  go_wp2_with fail
  go_ret
  exact ⟨ret_int (by omega),Chg.alloc [] _ _⟩
end
section
set_option maxRecDepth 20000
open Go.RowKit
attribute [local go_sem ↓] Go.wp_at_zero Go.wp_at_succ
def Thrown (z:Int):Ending:=.panicked [{ v:=.iface 55 (.int .i64 z),recovered:=false }]
theorem must_ok (w:World):Calls Tryz.prog 123 #[.int .i64 0] w fun e w' => e=.returned (.tuple #[])∧w=w':=by
 go_enter Tryz.func123,Tryz.ntmps123
 go_wp2
 go_end0
 exact ⟨rfl,rfl⟩
theorem must_no (z:Int) (hz:z ≠ 0) (w:World):Calls Tryz.prog 123 #[.int .i64 z] w fun e w' => e=Thrown z∧w=w':=by
 have h1:(z != 0)=true:=by simpa using hz
 go_enter Tryz.func123,Tryz.ntmps123
 go_wp2
 exact ⟨rfl,rfl,rfl⟩
theorem sureint_ok (x:Int) (w:World):Calls Tryz.prog 122 #[.int .i64 x,.int .i64 0] w fun e w' => e=.returned (.int .i64 x)∧w=w':=by
 go_enter Tryz.func122,Tryz.ntmps122
 go_wp2_with (first | (go_at_call 123;refine (must_ok _).mono ?_;rintro e w' ⟨rfl,rfl⟩))
 go_ret
 exact ⟨rfl,rfl⟩
theorem sureint_no (x:Int) (z:Int) (hz:z ≠ 0) (w:World):Calls Tryz.prog 122 #[.int .i64 x,.int .i64 z] w fun e w' => e=Thrown z∧w=w':=by
 go_enter Tryz.func122,Tryz.ntmps122
 go_wp2_with (first | (go_at_call 123;refine (must_no z hz _).mono ?_;rintro e w' ⟨rfl,rfl⟩;unfold Thrown))
 exact ⟨rfl,rfl,rfl⟩
theorem sureu64_ok (x:Int) (w:World):Calls Tryz.prog 157 #[.int .u64 x,.int .i64 0] w fun e w' => e=.returned (.int .u64 x)∧w=w':=by
 go_enter Tryz.func157,Tryz.ntmps157
 go_wp2_with (first | (go_at_call 123;refine (must_ok _).mono ?_;rintro e w' ⟨rfl,rfl⟩))
 go_ret
 exact ⟨rfl,rfl⟩
theorem sureu64_no (x:Int) (z:Int) (hz:z ≠ 0) (w:World):Calls Tryz.prog 157 #[.int .u64 x,.int .i64 z] w fun e w' => e=Thrown z∧w=w':=by
 go_enter Tryz.func157,Tryz.ntmps157
 go_wp2_with (first | (go_at_call 123;refine (must_no z hz _).mono ?_;rintro e w' ⟨rfl,rfl⟩;unfold Thrown))
 exact ⟨rfl,rfl,rfl⟩
theorem surebool_ok (x:Bool) (w:World):Calls Tryz.prog 163 #[.bool x,.int .i64 0] w fun e w' => e=.returned (.bool x)∧w=w':=by
 go_enter Tryz.func163,Tryz.ntmps163
 go_wp2_with (first | (go_at_call 123;refine (must_ok _).mono ?_;rintro e w' ⟨rfl,rfl⟩))
 go_ret
 exact ⟨rfl,rfl⟩
theorem surenode_ok (lf:Bool) (ka:Option Addr) (kl kc:Nat) (va:Option Addr) (vl vc:Nat) (w:World):Calls Tryz.prog 120 #[.agg #[.bool lf,.slice ka kl kc,.slice va vl vc],.int .i64 0] w fun e w' => e=.returned (.agg #[.bool lf,.slice ka kl kc,.slice va vl vc])∧Chg [] w w':=by
 go_enter Tryz.func120,Tryz.ntmps120
 go_wp2_with (first | (go_at_call 123;refine (must_ok _).mono ?_;rintro e w' ⟨rfl,rfl⟩))
 refine bodyPost_ret (v:=.agg #[.bool lf,.slice ka kl kc,.slice va vl vc]) (by simp [results,Tryz.results120,go_sem]) rfl ⟨rfl,?_⟩
 exact (Chg.alloc [] w _).then (Chg.alloc [] _ _)
def blkI (a:Nat):Int:=if 2147483647 < a then -1 else (a:Int)
theorem block_no (a:Nat) (w:World):Calls Tryz.prog 121 #[.int .u64 (a:Int)] w fun e w' => e=.returned (.int .i64 (blkI a))∧w=w':=by
 unfold blkI
 by_cases h:2147483647 < a
 ·have hd:decide ((2147483647:Int) < (a:Int))=true:=decide_eq_true (by omega)
  rw [if_pos h]
  go_enter Tryz.func121,Tryz.ntmps121
  go_wp2
  go_ret
  exact ⟨rfl,rfl⟩
 ·have hd:decide ((2147483647:Int) < (a:Int))=false:=decide_eq_false (by omega)
  have h9:(a:Int)≤2147483647:=by omega
  rw [if_neg h]
  go_enter Tryz.func121,Tryz.ntmps121
  go_wp2
  go_ret
  exact ⟨rfl,rfl⟩
end
section
set_option maxRecDepth 200000
open Go.RowKit Go.Maps
attribute [local go_sem ↓] Go.wp_at_zero Go.wp_at_succ
def loadN (Y:Nat→List UInt8) (n a:Nat):Int × Nd:=
 if 2147483647 < a then (1,⟨false,[],[]⟩) else if n≤a then (6,⟨false,[],[]⟩) else if opens (Y a) a 1 ≠ 0 then ((opens (Y a) a 1:Int),⟨false,[],[]⟩)
 else ((takeN ((Y a).take 240)).1,⟨(takeN ((Y a).take 240)).2.1,(takeN ((Y a).take 240)).2.2.1,(takeN ((Y a).take 240)).2.2.2⟩)
theorem cells3 {w:World} {b:Nat} (h:w.there b 0 3):(∃ v0 v1 v2,w.cell? ⟨b,0,none⟩=some v0∧w.cell? ⟨b,1,none⟩=some v1∧w.cell? ⟨b,2,none⟩=some v2)∧w.frozen? ⟨b,0,none⟩=false∧w.frozen? ⟨b,1,none⟩=false∧w.frozen? ⟨b,2,none⟩=false:=by
 obtain ⟨v0,r0⟩:=Option.isSome_iff_exists.1 (h 0 (by decide)).1
 obtain ⟨v1,r1⟩:=Option.isSome_iff_exists.1 (h 1 (by decide)).1
 obtain ⟨v2,r2⟩:=Option.isSome_iff_exists.1 (h 2 (by decide)).1
 have q0:=(h 0 (by decide)).2
 have q1:=(h 1 (by decide)).2
 have q2:=(h 2 (by decide)).2
 simp only [Nat.zero_add] at r0 r1 r2 q0 q1 q2
 exact ⟨⟨v0,v1,v2,r0,r1,r2⟩,q0,q1,q2⟩
theorem Mv.there {tag tag':Nat→Nat} {w w':World} (m:Mv tag tag' w w') {b o n:Nat} (h:w.there b o n) (hb:tag b=4):w'.there b o n:=by
 obtain ⟨S,hS,h1⟩:=m.c
 exact there_chg h hS (fun hm => (h1 b hm).elim (by omega) (by omega))
theorem took_bound {l:List UInt8}:(∀ x∈(takeN l).2.2.1,x < 2 ^ 64)∧(∀ x∈(takeN l).2.2.2,x < 2 ^ 64)∧(takeN l).2.2.1.length≤8∧(takeN l).2.2.2.length≤8:=by
 generalize hr:takeN l=r
 obtain ⟨e,lf,K,V⟩:=r
 by_cases he:e=0
 ·subst he
  obtain ⟨h1,h2,h3,-⟩:=took_node hr
  obtain ⟨l1,l2,l3⟩:=may_len h1
  exact ⟨h2,h3,l2,by dsimp only;omega⟩
 ·obtain ⟨-,rfl,rfl⟩:=took_not hr he
  simp
section
variable {w0 w:World} {tag:Nat→Nat} {sb rb n:Nat} {N C:List UInt8} {Y:Nat→List UInt8} {u:Nat}
def LoadPost (w0 w:World) (tag:Nat→Nat) (sb rb n:Nat) (N C:List UInt8) (Y:Nat→List UInt8) (u:Nat) (r:Int × Nd) (e:Ending) (w':World):Prop:=
 ∃ m:CN,e=.returned (.tuple #[m.val,.int .i64 r.1])∧m.nd=r.2∧∃ tag',HasF w0 w' tag' sb rb n N C Y u∧Mv tag tag' w w'∧NdAt w' tag' m
theorem load_any (hT:Tab w0) (h:HasF w0 w tag sb rb n N C Y u) (a:Nat) (ha:a < 2 ^ 64) (hu:u≤100000000) (r:Int × Nd) (hr:loadN Y n a=r):Calls Tryz.prog 17 #[.pointer (some ⟨sb,0,none⟩),.int .u64 (a:Int)] w (LoadPost w0 w tag sb rb n N C Y (u+1) r):=by
 have t0:=start_there w
 have g0:=Chg.alloc [] w (.cells #[.bool false,.slice none 0 0,.slice none 0 0] 53)
 have h0:=h.keep g0
 have hz0:(w.alloc (.cells #[.bool false,.slice none 0 0,.slice none 0 0] 53)).heap.size=w.heap.size+1:=by simp
 have tb:tag w.heap.size=4:=h.l.hi _ (Nat.le_refl _)
 have M0:=Mv.made g0 h.l.hi
 unfold loadN at hr
 by_cases c1:2147483647 < a
 ·rw [if_pos c1] at hr
  subst hr
  have cA:=asked_noT a c1 h0
  obtain ⟨⟨v0,v1,v2,r0,r1,r2⟩,q0,q1,q2⟩:=cells3 t0
  go_enter Tryz.func17,Tryz.ntmps17
  go_wp2_with fail
  generalize (w.alloc (.cells #[.bool false,.slice none 0 0,.slice none 0 0] 53))=w1 at *
  refine cA.mono ?_
  rintro e w' ⟨rfl,rfl⟩
  go_wp2_with fail
  refine bodyPost_ret (v:=.tuple #[CN.none.val,.int .i64 1]) (by simp [results,Tryz.results17,go_sem,r0,r1,r2,CN.val,CN.none]) rfl ⟨CN.none,rfl,rfl,tag,?_,?_,NdAt.none _ _⟩
  ·exact (((h0.set tb).set tb).set tb).mono (by omega)
  ·exact M0.wrote (three_chg w1 w.heap.size _ _ _) (fun k hk => by simp at hk;omega)
 ·rw [if_neg c1] at hr
  have cA:=asked_yesT a (by omega) h0
  have hcv:IntKind.i64.wrap (a:Int)=(a:Int):=Go.IntWalk.i64_in _ (by omega)
  obtain ⟨cb,hk,hs1⟩:=h0.k
  have HT:=mkHid hT
  by_cases c2:n≤a
  ·rw [if_pos c2] at hr
   subst hr
   have cG:=k_get_no hk h0.l (a:Int) (Or.inr (by omega)) hu
   go_enter Tryz.func17,Tryz.ntmps17
   go_wp2_with fail
   generalize (w.alloc (.cells #[.bool false,.slice none 0 0,.slice none 0 0] 53))=w1 at *
   refine cA.mono ?_
   rintro e w' ⟨rfl,rfl⟩
   go_wp2_with fail
   refine cG.mono ?_
   rintro e w2 ⟨ao,c,rfl,tag2,k2,l2,tt2,m2⟩
   have t2:=m2.there t0 tb
   have tb2:=m2.four tb (by omega)
   have h2:=h0.cache k2 l2 tt2 hs1
   have M2:=M0.trans m2
   obtain ⟨⟨v0,v1,v2,r0,r1,r2⟩,q0,q1,q2⟩:=cells3 t2
   go_wp2_with fail
   refine bodyPost_ret (v:=.tuple #[CN.none.val,.int .i64 6]) (by simp [results,Tryz.results17,go_sem,r0,r1,r2,CN.val,CN.none]) rfl ⟨CN.none,rfl,rfl,tag2,?_,?_,NdAt.none _ _⟩
   ·exact ((h2.set tb2).set tb2).set tb2
   ·exact M2.wrote (three_chg w2 w.heap.size _ _ _) (fun k hk => by simp at hk;omega)
  ·rw [if_neg c2] at hr
   have cG:=k_get hk h0.l a (by omega) hu
   generalize hY:Y a=y at *
   by_cases c3:opens y a 1=0
   ·rw [if_neg (by simpa using c3)] at hr
    have HR:=mkHid hr
    clear hr
    go_enter Tryz.func17,Tryz.ntmps17
    go_wp2_with fail
    generalize (w.alloc (.cells #[.bool false,.slice none 0 0,.slice none 0 0] 53))=w1 at *
    refine cA.mono ?_
    rintro e w' ⟨rfl,rfl⟩
    go_wp2_with fail
    refine cG.mono ?_
    rintro e w2 ⟨ao,c,rfl,rm,tag2,k2,l2,tt2,m2,tf⟩
    have t2:=m2.there t0 tb
    have tb2:=m2.four tb (by omega)
    have h2:=h0.cache k2 l2 tt2 hs1
    have M2:=M0.trans m2
    have cO:=open_yes ao 256 c y (a:Int) 1 a (by unfold pn;omega) c3 w2 (HT.out.then h2.chg) rm.reads (by have:=rm.len;rwa [bts_length] at this) rm.le rm.max (by decide)
    have z2:w.heap.size < w2.heap.size:=by have:=m2.size;omega
    go_wp2_with fail
    refine cO.mono ?_
    rintro e w3 ⟨ap,cp,rfl,rp,g3⟩
    have h3:=h2.keep g3
    have M3:=M2.then g3
    have t3:=there_chg t2 g3 (by simp)
    have z3:w.heap.size < w3.heap.size:=by have:=g3.size;omega
    have cK:=take_any ap 240 cp (y.take 240) w3 rp.reads (by have:=rp.len;rwa [bts_length] at this) rp.le rp.max
    have HB:=mkHid (took_bound (l:=y.take 240))
    go_wp2_with fail
    refine cK.mono ?_
    generalize takeN (y.take 240)=tr at *
    obtain ⟨er,lf,K,V⟩:=tr
    rintro e w4 ⟨⟨ka,kc,va,vc,rfl,rk,rv,dj⟩,g4⟩
    have h4:=h3.keep g4
    have M4:=M3.then g4
    have t4:=there_chg t3 g4 (by simp)
    have n5:New5 w4 w3.heap.size ⟨lf,ka,kc,va,vc,K,V⟩:=⟨rk,rv⟩
    have nd:NdAt w4 (tag5 tag2 w3.heap.size ⟨lf,ka,kc,va,vc,K,V⟩) ⟨lf,ka,kc,va,vc,K,V⟩:=NdAt.new n5 (by have:=HB.out.2.2.1;dsimp only at this ⊢;omega) (by have:=HB.out.2.2.2;dsimp only at this ⊢;omega) HB.out.1 HB.out.2.1
    have h5:=h4.five n5 h3.l.hi
    have M5:=M4.five n5 (by omega)
    have tb5:tag5 tag2 w3.heap.size ⟨lf,ka,kc,va,vc,K,V⟩ w.heap.size=4:=(tag5_old z3).trans tb2
    obtain ⟨⟨v0,v1,v2,r0,r1,r2⟩,q0,q1,q2⟩:=cells3 t4
    generalize tag5 tag2 w3.heap.size ⟨lf,ka,kc,va,vc,K,V⟩=tag5' at *
    clear rk rv dj n5 h4 M4
    go_wp2_with fail
    have hr:=HR.out
    subst hr
    refine bodyPost_ret (v:=.tuple #[CN.val ⟨lf,ka,kc,va,vc,K,V⟩,.int .i64 er]) (by simp [results,Tryz.results17,go_sem,r0,r1,r2,CN.val]) rfl ⟨⟨lf,ka,kc,va,vc,K,V⟩,rfl,rfl,tag5',?_,?_,?_⟩
    ·exact ((h5.set tb5).set tb5).set tb5
    ·exact M5.wrote (three_chg w4 w.heap.size _ _ _) (fun k hk => by simp at hk;omega)
    ·exact nd.wrote (three_chg w4 w.heap.size _ _ _) (fun k hk => by simp at hk;subst hk;exact tb5)
   ·rw [if_pos (by simpa using c3)] at hr
    have HR:=mkHid hr
    clear hr
    go_enter Tryz.func17,Tryz.ntmps17
    go_wp2_with fail
    generalize (w.alloc (.cells #[.bool false,.slice none 0 0,.slice none 0 0] 53))=w1 at *
    refine cA.mono ?_
    rintro e w' ⟨rfl,rfl⟩
    go_wp2_with fail
    refine cG.mono ?_
    rintro e w2 ⟨ao,c,rfl,rm,tag2,k2,l2,tt2,m2,tf⟩
    have t2:=m2.there t0 tb
    have tb2:=m2.four tb (by omega)
    have h2:=h0.cache k2 l2 tt2 hs1
    have M2:=M0.trans m2
    generalize hC:opens y a 1=C at *
    have cO:=open_no C c3 ao 256 c y (a:Int) 1 a (by unfold pn;omega) hC w2 (HT.out.then h2.chg) rm.reads (by have:=rm.len;rwa [bts_length] at this) rm.le rm.max (by decide)
    have z2:w.heap.size < w2.heap.size:=by have:=m2.size;omega
    have hC0:((C:Int) != 0)=true:=by simpa using c3
    have HC:=mkHid hC
    clear hC
    go_wp2_with fail
    refine cO.mono ?_
    rintro e w3 ⟨rfl,g3⟩
    have h3:=h2.keep g3
    have M3:=M2.then g3
    have t3:=there_chg t2 g3 (by simp)
    obtain ⟨⟨v0,v1,v2,r0,r1,r2⟩,q0,q1,q2⟩:=cells3 t3
    go_wp2_with fail
    have hr:=HR.out
    subst hr
    refine bodyPost_ret (v:=.tuple #[CN.none.val,.int .i64 C]) (by simp [results,Tryz.results17,go_sem,r0,r1,r2,CN.val,CN.none]) rfl ⟨CN.none,rfl,rfl,tag2,?_,?_,NdAt.none _ _⟩
    ·exact ((h3.set tb2).set tb2).set tb2
    ·exact M3.wrote (three_chg w3 w.heap.size _ _ _) (fun k hk => by simp at hk;omega)
end
end
end Go.Proofs.YtdgkbicelnnfpaaGreatDoor
