/- Texts L, E, K, T, V, Cm, Cr of the library, joined. -/
import Derived.Deep.Draws
import Derived.WalkKit
import Derived.Test.YtdgkbicelnnfpaaGreatDoorRows
import Derived.ProofKit
import Derived.OpenShut
import Derived.SizedLaws
import Derived.Lib.SmallJoins
import Derived.Deep.WholeRow
import Derived.Lib.TrailingZeros
set_option linter.unusedVariables false
set_option linter.unusedSimpArgs false
namespace Go.Proofs.YtdgkbicelnnfpaaGreatDoor
theorem zqa {α : Type _} {l : List α} : l.toArray.toList = l := List.toList_toArray
theorem zqb {α : Type _} {a : α} {l : List α} {i : Nat} : List.take (i + 1) (a :: l) = a :: List.take i l := List.take_succ_cons
theorem zqc {α : Type _} {l : List α} : List.take 0 l = [] := List.take_zero
theorem zqd {α : Type _} {a : α} {l : List α} {i : Nat} : List.drop (i + 1) (a :: l) = List.drop i l := List.drop_succ_cons
theorem zqe {α : Type _} {l : List α} : List.drop 0 l = l := List.drop_zero
theorem zqf {α : Type _} (l : List α) (i : Nat) (a : α) : l.toArray.setIfInBounds i a = (l.set i a).toArray := List.setIfInBounds_toArray l i a
theorem zqg {α : Type _} {x : α} {xs : List α} {a : α} : (x :: xs).set 0 a = a :: xs := List.set_cons_zero
theorem zqh {α : Type _} {x : α} {xs : List α} {i : Nat} {a : α} : (x :: xs).set (i + 1) a = x :: xs.set i a := List.set_cons_succ
section
open Go.RowKit
structure Chg (S:List Nat) (w w':World):Prop where
 os:w'.os=w.os
 tape:w'.tape=w.tape
 output:w'.output=w.output
 size:w.heap.size≤w'.heap.size
 block:∀ k,k < w.heap.size→k ∉ S→w'.heap[k]?=w.heap[k]?
def Reads (w:World) (ao:Option Addr) (xs:List Value):Prop:=
 0 < xs.length→∃ b o,ao=some ⟨b,o,none⟩∧∀ j u,xs[j]?=some u→w.cell? ⟨b,o+j,none⟩=some u
def blk:Option Addr→List Nat
 | some a => [a.block]
 | none => []
def fp (ao:Option Addr) (c:Nat):List Nat:=if c=0 then [] else blk ao
structure Room (w:World) (B:Nat) (ao:Option Addr) (n c:Nat) (xs:List Value):Prop where
 len:xs.length=n
 le:n≤c
 max:c≤maxLen
 at_:0 < c→∃ b o,ao=some ⟨b,o,none⟩∧B≤b∧(∀ j,j < c→(w.cell? ⟨b,o+j,none⟩).isSome=true∧w.frozen? ⟨b,o+j,none⟩=false)∧∀ j u,xs[j]?=some u→w.cell? ⟨b,o+j,none⟩=some u
theorem Chg.refl (S:List Nat) (w:World):Chg S w w:=⟨rfl,rfl,rfl,Nat.le_refl _,fun _ _ _ => rfl⟩
theorem Chg.mono {S T:List Nat} {w w':World} (h:Chg S w w') (hs:∀ k,k∈S→k < w.heap.size→k∈T):Chg T w w':=
 ⟨h.os,h.tape,h.output,h.size,fun k hk hn => h.block k hk fun hm => hn (hs k hm hk)⟩
theorem Chg.trans {S T U:List Nat} {a b c:World} (h:Chg S a b) (g:Chg T b c) (hS:∀ k,k∈S→k < a.heap.size→k∈U) (hT:∀ k,k∈T→k < a.heap.size→k∈U):Chg U a c:=
 ⟨g.os.trans h.os,g.tape.trans h.tape,g.output.trans h.output,Nat.le_trans h.size g.size,fun k hk hn =>
  (g.block k (Nat.lt_of_lt_of_le hk h.size) (fun hm => hn (hT k hm hk))).trans (h.block k hk (fun hm => hn (hS k hm hk)))⟩
theorem Chg.cell {S:List Nat} {w w':World} (h:Chg S w w') {p:Addr} (hp:p.block < w.heap.size) (hn:p.block ∉ S):w'.cell? p=w.cell? p:=World.cell?_of_block (h.block _ hp hn)
theorem Chg.frozen {S:List Nat} {w w':World} (h:Chg S w w') {p:Addr} (hp:p.block < w.heap.size) (hn:p.block ∉ S):w'.frozen? p=w.frozen? p:=World.frozen?_of_block (h.block _ hp hn)
theorem Chg.cellv {S:List Nat} {w w':World} (h:Chg S w w') {p:Addr} {v:Value} (hc:w.cell? p=some v) (hn:p.block ∉ S):w'.cell? p=some v:=(h.cell (block_lt_of_cell hc) hn).trans hc
theorem Chg.alloc (S:List Nat) (w:World) (o:Obj):Chg S w (w.alloc o):=⟨rfl,rfl,rfl,by simp,fun k hk _ => Below.heap_alloc w o k hk⟩
theorem Chg.drew (S:List Nat) (w:World):Chg S w w.drew:=⟨rfl,rfl,rfl,Nat.le_refl _,fun _ _ _ => rfl⟩
theorem Chg.setCell (w:World) (a:Addr) (v:Value):Chg [a.block] w (w.setCell a v):=
 ⟨rfl,rfl,rfl,by simp,fun k _ hn => heap_setCell_other w a k v (by simpa using hn)⟩
theorem Chg.setCells (b:Nat):∀ (vs:List Value) (o:Nat) (w:World),Chg [b] w (w.setCells b o vs)
 | [],_,w => Chg.refl _ w
 | v :: r,o,w => (Chg.setCell w ⟨b,o,none⟩ v).trans (Chg.setCells b r (o+1) _) (fun _ h _ => h) (fun _ h _ => h)
theorem Chg.grown {w w':World} {row:Option Nat} (hg:w.grownBy w' row):Chg row.toList w w':=
 ⟨hg.os,hg.tape,hg.output,hg.size,fun k hk hn => hg.block k hk (by intro e;subst e;simp at hn)⟩
theorem Chg.below {S:List Nat} {B:Nat} {w w':World} (h:Chg S w w') (hB:B≤w.heap.size) (hS:∀ k,k∈S→B≤k):Below B w w':=
 ⟨h.os,h.tape,h.output,h.size,fun k hk => h.block k (Nat.lt_of_lt_of_le hk hB) (fun hm => by have:=hS k hm;omega)⟩
theorem Reads.nil (w:World) (ao:Option Addr):Reads w ao []:=fun h => by simp at h
theorem Reads.lt {w:World} {ao:Option Addr} {xs:List Value} (h:Reads w ao xs) (hx:0 < xs.length):∀ k,k∈blk ao→k < w.heap.size:=by
 intro k hk
 obtain ⟨b,o,rfl,hc⟩:=h hx
 simp [blk] at hk
 subst hk
 exact block_lt_of_cell (hc 0 xs[0] (by simp [hx]))
theorem Reads.chg {S:List Nat} {w w':World} {ao:Option Addr} {xs:List Value} (h:Reads w ao xs) (g:Chg S w w') (hn:∀ k,k∈blk ao→k ∉ S):Reads w' ao xs:=by
 intro hx
 obtain ⟨b,o,rfl,hc⟩:=h hx
 exact ⟨b,o,rfl,fun j u hu => g.cellv (hc j u hu) (hn b (by simp [blk]))⟩
theorem Reads.chg0 {S:List Nat} {w w':World} {ao:Option Addr} {xs:List Value} (h:Reads w ao xs) (g:Chg S w w') (hn:0 < xs.length→∀ k,k∈blk ao→k ∉ S):Reads w' ao xs:=by
 intro hx
 obtain ⟨b,o,rfl,hc⟩:=h hx
 exact ⟨b,o,rfl,fun j u hu => g.cellv (hc j u hu) (hn hx b (by simp [blk]))⟩
theorem Reads.cell {w:World} {b o:Nat} {xs:List Value} (h:Reads w (some ⟨b,o,none⟩) xs) (j:Nat) (u:Value) (hu:xs[j]?=some u):w.cell? ⟨b,o+j,none⟩=some u:=by
 obtain ⟨b',o',e,hc⟩:=h (by cases xs <;> simp at hu ⊢)
 cases e
 exact hc j u hu
theorem Reads.addr {w:World} {ao:Option Addr} {xs:List Value} (h:Reads w ao xs):∀ ad,ao=some ad→∀ j u,xs[j]?=some u→w.cell? (ad.add j)=some u:=by
 rintro ad rfl j u hu
 obtain ⟨b',o',e,hc⟩:=h (by cases xs <;> simp at hu ⊢)
 cases e
 rw [Addr.add_lit]
 exact hc j u hu
theorem Room.reads {w:World} {B:Nat} {ao:Option Addr} {n c:Nat} {xs:List Value} (h:Room w B ao n c xs):Reads w ao xs:=by
 intro hx
 obtain ⟨b,o,e,_,_,hc⟩:=h.at_ (by have:=h.len;have:=h.le;omega)
 exact ⟨b,o,e,hc⟩
theorem fp_zero (ao:Option Addr):fp ao 0=[]:=rfl
theorem fp_none (c:Nat):fp none c=[]:=by unfold fp;split <;> rfl
theorem fp_some (b o c:Nat) (h:0 < c):fp (some ⟨b,o,none⟩) c=[b]:=by unfold fp;rw [if_neg (by omega)];rfl
theorem Room.lt {w:World} {B:Nat} {ao:Option Addr} {n c:Nat} {xs:List Value} (h:Room w B ao n c xs):∀ k,k∈fp ao c→B≤k∧k < w.heap.size:=by
 intro k hk
 have hc:0 < c:=by
  rcases Nat.eq_zero_or_pos c with h0 | h0
  ·subst h0;simp [fp_zero] at hk
  ·exact h0
 unfold fp at hk
 rw [if_neg (by omega)] at hk
 obtain ⟨b,o,rfl,hB,hs,_⟩:=h.at_ hc
 simp [blk] at hk
 subst hk
 obtain ⟨u,hu⟩:=Option.isSome_iff_exists.1 (hs 0 hc).1
 exact ⟨hB,block_lt_of_cell hu⟩
theorem Room.chg {S:List Nat} {w w':World} {B:Nat} {ao:Option Addr} {n c:Nat} {xs:List Value} (h:Room w B ao n c xs) (g:Chg S w w') (hn:∀ k,k∈fp ao c→k ∉ S):Room w' B ao n c xs:=by
 refine ⟨h.len,h.le,h.max,fun hc => ?_⟩
 obtain ⟨b,o,rfl,hB,hs,hv⟩:=h.at_ hc
 have hb:b ∉ S:=hn b (by rw [fp_some _ _ _ hc];simp)
 refine ⟨b,o,rfl,hB,fun j hj => ?_,fun j u hu => g.cellv (hv j u hu) hb⟩
 obtain ⟨u,hu⟩:=Option.isSome_iff_exists.1 (hs j hj).1
 exact ⟨by rw [g.cellv hu hb];rfl,by rw [g.frozen (block_lt_of_cell hu) hb];exact (hs j hj).2⟩
theorem Room.nil (w:World) (B:Nat) (ao:Option Addr):Room w B ao 0 0 []:=⟨rfl,Nat.le_refl _,Nat.zero_le _,fun h => absurd h (Nat.lt_irrefl 0)⟩
theorem Room.mono {w:World} {B B':Nat} {ao:Option Addr} {n c:Nat} {xs:List Value} (h:Room w B ao n c xs) (hB:B'≤B):Room w B' ao n c xs:=
 ⟨h.len,h.le,h.max,fun hc => let ⟨b,o,e,h1,h2,h3⟩:=h.at_ hc;⟨b,o,e,Nat.le_trans hB h1,h2,h3⟩⟩
theorem Room.of_owns {w:World} {B:Nat} {e:TypeId} {ao:Option Addr} {n c:Nat} {xs:List Value} (h:w.ownsRow B e 1 (.slice ao n c) n xs):Room w B ao n c xs:=by
 obtain ⟨hl,h⟩:=h
 rcases h with ⟨hv,hn⟩ | ⟨g,cap,cur,hv,hb,hh,hc,hm,hs,ht⟩
 ·cases hv
  exact ⟨by simpa using hl,Nat.le_refl _,Nat.zero_le _,fun h => absurd h (Nat.lt_irrefl 0)⟩
 ·cases hv
  refine ⟨by simpa using hl,hc,hm,fun _ => ⟨g,0,rfl,hb,fun j hj => ?_,fun j u hu => ?_⟩⟩
  ·have:j < cur.size:=by omega
   exact ⟨by rw [cell_of_row w g _ cur e _ hh];simp [this],frozen_of_row w g _ cur e hh⟩
  ·rw [cell_of_row w g _ cur e _ hh]
   rw [← ht,List.getElem?_take] at hu
   split at hu
   ·simpa using hu
   ·cases hu
theorem Reads.take {w:World} {ao:Option Addr} {xs:List Value} (h:Reads w ao xs) (l:Nat):Reads w ao (xs.take l):=by
 intro hx
 obtain ⟨b,o,e,hc⟩:=h (by simp at hx;omega)
 refine ⟨b,o,e,fun j u hu => hc j u ?_⟩
 rw [List.getElem?_take] at hu
 split at hu
 ·exact hu
 ·cases hu
theorem Reads.drop {w:World} {b o l:Nat} {xs:List Value} (h:Reads w (some ⟨b,o,none⟩) xs):Reads w (some ⟨b,o+l,none⟩) (xs.drop l):=by
 intro hx
 refine ⟨b,o+l,rfl,fun j u hu => ?_⟩
 rw [List.getElem?_drop] at hu
 rw [Nat.add_assoc]
 exact h.cell (l+j) u hu
def cut (ao:Option Addr) (c l:Nat):Option Addr:=if c=l then ao else ao.map (·.add l)
theorem blk_cut (ao:Option Addr) (c l:Nat):blk (cut ao c l)=blk ao:=by
 unfold cut
 split
 ·rfl
 ·cases ao with
  | none => rfl
  | some a => simp only [Option.map_some,blk];unfold Addr.add;split <;> rfl
theorem Reads.cut {w:World} {ao:Option Addr} {xs:List Value} (h:Reads w ao xs) (c l:Nat) (hc:xs.length≤c):Reads w (cut ao c l) (xs.drop l):=by
 intro hx
 simp at hx
 obtain ⟨b,o,rfl,hv⟩:=h (by omega)
 have e:YtdgkbicelnnfpaaGreatDoor.cut (some ⟨b,o,none⟩) c l=some ⟨b,o+l,none⟩:=by
  unfold YtdgkbicelnnfpaaGreatDoor.cut
  rw [if_neg (by omega),Option.map_some,Addr.add_lit]
 refine ⟨b,o+l,e,fun j u hu => ?_⟩
 rw [List.getElem?_drop] at hu
 rw [Nat.add_assoc]
 exact hv (l+j) u hu
theorem run_from_k {P:Program} {t e:TypeId} (ao:Option Addr) (n c l:Nat) (ht:P.underlying t=some (.slice e)) (hs:(P.info? e).map (·.size)=some 1) (hl:l≤n) (w:World) :
  (Instr.slice t (.slice ao n c) (some (.int .i64 (l:Int))) none none).run P w=.ok (.slice (cut ao c l) (n - l) (c - l)) w:=by
 have he:P.elem t=e:=by simp [Program.elem,ht]
 rw [run_slice_l w t ao n c (by rw [he];exact ht) .i64 (l:Int) (by omega) (by omega),he]
 obtain ⟨i,hi,hi1⟩:=Option.map_eq_some_iff.1 hs
 simp [sizeOf,typeInfo,hi,hi1,sliced,cut]
def Elt (P:Program) (t e:TypeId) (bytes:Nat):Prop:=
 P.underlying t=some (.slice e)∧∃ i z,P.info? e=some i∧i.zero=some z∧i.size=1∧i.bytes=bytes∧z.cells.size=1
theorem Elt.mk {P:Program} {t e:TypeId} {z:Value} {bytes:Nat} (ht:P.underlying t=some (.slice e)) (h:(P.info? e).map (fun i => (i.zero,i.size,i.bytes))=some (some z,1,bytes)) (hz:z.cells.size=1):Elt P t e bytes:=
 let ⟨i,h1,h2,h3,h4⟩:=info_parts h
 ⟨ht,i,z,h1,h2,h3,h4,hz⟩
section
variable {P:Program} (w:World)
theorem run_append_k (t ty e:TypeId) (bytes:Nat) (helt:Elt P t e bytes)
  (B:Nat) (ao:Option Addr) (n c:Nat) (xs:List Value) (h:Room w B ao n c xs) (hB:B≤w.heap.size)
  (ax:Option Addr) (m cx:Nat) (news:List Value) (hx:Reads w ax news) (hm:news.length=m) (hone:∀ u∈news,u.oneCell'=true)
  (h63:n+m≤maxLen) (hbytes:(n+m) * bytes≤140737488355328) :
  ∃ ao' c' w',(Builtin.append_ #[t,t] ty #[.slice ao n c,.slice ax m cx]).run P w=.ok (.slice ao' (n+m) c') w'∧Room w' B ao' (n+m) c' (xs++news)∧Chg (fp ao c) w w'∧(fp ao' c'=fp ao c ∨ fp ao' c'=[w.heap.size]):=by
 obtain ⟨ht,i,z,hi,hz,hsize,hby,hzs⟩:=helt
 subst hby
 have hlen:(xs++news).length=n+m:=by rw [List.length_append,h.len,hm]
 have hml:maxLen=9223372036854775807:=rfl
 have hf:∀ w0:World,w0.heap=w.heap→(Builtin.firstCells i.size m (.slice ax m cx)).run P w0=.ok news.toArray w0:=by
  intro w0 hw0
  cases ax with
  | none =>
   have:news=[]:=by
    cases hn:news with
    | nil => rfl
    | cons u r => obtain ⟨b,o,e,_⟩:=hx (by rw [hn];simp);cases e
   subst this
   rw [run_firstCells_none]
  | some ad =>
   refine run_firstCells_some (P:=P) w0 i.size m ad m cx news (by simp [hsize,hm]) (fun j u hu => ?_)
   have:=hx.addr ad rfl j u hu
   simpa [World.cell?,hw0] using this
 by_cases hroom:n+m≤c
 ·by_cases hc:c=0
  ·subst hc
   have hn0:n=0:=by omega
   have hm0:m=0:=by omega
   subst hn0 hm0
   have hx0:xs=[]:=List.eq_nil_of_length_eq_zero h.len
   have hnn:news=[]:=List.eq_nil_of_length_eq_zero hm
   subst hx0 hnn
   refine ⟨ao,0,w,?_,h,Chg.refl _ _,Or.inl rfl⟩
   have:=hf w rfl
   cases ao <;> simp [Builtin.append_,run_underlying ht,sizeOf,typeInfo,hi,Builtin.lenOf,this,storeCells]
  ·obtain ⟨b,o,rfl,hBb,hs,hv⟩:=h.at_ (by omega)
   have hcell:∀ j,j < news.length→(w.cell? ⟨b,o+n * i.size+0+j,none⟩).isSome=true:=fun j hj => by
    have:=(hs (n+j) (by omega)).1
    rwa [hsize,Nat.mul_one,Nat.add_zero,Nat.add_assoc]
   have hfr:∀ j,j < news.length→w.frozen? ⟨b,o+n * i.size+0+j,none⟩=false:=fun j hj => by
    have:=(hs (n+j) (by omega)).2
    rwa [hsize,Nat.mul_one,Nat.add_zero,Nat.add_assoc]
   have hst:=run_storeCells_cells (P:=P) b (o+n * i.size) news 0 w hcell hfr hone
   refine ⟨some ⟨b,o,none⟩,c,w.setCells b (o+n) news,?_,⟨hlen,hroom,h.max,fun _ => ⟨b,o,rfl,hBb,fun j hj => ?_,fun j u hu => ?_⟩⟩,by rw [fp_some _ _ _ (by omega)];exact Chg.setCells b news (o+n) w,Or.inl rfl⟩
   ·simp only [Nat.add_zero] at hst
    have:=hf w rfl
    simp [Builtin.append_,run_underlying ht,sizeOf,typeInfo,hi,Builtin.lenOf,hroom,this,Addr.add_lit,hst]
    simp [hsize]
   ·obtain ⟨h1,h2⟩:=hs j hj
    refine ⟨?_,by rw [World.frozen?_setCells];exact h2⟩
    by_cases hin:n≤j∧j < n+news.length
    ·have:=World.cell?_setCells_in b news (o+n) w (fun k hk => by rw [Nat.add_assoc];exact (hs (n+k) (by omega)).1) (j - n) (by omega)
     rw [show o+n+(j - n)=o+j by omega] at this
     rw [this];rfl
    ·rw [World.cell?_setCells_out b news (o+n) w _ (fun _ _ => by simp;omega)]
     exact h1
   ·by_cases hj:j < n
    ·rw [List.getElem?_append_left (by rw [h.len];exact hj)] at hu
     rw [World.cell?_setCells_out b news (o+n) w _ (fun _ _ => by simp;omega)]
     exact hv j u hu
    ·rw [List.getElem?_append_right (by rw [h.len];omega),h.len] at hu
     have hjn:j - n < news.length:=(List.getElem?_eq_some_iff.1 hu).1
     have:=World.cell?_setCells_in b news (o+n) w (fun k hk => by rw [Nat.add_assoc];exact (hs (n+k) (by omega)).1) (j - n) hjn
     rw [show o+n+(j - n)=o+j by omega] at this
     rw [this]
     rw [List.getElem?_eq_getElem hjn] at hu
     exact hu
 ·have hfo:(Builtin.firstCells i.size n (.slice ao n c)).run P w.drew=.ok xs.toArray w.drew:=by
   cases ao with
   | none =>
    have hc:c=0:=by
     rcases Nat.eq_zero_or_pos c with h0 | h0
     ·exact h0
     ·obtain ⟨b,o,e,_⟩:=h.at_ h0;cases e
    have:xs=[]:=List.eq_nil_of_length_eq_zero (by have:=h.len;have:=h.le;omega)
    subst this
    rw [run_firstCells_none]
   | some ad =>
    exact run_firstCells_some (P:=P) w.drew i.size n ad n c xs (by simp [hsize,h.len]) (fun j u hu => by simpa using h.reads.addr ad rfl j u hu)
  have hfn:=hf w.drew rfl
  have hge:=grownCap_ge w (n+m) c e
  have hcm:=grownCap_le_maxLen w (n+m) c e h63
  have h63':¬ (9223372036854775807 < ((n:Int)+(m:Int))):=by omega
  have h48':¬ (281474976710656 < Builtin.nextslicecap (n+m) c * i.bytes):=by have:=growslice_fits (old:=c) (need:=n+m) (by omega) hbytes;omega
  refine ⟨some ⟨w.heap.size,0,none⟩,grownCap w (n+m) c e,w.drew.alloc (.cells (xs.toArray++news.toArray++Builtin.zeroCells z.cells (grownCap w (n+m) c e - (n+m))) e),?_,?_,⟨rfl,rfl,rfl,by simp,fun k hk _ => Below.heap_alloc w.drew _ k hk⟩,Or.inr (fp_some _ _ _ (by omega))⟩
  ·simp [Builtin.append_,run_underlying ht,sizeOf,typeInfo,zeroValue,hi,hz,Builtin.lenOf,hroom,h63',h48',Question.forced,hfn,hfo,newRow,grownCap]
   congr 2
   apply Array.ext'
   simp [List.append_assoc]
  ·refine Room.of_owns (e:=e) ⟨by rw [hlen];simp,.inr ⟨w.heap.size,_,_,rfl,hB,heap_alloc_new w.drew _,hge,hcm,?_,?_⟩⟩
   ·simp only [Array.size_append,List.size_toArray,size_zeroCells,hzs,h.len,hm]
    omega
   ·simp only [Array.toList_append,List.append_assoc]
    rw [← List.append_assoc,Nat.mul_one,← hlen]
    exact List.take_left
end
theorem wpList_append_k {P:Program} (w:World) {ops:Array Oper} {rest:List Oper} {o:Oper} {a:Act} {Q:Exit→Act→World→Prop} (hgd:o.guard=none) (s x:Operand) (t:TypeId)
  (ho:o.op=.call { callee:=.builtin .append,args:=#[s,x],argTypes:=#[t,t] })
  (e:TypeId) (bytes:Nat) (helt:Elt P t e bytes)
  (B:Nat) (ao:Option Addr) (n c:Nat) (xs:List Value) (hs:a.eval s=.slice ao n c) (h:Room w B ao n c xs) (hB:B≤w.heap.size)
  (ax:Option Addr) (m cx:Nat) (news:List Value) (hxe:a.eval x=.slice ax m cx) (hx:Reads w ax news) (hm:news.length=m) (hone:∀ u∈news,u.oneCell'=true)
  (h63:n+m≤maxLen) (hbytes:(n+m) * bytes≤140737488355328)
  (hK:∀ ao' c' w',Room w' B ao' (n+m) c' (xs++news)→Chg (fp ao c) w w'→(fp ao' c'=fp ao c ∨ fp ao' c'=[w.heap.size])→wpList P ops Q rest (a.put o.dst (.slice ao' (n+m) c')) w'):wpList P ops Q (o :: rest) a w:=by
 refine wpList_plain hgd fun K hK' => ?_
 obtain ⟨ao',c',w',hr,h2,h3,h4⟩:=run_append_k (P:=P) w t o.type e bytes helt B ao n c xs h hB ax m cx news hx hm hone h63 hbytes
 unfold Oper.wp execOp
 simp only [ho,resolve,invoke,builtin,Sem.run_bind,Sem.run_pure,Result.andThen_ok,List.map_toArray,List.map_cons,List.map_nil,hs,hxe,hr]
 exact hK' _ _ (hK ao' c' w' h2 h3 h4)
theorem Reads.new (w:World) (cs:Array Value) (e:TypeId):Reads (w.alloc (.cells cs e)) (some ⟨w.heap.size,0,none⟩) cs.toList:=fun _ =>
 ⟨w.heap.size,0,rfl,fun j u hu => by simpa using hu⟩
theorem wpList_append_1 {P:Program} (w:World) {ops:Array Oper} {rest:List Oper} {o:Oper} {a:Act} {Q:Exit→Act→World→Prop} (hgd:o.guard=none) (s x:Operand) (t:TypeId)
  (ho:o.op=.call { callee:=.builtin .append,args:=#[s,x],argTypes:=#[t,t] })
  (e:TypeId) (bytes:Nat) (helt:Elt P t e bytes)
  (B:Nat) (ao:Option Addr) (n c:Nat) (xs:List Value) (hs:a.eval s=.slice ao n c) (h:Room w B ao n c xs) (hB:B≤w.heap.size)
  (u:Value) (cx:Nat) (hxe:a.eval x=.slice (some ⟨w.heap.size,0,none⟩) 1 cx) (hone:u.oneCell'=true)
  (h63:n+1≤maxLen) (hbytes:(n+1) * bytes≤140737488355328)
  (hK:∀ ao' c' w',Room w' B ao' (n+1) c' (xs++[u])→Chg (fp ao c) w w'→(fp ao' c'=fp ao c ∨ ∃ k,w.heap.size≤k∧fp ao' c'=[k])→wpList P ops Q rest (a.put o.dst (.slice ao' (n+1) c')) w'):wpList P ops Q (o :: rest) a (w.alloc (.cells #[u] e)):=
 wpList_append_k (w.alloc (.cells #[u] e)) hgd s x t ho e bytes helt B ao n c xs hs (h.chg (Chg.alloc [] w _) (by simp)) (by simp;omega) (some ⟨w.heap.size,0,none⟩) 1 cx [u] hxe (Reads.new w #[u] e) rfl (by simpa using hone) h63 hbytes
  (fun ao' c' w' h1 h2 h3 => hK ao' c' w' h1 ((Chg.alloc [] w _).trans h2 (by simp) (fun k h _ => h)) (h3.imp id fun h => ⟨_,by simp,h⟩))
theorem Chg.own {w0 w w':World} {ao:Option Addr} {n c:Nat} {xs:List Value} {S:List Nat} (h:Chg S w0 w) (g:Chg (fp ao c) w w') (hr:Room w w0.heap.size ao n c xs):Chg S w0 w':=
 h.trans g (fun _ h _ => h) (fun k hk hlt => by have:=(hr.lt k hk).1;omega)
theorem Chg.then {w0 w w':World} {S:List Nat} (h:Chg S w0 w) (g:Chg [] w w'):Chg S w0 w':=h.trans g (fun _ h _ => h) (by simp)
theorem wpList_make_k {P:Program} (w:World) {ops:Array Oper} {rest:List Oper} {o:Oper} {a:Act} {Q:Exit→Act→World→Prop}
  (hg:o.guard=none) (l c:Operand) (t:TypeId) (hop:o.op=Op.makeSlice t l c)
  (e:TypeId) (bytes:Nat) (helt:Elt P t e bytes)
  (B:Nat) (kl kc:IntKind) (C:Int) (n:Nat) (hl:a.eval l=.int kl 0) (hc:a.eval c=.int kc C) (hC:C=(n:Int)) (b2:bytes * n≤281474976710656) (b3:n≤maxLen) (hB:B≤w.heap.size)
  (hK:∀ w',Room w' B (some ⟨w.heap.size,0,none⟩) 0 n []→Chg [] w w'→wpList P ops Q rest (a.put o.dst (.slice (some ⟨w.heap.size,0,none⟩) 0 n)) w') :
  wpList P ops Q (o :: rest) a w:=by
 obtain ⟨h1,i,z,h2,h3,h4,h5,_⟩:=helt
 exact wpList_make_own w hg l c t hop B e i z 1 h1 h2 h3 h4 kl kc C n hl hc hC (by rw [h5];exact b2) b3 hB
  (fun w' h g => hK w' (Room.of_owns h) (by simpa using Chg.grown g))
def bts (l:List UInt8):List Value:=l.map fun b => .int .u8 (b.toNat:Int)
theorem bts_length (l:List UInt8):(bts l).length=l.length:=by simp [bts]
theorem bts_append (l m:List UInt8):bts (l++m)=bts l++bts m:=by simp [bts]
theorem bts_get (l:List UInt8) (i:Nat) (h:i < l.length):(bts l)[i]?=some (.int .u8 (l[i].toNat:Int)):=by simp [bts,h]
theorem bts_one (l:List UInt8):∀ u∈bts l,u.oneCell'=true:=by
 intro u hu
 obtain ⟨_,_,rfl⟩:=List.mem_map.1 hu
 rfl
theorem bts_take (l:List UInt8) (n:Nat):(bts l).take n=bts (l.take n):=by simp [bts]
theorem bts_drop (l:List UInt8) (n:Nat):(bts l).drop n=bts (l.drop n):=by simp [bts]
theorem Chg.drewN (w:World) (n:Nat):Chg [] w (w.drewN n):=⟨rfl,rfl,rfl,Nat.le_refl _,fun _ _ _ => rfl⟩
end
section
open Go.ChangeShapes Go.WideShapes Go.ChangeAt Go.RowKit
theorem add_none {ad:Addr} {i:Nat} {w:World} {v:Value} (h:w.cell? (ad.add i)=some v):ad.add i=⟨ad.block,ad.off+i,none⟩:=by
 obtain ⟨b,o,s⟩:=ad
 unfold Addr.add
 split
 ·rename_i hi
  subst hi
  have:=World.cell?_spot h
  simp [Addr.add] at this
  subst this
  rfl
 ·rfl
section
variable {H:Type} {enc:TypeId × Value→H} {P:Program} {W:World}
theorem opened_ints {t e:TypeId} {k:IntKind} (ht:P.underlying t=some (.slice e)) (he:P.underlying e=some (.int k)) (hc:P.cellsOf e=1) {a:Option Addr} {n c:Nat} {d:DataW H} {p:List MemPlace}
  (h:∃ m,DataW.trod enc P W 0 (fun _ => true) true m t (Value.slice a n c).cells.toList=some (d,p)) :
  ∃ zs:List Int,Reads W a (zs.map (Value.int k))∧zs.length=n∧n≤c∧c≤maxLen∧(∀ z∈zs,(Lit.int k z).wf=true)∧((d=.nil∧c=0) ∨ ∃ es sp,d=.slice es sp∧es.length+sp.length=c):=by
 obtain ⟨m,hm⟩:=h
 rcases open_ints ht he hc hm with ⟨hcs,hx⟩ | ⟨ad,l,cp,zs,hcs,_,hl,hmx,hz,hx,hcell,hwz⟩
 ·simp [Value.cells] at hcs
  obtain ⟨rfl,rfl,rfl⟩:=hcs
  simp at hx
  exact ⟨[],Reads.nil _ _,rfl,Nat.le_refl _,Nat.zero_le _,by simp,Or.inl ⟨hx.1,rfl⟩⟩
 ·simp [Value.cells] at hcs
  obtain ⟨rfl,rfl,rfl⟩:=hcs
  simp at hx hz
  refine ⟨zs.take n,?_,by simp;omega,hl,hmx,fun z hz' => hwz z (List.mem_of_mem_take hz'),Or.inr ⟨_,_,hx.1,by simp [lits];omega⟩⟩
  intro h0
  simp at h0
  have hfirst:=hcell 0 (by omega)
  have hspot:ad.spot=none:=by simpa [Addr.add] using World.cell?_spot hfirst
  refine ⟨ad.block,ad.off,by cases ad;simp at hspot;simp [hspot],fun j u hu => ?_⟩
  have hj:j < zs.length:=by
   have:=(List.getElem?_eq_some_iff.1 hu).1
   simp at this;omega
  have hc:=hcell j hj
  rw [add_none hc] at hc
  rw [hc]
  rw [List.getElem?_map,List.getElem?_take] at hu
  split at hu
  ·simp [List.getElem?_eq_getElem hj] at hu
   simp [List.getD,List.getElem?_eq_getElem hj,hu]
  ·simp at hu
def Sized {H:Type} (P:Program) (t:TypeId) (d:DataW H):Prop:=∀ n∈d.weights P t,n≤140737488351232
theorem sized_of {ts:List TypeId} {ds:List (DataW H)} (h:(DataW.weightsEach P ts ds).all (·≤reachBytes)=true) {j:Nat} {t:TypeId} {d:DataW H} (ht:ts[j]?=some t) (hd:ds[j]?=some d):Sized P t d:=by
 intro n hn
 exact of_decide_eq_true (List.all_eq_true.1 h _ (DataW.weights_mem_each ht hd n hn))
end
end
section
open Go.RowKit
theorem mkHid {p:Prop} (h:p):Hid p:=h
theorem ret_int {k:IntKind} {a b:Int} (h:a=b):Ending.returned (Value.int k a)=.returned (.int k b):=by rw [h]
theorem Reads.keep {w w':World} {ao:Option Addr} {xs:List Value} (h:Reads w ao xs) (g:Chg [] w w'):Reads w' ao xs:=h.chg g (fun _ _ h => by simp at h)
theorem reads_lt {w:World} {ao:Option Addr} {xs:List Value} (g:Reads w ao xs) (j:Nat) (u:Value) (hu:xs[j]?=some u):∃ b o,ao=some ⟨b,o,none⟩∧w.cell? ⟨b,o+j,none⟩=some u∧b < w.heap.size:=by
 obtain ⟨b,o,e,hc⟩:=g (by cases xs <;> simp at hu ⊢)
 exact ⟨b,o,e,hc j u hu,block_lt_of_cell (hc j u hu)⟩
theorem Room.set {w:World} {B b o n c:Nat} {xs:List Value} (h:Room w B (some ⟨b,o,none⟩) n c xs) (i:Nat) (hi:i < n) (u:Value):Room (w.setCell ⟨b,o+i,none⟩ u) B (some ⟨b,o,none⟩) n c (xs.set i u):=by
 refine ⟨by rw [List.length_set];exact h.len,h.le,h.max,fun hc => ?_⟩
 obtain ⟨b',o',e,hB,hs,hv⟩:=h.at_ hc
 cases e
 have hle:=h.le
 refine ⟨b,o,rfl,hB,fun j hj => ?_,fun j v hj => ?_⟩
 ·refine ⟨?_,by rw [World.frozen?_setCell];exact (hs j hj).2⟩
  by_cases hji:j=i
  ·subst hji
   obtain ⟨v,hv⟩:=Option.isSome_iff_exists.1 (hs j hj).1
   rw [World.cell?_setCell_same _ _ _ hv];rfl
  ·rw [World.cell?_setCell_other _ _ _ _ (by simp)]
   exact (hs j hj).1
 ·by_cases hji:j=i
  ·subst hji
   obtain ⟨v',hv'⟩:=Option.isSome_iff_exists.1 (hs j (by omega)).1
   rw [World.cell?_setCell_same _ _ _ hv']
   have hl:=h.len
   rw [List.getElem?_set_self (by omega)] at hj
   exact hj
  ·rw [World.cell?_setCell_other _ _ _ _ (by simp)]
   rw [List.getElem?_set_ne (by omega)] at hj
   exact hv j v hj
theorem Room.cell {w:World} {B b o n c:Nat} {xs:List Value} (h:Room w B (some ⟨b,o,none⟩) n c xs) (i:Nat) (hi:i < n):w.frozen? ⟨b,o+i,none⟩=false:=by
 obtain ⟨b',o',e,hB,hs,hv⟩:=h.at_ (by have:=h.le;omega)
 cases e
 exact (hs i (by have:=h.le;omega)).2
theorem run_take_k {P:Program} {t e:TypeId} (ao:Option Addr) (n c m:Nat) (ht:P.underlying t=some (.slice e)) (hs:(P.info? e).map (·.size)=some 1) (hc:m≤c) (w:World) :
  (Instr.slice t (.slice ao n c) none (some (.int .i64 (m:Int))) none).run P w=.ok (.slice ao m c) w:=by
 have he:P.elem t=e:=by simp [Program.elem,ht]
 rw [run_slice_h w t ao n c (by rw [he];exact ht) .i64 (m:Int) (by omega) (by omega)]
 obtain ⟨i,hi,hi1⟩:=Option.map_eq_some_iff.1 hs
 cases ao <;> simp [sizeOf,typeInfo,he,hi,hi1,sliced,Addr.add]
def v8 (b:UInt8):Int:=(b.toNat:Int)
theorem bts_set (l:List UInt8) (i:Nat) (b:UInt8):(bts l).set i (.int .u8 (v8 b))=bts (l.set i b):=by simp [bts,v8]
end
section
open Go.RowKit
theorem eltB:Elt Tryz.prog 27 5 1:=Elt.mk (z:=.int .u8 0) Tryz.underlying27 (by kernel_rfl) (by kernel_rfl)
theorem hmk (n:Nat) (hn:n < 1000) (u:World):(Instr.makeSlice 27 (.int .i64 n) (.int .i64 n)).run Tryz.prog u=.ok (.slice (some ⟨u.heap.size,0,none⟩) n n) (u.alloc (.cells (madeCells #[.int .u8 0] n) 5)):=by
 obtain ⟨h1,i,z,h2,h3,h4,h5,h6⟩:=eltB
 have hz:z=.int .u8 0:=by
  have e:(Tryz.prog.info? 5).map (·.zero)=some (some (.int .u8 0)):=by kernel_rfl
  rw [h2] at e
  simp [h3] at e
  exact e
 have h:=run_make (P:=Tryz.prog) u 27 5 i z h1 h2 h3 .i64 .i64 n n (by omega) (by omega) (by rw [h5];omega) (by omega)
 rw [hz] at h
 simpa [h4,Value.cells] using h
end
section
open Go.RowKit
def v32 (x:BitVec 32):Int:=(x.toNat:Int)
theorem v32_inj {a b:BitVec 32}:v32 a=v32 b ↔ a=b:=by
 unfold v32
 rw [Int.natCast_inj]
 exact ⟨BitVec.eq_of_toNat_eq,fun h => by rw [h]⟩
theorem v32_lt (x:BitVec 32):0≤v32 x∧v32 x < 4294967296:=by
 have:=x.isLt
 unfold v32
 omega
theorem x32 (a b:BitVec 32):bits .xor .u32 (v32 a) (v32 b)=v32 (a ^^^ b):=by
 unfold v32
 rw [u32_xor_nat _ _ a.isLt b.isLt,BitVec.toNat_xor]
theorem a32 (a b:BitVec 32):bits .and .u32 (v32 a) (v32 b)=v32 (a &&& b):=by
 unfold v32
 rw [u32_and_nat _ _ a.isLt b.isLt,BitVec.toNat_and]
theorem n32 (a:BitVec 32):bits .xor .u32 4294967295 (v32 a)=v32 (~~~ a):=by
 have e:(4294967295:Int)=v32 (BitVec.allOnes 32):=by decide +kernel
 rw [e,x32,BitVec.xor_comm,BitVec.xor_allOnes]
theorem shr32 (a:BitVec 32) (k:Nat) (d:Int) (hd:d=(2 ^ k:Nat)):v32 a / d=v32 (a >>> k):=by
 subst hd
 unfold v32
 rw [BitVec.toNat_ushiftRight,Nat.shiftRight_eq_div_pow]
 exact (Int.natCast_ediv _ _).symm
theorem sub32 (a:BitVec 32):(v32 a - 1) % 4294967296=v32 (a - 1#32):=by
 unfold v32
 rw [BitVec.toNat_sub]
 have:=a.isLt
 simp only [BitVec.toNat_ofNat]
 omega
theorem and1 (x:BitVec 32):bits .and .u32 (v32 x) 1=if x.getLsbD 0 then 1 else 0:=by
 have e:(1:Int)=v32 1#32:=by decide +kernel
 conv => lhs;rw [e]
 rw [a32]
 unfold v32
 rw [BitVec.toNat_and,show (1#32).toNat=1 from rfl,Nat.and_one_is_mod]
 have:x.getLsbD 0=decide (x.toNat % 2=1):=by
  rw [BitVec.getLsbD,Nat.testBit_zero]
 rw [this]
 have:=Nat.mod_two_eq_zero_or_one x.toNat
 rcases this with h | h <;> simp [h]
theorem half32 (x:BitVec 32):v32 x / (2:Int)=v32 (x >>> 1):=shr32 x 1 2 rfl
theorem and255 (x:BitVec 32):bits .and .u32 (v32 x) 255=v32 (x &&& 255#32):=a32 x 255#32
theorem n32m (a:BitVec 32):bits .xor .u32 IntKind.u32.max (v32 a)=v32 (~~~ a):=n32 a
theorem mod32 (a:BitVec 32):v32 a % 4294967296=v32 a:=by have:=v32_lt a;omega
theorem conv32 (b:UInt8):(b.toNat:Int)=v32 (BitVec.ofNat 32 b.toNat):=by
 have:=b.toNat_lt
 unfold v32
 rw [BitVec.toNat_ofNat,Nat.mod_eq_of_lt (by omega)]
end
section
def pol:BitVec 32:=0x82f63b78#32
def bit (n:BitVec 32):BitVec 32:=(n >>> 1) ^^^ (if n.getLsbD 0 then pol else 0#32)
def it:Nat→BitVec 32→BitVec 32
 | 0,x => x
 | n+1,x => it n (bit x)
def tp (j:Nat):BitVec 32:=BitVec.twoPow 32 j
theorem bxor_eq {a b:BitVec 32} (h:∀ i,i < 32→a.getLsbD i=b.getLsbD i):a=b:=BitVec.eq_of_getLsbD_eq h
theorem bit_get (n:BitVec 32) (i:Nat) (hi:i < 32):(bit n).getLsbD i=(n.getLsbD (i+1) ^^ (n.getLsbD 0 && pol.getLsbD i)):=by
 unfold bit
 rw [BitVec.getLsbD_xor,BitVec.getLsbD_ushiftRight,Nat.add_comm]
 cases n.getLsbD 0 <;> simp
theorem bit_xor (a b:BitVec 32):bit (a ^^^ b)=bit a ^^^ bit b:=by
 refine bxor_eq fun i hi => ?_
 rw [BitVec.getLsbD_xor,bit_get _ _ hi,bit_get _ _ hi,bit_get _ _ hi,BitVec.getLsbD_xor,BitVec.getLsbD_xor]
 cases a.getLsbD (i+1) <;> cases b.getLsbD (i+1) <;> cases a.getLsbD 0 <;> cases b.getLsbD 0 <;> cases pol.getLsbD i <;> rfl
theorem it_xor:∀ (n:Nat) (a b:BitVec 32),it n (a ^^^ b)=it n a ^^^ it n b
 | 0,_,_ => rfl
 | n+1,a,b => by simp only [it,bit_xor];exact it_xor n _ _
theorem it_add (m:Nat):∀ (n:Nat) (x:BitVec 32),it (m+n) x=it m (it n x)
 | 0,_ => rfl
 | n+1,x => it_add m n (bit x)
theorem it_low:∀ (k:Nat) (x:BitVec 32),(∀ j,j < k→x.getLsbD j=false)→it k x=x >>> k
 | 0,x,_ => by simp [it]
 | k+1,x,h => by
  have hb:bit x=x >>> 1:=by unfold bit;rw [h 0 (by omega)];simp
  simp only [it,hb]
  rw [it_low k (x >>> 1) (fun j hj => by rw [BitVec.getLsbD_ushiftRight,Nat.add_comm];exact h (j+1) (by omega)),← BitVec.shiftRight_add,Nat.add_comm]
theorem it_byte (n:BitVec 32):it 8 n=(n >>> 8) ^^^ it 8 (n &&& 255#32):=by
 have h:n=(n &&& ~~~255#32) ^^^ (n &&& 255#32):=by
  refine bxor_eq fun i hi => ?_
  rw [BitVec.getLsbD_xor,BitVec.getLsbD_and,BitVec.getLsbD_and,BitVec.getLsbD_not]
  cases n.getLsbD i <;> cases (255#32).getLsbD i <;> simp [hi]
 have hl:∀ j,j < 8→(255#32).getLsbD j=true:=by decide +kernel
 have hh:∀ j,j < 32→8≤j→(255#32).getLsbD j=false:=by decide +kernel
 have h8:it 8 (n &&& ~~~255#32)=n >>> 8:=by
  rw [it_low 8 _ (fun j hj => by rw [BitVec.getLsbD_and,BitVec.getLsbD_not,hl j hj];simp)]
  refine bxor_eq fun i hi => ?_
  rw [BitVec.getLsbD_ushiftRight,BitVec.getLsbD_ushiftRight,BitVec.getLsbD_and,BitVec.getLsbD_not]
  by_cases hi2:8+i < 32
  ·rw [hh _ hi2 (by omega)];simp [hi2]
  ·rw [BitVec.getLsbD_of_ge n _ (by omega)];simp
 conv => lhs;rw [h]
 rw [it_xor,h8]
structure Lin (f:BitVec 32→BitVec 32):Prop where
 xor:∀ a b,f (a ^^^ b)=f a ^^^ f b
theorem Lin.zero {f:BitVec 32→BitVec 32} (h:Lin f):f 0#32=0#32:=by
 have:=h.xor 0#32 0#32
 rw [BitVec.xor_self,BitVec.xor_self] at this
 exact this
theorem Lin.it (n:Nat):Lin (it n):=⟨it_xor n⟩
def stp (s:BitVec 32) (b:UInt8):BitVec 32:=it 8 (s ^^^ BitVec.ofNat 32 b.toNat)
def raw (s:BitVec 32) (l:List UInt8):BitVec 32:=l.foldl stp s
def more (s:BitVec 32) (l:List UInt8):BitVec 32 := ~~~ raw (~~~ s) l
def csum (l:List UInt8):BitVec 32:=more 0#32 l
theorem raw_append (s:BitVec 32) (l m:List UInt8):raw s (l++m)=raw (raw s l) m:=List.foldl_append
structure Turned (b:List UInt8) (first:Nat) (i:Nat) (own:List UInt8) (M:BitVec 32):Prop where
 len:own.length=b.length
 low:∀ j,j < 32→i≤j→M.getLsbD j=false
 sum:raw (~~~ 0#32) own=raw (~~~ 0#32) b ^^^ it (8 * b.length - first) M
 same:M=0#32→own=b
def one:BitVec 32:=tp 31
theorem low_bit (x:BitVec 32) (h:x ≠ 0#32):∃ i,i=Lib.ctz 32 x.toNat∧i < 32∧x &&& (x - 1#32)=x ^^^ tp i∧(x ^^^ tp i).toNat < x.toNat:=by
 have hx:x.toNat ≠ 0:=fun e => h (BitVec.eq_of_toNat_eq (by simpa using e))
 have hlt:x.toNat < 2 ^ 32:=x.isLt
 have hc:Lib.ctz 32 x.toNat=Lib.ctzFrom 32 x.toNat:=by unfold Lib.ctz;rw [if_neg hx]
 obtain ⟨m,hm,hi⟩:=Lib.ctzFrom_spec 32 x.toNat (by omega) hlt
 rw [← hc] at hm hi
 obtain ⟨i,hi'⟩:∃ i,i=Lib.ctz 32 x.toNat:=⟨_,rfl⟩
 rw [← hi'] at hm hi
 have hp:0 < 2 ^ i:=Nat.pow_pos (by decide)
 have e1:x.toNat=2 ^ (i+1) * m+2 ^ i:=by rw [hm,Nat.pow_succ,Nat.mul_add,Nat.mul_one,← Nat.mul_assoc]
 have hps:2 ^ i < 2 ^ (i+1):=by rw [Nat.pow_succ];omega
 have etp:(tp i).toNat=2 ^ i:=by
  unfold tp
  rw [BitVec.toNat_twoPow,Nat.mod_eq_of_lt]
  exact Nat.pow_lt_pow_right (by decide) hi
 have e2:(x - 1#32).toNat=2 ^ (i+1) * m+(2 ^ i - 1):=by
  rw [BitVec.toNat_sub]
  simp only [BitVec.toNat_ofNat]
  omega
 have hxor:(x ^^^ tp i).toNat=2 ^ (i+1) * m:=by
  rw [BitVec.toNat_xor,etp,e1]
  refine Nat.eq_of_testBit_eq fun j => ?_
  rw [Nat.testBit_xor,Nat.testBit_two_pow_mul_add _ hps,Nat.testBit_two_pow_mul,Nat.testBit_two_pow]
  by_cases hj:j < i+1
  ·rw [if_pos hj]
   have:¬ (i+1≤j):=by omega
   simp [this]
  ·rw [if_neg hj]
   have h1:i+1≤j:=by omega
   have h2:¬ (i=j):=by omega
   simp [h1,h2]
 refine ⟨i,hi',hi,BitVec.eq_of_toNat_eq ?_,by rw [hxor,e1];omega⟩
 rw [hxor,BitVec.toNat_and,e2,e1]
 refine Nat.eq_of_testBit_eq fun j => ?_
 rw [Nat.testBit_and,Nat.testBit_two_pow_mul_add _ hps,Nat.testBit_two_pow_mul_add _ (by omega:2 ^ i - 1 < 2 ^ (i+1)),Nat.testBit_two_pow_mul]
 by_cases hj:j < i+1
 ·rw [if_pos hj,if_pos hj,Nat.testBit_two_pow,Nat.testBit_two_pow_sub_one]
  have:¬ (i+1≤j):=by omega
  simp [this]
  omega
 ·rw [if_neg hj,if_neg hj]
  have h1:i+1≤j:=by omega
  simp [h1]
end
section
open Go.RowKit
def arr (g:Nat→BitVec 32):Array Value:=((List.range 32).map fun j => Value.int .u32 (v32 (g j))).toArray
theorem arr_size (g:Nat→BitVec 32):(arr g).size=32:=by simp [arr]
theorem arr_one (g:Nat→BitVec 32):(arr g).all (·.oneCell')=true:=by
 rw [Array.all_eq_true_iff_forall_mem]
 intro x hx
 simp [arr] at hx
 obtain ⟨j,_,rfl⟩:=hx
 rfl
theorem arr_get (g:Nat→BitVec 32) (j:Nat) (h:j < 32):(arr g)[j]?=some (.int .u32 (v32 (g j))):=by
 simp [arr,h]
theorem arr_congr {g h:Nat→BitVec 32} (e:∀ j,j < 32→g j=h j):arr g=arr h:=by
 unfold arr
 congr 1
 refine List.map_congr_left fun j hj => ?_
 rw [e j (by simpa using hj)]
def upd (g:Nat→BitVec 32) (i:Nat) (x:BitVec 32):Nat→BitVec 32:=fun j => if j=i then x else g j
theorem arr_set (g:Nat→BitVec 32) (i:Nat) (x:BitVec 32) (h:i < 32):(arr g).set! i (.int .u32 (v32 x))=arr (upd g i x):=by
 apply Array.ext_getElem?
 intro j
 rw [Array.set!_eq_setIfInBounds,Array.getElem?_setIfInBounds]
 by_cases hj:i=j
 ·subst hj
  rw [if_pos rfl,arr_get _ _ h,if_pos (by rw [arr_size];exact h)]
  simp [upd]
 ·rw [if_neg hj]
  by_cases hj2:j < 32
  ·rw [arr_get _ _ hj2,arr_get _ _ hj2]
   simp [upd,Ne.symm hj]
  ·have:∀ g:Nat→BitVec 32,(arr g)[j]?=none:=fun g => Array.getElem?_eq_none (by rw [arr_size];omega)
   rw [this,this]
def Row (w:World) (b:Nat) (t:TypeId) (g:Nat→BitVec 32):Prop:=w.heap[b]?=some (.cells (arr g) t (0,0))
theorem Row.lt {w:World} {b:Nat} {t:TypeId} {g:Nat→BitVec 32} (h:Row w b t g):b < w.heap.size:=by
 rcases Nat.lt_or_ge b w.heap.size with h1 | h1
 ·exact h1
 ·unfold Row at h
  rw [Array.getElem?_eq_none h1] at h
  cases h
theorem Row.chg {S:List Nat} {w w':World} {b:Nat} {t:TypeId} {g:Nat→BitVec 32} (h:Row w b t g) (c:Chg S w w') (hn:b ∉ S):Row w' b t g:=by
 unfold Row
 rw [c.block b h.lt hn]
 exact h
theorem Row.cell {w:World} {b:Nat} {t:TypeId} {g:Nat→BitVec 32} (h:Row w b t g) (j:Nat) (hj:j < 32):w.cell? ⟨b,j,none⟩=some (.int .u32 (v32 (g j))):=by
 rw [cell_of_row w b j _ t _ h,arr_get g j hj]
theorem Row.frozen {w:World} {b:Nat} {t:TypeId} {g:Nat→BitVec 32} (h:Row w b t g) (j:Nat):w.frozen? ⟨b,j,none⟩=false:=frozen_of_row w b j _ t h
theorem Row.set {w:World} {b:Nat} {t:TypeId} {g:Nat→BitVec 32} (h:Row w b t g) (i:Nat) (x:BitVec 32) (hi:i < 32):Row (w.setCell ⟨b,i,none⟩ (.int .u32 (v32 x))) b t (upd g i x):=by
 have e:=arr_set g i x hi
 rw [Array.set!_eq_setIfInBounds] at e
 rw [setCell_eq_setRow w b i _ t (0,0) _ h]
 simp only [e]
 exact setRow_heap w b _ _ t (0,0) h
section
variable {P:Program} {ops:Array Oper} {rest:List Oper} {o:Oper} {a:Act} {w:World} {Q:Exit→Act→World→Prop}
def ArrT (P:Program) (t e:TypeId):Prop:=P.underlying t=some (.array 32 e)∧(P.info? t).map (fun i => (i.zero,i.size))=some (some (.agg (arr fun _ => 0#32)),32)
theorem ArrT.size {t e:TypeId} (h:ArrT P t e) (g:Nat→BitVec 32):(P.info? t).map (·.size)=some (arr g).size:=by
 rw [arr_size];exact (zero_of_info h.2).2
theorem wpList_alloc_arr (hg:o.guard=none) (t e:TypeId) (ho:o.op=.alloc t) (T:ArrT P t e)
  (hK:∀ w',Row w' w.heap.size t (fun _ => 0#32)→Chg [] w w'→w'.heap.size=w.heap.size+1→wpList P ops Q rest (a.put o.dst (.pointer (some ⟨w.heap.size,0,none⟩))) w'):wpList P ops Q (o :: rest) a w:=by
 refine wpList_plain hg fun K hK2 => ?_
 unfold Oper.wp execOp
 simp only [ho,Sem.run_bind,Instr.alloc,newVar,newRow,(zero_of_info T.2).1,run_newObj_alloc,Sem.run_pure,Result.andThen_ok,Value.cells]
 exact hK2 _ _ (hK (w.alloc (.cells (arr fun _ => 0#32) t)) (heap_alloc_last w _) (Chg.alloc [] w _) (by simp))
theorem wpList_box_arr (hg:o.guard=none) (t:TypeId) (x:Operand) (ho:o.op=.box t x) (g:Nat→BitVec 32) (hx:a.eval x=.agg (arr g))
  (hK:∀ w',Row w' w.heap.size t g→Chg [] w w'→w'.heap.size=w.heap.size+1→wpList P ops Q rest (a.put o.dst (.pointer (some ⟨w.heap.size,0,none⟩))) w'):wpList P ops Q (o :: rest) a w:=by
 refine wpList_plain hg fun K hK2 => ?_
 unfold Oper.wp execOp
 simp only [ho,hx,Sem.run_bind,Instr.box,newVar,newRow,run_newObj_alloc,Sem.run_pure,Result.andThen_ok,Value.cells]
 exact hK2 _ _ (hK (w.alloc (.cells (arr g) t)) (heap_alloc_last w _) (Chg.alloc [] w _) (by simp))
theorem wpList_load_arr (hgd:o.guard=none) (t e:TypeId) (x:Operand) (ho:o.op=.load t x) (T:ArrT P t e) (b:Nat) (g:Nat→BitVec 32) (h:Row w b t g) (hx:a.eval x=.pointer (some ⟨b,0,none⟩))
  (hK:wpList P ops Q rest (a.put o.dst (.agg (arr g))) w):wpList P ops Q (o :: rest) a w:=
 wpList_load_row hgd t x ho b hx t _ _ _ h T.1 rfl (T.size g) hK
theorem Chg.setRow (w:World) (b:Nat) (cs:Array Value):Chg [b] w (w.setRow b cs):=
 ⟨rfl,rfl,rfl,by simp,fun k _ hn => setRow_other w b k cs (by simpa using hn)⟩
theorem wpList_store_arr (hgd:o.guard=none) (t e:TypeId) (x y:Operand) (ho:o.op=.store t x y) (T:ArrT P t e) (b:Nat) (g g':Nat→BitVec 32) (h:Row w b t g) (hx:a.eval x=.pointer (some ⟨b,0,none⟩)) (hy:a.eval y=.agg (arr g'))
  (hK:∀ w',Row w' b t g'→Chg [b] w w'→wpList P ops Q rest (a.put o.dst undef) w'):wpList P ops Q (o :: rest) a w:=by
 refine wpList_plain hgd fun K hK2 => wp_store_row t x y ho b (arr g') hx hy t (arr g) h (T.size g') (by rw [arr_size,arr_size]) (arr_one g') (hK2 _ _ (hK _ ?_ (Chg.setRow w b _)))
 exact setRow_heap w b _ _ t (0,0) h
end
end
end Go.Proofs.YtdgkbicelnnfpaaGreatDoor
