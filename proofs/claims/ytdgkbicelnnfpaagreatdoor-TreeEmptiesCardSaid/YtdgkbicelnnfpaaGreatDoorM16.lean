/- Texts Ng, Nh, Rv, Nq of the library, joined. -/
import Derived.Test.YtdgkbicelnnfpaaGreatDoorM15
import Derived.OrdersHeld
import Derived.StillTail
import Derived.Tactics
import Derived.WalkKit
set_option linter.unusedVariables false
set_option linter.unusedSimpArgs false
namespace Go.Proofs.YtdgkbicelnnfpaaGreatDoor
section
open Go.RowKit
attribute [local go_sem ↓] Go.wp_at_zero Go.wp_at_succ
def NodeRes (B:Nat) (e:Ending) (w':World) (r:Int × Bool × List Nat × List Nat):Prop:=∃ ka kc va vc,e=.returned (.tuple #[.agg #[.bool r.2.1,.slice ka r.2.2.1.length kc,.slice va r.2.2.2.length vc],.int .i64 r.1])∧Room w' B ka r.2.2.1.length kc (uvs r.2.2.1)∧Room w' B va r.2.2.2.length vc (uvs r.2.2.2)∧∀ q,q∈fp ka kc→q ∉ fp va vc
theorem NodeRes.none (B:Nat) (w':World) (k:Int):NodeRes B (.returned (.tuple #[.agg #[.bool false,.slice none 0 0,.slice none 0 0],.int .i64 k])) w' (k,false,[],[]):=⟨Option.none,0,Option.none,0,rfl,Room.nil _ _ _,Room.nil _ _ _,fun q hq => by simp [fp_zero] at hq⟩
theorem takeN_cons (a:UInt8) (l:List UInt8):takeN (a :: l)=if a ≠ 0∧a ≠ 1 then (5,false,[],[]) else match l with
  | [] => (4,false,[],[])
  | b :: s => if b.toNat=0 ∨ 8 < b.toNat then (5,false,[],[]) else if (takeK b.toNat [] [] s).1=0 then (0,decide (a=1),(takeK b.toNat [] [] s).2) else ((takeK b.toNat [] [] s).1,false,[],[]):=by rfl
theorem takeK_zero (K V:List Nat) (l:List UInt8):takeK 0 K V l=if l.all (· == 0) then (0,K,V) else (5,[],[]):=by rw [takeK]
theorem takeK_succ (c:Nat) (K V:List Nat) (l:List UInt8):takeK (c+1) K V l=if l.length < 8 then (4,[],[]) else if lowK K (val (l.take 8)) then (5,[],[]) else takeV c (K++[val (l.take 8)]) V (l.drop 8):=by rw [takeK]
theorem takeV_eq (c:Nat) (K V:List Nat) (l:List UInt8):takeV c K V l=if l.length < 8 then (4,[],[]) else if val (l.take 8)=0 then (5,[],[]) else takeK c K (V++[val (l.take 8)]) (l.drop 8):=by rw [takeV]
end
section
open Go.RowKit
structure NBlk (w:World) (R nb B:Nat) (lf:Bool) (ka:Option Addr) (kc:Nat) (va:Option Addr) (vc:Nat) (K V:List Nat):Prop where
 c0:w.cell? ⟨nb,0,none⟩=some (.bool lf)
 c1:w.cell? ⟨nb,1,none⟩=some (.slice ka K.length kc)
 c2:w.cell? ⟨nb,2,none⟩=some (.slice va V.length vc)
 f1:w.frozen? ⟨nb,1,none⟩=false
 f2:w.frozen? ⟨nb,2,none⟩=false
 rk:Room w B ka K.length kc (uvs K)
 rv:Room w B va V.length vc (uvs V)
 dj:∀ q,q∈fp ka kc→q ∉ fp va vc
 th:w.there R 0 3
 hR:R < B
 hn:nb < B
 ne:R ≠ nb
 hB:B≤w.heap.size
theorem setN_other {w:World} {b i j:Nat} {u v:Value} (h:w.cell? ⟨b,j,none⟩=some v) (hne:j ≠ i):(w.setCell ⟨b,i,none⟩ u).cell? ⟨b,j,none⟩=some v:=by
 rw [World.cell?_setCell_other _ _ _ _ (by simp [hne])]
 exact h
theorem NBlk.key {w w3:World} {R nb B:Nat} {lf:Bool} {ka:Option Addr} {kc:Nat} {va:Option Addr} {vc:Nat} {K V:List Nat} (h:NBlk w R nb B lf ka kc va vc K V) {x:Nat} {a':Option Addr} {c':Nat} (r:Room w3 B a' (K.length+1) c' (uvs K++[.int .u64 (x:Int)])) (g:Chg (fp ka kc) w w3) (hf:fp a' c'=fp ka kc ∨ ∃ k,w.heap.size≤k∧fp a' c'=[k]) :
  NBlk (w3.setCell ⟨nb,1,none⟩ (.slice a' (K.length+1) c')) R nb B lf a' c' va vc (K++[x]) V:=by
 have g4:Chg [nb] w3 (w3.setCell ⟨nb,1,none⟩ (.slice a' (K.length+1) c')):=Chg.setCell w3 ⟨nb,1,none⟩ _
 have d1:nb ∉ fp ka kc:=fun hm => by have:=(h.rk.lt nb hm).1;have:=h.hn;omega
 have d2:R ∉ fp ka kc:=fun hm => by have:=(h.rk.lt R hm).1;have:=h.hR;omega
 have d3:nb ∉ fp a' c':=fun hm => by have:=(r.lt nb hm).1;have:=h.hn;omega
 have d4:nb ∉ fp va vc:=fun hm => by have:=(h.rv.lt nb hm).1;have:=h.hn;omega
 have e:(K++[x]).length=K.length+1:=by simp
 have eu:uvs (K++[x])=uvs K++[.int .u64 (x:Int)]:=by rw [uvs_append];rfl
 refine ⟨setN_other (g.cellv h.c0 d1) (by decide),?_,setN_other (g.cellv h.c2 d1) (by decide),?_,?_,?_,?_,?_,there_chg (there_chg h.th g d2) g4 (by simpa using h.ne),h.hR,h.hn,h.ne,Nat.le_trans h.hB (Nat.le_trans g.size g4.size)⟩
 ·rw [e];exact World.cell?_setCell_same _ _ _ (g.cellv h.c1 d1)
 ·rw [World.frozen?_setCell];exact (g.frozen (p:=⟨nb,1,none⟩) (block_lt_of_cell h.c1) d1).trans h.f1
 ·rw [World.frozen?_setCell];exact (g.frozen (p:=⟨nb,2,none⟩) (block_lt_of_cell h.c2) d1).trans h.f2
 ·rw [e,eu];exact r.chg g4 (fun k hk hm => by simp at hm;subst hm;exact d3 hk)
 ·exact (h.rv.chg g (fun k hk hm => h.dj k hm hk)).chg g4 (fun k hk hm => by simp at hm;subst hm;exact d4 hk)
 ·intro q hq
  rcases hf with e1 | ⟨k,h1,e1⟩
  ·rw [e1] at hq;exact h.dj q hq
  ·rw [e1] at hq;simp at hq;subst hq
   exact fun hm => by have:=(h.rv.lt _ hm).2;omega
theorem NBlk.value {w w3:World} {R nb B:Nat} {lf:Bool} {ka:Option Addr} {kc:Nat} {va:Option Addr} {vc:Nat} {K V:List Nat} (h:NBlk w R nb B lf ka kc va vc K V) {x:Nat} {a':Option Addr} {c':Nat} (r:Room w3 B a' (V.length+1) c' (uvs V++[.int .u64 (x:Int)])) (g:Chg (fp va vc) w w3) (hf:fp a' c'=fp va vc ∨ ∃ k,w.heap.size≤k∧fp a' c'=[k]) :
  NBlk (w3.setCell ⟨nb,2,none⟩ (.slice a' (V.length+1) c')) R nb B lf ka kc a' c' K (V++[x]):=by
 have g4:Chg [nb] w3 (w3.setCell ⟨nb,2,none⟩ (.slice a' (V.length+1) c')):=Chg.setCell w3 ⟨nb,2,none⟩ _
 have d1:nb ∉ fp va vc:=fun hm => by have:=(h.rv.lt nb hm).1;have:=h.hn;omega
 have d2:R ∉ fp va vc:=fun hm => by have:=(h.rv.lt R hm).1;have:=h.hR;omega
 have d3:nb ∉ fp a' c':=fun hm => by have:=(r.lt nb hm).1;have:=h.hn;omega
 have d4:nb ∉ fp ka kc:=fun hm => by have:=(h.rk.lt nb hm).1;have:=h.hn;omega
 have e:(V++[x]).length=V.length+1:=by simp
 have eu:uvs (V++[x])=uvs V++[.int .u64 (x:Int)]:=by rw [uvs_append];rfl
 refine ⟨setN_other (g.cellv h.c0 d1) (by decide),setN_other (g.cellv h.c1 d1) (by decide),?_,?_,?_,?_,?_,?_,there_chg (there_chg h.th g d2) g4 (by simpa using h.ne),h.hR,h.hn,h.ne,Nat.le_trans h.hB (Nat.le_trans g.size g4.size)⟩
 ·rw [e];exact World.cell?_setCell_same _ _ _ (g.cellv h.c2 d1)
 ·rw [World.frozen?_setCell];exact (g.frozen (p:=⟨nb,1,none⟩) (block_lt_of_cell h.c1) d1).trans h.f1
 ·rw [World.frozen?_setCell];exact (g.frozen (p:=⟨nb,2,none⟩) (block_lt_of_cell h.c2) d1).trans h.f2
 ·exact (h.rk.chg g (fun k hk hm => h.dj k hk hm)).chg g4 (fun k hk hm => by simp at hm;subst hm;exact d4 hk)
 ·rw [e,eu];exact r.chg g4 (fun k hk hm => by simp at hm;subst hm;exact d3 hk)
 ·intro q hq
  rcases hf with e1 | ⟨k,h1,e1⟩
  ·rw [e1];exact h.dj q hq
  ·rw [e1];simp
   exact fun hm => by have:=(h.rk.lt _ hq).2;omega
end
section
open Go.RowKit
section
variable {P:Program} {ops:Array Oper} {Q:Exit→Act→World→Prop} {md:Region.Mode} {S:World→Prop} {m:Nat}
def Whichever (P:Program) (md:Region.Mode) (ops:Array Oper) (Q:Exit→Act→World→Prop) (S:World→Prop) (m:Nat):Nat→Array Bool→Act→World→Prop
 | 0,done,a,w => Region.ready md ops done=[]∧Q .normal a w
 | n+1,done,a,w => (Region.ready md ops done=[]→Q .normal a w)∧∀ i∈Region.ready md ops done,
   wpOp P ops Q i (fun b u => (i < m→S u)∧Whichever P md ops Q S m n (done.setIfInBounds i true) b u) a w
theorem Whichever.any:∀ (n:Nat) (done:Array Bool) (a:Act) (w:World),Whichever P md ops Q S m n done a w→wpAny P md ops Q n done a w
 | 0,_,_,_,h => h
 | n+1,_,_,_,h => ⟨h.1,fun i hi => wpOp_mono (fun b u k => Whichever.any n _ b u k.2) (h.2 i hi)⟩
theorem still_ready {i j:Nat} {oj:Oper} {done:Array Bool} (hi:i∈Region.ready md ops done) (hj:j∈Region.ready md ops done) (hoj:ops[j]?=some oj):∀ e∈oj.after,Region.binds md e=true→e.on ≠ i:=by
 intro e he hb heq
 have hun:=(mem_ready.1 hi).1
 obtain ⟨_,o',ho',hall⟩:=mem_ready.1 hj
 cases Option.some.inj (hoj.symm.trans ho')
 have h1:=hall e he hb
 rw [heq,getD_both hun] at h1
 cases h1
theorem Whichever.first {i:Nat} {oi:Oper} {v:Value} (hi:ops[i]?=some oi) (him:i < m) (hm:ops.size=m+1) (hs:Region.sinkB md ops m=true) (hc:Region.chainB md ops m=true) (hsel:∀ (j:Nat) (o:Oper) cs b,ops[j]?=some o→o.op ≠ .select cs b)
  (hQ:∀ c a w,Q (.panic c) (a.put oi.dst v) w→Q (.panic c) a w):∀ (n:Nat) (done:Array Bool) (a:Act) (w:World),HeadInv md ops m done →
   (∀ j oj,ops[j]?=some oj→j ≠ i→done.getD j true=false→(∀ e∈oj.after,Region.binds md e=true→e.on ≠ i)→oi.apart ops oj=true) →
   i∈Region.ready md ops done→YieldsIf P ops S oi v a→S w→Whichever P md ops Q S m n (done.setIfInBounds i true) (a.put oi.dst v) w→Whichever P md ops Q S m (n+1) done a w:=by
 intro n
 induction n with
 | zero =>
  intro done a w _ _ hr hy hS H
  refine ⟨fun h => absurd hr (by rw [h];simp),fun j hj => ?_⟩
  by_cases hji:j=i
  ·subst hji
   exact hy.wpOp hi hS ⟨fun _ => hS,H⟩
  ·exact absurd (ready_mono hj hji) (by rw [H.1];simp)
 | succ n ih =>
  intro done a w inv hfree hr hy hS H
  refine ⟨fun h => absurd hr (by rw [h];simp),fun j hj => ?_⟩
  by_cases hji:j=i
  ·subst hji
   exact hy.wpOp hi hS ⟨fun _ => hS,H⟩
  ·obtain ⟨hjun,oj,hoj,_⟩:=mem_ready.1 hj
   have hjs:j < ops.size:=(Array.getElem?_eq_some_iff.1 hoj).1
   have hjm:j < m:=by
    rcases Nat.lt_or_ge j m with h | h
    ·exact h
    ·exact absurd hj (tail_waits hs hc (by omega) inv (m - i) i rfl him (mem_ready.1 hr).1 j h)
   have h2:=wpOp_putIf hoj (hfree j oj hoj hji hjun (still_ready hr hj hoj)) (fun cs b => hsel i oi cs b hi) (fun cs b => hsel j oj cs b hoj) hQ hy (H.2 j (ready_mono hj hji))
   have hfree':∀ k ok,ops[k]?=some ok→k ≠ i→(done.setIfInBounds j true).getD k true=false→(∀ e∈ok.after,Region.binds md e=true→e.on ≠ i)→oi.apart ops ok=true:=fun k ok hk hki hun hno => by
    refine hfree k ok hk hki ?_ hno
    by_cases hjk:j=k
    ·rw [← hjk];exact hjun
    ·rwa [getD_set_ne true hjk] at hun
   refine wpOp_mono (fun b u k => ⟨fun _ => k.2.1 hjm,ih (done.setIfInBounds j true) b u (inv.set hj hjm) hfree' (ready_mono hr (Ne.symm hji)) k.1 (k.2.1 hjm) ?_⟩) h2
   rw [Array.setIfInBounds_comm _ _ hji]
   exact k.2.2
def Walks (P:Program) (md:Region.Mode) (ops:Array Oper) (Q:Exit→Act→World→Prop) (S:World→Prop) (m n:Nat) (done:Array Bool) (a:Act) (w:World):Prop:=
 HeadInv md ops m done→Whichever P md ops Q S m n done a w
theorem walks_take {n:Nat} {done:Array Bool} {a:Act} {w:World} (i:Nat) {oi:Oper} {v:Value} (hi:ops[i]?=some oi) (hB:(decide (i < m) && decide (ops.size=m+1) && Region.sinkB md ops m && Region.chainB md ops m && Region.noSelect ops && Region.free md ops done i && (Region.ready md ops done).contains i)=true)
  (hQ:∀ c a w,Q (.panic c) (a.put oi.dst v) w→Q (.panic c) a w) (hy:YieldsIf P ops S oi v a) (hS:S w)
  (h:Walks P md ops Q S m n (done.setIfInBounds i true) (a.put oi.dst v) w):Walks P md ops Q S m (n+1) done a w:=fun inv => by
 simp only [Bool.and_eq_true,decide_eq_true_eq] at hB
 obtain ⟨⟨⟨⟨⟨⟨him,hm⟩,hs⟩,hc⟩,hsel⟩,hf⟩,hr⟩:=hB
 have hr':i∈Region.ready md ops done:=by simpa using hr
 exact Whichever.first hi him hm hs hc (Region.noSelect_spec hsel) hQ n done a w inv (Region.free_spec hi hf) hr' hy hS (h (inv.set hr' him))
theorem walks_one {n:Nat} {done:Array Bool} {a:Act} {w:World} (i:Nat) {o:Oper} (hi:ops[i]?=some o) (him:i < m) (hr:Region.ready md ops done=[i])
  (h:∀ K:Act→World→Prop,Hid (∀ b u,S u→Walks P md ops Q S m n (done.setIfInBounds i true) b u→K b u)→if Region.wanted o (yielded ops a.tmps)=true then Oper.wp P o a w K Q else K (a.put o.dst undef) w):Walks P md ops Q S m (n+1) done a w:=fun inv => by
 refine ⟨fun h0 => absurd h0 (by rw [hr];simp),fun j hj => ?_⟩
 rw [hr] at hj
 obtain rfl:j=i:=by simpa using hj
 have inv':=inv.set (i:=j) (by rw [hr];simp) him
 have h1:=h (fun b u => (j < m→S u)∧Whichever P md ops Q S m n (done.setIfInBounds j true) b u) (fun b u hS hW => ⟨fun _ => hS,hW inv'⟩)
 unfold wpOp
 simp only [hi]
 by_cases hw:Region.wanted o (yielded ops a.tmps)=true
 ·rw [if_pos hw] at h1 ⊢
  exact Or.inl h1
 ·rw [if_neg hw] at h1 ⊢
  exact h1
theorem walks_last {n:Nat} {done:Array Bool} {a:Act} {w:World} (i:Nat) {o:Oper} (hi:ops[i]?=some o) (hr:Region.ready md ops done=[i]) (hr2:Region.ready md ops (done.setIfInBounds i true)=[]) (him:m≤i)
  (h:∀ K:Act→World→Prop,Hid (∀ b u,Q .normal b u→K b u)→if Region.wanted o (yielded ops a.tmps)=true then Oper.wp P o a w K Q else K (a.put o.dst undef) w):Walks P md ops Q S m (n+1) done a w:=fun inv => by
 refine ⟨fun h0 => absurd h0 (by rw [hr];simp),fun j hj => ?_⟩
 rw [hr] at hj
 obtain rfl:j=i:=by simpa using hj
 have fin:∀ n b u,Q .normal b u→Whichever P md ops Q S m n (done.setIfInBounds j true) b u:=fun n b u hq => by
  cases n with
  | zero => exact ⟨hr2,hq⟩
  | succ n => exact ⟨fun _ => hq,by rw [hr2];simp⟩
 have h1:=h (fun b u => (j < m→S u)∧Whichever P md ops Q S m n (done.setIfInBounds j true) b u) (fun b u hq => ⟨fun h => by omega,fin n b u hq⟩)
 unfold wpOp
 simp only [hi]
 by_cases hw:Region.wanted o (yielded ops a.tmps)=true
 ·rw [if_pos hw] at h1 ⊢
  exact Or.inl h1
 ·rw [if_neg hw] at h1 ⊢
  exact h1
theorem walks_begin {id:Nat} {a:Act} {w:World} (S:World→Prop) (m:Nat) (hm:P.follows .mixedOrders=true) (hz:ops.size=m+1)
  (h:Walks P .any ops Q S m (m+1) (Array.replicate (m+1) false) a w.drew):(Code.region id ops true).wp P Q a w:=by
 refine wp_region_any hm ?_
 rw [hz]
 exact Whichever.any _ _ _ _ (h ⟨by simp [hz],fun j oj _ hl => (by rw [getD_replicate_false] at hl;cases hl),fun t _ ht => getD_in (by simp;omega) (getD_replicate_false _ _)⟩)
end
end
section
open Go.RowKit
attribute [local go_sem ↓] Go.wp_at_zero Go.wp_at_succ
theorem step_append_2 {P:Program} {ops:Array Oper} {o:Oper} {a:Act} {w:World} {K:Act→World→Prop} {Q:Exit→Act→World→Prop} {E:Prop}
  (hg:o.guard=none) (s x:Operand) (t:TypeId) (ho:o.op=.call { callee:=.builtin .append,args:=#[s,x],argTypes:=#[t,t] })
  (e:TypeId) (bytes:Nat) (helt:Elt P t e bytes)
  (B:Nat) (ao:Option Addr) (n c:Nat) (xs:List Value) (hs:a.eval s=.slice ao n c) (h:Room w B ao n c xs) (hB:B≤w.heap.size)
  (u:Value) (cx:Nat) (hxe:a.eval x=.slice (some ⟨w.heap.size,0,none⟩) 1 cx) (hone:u.oneCell'=true)
  (h63:n+1≤maxLen) (hbytes:(n+1) * bytes≤140737488355328)
  (hK:∀ ao' c' w',Room w' B ao' (n+1) c' (xs++[u])→Chg (fp ao c) w w'→(fp ao' c'=fp ao c ∨ fp ao' c'=[w.heap.size+1])→K (a.put o.dst (.slice ao' (n+1) c')) w') :
  if Region.wanted o (yielded ops a.tmps)=true then Oper.wp P o a (w.alloc (.cells #[u] e)) K Q else E:=by
 have hw:Region.wanted o (yielded ops a.tmps)=true:=by simp [Region.wanted,hg]
 rw [if_pos hw]
 obtain ⟨ao',c',w',hr,h2,h3,h4⟩:=run_append_k (P:=P) (w.alloc (.cells #[u] e)) t o.type e bytes helt B ao n c xs (h.chg (Chg.alloc [] w _) (by simp)) (by simp;omega) (some ⟨w.heap.size,0,none⟩) 1 cx [u] (Reads.new w #[u] e) rfl (by simpa using hone) h63 hbytes
 unfold Oper.wp execOp
 simp only [ho,resolve,invoke,builtin,Sem.run_bind,Sem.run_pure,Result.andThen_ok,List.map_toArray,List.map_cons,List.map_nil,hs,hxe,hr]
 exact hK _ _ _ h2 ((Chg.alloc [] w _).trans h3 (by simp) (fun k h _ => h)) (by simpa using h4)
theorem NBlk.keepS {w w':World} {R nb B:Nat} {lf:Bool} {ka:Option Addr} {kc:Nat} {va:Option Addr} {vc:Nat} {K V:List Nat} {S:List Nat} (h:NBlk w R nb B lf ka kc va vc K V) (g:Chg S w w') (h1:nb ∉ S) (h2:R ∉ S) (h3:∀ k,k∈S→k < B):NBlk w' R nb B lf ka kc va vc K V:=
 ⟨g.cellv h.c0 h1,g.cellv h.c1 h1,g.cellv h.c2 h1,(g.frozen (p:=⟨nb,1,none⟩) (block_lt_of_cell h.c1) h1).trans h.f1,(g.frozen (p:=⟨nb,2,none⟩) (block_lt_of_cell h.c2) h1).trans h.f2,h.rk.chg g (fun k hk hm => by have:=(h.rk.lt k hk).1;have:=h3 k hm;omega),h.rv.chg g (fun k hk hm => by have:=(h.rv.lt k hk).1;have:=h3 k hm;omega),h.dj,there_chg h.th g h2,h.hR,h.hn,h.ne,Nat.le_trans h.hB g.size⟩
theorem start_there (w:World):(w.alloc (.cells #[.bool false,.slice none 0 0,.slice none 0 0] 53)).there w.heap.size 0 3:=fun j hj => by
 refine ⟨?_,frozen_of_row _ _ _ _ _ (heap_alloc_last w _)⟩
 rw [cell_of_row _ _ _ _ _ _ (heap_alloc_last w _)]
 match j,hj with
 | 0,_ => rfl
 | 1,_ => rfl
 | 2,_ => rfl
theorem start_node2 (w:World) (lf:Bool) (R:Nat) (hR:w.heap.size=R+1) (th:w.there R 0 3):NBlk (w.alloc (.cells #[.bool lf,.slice none 0 0,.slice none 0 0] 53)) R (R+1) (R+2) lf none 0 none 0 [] []:=by
 have hl:=heap_alloc_last w (.cells #[.bool lf,.slice none 0 0,.slice none 0 0] 53)
 rw [hR] at hl
 have hc:=fun j => cell_of_row _ (R+1) j _ _ _ hl
 have hf:=fun j => frozen_of_row _ (R+1) j _ _ hl
 refine ⟨by rw [hc];rfl,by rw [hc];rfl,by rw [hc];rfl,hf 1,hf 2,Room.nil _ _ _,Room.nil _ _ _,fun q hq => by simp [fp_zero] at hq,there_chg th (Chg.alloc [] _ _) (by simp),by omega,by omega,by omega,by simp;omega⟩
set_option maxRecDepth 20000 in
set_option maxHeartbeats 1000000 in
theorem taken_any (w:World) (rb:Nat) (ao:Option Addr) (n c:Nat) (l:List UInt8) (h:Rdr w rb ao n c l 0) :
  Calls Tryz.prog 97 #[.func (.func 98) #[.pointer (some ⟨rb,0,none⟩)] #[]] w fun e w' => ∃ (lf:Bool) (K V:List Nat) (ka va:Option Addr) (kc vc:Nat) (ao':Option Addr) (n' c':Nat) (l':List UInt8) (er:Int),
   e=.returned (.agg #[.bool lf,.slice ka K.length kc,.slice va V.length vc])∧Room w' w.heap.size ka K.length kc (uvs K)∧Room w' w.heap.size va V.length vc (uvs V)∧(∀ q,q∈fp ka kc→q ∉ fp va vc)∧Rdr w' rb ao' n' c' l' er∧Chg [rb] w w' ∧
   ((er=0→takeN l=if l'.all (· == 0) then (0,lf,K,V) else (5,false,[],[]))∧(er ≠ 0→takeN l=(er,false,[],[]))):=by
 have hrb:rb < w.heap.size:=block_lt_of_cell h.c0
 have hold:0 < n→∀ k,k∈blk ao→k < w.heap.size:=fun hp => h.rd.lt (by rw [bts_length,h.ln];exact hp)
 have g0:=Chg.alloc [] w (.cells #[.bool false,.slice none 0 0,.slice none 0 0] 53)
 have t0:=start_there w
 have h0:=h.keep g0 (by simp) (by simp)
 have hz0:(w.alloc (.cells #[.bool false,.slice none 0 0,.slice none 0 0] 53)).heap.size=w.heap.size+1:=by simp
 have HZ:=mkHid hz0
 have HO:=mkHid hold
 clear hz0 hold h
 go_enter Tryz.func97,Tryz.ntmps97
 go_wp2_with fail
 generalize w.alloc (.cells #[.bool false,.slice none 0 0,.slice none 0 0] 53)=w1 at *
 obtain ⟨x,la,ea,ha⟩:∃ x la ea,numN knownB 1 l 0=(x,la,ea):=⟨_,_,_,rfl⟩
 have cN:=number_known h0 1 (by omega) (by omega)
 rw [ha] at cN
 have HA:=mkHid ha
 clear ha
 go_at_call 98
 refine cN.mono ?_
 rintro e w2 ⟨ao2,n2,c2,rfl,h2,g2,hz2,hb2,hn2,hk2⟩
 dsimp only at h2 hb2
 have g02:=g0.trans g2 (T:=[rb]) (U:=[rb]) (by simp) (fun _ h _ => h)
 have hz2':w2.heap.size=w.heap.size+1:=by rw [hz2,HZ.out]
 have t2:=there_chg t0 g2 (by simp;omega)
 have kk:=kind_true w2
 obtain ⟨lf,hlf⟩:∃ lf,((x:Int) == 1)=lf:=⟨_,rfl⟩
 have hlf2:decide (x=1)=lf:=by rw [← hlf,Bool.eq_iff_iff];simp;omega
 have HL:=mkHid hlf2
 have h2':=h2.keep (Chg.alloc [] w2 (.cells #[.bool lf,.slice none 0 0,.slice none 0 0] 53)) (by simp) (by simp)
 have N0:=start_node2 w2 lf w.heap.size hz2' t2
 have G3:=g02.trans (Chg.alloc [] w2 (.cells #[.bool lf,.slice none 0 0,.slice none 0 0] 53)) (T:=[]) (U:=[rb]) (fun _ h _ => h) (by simp)
 have HK:=mkHid (And.intro hn2 hk2)
 clear hn2 hk2 hlf2 h2 t2 t0 h0 g0 g2 g02 hz2 hb2 cN
 have HZ2:=mkHid hz2'
 clear hz2'
 go_wp2_with (first | (go_at_call 87;refine kk.mono ?_;rintro e w' ⟨rfl,rfl⟩))
 clear hlf kk
 obtain ⟨R,hRR⟩:∃ R,w.heap.size=R:=⟨_,rfl⟩
 obtain ⟨nb,hnb⟩:∃ b,w2.heap.size=b:=⟨_,rfl⟩
 obtain ⟨B,hBB⟩:∃ b,R+2=b:=⟨_,rfl⟩
 have hRn:R+1=nb:=by rw [← hnb,HZ2.out,hRR]
 rw [hRR,hRn,hBB] at N0
 rw [hRR,hnb]
 rw [hRR] at hrb
 have HO2:=mkHid (show 0 < n→∀ k,k∈blk ao→k < R from by have:=HO.out;rwa [hRR] at this)
 clear HO
 have HO:=HO2
 clear HO2
 have HB:=mkHid (show R+1=nb∧R+2=B∧w.heap.size=R∧rb < R from ⟨hRn,hBB,hRR,hrb⟩)
 clear hRR hRn hnb hBB HZ2 HZ
 generalize w2.alloc (.cells #[.bool lf,.slice none 0 0,.slice none 0 0] 53)=w3 at *
 obtain ⟨y,lb,eb,hb⟩:∃ y lb eb,numN fewB 1 la ea=(y,lb,eb):=⟨_,_,_,rfl⟩
 have cF:=number_few h2' 1 (by omega) (by omega)
 rw [hb] at cF
 have hy8:y≤8∧(eb ≠ 0→y=0):=by
  by_cases h0:eb=0
  ·exact ⟨(marks_yes HA.out hb h0).2,fun h => absurd h0 h⟩
  ·have:=(marks_no HA.out hb h0).2
   exact ⟨by dsimp only at this;omega,fun _ => this⟩
 obtain ⟨hy,hy0⟩:=hy8
 have HY:=mkHid (And.intro hb hy0)
 clear hb hy0
 refine cF.mono ?_
 rintro e w4 ⟨a4,n4,c4,rfl,h4,g4,hz4,hb4,hn4,hk4⟩
 dsimp only at h4 hb4
 have N4:=N0.keepS g4 (by simp;have:=HB.out;omega) (by simp;have:=HB.out;omega) (by simp;have:=HB.out;omega)
 have G4:=G3.trans g4 (fun _ h _ => h) (fun _ h _ => h) (U:=[rb])
 have hn4':n4≤n:=Nat.le_trans hn4 HK.out.1
 have hk4':blk a4=blk ao:=hk4.trans HK.out.2
 clear hn4 hk4 HK g4 G3 N0 h2' hz4 cF
 go_wp2_with fail
 go_loopw [13] (fun iv wr => ∃ (k:Nat) (K V:List Nat) (ka va:Option Addr) (kc vc:Nat) (a3:Option Addr) (n3 c3:Nat) (l3:List UInt8) (e3:Int),iv=.int .u64 k∧k≤y∧K.length=k∧V.length=k∧NBlk wr R nb B lf ka kc va vc K V∧Rdr wr rb a3 n3 c3 l3 e3∧n3≤n∧blk a3=blk ao∧(eb=0→Stands (y - k) K V l3 e3 (takeK y [] [] lb))∧(eb ≠ 0→e3=eb)∧Chg [rb] w wr) (fun iv _ => y - (Go.RowKit.intOf iv).toNat)
 case atStart => exact ⟨0,[],[],none,none,0,0,a4,n4,c4,lb,eb,rfl,Nat.zero_le _,rfl,rfl,N4,h4,hn4',hk4',fun he => ⟨fun _ => by rw [Nat.sub_zero],fun hne => absurd he hne⟩,fun _ => rfl,G4⟩
 case round =>
  clear N4 h4 hn4' hk4' G4
  obtain ⟨k,K,V,ka,va,kc,vc,a3,n3,c3,l3,e3,rfl,hky,hKl,hVl,hN,hR3,hn3,hb3,hS,hE,hg⟩:=hrel
  have HLV:=mkHid (show K.length≤8∧V.length≤8∧K.length=k∧V.length=k from by omega)
  have hK1:K.length+1≤maxLen∧(K.length+1) * 8≤140737488355328:=by unfold maxLen;omega
  have HN3:=mkHid (And.intro hn3 hb3)
  have HE:=mkHid hE
  clear hKl hVl hn3 hb3 hE
  by_cases hlt:k < y
  ·have hd1:decide (k < y)=true:=decide_eq_true hlt
   have hd2:decide ((k:Int) < (y:Int))=true:=decide_eq_true (by omega)
   have he0:eb=0:=Decidable.byContradiction fun h => by have:=HY.out.2 h;omega
   have hS1:=hS he0
   have HE0:=mkHid he0
   have hyk:y - k=(y - (k+1))+1:=by omega
   rw [hyk] at hS1
   have HS:=mkHid hS1
   clear hS he0 hS1 hyk
   obtain ⟨x1,l4,e4,hx1⟩:∃ x l e,numN (fun x => !lowK K x) 8 l3 e3=(x,l,e):=⟨_,_,_,rfl⟩
   have cA:=number_above (hR3.keep (Chg.drew [] wr) (by simp) (by simp)) 8 (by omega) (by omega) (hN.keepS (Chg.drew [] wr) (by simp) (by simp) (by simp)).c1 (hN.rk.reads.keep (Chg.drew [] wr)) rfl hN.rk.le hN.rk.max
   rw [hx1] at cA
   have HX1:=mkHid hx1
   have ND:=mkHid (hN.keepS (Chg.drew [] wr) (by simp) (by simp) (by simp))
   clear hx1 hR3
   go_wp2_with fail
   refine walks_begin (fun u => u.cell? ⟨nb,1,none⟩=some (.slice ka K.length kc)) 8 (by kernel_rfl) (by kernel_rfl) ?_
   have hS0:(fun u:World => u.cell? ⟨nb,1,none⟩=some (.slice ka K.length kc)) wr.drew:=(hN.keepS (Chg.drew [] wr) (by simp) (by simp) (by simp)).c1
   refine walks_take 0 (oi:={ dst:=some 15,op:=_,type:=_,pos:=_,after:=_,guard:=none }) (v:=?_) rfl (by kernel_rfl) (fun _ _ _ h => h) (Or.inl ⟨by rfl,?_⟩) (by assumption) ?_
   rotate_left
   ·intro u hSu
    try dsimp only at hSu
    go_simp
    try with_reducible rfl
   try simp only [Act.put,zqf,zqg,zqh]
   refine walks_take 1 (oi:={ dst:=some 16,op:=_,type:=_,pos:=_,after:=_,guard:=none }) (v:=?_) rfl (by kernel_rfl) (fun _ _ _ h => h) (Or.inl ⟨by rfl,?_⟩) (by assumption) ?_
   rotate_left
   ·intro u hSu
    try dsimp only at hSu
    go_simp
    try with_reducible rfl
   try simp only [Act.put,zqf,zqg,zqh]
   refine walks_take 2 (oi:={ dst:=some 17,op:=_,type:=_,pos:=_,after:=_,guard:=none }) (v:=?_) rfl (by kernel_rfl) (fun _ _ _ h => h) (Or.inl ⟨by rfl,?_⟩) (by assumption) ?_
   rotate_left
   ·intro u hSu
    try dsimp only at hSu
    go_simp
    try with_reducible rfl
   try simp only [Act.put,zqf,zqg,zqh]
   refine walks_take 3 (oi:={ dst:=some 18,op:=_,type:=_,pos:=_,after:=_,guard:=none }) (v:=?_) rfl (by kernel_rfl) (fun _ _ _ h => h) (Or.inl ⟨by rfl,?_⟩) (by assumption) ?_
   rotate_left
   ·intro u hSu
    try dsimp only at hSu
    go_simp
    try with_reducible rfl
   try simp only [Act.put,zqf,zqg,zqh]
   refine walks_one 4 (o:={ dst:=some 19,op:=_,type:=_,pos:=_,after:=_,guard:=none }) rfl (by decide) (by kernel_rfl) ?_
   intro K9 hK9
   go_simp
   go_at_call 98
   refine cA.mono ?_
   rintro e w4 ⟨a4,n4,c4,rfl,h4,g4,hz4,hx4,hn4,hk4⟩
   dsimp only at h4 hx4
   clear hz4
   have N4:=ND.out.keepS g4 (by simp;have:=HB.out;omega) (by simp;have:=HB.out;omega) (by simp;have:=HB.out;omega)
   have k4:=N4.c1
   refine hK9.out _ _ k4 ?_
   clear hK9 K9 hS0
   try simp only [Act.put,zqf,zqg,zqh]
   refine walks_one 5 (o:={ dst:=some 20,op:=_,type:=_,pos:=_,after:=_,guard:=none }) rfl (by decide) (by kernel_rfl) ?_
   intro K9 hK9
   go_simp
   refine hK9.out _ _ ((Chg.alloc [] w4 _).cellv k4 (by simp)) ?_
   clear hK9 K9
   try simp only [Act.put,zqf,zqg,zqh]
   refine walks_one 6 (o:={ dst:=some 21,op:=_,type:=_,pos:=_,after:=_,guard:=none }) rfl (by decide) (by kernel_rfl) ?_
   intro K9 hK9
   have hnf:nb ∉ fp ka kc:=fun hm => by have:=(N4.rk.lt nb hm).1;have:=N4.hn;omega
   refine step_append_2 rfl (.tmp 16) (.tmp 20) 35 rfl 34 8 eltU B ka K.length kc (uvs K) rfl N4.rk N4.hB (.int .u64 (x1:Int)) 1 rfl rfl hK1.1 hK1.2 ?_
   intro a5 c5 w5 r5 g5 hf5
   have k5:=g5.cellv k4 hnf
   have f5:=(g5.frozen (p:=⟨nb,1,none⟩) (block_lt_of_cell k4) hnf).trans N4.f1
   refine hK9.out _ _ k5 ?_
   clear hK9 K9
   try simp only [Act.put,zqf,zqg,zqh]
   have hS3:(fun u:World => u.cell? ⟨nb,1,none⟩=some (.slice ka K.length kc)) w5:=k5
   refine walks_take 7 (oi:={ dst:=some 22,op:=_,type:=_,pos:=_,after:=_,guard:=none }) (v:=?_) rfl (by kernel_rfl) (fun _ _ _ h => h) (Or.inl ⟨by rfl,?_⟩) (by assumption) ?_
   rotate_left
   ·intro u hSu
    try dsimp only at hSu
    go_simp
    try with_reducible rfl
   try simp only [Act.put,zqf,zqg,zqh]
   refine walks_last 8 (o:={ dst:=none,op:=_,type:=_,pos:=_,after:=_,guard:=none }) rfl (by kernel_rfl) (by kernel_rfl) (by decide) ?_
   intro K9 hK9
   go_simp
   refine hK9.out _ _ ?_
   clear hK9 K9 hS3
   have N5:=N4.key r5 g5 (hf5.imp id (fun e => ⟨_,Nat.le_succ _,e⟩))
   have eK:(K++[x1]).length=K.length+1:=by simp
   have Q5:Chg (fp ka kc++[nb]) w4 (w5.setCell ⟨nb,1,none⟩ (.slice a5 (K.length+1) c5)):=g5.trans (Chg.setCell w5 ⟨nb,1,none⟩ _) (fun q hq _ => List.mem_append_left _ hq) (fun q hq _ => List.mem_append_right _ hq)
   have h5:=h4.keep Q5 (fun hm => by
    rcases List.mem_append.1 hm with hm | hm
    ·have:=(N4.rk.lt rb hm).1;have:=HB.out;omega
    ·simp at hm;have:=HB.out;omega) (fun hp q hq hm => by
    have hq0:=HO.out (by have:=HN3.out.1;omega) q (by rw [← HN3.out.2,← hk4];exact hq)
    rcases List.mem_append.1 hm with hm | hm
    ·have:=(N4.rk.lt q hm).1;have:=HB.out;omega
    ·simp at hm;have:=HB.out;omega)
   have G5:Chg [rb] w (w5.setCell ⟨nb,1,none⟩ (.slice a5 (K.length+1) c5)):=(hg.trans ((Chg.drew [] wr).trans g4 (T:=[rb]) (U:=[rb]) (by simp) (fun _ h _ => h)) (fun _ h _ => h) (fun _ h _ => h)).trans Q5 (fun _ h _ => h) (fun q hq hlt => by
    rcases List.mem_append.1 hq with hm | hm
    ·have:=(N4.rk.lt q hm).1;have:=HB.out;omega
    ·simp at hm;have:=HB.out;omega)
   have HN5:=mkHid (show n4≤n∧blk a4=blk ao from ⟨Nat.le_trans hn4 HN3.out.1,hk4.trans HN3.out.2⟩)
   clear h4 hx4 N4 k4 k5 f5 r5 g5 hf5 Q5 hg g4 hn4 hk4 hnf cA hN ND
   generalize w5.setCell ⟨nb,1,none⟩ (.slice a5 (K.length+1) c5)=w6 at *
   have hV1:V.length+1≤maxLen∧(V.length+1) * 8≤140737488355328:=by unfold maxLen;have:=HLV.out;omega
   have cB:=number_points (h5.keep (Chg.drew [] w6) (by simp) (by simp)) 8 (by omega) (by omega)
   obtain ⟨x2,l7,e7,hx2⟩:∃ x l e,numN pointsB 8 l4 e4=(x,l,e):=⟨_,_,_,rfl⟩
   rw [hx2] at cB
   have HX2:=mkHid hx2
   clear hx2
   have ND6:=mkHid (N5.keepS (Chg.drew [] w6) (by simp) (by simp) (by simp))
   go_wp2_with fail
   refine walks_begin (fun u => u.cell? ⟨nb,2,none⟩=some (.slice va V.length vc)) 7 (by kernel_rfl) (by kernel_rfl) ?_
   have hS0:(fun u:World => u.cell? ⟨nb,2,none⟩=some (.slice va V.length vc)) w6.drew:=(N5.keepS (Chg.drew [] w6) (by simp) (by simp) (by simp)).c2
   refine walks_take 0 (oi:={ dst:=some 23,op:=_,type:=_,pos:=_,after:=_,guard:=none }) (v:=?_) rfl (by kernel_rfl) (fun _ _ _ h => h) (Or.inl ⟨by rfl,?_⟩) (by assumption) ?_
   rotate_left
   ·intro u hSu
    try dsimp only at hSu
    go_simp
    try with_reducible rfl
   try simp only [Act.put,zqf,zqg,zqh]
   refine walks_take 1 (oi:={ dst:=some 24,op:=_,type:=_,pos:=_,after:=_,guard:=none }) (v:=?_) rfl (by kernel_rfl) (fun _ _ _ h => h) (Or.inl ⟨by rfl,?_⟩) (by assumption) ?_
   rotate_left
   ·intro u hSu
    try dsimp only at hSu
    go_simp
    try with_reducible rfl
   try simp only [Act.put,zqf,zqg,zqh]
   refine walks_take 2 (oi:={ dst:=some 25,op:=_,type:=_,pos:=_,after:=_,guard:=none }) (v:=?_) rfl (by kernel_rfl) (fun _ _ _ h => h) (Or.inl ⟨by rfl,?_⟩) (by assumption) ?_
   rotate_left
   ·intro u hSu
    try dsimp only at hSu
    go_simp
    try with_reducible rfl
   try simp only [Act.put,zqf,zqg,zqh]
   refine walks_one 3 (o:={ dst:=some 26,op:=_,type:=_,pos:=_,after:=_,guard:=none }) rfl (by decide) (by kernel_rfl) ?_
   intro K9 hK9
   go_simp
   go_at_call 98
   refine cB.mono ?_
   rintro e w7 ⟨a7,n7,c7,rfl,h7,g7,hz7,hx7,hn7,hk7⟩
   dsimp only at h7 hx7
   clear hz7
   have N7:=ND6.out.keepS g7 (by simp;have:=HB.out;omega) (by simp;have:=HB.out;omega) (by simp;have:=HB.out;omega)
   have k7:=N7.c2
   refine hK9.out _ _ k7 ?_
   clear hK9 K9 hS0
   try simp only [Act.put,zqf,zqg,zqh]
   refine walks_one 4 (o:={ dst:=some 27,op:=_,type:=_,pos:=_,after:=_,guard:=none }) rfl (by decide) (by kernel_rfl) ?_
   intro K9 hK9
   go_simp
   refine hK9.out _ _ ((Chg.alloc [] w7 _).cellv k7 (by simp)) ?_
   clear hK9 K9
   try simp only [Act.put,zqf,zqg,zqh]
   refine walks_one 5 (o:={ dst:=some 28,op:=_,type:=_,pos:=_,after:=_,guard:=none }) rfl (by decide) (by kernel_rfl) ?_
   intro K9 hK9
   have hnf:nb ∉ fp va vc:=fun hm => by have:=(N7.rv.lt nb hm).1;have:=N7.hn;omega
   refine step_append_2 rfl (.tmp 24) (.tmp 27) 35 rfl 34 8 eltU B va V.length vc (uvs V) rfl N7.rv N7.hB (.int .u64 (x2:Int)) 1 rfl rfl hV1.1 hV1.2 ?_
   intro a8 c8 w8 r8 g8 hf8
   have k8:=g8.cellv k7 hnf
   have f8:=(g8.frozen (p:=⟨nb,2,none⟩) (block_lt_of_cell k7) hnf).trans N7.f2
   refine hK9.out _ _ k8 ?_
   clear hK9 K9
   try simp only [Act.put,zqf,zqg,zqh]
   have hS3:(fun u:World => u.cell? ⟨nb,2,none⟩=some (.slice va V.length vc)) w8:=k8
   refine walks_take 6 (oi:={ dst:=some 29,op:=_,type:=_,pos:=_,after:=_,guard:=none }) (v:=?_) rfl (by kernel_rfl) (fun _ _ _ h => h) (Or.inl ⟨by rfl,?_⟩) (by assumption) ?_
   rotate_left
   ·intro u hSu
    try dsimp only at hSu
    go_simp
    try with_reducible rfl
   try simp only [Act.put,zqf,zqg,zqh]
   refine walks_last 7 (o:={ dst:=none,op:=_,type:=_,pos:=_,after:=_,guard:=none }) rfl (by kernel_rfl) (by kernel_rfl) (by decide) ?_
   intro K9 hK9
   go_simp
   refine hK9.out _ _ ?_
   clear hK9 K9 hS3
   have N8:=N7.value r8 g8 (hf8.imp id (fun e => ⟨_,Nat.le_succ _,e⟩))
   have Q8:Chg (fp va vc++[nb]) w7 (w8.setCell ⟨nb,2,none⟩ (.slice a8 (V.length+1) c8)):=g8.trans (Chg.setCell w8 ⟨nb,2,none⟩ _) (fun q hq _ => List.mem_append_left _ hq) (fun q hq _ => List.mem_append_right _ hq)
   have h8:=h7.keep Q8 (fun hm => by
    rcases List.mem_append.1 hm with hm | hm
    ·have:=(N7.rv.lt rb hm).1;have:=HB.out;omega
    ·simp at hm;have:=HB.out;omega) (fun hp q hq hm => by
    have hq0:=HO.out (by have:=HN5.out.1;omega) q (by rw [← HN5.out.2,← hk7];exact hq)
    rcases List.mem_append.1 hm with hm | hm
    ·have:=(N7.rv.lt q hm).1;have:=HB.out;omega
    ·simp at hm;have:=HB.out;omega)
   have G8:Chg [rb] w (w8.setCell ⟨nb,2,none⟩ (.slice a8 (V.length+1) c8)):=(G5.trans ((Chg.drew [] w6).trans g7 (T:=[rb]) (U:=[rb]) (by simp) (fun _ h _ => h)) (fun _ h _ => h) (fun _ h _ => h)).trans Q8 (fun _ h _ => h) (fun q hq hlt => by
    rcases List.mem_append.1 hq with hm | hm
    ·have:=(N7.rv.lt q hm).1;have:=HB.out;omega
    ·simp at hm;have:=HB.out;omega)
   have HN8:=mkHid (show n7≤n∧blk a7=blk ao from ⟨Nat.le_trans hn7 HN5.out.1,hk7.trans HN5.out.2⟩)
   clear h7 hx7 N7 k7 k8 f8 r8 g8 hf8 Q8 g7 hn7 hk7 hnf cB N5 ND6 G5 h5
   generalize w8.setCell ⟨nb,2,none⟩ (.slice a8 (V.length+1) c8)=w9 at *
   have hst:=HS.out.step HX1.out HX2.out
   have HST:=mkHid hst
   clear hst
   go_wp2_with fail
   exact ⟨⟨k+1,K++[x1],V++[x2],a5,a8,c5,c8,a7,n7,c7,l7,e7,by first | rfl | go_num,by omega,by have:=HLV.out;simp;omega,by have:=HLV.out;simp;omega,N8,h8,HN8.out.1,HN8.out.2,fun _ => HST.out,fun hne => absurd HE0.out hne,G8⟩,by simp [Go.RowKit.intOf];omega⟩
  ·have hke:k=y:=by omega
   subst hke
   have hd1:decide (k < k)=false:=by simp
   rw [Nat.sub_self] at hS
   have HSS:=mkHid hS
   clear hS
   have c0:=hN.c0
   have c1:=hN.c1
   have c2:=hN.c2
   obtain ⟨v0,r0⟩:=Option.isSome_iff_exists.1 (hN.th 0 (by decide)).1
   obtain ⟨v1,r1⟩:=Option.isSome_iff_exists.1 (hN.th 1 (by decide)).1
   obtain ⟨v2,r2⟩:=Option.isSome_iff_exists.1 (hN.th 2 (by decide)).1
   have q0:=(hN.th 0 (by decide)).2
   have q1:=(hN.th 1 (by decide)).2
   have q2:=(hN.th 2 (by decide)).2
   simp only [Nat.zero_add] at r0 r1 r2 q0 q1 q2
   have HN:=mkHid hN
   clear hN
   go_wp2_with fail
   have gR:Chg [R] wr (((wr.setCell ⟨R,0,none⟩ (.bool lf)).setCell ⟨R,1,none⟩ (.slice ka K.length kc)).setCell ⟨R,2,none⟩ (.slice va V.length vc)):=((Chg.setCell wr ⟨R,0,none⟩ _).trans (Chg.setCell _ ⟨R,1,none⟩ _) (fun _ h _ => h) (fun _ h _ => h)).trans (Chg.setCell _ ⟨R,2,none⟩ _) (fun _ h _ => h) (fun _ h _ => h)
   have hBw:w.heap.size≤B:=by have:=HB.out;omega
   have d1:∀ q,q∈fp ka kc→q ∉ [R]:=fun q hq hm => by have:=(HN.out.rk.lt q hq).1;have:=HB.out;simp at hm;omega
   have d2:∀ q,q∈fp va vc→q ∉ [R]:=fun q hq hm => by have:=(HN.out.rv.lt q hq).1;have:=HB.out;simp at hm;omega
   refine bodyPost_ret (v:=.agg #[.bool lf,.slice ka K.length kc,.slice va V.length vc]) (by simp [results,Tryz.results97,go_sem,r0,r1,r2]) rfl ?_
   refine ⟨lf,K,V,ka,va,kc,vc,a3,n3,c3,l3,e3,rfl,(HN.out.rk.mono hBw).chg gR d1,(HN.out.rv.mono hBw).chg gR d2,HN.out.dj,hR3.keep gR (by have:=HB.out;simp;omega) (fun hp q hq hm => by
    have hq0:=HO.out (by have:=HN3.out.1;omega) q (by rw [← HN3.out.2];exact hq)
    simp at hm;omega),hg.trans gR (fun _ h _ => h) (fun q hq hlt => by have:=HB.out;simp at hq;omega),?_⟩
   have hend:=ended HA.out HY.out.1 HSS.out HE.out
   rw [HL.out] at hend
   exact hend
end
end Go.Proofs.YtdgkbicelnnfpaaGreatDoor
