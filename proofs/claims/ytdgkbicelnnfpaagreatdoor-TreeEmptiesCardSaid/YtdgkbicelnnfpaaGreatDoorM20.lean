/- Texts M, Ih, Im of the library, joined. -/
import Derived.Test.YtdgkbicelnnfpaaGreatDoorM19
set_option linter.unusedVariables false
set_option linter.unusedSimpArgs false
namespace Go.Proofs.YtdgkbicelnnfpaaGreatDoor
section
open Go.RowKit
def putAll:List Oper→Nat→(Nat→Value)→Act→Act
 | [],_,_,a => a
 | o :: l,k,v,a => putAll l (k+1) v (a.put o.dst (v k))
theorem put_same (a:Act) (d:Option Tmp) (x y:Value):(a.put d x).put d y=a.put d y:=by
 cases d with
 | none => rfl
 | some d => simp [Act.put]
theorem put_swap (a:Act) {d e:Option Tmp} (h:d ≠ e) (x y:Value):(a.put d x).put e y=(a.put e y).put d x:=by
 cases d with
 | none => cases e <;> rfl
 | some d => cases e with
  | none => rfl
  | some e =>
   have hne:d ≠ e:=fun he => h (by rw [he])
   simp only [Act.put]
   rw [Array.setIfInBounds_comm _ _ hne]
theorem putAll_congr {v v':Nat→Value}:∀ {l:List Oper} {k:Nat} {a:Act},(∀ j,k≤j→v j=v' j)→putAll l k v a=putAll l k v' a
 | [],_,_,_ => rfl
 | o :: l,k,a,h => by
  unfold putAll
  rw [h k (Nat.le_refl _)]
  exact putAll_congr fun j hj => h j (by omega)
theorem putAll_put {v:Nat→Value} {d:Option Tmp} (x:Value):∀ {l:List Oper} {k:Nat} {a:Act},(∀ o∈l,o.dst ≠ d)→(putAll l k v a).put d x=putAll l k v (a.put d x)
 | [],_,_,_ => rfl
 | o :: l,k,a,h => by
  unfold putAll
  rw [putAll_put x fun o' ho => h o' (List.mem_cons_of_mem _ ho),put_swap _ (h o (List.mem_cons_self ..))]
theorem putAll_set {v:Nat→Value} (x:Value):∀ {l:List Oper} {k i:Nat} {o:Oper} {a:Act},(l.map (·.dst)).Nodup→l[i]?=some o→(putAll l k v a).put o.dst x=putAll l k (updK v (k+i) x) a
 | [],_,_,_,_,_,h => by simp at h
 | o' :: l,k,0,o,a,hn,h => by
  simp at h
  subst h
  unfold putAll
  simp only [List.map_cons,List.nodup_cons] at hn
  rw [putAll_put x fun p hp he => hn.1 (List.mem_map.2 ⟨p,hp,he⟩),put_same]
  simp only [Nat.add_zero,upd_same]
  exact putAll_congr fun j hj => (upd_other v x (by omega)).symm
 | o' :: l,k,i+1,o,a,hn,h => by
  simp only [List.getElem?_cons_succ] at h
  simp only [List.map_cons,List.nodup_cons] at hn
  unfold putAll
  have hu:=upd_other v (k:=k+(i+1)) x (show k ≠ k+(i+1) by omega)
  rw [putAll_set x hn.2 h,show k+1+i=k+(i+1) by omega,hu]
def slotOf (a:Act) (o:Oper):Value:=match o.dst with
 | some d => a.tmps.getD d undef
 | none => undef
theorem put_slot (a:Act) (o:Oper):a.put o.dst (slotOf a o)=a:=by
 unfold slotOf
 cases o.dst with
 | none => rfl
 | some d =>
  simp only [Act.put]
  by_cases hd:d < a.tmps.size
  ·have:a.tmps.setIfInBounds d (a.tmps.getD d undef)=a.tmps:=by
    apply Array.ext
    ·simp
    ·intro i h1 h2
     rw [Array.getElem_setIfInBounds]
     split
     ·rename_i he
      subst he
      simp [Array.getD,hd]
     ·rfl
   rw [this]
  ·rw [Array.setIfInBounds_eq_of_size_le (Nat.le_of_not_lt hd)]
def slots (a:Act) (l:List Oper) (i:Nat):Value:=((l[i]?).map (slotOf a)).getD undef
theorem putAll_slots (a:Act) (v:Nat→Value):∀ {l:List Oper} {k:Nat},(∀ i o,l[i]?=some o→v (k+i)=slotOf a o)→putAll l k v a=a
 | [],_,_ => rfl
 | o :: l,k,h => by
  unfold putAll
  rw [show v k=slotOf a o from h 0 o rfl,put_slot]
  exact putAll_slots a v fun i o' ho => by rw [show k+1+i=k+(i+1) by omega];exact h (i+1) o' (by simpa using ho)
theorem nodup_len:∀ {l L:List Nat},l.Nodup→(∀ x∈l,x∈L)→l.length≤L.length
 | [],L,_,_ => Nat.zero_le _
 | x :: l,L,hn,h => by
  have hx:=h x (by simp)
  have h1:=nodup_len (L:=L.erase x) (List.nodup_cons.1 hn).2 (fun y hy => (List.mem_erase_of_ne (fun e:y=x => (List.nodup_cons.1 hn).1 (by rw [← e];exact hy))).2 (h y (by simp [hy])))
  have h2:=List.length_erase_of_mem hx
  have h3:=List.length_pos_of_mem hx
  simp
  omega
abbrev Pr:=Value→Nat→Nat→World→Prop
def Keeps (p:Pr):Prop:=∀ x lo hi u u',Chg [] u u'→p x lo hi u→p x lo hi u'
def prAt (l:List Pr) (i:Nat):Pr:=l.getD i fun _ _ _ _ => True
def AllKeep:List Pr→Prop
 | [] => True
 | p :: l => Keeps p∧AllKeep l
theorem AllKeep.get:∀ {l:List Pr},AllKeep l→∀ i,Keeps (prAt l i)
 | [],_,i => fun _ _ _ _ _ _ _ => by simp [prAt]
 | p :: l,h,0 => h.1
 | p :: l,h,i+1 => AllKeep.get h.2 i
section
variable {P:Program} {ops:Array Oper} {Q:Exit→Act→World→Prop}
def MadeIs (P:Program) (Q:Exit→Act→World→Prop) (w0:World) (l:List Pr) (fr:(Nat→Value)→Act) (i:Nat) (o:Oper):Prop:=
 ∀ v w,Chg [] w0 w→(∀ e∈o.after.toList,Region.binds .any e=true→∃ lo hi,prAt l e.on (v e.on) lo hi w)→∀ K:Act→World→Prop,Hid (∀ x u,Chg [] w u→prAt l i x w.heap.size u.heap.size u→K ((fr v).put o.dst x) u)→Oper.wp P o (fr v) w K Q
def MadeFrom (P:Program) (Q:Exit→Act→World→Prop) (w0:World) (l:List Pr) (fr:(Nat→Value)→Act):Nat→List Oper→Prop
 | _,[] => True
 | k,o :: r => MadeIs P Q w0 l fr k o∧MadeFrom P Q w0 l fr (k+1) r
theorem made_get {w0:World} {l:List Pr} {fr:(Nat→Value)→Act}:∀ {r:List Oper} {k:Nat},MadeFrom P Q w0 l fr k r→∀ {i:Nat} {o:Oper},r[i]?=some o→MadeIs P Q w0 l fr (k+i) o
 | [],_,_,_,_,h => by simp at h
 | a :: r,k,hs,0,o,h => by simp at h;subst h;exact hs.1
 | a :: r,k,hs,i+1,o,h => by
  have:=made_get hs.2 (i:=i) (by simpa using h)
  rwa [show k+1+i=k+(i+1) by omega] at this
def reach (ops:Array Oper):Nat→Nat→Nat→Bool
 | 0,_,_ => false
 | f+1,j,i => ((ops[j]?).map fun o => (o.after.any fun e => Region.binds .any e && decide (e.on=i)) || (o.after.any fun e => Region.binds .any e && reach ops f e.on i)).getD false
def Closed (ops:Array Oper) (done:Array Bool):Prop:=∀ j o,ops[j]?=some o→done.getD j false=true→∀ e∈o.after,Region.binds .any e=true→done.getD e.on false=true
theorem reach_done {done:Array Bool} (hc:Closed ops done):∀ (f j:Nat) (o:Oper) (i:Nat),ops[j]?=some o→(∀ e∈o.after,Region.binds .any e=true→done.getD e.on false=true)→reach ops f j i=true→done.getD i false=true
 | 0,_,_,_,_,_,h => by simp [reach] at h
 | f+1,j,o,i,ho,hd,h => by
  unfold reach at h
  simp only [ho,Option.map_some,Option.getD_some,Bool.or_eq_true] at h
  rcases h with h | h
  ·rw [Array.any_eq_true] at h
   obtain ⟨k,hk,h3⟩:=h
   simp only [Bool.and_eq_true,decide_eq_true_eq] at h3
   have:=hd _ (Array.getElem_mem hk) h3.1
   rwa [h3.2] at this
  ·rw [Array.any_eq_true] at h
   obtain ⟨k,hk,h3⟩:=h
   simp only [Bool.and_eq_true] at h3
   have hdn:=hd _ (Array.getElem_mem hk) h3.1
   cases ho2:ops[(o.after[k]).on]? with
   | none =>
    cases f with
    | zero => simp [reach] at h3
    | succ f => have h4:=h3.2;unfold reach at h4;simp [ho2] at h4
   | some o2 => exact reach_done hc f _ o2 i ho2 (hc _ o2 ho2 hdn) h3.2
theorem Closed.set {done:Array Bool} (hc:Closed ops done) {i:Nat} {o:Oper} (hi:i < done.size) (ho:ops[i]?=some o) (hd:∀ e∈o.after,Region.binds .any e=true→done.getD e.on false=true):Closed ops (done.setIfInBounds i true):=by
 intro j oj hoj hj e he hb
 by_cases hei:e.on=i
 ·rw [hei];simp [hi]
 ·rw [getD_set_ne false (Ne.symm hei)]
  by_cases hji:j=i
  ·subst hji
   cases ho.symm.trans hoj
   exact hd e he hb
  ·rw [getD_set_ne false (Ne.symm hji)] at hj
   exact hc j oj hoj hj e he hb
def lastB (ops:Array Oper) (m:Nat):Bool:=(List.range ops.size).all fun j => decide (j < m) || (List.range j).all fun i => reach ops 6 j i
theorem lastB_spec {m:Nat} (h:lastB ops m=true) {j:Nat} {o:Oper} (ho:ops[j]?=some o) (hj:m≤j):∀ i,i < j→reach ops 6 j i=true:=by
 intro i hi
 have hjs:=(Array.getElem?_eq_some_iff.1 ho).1
 have h1:=List.all_eq_true.1 h j (List.mem_range.2 hjs)
 simp only [Bool.or_eq_true,decide_eq_true_eq] at h1
 rcases h1 with h1 | h1
 ·omega
 ·exact List.all_eq_true.1 h1 i (List.mem_range.2 hi)
theorem tail_list (hl:lowB ops=true) {m:Nat} (hb:lastB ops m=true):∀ (r:List Oper) (k n:Nat) (done:Array Bool) (a:Act) (w:World),m≤k→ops.toList.drop k=r→r.length≤n→done.size=ops.size→Closed ops done→(∀ j,j < k→done.getD j false=true)→(∀ j,k≤j→j < ops.size→done.getD j false=false)→wpList P ops Q r a w→wpAny P .any ops Q n done a w:=by
 intro r
 induction r with
 | nil =>
  intro k n done a w hk hr hn hz hc h1 h2 h
  have hks:ops.size≤k:=by
   have:=congrArg List.length hr
   simp at this
   omega
  have hnone:∀ i,i ∉ Region.ready .any ops done:=fun i hi => by
   obtain ⟨h3,o,ho,_⟩:=mem_ready.1 hi
   have:=h1 i (Nat.lt_of_lt_of_le (Array.getElem?_eq_some_iff.1 ho).1 hks)
   rw [getD_both h3] at this
   cases this
  cases n with
  | zero => exact ⟨List.eq_nil_iff_forall_not_mem.2 hnone,h⟩
  | succ n => exact ⟨fun _ => h,fun i hi => absurd hi (hnone i)⟩
 | cons o r ih =>
  intro k n done a w hk hr hn hz hc h1 h2 h
  have hks:k < ops.size:=by
   have:=congrArg List.length hr
   simp at this
   omega
  have hok:ops[k]?=some o:=by
   have:=congrArg (·[0]?) hr
   simpa using this
  have hdr:ops.toList.drop (k+1)=r:=by
   have:=congrArg List.tail hr
   simpa using this
  obtain ⟨n,rfl⟩:∃ n',n=n'+1:=⟨n - 1,by simp at hn;omega⟩
  have hin:k∈Region.ready .any ops done:=mem_ready.2 ⟨getD_in (by omega) (h2 k (Nat.le_refl _) hks),o,hok,fun e he hb' => h1 _ ((lowB_spec hl hok).2 e he)⟩
  refine ⟨fun h0 => absurd hin (by rw [h0];simp),fun i hi => ?_⟩
  obtain ⟨h3,o',ho',hd⟩:=mem_ready.1 hi
  have his:=(Array.getElem?_eq_some_iff.1 ho').1
  have hge:k≤i:=by
   rcases Nat.lt_or_ge i k with hlt | hge
   ·have:=h1 i hlt
    rw [getD_both h3] at this
    cases this
   ·exact hge
  have hik:i=k:=by
   rcases Nat.lt_or_ge k i with hlt | hge'
   ·have:=reach_done hc 6 i o' k ho' hd (lastB_spec hb ho' (by omega) k hlt)
    rw [h2 k (Nat.le_refl _) hks] at this
    cases this
   ·omega
  subst hik
  cases hok.symm.trans ho'
  have next:∀ b u,wpList P ops Q r b u→wpAny P .any ops Q n (done.setIfInBounds i true) b u:=fun b u hw =>
   ih (i+1) n _ b u (by omega) hdr (by simp at hn;omega) (by simpa using hz) (hc.set (by omega) hok hd) (fun j hj => by
    by_cases hji:j=i
    ·subst hji;simp [hz,hks]
    ·rw [getD_set_ne false (Ne.symm hji)];exact h1 j (by omega)) (fun j hj hjs => by
    rw [getD_set_ne false (by omega)];exact h2 j (by omega) hjs) hw
  unfold wpOp
  simp only [hok]
  have h':(if Region.wanted o (yielded ops a.tmps)=true then o.wp P a w (wpList P ops Q r) Q ∨ (o.asks P a w∧LetsOut Q) else wpList P ops Q r (a.put o.dst undef) w):=h
  split at h'
  ·rename_i hw
   rw [if_pos hw]
   rcases h' with h' | h'
   ·exact Or.inl (Oper.wp_mono next h')
   ·exact Or.inr h'
  ·rename_i hw
   rw [if_neg hw]
   exact next _ _ h'
theorem region_made {id:Nat} {a:Act} {w:World} (m:Nat) (l:List Pr) (hm:P.follows .mixedOrders=true) (hl:lowB ops=true) (hb:lastB ops m=true) (hms:m≤ops.size) (hnd:((ops.toList.take m).map (·.dst)).Nodup) (hk:AllKeep l)
  (hs:MadeFrom P Q w.drew l (fun v => putAll (ops.toList.take m) 0 v a) 0 (ops.toList.take m))
  (fin:∀ (v:Nat→Value) (u:World) (lo hi:Nat→Nat),Chg [] w.drew u→(∀ i,i < m→prAt l i (v i) (lo i) (hi i) u)→(∀ i,i < m→w.heap.size≤lo i∧hi i≤u.heap.size)→(∀ i j,i < m→j < m→i ≠ j→hi i≤lo j ∨ hi j≤lo i)→wpList P ops Q (ops.toList.drop m) (putAll (ops.toList.take m) 0 v a) u):(Code.region id ops true).wp P Q a w:=by
 have key:∀ (n:Nat) (done:Array Bool) (v:Nat→Value) (u:World),done.size=ops.size→Closed ops done→(∃ L:List Nat,L.length≤n∧∀ j,j < ops.size→done.getD j false=false→j∈L)→(∀ j,m≤j→j < ops.size→done.getD j false=false)→Chg [] w.drew u →
   (∃ lo hi:Nat→Nat,(∀ i,i < m→done.getD i false=true→prAt l i (v i) (lo i) (hi i) u∧w.heap.size≤lo i∧hi i≤u.heap.size)∧∀ i j,i < m→j < m→done.getD i false=true→done.getD j false=true→i ≠ j→hi i≤lo j ∨ hi j≤lo i)→wpAny P .any ops Q n done (putAll (ops.toList.take m) 0 v a) u:=by
  intro n
  induction n with
  | zero =>
   rintro done v u hz hc ⟨L,hL,hLm⟩ htl hg ⟨lo,hi,hA,hD⟩
   have hL0:L=[]:=List.eq_nil_of_length_eq_zero (by omega)
   subst hL0
   have hall:∀ j,j < ops.size→done.getD j false=true:=fun j hj => by
    cases hd:done.getD j false with
    | true => rfl
    | false => exact absurd (hLm j hj hd) (by simp)
   have hmz:m=ops.size:=by
    rcases Nat.lt_or_ge m ops.size with h | h
    ·have h1:=hall m h
     rw [htl m (Nat.le_refl _) h] at h1
     cases h1
    ·omega
   exact tail_list hl hb _ m 0 done _ u (Nat.le_refl _) rfl (by simp;omega) hz hc (fun j hj => hall j (by omega)) htl (fin v u lo hi hg (fun i hi' => (hA i hi' (hall i (by omega))).1) (fun i hi' => (hA i hi' (hall i (by omega))).2) fun i j hi' hj' hne => hD i j hi' hj' (hall i (by omega)) (hall j (by omega)) hne)
  | succ n ih =>
   rintro done v u hz hc ⟨L,hL,hLm⟩ htl hg ⟨lo,hi,hA,hD⟩
   by_cases hall:∀ j,j < m→done.getD j false=true
   ·refine tail_list hl hb _ m (n+1) done _ u (Nat.le_refl _) rfl ?_ hz hc hall htl (fin v u lo hi hg (fun i hi' => (hA i hi' (hall i hi')).1) (fun i hi' => (hA i hi' (hall i hi')).2) fun i j hi' hj' hne => hD i j hi' hj' (hall i hi') (hall j hj') hne)
    have h3:=nodup_len (l:=List.range' m (ops.size - m)) (L:=L) (List.nodup_range' ..) (fun j hj => by
     simp only [List.mem_range'_1] at hj
     exact hLm j (by omega) (htl j hj.1 (by omega)))
    simp at h3
    simp
    omega
   ·refine ⟨fun hr => absurd (fun j hj => ready_none hl hz hr j (by omega)) hall,fun i hir => ?_⟩
    obtain ⟨h1,o,ho,hd⟩:=mem_ready.1 hir
    have hio:=(Array.getElem?_eq_some_iff.1 ho).1
    have him:i < m:=by
     rcases Nat.lt_or_ge i m with h | h
     ·exact h
     ·exact absurd (fun j hj => reach_done hc 6 i o j ho hd (lastB_spec hb ho h j (by omega))) hall
    have hoi:(ops.toList.take m)[i]?=some o:=by rw [List.getElem?_take,if_pos him];simpa using ho
    have hst:=made_get hs hoi
    rw [Nat.zero_add] at hst
    have hw:=hst v u hg (fun e he hbd => by
     have he':e∈o.after:=by simpa using he
     have hlt:e.on < m:=Nat.lt_trans ((lowB_spec hl ho).2 e he') him
     exact ⟨lo e.on,hi e.on,(hA e.on hlt (hd e he' hbd)).1⟩) (wpAny P .any ops Q n (done.setIfInBounds i true)) (fun x u' hgu hx => by
     have hput:=putAll_set (v:=v) (k:=0) (a:=a) x hnd hoi
     rw [Nat.zero_add] at hput
     rw [hput]
     refine ih _ _ u' (by simpa using hz) (hc.set (by omega) ho hd) ⟨L.erase i,by
      have:=List.length_erase_of_mem (hLm i hio (getD_both h1));have:=List.length_pos_of_mem (hLm i hio (getD_both h1));omega,fun j hj hdj => by
      have hji:j ≠ i:=fun e => by subst e;simp [hz,hio] at hdj
      rw [getD_set_ne false (Ne.symm hji)] at hdj
      exact (List.mem_erase_of_ne hji).2 (hLm j hj hdj)⟩ (fun j hj hjs => by rw [getD_set_ne false (by omega)];exact htl j hj hjs) (hg.then hgu)
      ⟨fun j => if j=i then u.heap.size else lo j,fun j => if j=i then u'.heap.size else hi j,fun j hj hdj => ?_,fun j k hj hk' hdj hdk hne => ?_⟩
     ·by_cases hji:j=i
      ·subst hji
       simp only [if_pos rfl]
       rw [upd_same]
       exact ⟨hx,hg.size,Nat.le_refl _⟩
      ·simp only [if_neg hji]
       rw [getD_set_ne false (Ne.symm hji)] at hdj
       rw [upd_other v x hji]
       obtain ⟨q1,q2,q3⟩:=hA j hj hdj
       exact ⟨hk.get j _ _ _ _ _ hgu q1,q2,Nat.le_trans q3 hgu.size⟩
     ·by_cases hji:j=i
      ·by_cases hki:k=i
       ·exact absurd (hji.trans hki.symm) hne
       ·simp only [if_pos hji,if_neg hki]
        rw [getD_set_ne false (Ne.symm hki)] at hdk
        exact Or.inr (hA k hk' hdk).2.2
      ·by_cases hki:k=i
       ·simp only [if_neg hji,if_pos hki]
        rw [getD_set_ne false (Ne.symm hji)] at hdj
        exact Or.inl (hA j hj hdj).2.2
       ·simp only [if_neg hji,if_neg hki]
        rw [getD_set_ne false (Ne.symm hji)] at hdj
        rw [getD_set_ne false (Ne.symm hki)] at hdk
        exact hD j k hj hk' hdj hdk hne)
    unfold wpOp
    simp only [ho]
    rw [if_pos (by simp [Region.wanted,(lowB_spec hl ho).1])]
    exact Or.inl hw
 have h0:=key ops.size (Array.replicate ops.size false) (slots a (ops.toList.take m)) w.drew (by simp) (fun j o _ hj => (by rw [getD_replicate_false] at hj;cases hj)) ⟨List.range ops.size,by simp,fun j hj _ => List.mem_range.2 hj⟩ (fun j _ _ => getD_replicate_false _ _) (Chg.refl _ _)
  ⟨fun _ => 0,fun _ => 0,fun i _ h => (by rw [getD_replicate_false] at h;cases h),fun i j _ _ h _ _ => (by rw [getD_replicate_false] at h;cases h)⟩
 rw [putAll_slots a (slots a (ops.toList.take m)) (fun i o ho => by simp [slots,ho])] at h0
 exact wp_region_any hm h0
end
end
section
open Go.RowKit
attribute [local go_sem ↓] Go.wp_at_zero Go.wp_at_succ
def IsV (c:Value):Pr:=fun x _ _ _ => x=c
def IsBox:Pr:=fun x lo hi u => x=.pointer (some ⟨lo,0,none⟩)∧hi=lo+1∧u.there lo 0 3
def IsN (lf:Bool) (K V:List Nat):Pr:=fun x lo hi u => ∃ ka kc va vc,x=.agg #[.bool lf,.slice ka K.length kc,.slice va V.length vc]∧RmN u lo ka kc va vc K V∧(∀ q,q∈fp ka kc→q < hi)∧∀ q,q∈fp va vc→q < hi
theorem keepV (c:Value):Keeps (IsV c):=fun _ _ _ _ _ _ h => h
theorem keepB:Keeps IsBox:=fun _ _ _ _ _ g h => ⟨h.1,h.2.1,there_chg h.2.2 g (by simp)⟩
theorem keepNK (lf:Bool) (K V:List Nat):Keeps (IsN lf K V):=fun _ _ _ _ _ g h => by
 obtain ⟨ka,kc,va,vc,e,r,a,b⟩:=h
 exact ⟨ka,kc,va,vc,e,r.keep g,a,b⟩
theorem isN_out {lf:Bool} {K V:List Nat} {x:Value} {w u:World} (h:NOut w.heap.size lf K V (.returned x) u):IsN lf K V x w.heap.size u.heap.size u:=by
 obtain ⟨ka,kc,va,vc,e,r⟩:=h
 cases e
 exact ⟨ka,kc,va,vc,rfl,r,fun q hq => (r.rk.lt q hq).2,fun q hq => (r.rv.lt q hq).2⟩
def depB (o:Oper) (j:Nat):Bool:=o.after.toList.any fun e => Region.binds .any e && decide (e.on=j)
theorem dep {o:Oper} {w:World} {l:List Pr} {v:Nat→Value} (hd:∀ e∈o.after.toList,Region.binds .any e=true→∃ lo hi,prAt l e.on (v e.on) lo hi w) (j:Nat) (h:depB o j=true):∃ lo hi,prAt l j (v j) lo hi w:=by
 obtain ⟨e,he,h2⟩:=List.any_eq_true.1 h
 simp only [Bool.and_eq_true,decide_eq_true_eq] at h2
 have:=hd e he h2.1
 rwa [h2.2] at this
theorem depV {c x:Value} {u:World} (h:∃ lo hi,IsV c x lo hi u):x=c:=by
 obtain ⟨_,_,h⟩:=h
 exact h
theorem one_room (w:World) (x y:Nat) (a b c:Value):RmN (((w.alloc (.cells #[a,b,c] 53)).alloc (.cells #[.int .u64 (x:Int)] 34)).alloc (.cells #[.int .u64 (y:Int)] 34)) w.heap.size (some ⟨w.heap.size+1,0,none⟩) 1 (some ⟨w.heap.size+1+1,0,none⟩) 1 [x] [y]:=by
 have h1:=lit_room (w.alloc (.cells #[a,b,c] 53)) w.heap.size (by simp) #[.int .u64 (x:Int)] 34 (uvs [x]) 1 rfl rfl (by decide)
 have h2:=lit_room ((w.alloc (.cells #[a,b,c] 53)).alloc (.cells #[.int .u64 (x:Int)] 34)) w.heap.size (by simp;omega) #[.int .u64 (y:Int)] 34 (uvs [y]) 1 rfl rfl (by decide)
 have e1:(w.alloc (.cells #[a,b,c] 53)).heap.size=w.heap.size+1:=by simp
 have e2:((w.alloc (.cells #[a,b,c] 53)).alloc (.cells #[.int .u64 (x:Int)] 34)).heap.size=w.heap.size+1+1:=by simp
 rw [e1] at h1
 rw [e2] at h2
 exact ⟨h1.chg (Chg.alloc [] _ _) (by simp),h2,fun q hq hm => by rw [fp_some _ _ _ (by decide)] at hq hm;simp at hq hm;omega⟩
set_option maxRecDepth 20000 in
theorem pair_any (x y:Nat) (w:World):Calls Tryz.prog 152 #[.int .u64 (x:Int),.int .u64 (y:Int)] w fun e w' => NOut w.heap.size false [x] [y] e w'∧Chg [] w w':=by
 have h:=one_room w x y (.bool false) (.slice (some ⟨w.heap.size+1,0,none⟩) 1 1) (.slice (some ⟨w.heap.size+1+1,0,none⟩) 1 1)
 have HH:=mkHid h
 clear h
 go_enter Tryz.func152,Tryz.ntmps152
 go_wp2_with fail
 exact bodyPost_ret (v:=.agg #[.bool false,.slice (some ⟨w.heap.size+1,0,none⟩) 1 1,.slice (some ⟨w.heap.size+1+1,0,none⟩) 1 1]) (by simp [results,Tryz.results152,go_sem]) rfl ⟨⟨_,_,_,_,rfl,HH.out⟩,((Chg.alloc [] w _).then (Chg.alloc [] _ _)).then (Chg.alloc [] _ _)⟩
end
section
open Go.RowKit
attribute [local go_sem ↓] Go.wp_at_zero Go.wp_at_succ
theorem Room.trim {w:World} {B:Nat} {ao:Option Addr} {n c:Nat} {xs:List Value} (h:Room w B ao n c xs):Room w B ao 0 c []:=
 ⟨rfl,Nat.zero_le _,h.max,fun hc => let ⟨b,o,e,h1,h2,_⟩:=h.at_ hc;⟨b,o,e,h1,h2,fun j u hu => by simp at hu⟩⟩
set_option maxRecDepth 20000 in
theorem grow_any (m:Nat) (hm:m≤1000000000) (w:World):Calls Tryz.prog 178 #[.slice none 0 0,.int .i64 (m:Int)] w fun e w' => ∃ a c,e=.returned (.slice a 0 c)∧Room w' w.heap.size a 0 c []∧Chg [] w w':=by
 have d1:decide ((m:Int) < 0)=false:=decide_eq_false (by omega)
 by_cases h0:m=0
 ·have d2:decide ((m:Int) > 0)=false:=decide_eq_false (by omega)
  have d3:decide (0 < m)=false:=decide_eq_false (by omega)
  have d4:decide ((0:Int) < (m:Int))=false:=decide_eq_false (by omega)
  clear h0
  go_enter Tryz.func178,Tryz.ntmps178
  go_wp2_with fail
  go_ret
  exact ⟨none,0,rfl,Room.nil _ _ _,Chg.refl _ _⟩
 ·have d2:decide ((m:Int) > 0)=true:=decide_eq_true (by omega)
  have d3:decide (0 < m)=true:=decide_eq_true (by omega)
  have d4:decide ((0:Int) < (m:Int))=true:=decide_eq_true (by omega)
  have hm1:0+m≤maxLen:=by unfold maxLen;omega
  clear h0
  go_enter Tryz.func178,Tryz.ntmps178
  go_wp2_with (at_builtin;refine wpList_append_zeros_k w rfl (.tmp 20) (.tmp 21) 35 3 rfl 34 8 eltU (.int .u64 0) (by kernel_rfl) rfl rfl .i64 .i64 Tryz.underlying3 w.heap.size none 0 0 [] rfl (Room.nil _ _ _) (Nat.le_refl _) m rfl hm1 (by omega) ?_;intro a c w2 r2 g2 f2;have r3:=(show Room w2 w.heap.size a (0+m) c _ from r2);have hsl:=fun u:World => run_take_k (P:=Tryz.prog) (t:=35) (e:=34) a (0+m) c 0 Tryz.underlying35 (by kernel_rfl) (Nat.zero_le _) u)
  go_ret
  rw [fp_none] at g2
  exact ⟨a,c,rfl,r3.trim,g2⟩
def slv (q:Option Addr × Nat × Nat):Value:=.slice q.1 q.2.1 q.2.2
def RowsAt (w:World) (Q:List (Option Addr × Nat × Nat)) (LL:List (List Nat)):Prop:=Q.length=LL.length∧∀ (i:Nat) (q:Option Addr × Nat × Nat) (L:List Nat),Q[i]?=some q→LL[i]?=some L→Reads w q.1 (uvs L)∧L.length=q.2.1
theorem flat_succ {LL:List (List Nat)} {k:Nat} {L:List Nat} (h:LL[k]?=some L):(LL.take (k+1)).flatten=(LL.take k).flatten++L:=by
 obtain ⟨hl,rfl⟩:=List.getElem?_eq_some_iff.1 h
 rw [List.take_succ_eq_append_getElem hl,List.flatten_append]
 simp only [List.flatten_cons,List.flatten_nil,List.append_nil]
theorem flat_le (LL:List (List Nat)) (k:Nat):(LL.take k).flatten.length≤LL.flatten.length:=by
 have:LL.flatten=(LL.take k).flatten++(LL.drop k).flatten:=by rw [← List.flatten_append,List.take_append_drop]
 rw [this,List.length_append]
 omega
set_option maxRecDepth 20000 in
set_option maxHeartbeats 1000000 in
theorem concat_any (so:Option Addr) (n c:Nat) (Q:List (Option Addr × Nat × Nat)) (LL:List (List Nat)) (w:World) (h:Reads w so (Q.map slv)) (hn:Q.length=n) (hR:RowsAt w Q LL) (hb:LL.flatten.length≤1000000000) (hnb:n≤1000000000) :
  Calls Tryz.prog 154 #[.slice so n c] w fun e w' => ∃ a k,e=.returned (.slice a LL.flatten.length k)∧Room w' w.heap.size a LL.flatten.length k (uvs LL.flatten)∧Chg [] w w':=by
 have hlen:LL.length=n:=by rw [← hR.1];exact hn
 have HR:=mkHid (And.intro hR (And.intro hn hlen))
 have HB:=mkHid hb
 clear hR hn hlen hb
 go_enter Tryz.func154,Tryz.ntmps154
 go_wp2_with fail
 go_loopw [3,11] (fun sv iv wr => ∃ k z:Nat,iv=.int .i64 k∧sv=.int .i64 z∧k≤n∧z=(LL.take k).flatten.length∧w=wr) (fun _ iv _ => n - (Go.RowKit.intOf iv).toNat)
 case atStart => exact ⟨0,0,rfl,rfl,Nat.zero_le _,rfl,rfl⟩
 case round =>
  obtain ⟨k,z,rfl,rfl,hkn,hz,rfl⟩:=hrel
  have hzb:z≤1000000000:=by rw [hz];exact Nat.le_trans (flat_le LL k) HB.out
  have HZ:=mkHid hz
  clear hz
  by_cases hlt:k < n
  ·have d1:decide (k < n)=true:=decide_eq_true hlt
   have d2:decide ((k:Int) < (n:Int))=true:=decide_eq_true (by omega)
   obtain ⟨L,hL⟩:∃ L,LL[k]?=some L:=⟨_,List.getElem?_eq_getElem (by rw [HR.out.2.2];exact hlt)⟩
   obtain ⟨q,hq⟩:∃ q,Q[k]?=some q:=⟨_,List.getElem?_eq_getElem (by rw [HR.out.2.1];exact hlt)⟩
   have hql:=(HR.out.1.2 k q L hq hL).2
   obtain ⟨sb,so',rfl,ck,_⟩:=reads_lt h k (slv q) (by rw [List.getElem?_map,hq];rfl)
   have hs:=flat_succ hL
   have hle:=Nat.le_trans (flat_le LL (k+1)) HB.out
   obtain ⟨qa,qn,qc⟩:=q
   dsimp only [slv] at ck hql
   rw [hs,List.length_append] at hle
   have hzq:z+qn≤1000000000:=by rw [HZ.out,← hql];exact hle
   obtain ⟨z2,hz2⟩:∃ z2,z+qn=z2:=⟨_,rfl⟩
   have hz3:(z:Int)+(qn:Int)=(z2:Int):=by omega
   have d3:decide ((z2:Int) < 0)=false:=decide_eq_false (by omega)
   have HS:=mkHid (show z2=(LL.take (k+1)).flatten.length by rw [hs,List.length_append,← HZ.out,hql];omega)
   have hz2b:z2≤1000000000:=by omega
   clear hs hle hL hq hql hz2
   go_wp2_with fail
   exact ⟨⟨k+1,z2,by first | rfl | go_num,by first | rfl | go_num,by omega,HS.out,by first | trivial | rfl⟩,by simp [Go.RowKit.intOf];omega⟩
  ·have hke:k=n:=by omega
   have d1:decide (k < n)=false:=decide_eq_false hlt
   have d2:decide ((k:Int) < (n:Int))=false:=decide_eq_false (by omega)
   have hzt:z=LL.flatten.length:=by rw [HZ.out,hke,List.take_of_length_le (by rw [HR.out.2.2];omega)]
   have HT:=mkHid hzt
   clear hzt hke
   go_wp2_with fail
   refine (grow_any z hzb w).mono ?_
   rintro e w1 ⟨a1,c1,rfl,r1,g1⟩
   go_wp2_with fail
   have hsz:=g1.size
   go_loopw [6,27] (fun sv iv wr => ∃ (k z:Nat) (a:Option Addr) (cc:Nat),iv=.int .i64 k∧sv=.slice a z cc∧k≤n∧z=(LL.take k).flatten.length∧Room wr w.heap.size a z cc (uvs (LL.take k).flatten)∧Chg [] w wr) (fun _ iv _ => n - (Go.RowKit.intOf iv).toNat)
   case atStart => exact ⟨0,0,a1,c1,rfl,rfl,Nat.zero_le _,rfl,r1,g1⟩
   case round =>
    clear r1 g1 hsz
    obtain ⟨k,z,a,cc,rfl,rfl,hkn,hz,hr,hg⟩:=hrel
    have HZ:=mkHid hz
    clear hz
    by_cases hlt:k < n
    ·have d1:decide (k < n)=true:=decide_eq_true hlt
     have d2:decide ((k:Int) < (n:Int))=true:=decide_eq_true (by omega)
     obtain ⟨L,hL⟩:∃ L,LL[k]?=some L:=⟨_,List.getElem?_eq_getElem (by rw [HR.out.2.2];exact hlt)⟩
     obtain ⟨q,hq⟩:∃ q,Q[k]?=some q:=⟨_,List.getElem?_eq_getElem (by rw [HR.out.2.1];exact hlt)⟩
     have hqr:=HR.out.1.2 k q L hq hL
     obtain ⟨sb,so',rfl,ck,_⟩:=reads_lt h k (slv q) (by rw [List.getElem?_map,hq];rfl)
     have hs:=flat_succ hL
     have hle:=Nat.le_trans (flat_le LL (k+1)) HB.out
     obtain ⟨qa,qn,qc⟩:=q
     dsimp only [slv] at ck hqr
     rw [hs,List.length_append] at hle
     have hzq:z+qn≤maxLen∧(z+qn) * 8≤140737488355328:=by unfold maxLen;rw [HZ.out,← hqr.2];omega
     have ck2:=hg.cellv ck (by simp)
     have hul:(uvs L).length=qn:=by rw [uvs_len];exact hqr.2
     have hrd:=hqr.1.keep hg
     have hsz:=hg.size
     have HS:=mkHid (And.intro hs (show z+qn=(LL.take (k+1)).flatten.length by rw [hs,List.length_append,← HZ.out,hqr.2]))
     have HX:=mkHid (And.intro hr (And.intro hrd (And.intro hul hg)))
     clear hs hle hL hq hqr ck hr hrd hul hg
     go_wp2_with (at_builtin;refine wpList_append_k _ rfl (.tmp 31) (.tmp 32) 35 rfl 34 8 eltU w.heap.size a z cc _ rfl HX.out.1 hsz qa qn qc (uvs L) rfl HX.out.2.1 HX.out.2.2.1 (uvs_one _) hzq.1 hzq.2 ?_;intro a5 c5 w5 r5 g5 f5;have HY:=mkHid (And.intro r5 g5);clear r5 g5 f5)
     refine ⟨⟨k+1,z+qn,a5,c5,by first | rfl | go_num,by first | rfl | go_num,by omega,HS.out.2,?_,HX.out.2.2.2.own HY.out.2 HX.out.1⟩,by simp [Go.RowKit.intOf];omega⟩
     rw [HS.out.1,uvs_append]
     exact HY.out.1
    ·have hke:k=n:=by omega
     have d1:decide (k < n)=false:=decide_eq_false hlt
     have d2:decide ((k:Int) < (n:Int))=false:=decide_eq_false (by omega)
     have htk:LL.take k=LL:=List.take_of_length_le (by rw [HR.out.2.2];omega)
     rw [htk] at hr
     have hzz:=HZ.out
     rw [htk] at hzz
     have HX:=mkHid (And.intro hr (And.intro hzz hg))
     clear hr hzz hg htk hke
     go_wp2_with fail
     go_ret
     have hzz:=HX.out.2.1
     subst hzz
     exact ⟨a,cc,rfl,HX.out.1,HX.out.2.2⟩
end
end Go.Proofs.YtdgkbicelnnfpaaGreatDoor
