/- Texts Th, Ti, Tj of the library, joined. -/
import Derived.Test.YtdgkbicelnnfpaaGreatDoorM25
import Derived.Test.YtdgkbicelnnfpaaGreatDoorM24
import Derived.Deep.QuietTactic
import Derived.BigQuiet
import Derived.Deep.RegionLaw
set_option linter.unusedVariables false
set_option linter.unusedSimpArgs false
namespace Go.Proofs.YtdgkbicelnnfpaaGreatDoor
section
set_option maxRecDepth 200000
open Go.RowKit
attribute [local go_sem ↓] Go.wp_at_zero Go.wp_at_succ
def Nd.sq (m:Nd):Prop:=m.K.length=m.V.length∧m.K.length≤100
def insA (L:List Nat) (i x:Nat):List Nat:=L.take i++x :: L.drop i
def Nd.ins (m:Nd) (i x y:Nat):Nd:=⟨m.lf,insA m.K i x,insA m.V i y⟩
def Nd.put (m:Nd) (i x y:Nat):Nd:=⟨m.lf,m.K.set i x,m.V.set i y⟩
def Nd.rem (m:Nd) (i:Nat):Nd:=⟨m.lf,m.K.eraseIdx i,m.V.eraseIdx i⟩
def Nd.lo (m:Nd):Nd:=⟨m.lf,m.K.take (half m.K.length),m.V.take (half m.K.length)⟩
def Nd.hi (m:Nd):Nd:=⟨m.lf,m.K.drop (half m.K.length),m.V.drop (half m.K.length)⟩
def Nd.cat (m p:Nd):Nd:=⟨m.lf,m.K++p.K,m.V++p.V⟩
def Nd.find (m:Nd) (x:Nat):Nat:=findN x m.K m.V
def Nd.is (m:Nd) (x:Nat):Bool:=isN x m.K m.V
def Nd.child (m:Nd) (x:Nat):Nat:=childN x m.K m.V
theorem np_sq {m:Nd} (h:m.sq):np m.K m.V=m.K.length:=by unfold np;have:=h.1;omega
theorem sub_set {L:List Nat} {i x P:Nat} (hP:L.length=P) (hi:i < P):sub L 0 i++([x]++sub L (i+1) P)=L.set i x:=by
 unfold sub
 rw [← hP,List.take_length,List.drop_zero,List.set_eq_take_append_cons_drop,if_pos (by omega)]
 rfl
theorem sub_ins {L:List Nat} {i x P:Nat} (hP:L.length=P):sub L 0 i++([x]++sub L i P)=insA L i x:=by
 unfold sub insA
 rw [← hP,List.take_length,List.drop_zero]
 rfl
theorem sub_rem {L:List Nat} {i P:Nat} (hP:L.length=P):sub L 0 i++sub L (i+1) P=L.eraseIdx i:=by
 unfold sub
 rw [← hP,List.take_length,List.drop_zero,List.eraseIdx_eq_take_drop_succ]
theorem mem_insA {L:List Nat} {i x:Nat} {B:Nat} (hL:∀ y∈L,y < B) (hx:x < B):∀ y∈insA L i x,y < B:=by
 intro y hy
 unfold insA at hy
 rcases List.mem_append.1 hy with h | h
 ·exact hL y (List.mem_of_mem_take h)
 ·rcases List.mem_cons.1 h with rfl | h
  ·exact hx
  ·exact hL y (List.mem_of_mem_drop h)
theorem mem_setA {L:List Nat} {i x:Nat} {B:Nat} (hL:∀ y∈L,y < B) (hx:x < B):∀ y∈L.set i x,y < B:=by
 intro y hy
 rcases List.mem_or_eq_of_mem_set hy with h | rfl
 ·exact hL y h
 ·exact hx
def KnOut (w0 w:World) (tag:Nat→Nat) (sb rb n:Nat) (N C:List UInt8) (X:Nat→Option Nd) (u:Nat) (m:Nd) (e:Ending) (w':World):Prop:=
 ∃ q:CN,e=.returned q.val∧q.nd=m∧∃ tag',HasX w0 w' tag' sb rb n N C X u∧Mv tag tag' w w'∧NdAt w' tag' q
theorem HasX.five {w0 w:World} {tag:Nat→Nat} {sb rb n:Nat} {N C:List UInt8} {X:Nat→Option Nd} {u:Nat} (h:HasX w0 w tag sb rb n N C X u) {z:Nat} {m:CN} (g:New5 w z m) (hz:∀ k,z≤k→tag k=4):HasX w0 w (tag5 tag z m) sb rb n N C X u:=by
 obtain ⟨Y,h1,h2⟩:=h
 exact ⟨Y,h1.five g hz,h2⟩
section
variable {w0 w:World} {tag:Nat→Nat} {sb rb n:Nat} {N C:List UInt8} {X:Nat→Option Nd} {u:Nat}
theorem kn_of (h:HasX w0 w tag sb rb n N C X u) {w':World} {lf:Bool} {K V:List Nat} {ka:Option Addr} {kc:Nat} {va:Option Addr} {vc:Nat} (r:RmN w' w.heap.size ka kc va vc K V) (g:Chg [] w w') (hl:K.length≤1000∧V.length≤1000) (bK:∀ x∈K,x < 2 ^ 64) (bV:∀ x∈V,x < 2 ^ 64) :
  ∃ tag',HasX w0 w' tag' sb rb n N C X u∧Mv tag tag' w w'∧NdAt w' tag' ⟨lf,ka,kc,va,vc,K,V⟩:=by
 have n5:New5 w' w.heap.size ⟨lf,ka,kc,va,vc,K,V⟩:=⟨r.rk,r.rv⟩
 exact ⟨_,(h.keep g).five n5 h.hi,(Mv.made g h.hi).five n5 (Nat.le_refl _),NdAt.new n5 (by dsimp only;omega) (by dsimp only;omega) bK bV⟩
theorem kn_out (h:HasX w0 w tag sb rb n N C X u) {f:Nat} {args:Array Value} {lf:Bool} {K V:List Nat} (c:Calls Tryz.prog f args w fun e w' => NOut w.heap.size lf K V e w'∧Chg [] w w') (hl:K.length≤1000∧V.length≤1000) (bK:∀ x∈K,x < 2 ^ 64) (bV:∀ x∈V,x < 2 ^ 64) :
  Calls Tryz.prog f args w (KnOut w0 w tag sb rb n N C X u ⟨lf,K,V⟩):=by
 refine c.mono ?_
 rintro e w' ⟨⟨ka,kc,va,vc,rfl,r⟩,g⟩
 exact ⟨⟨lf,ka,kc,va,vc,K,V⟩,rfl,rfl,kn_of h r g hl bK bV⟩
theorem kinsN (h:HasX w0 w tag sb rb n N C X u) (q:CN) (hq:NdAt w tag q) (hs:q.nd.sq) (i x y:Nat) (hi:i≤q.K.length) (hx:x < 2 ^ 64) (hy:y < 2 ^ 64) :
  Calls Tryz.prog 111 #[q.val,.int .i64 (i:Int),.int .u64 (x:Int),.int .u64 (y:Int)] w (KnOut w0 w tag sb rb n N C X u (q.nd.ins i x y)):=by
 have hn:=np_sq hs
 obtain ⟨lf,ka,kc,va,vc,K,V⟩:=q
 unfold CN.nd at hs hn
 obtain ⟨s1,s2⟩:=hs
 dsimp only at s1 s2 hi hn
 have:=insert_any lf ka K.length kc va V.length vc K V w hq.rd rfl rfl (i:Int) x y (by omega)
 rw [hn,show clampN (i:Int) K.length=i by unfold clampN;rw [if_neg (by omega),if_neg (by omega)];omega] at this
 unfold insL at this
 rw [sub_ins rfl,sub_ins s1.symm] at this
 exact kn_out (lf:=lf) (K:=insA K i x) (V:=insA V i y) h this (by unfold insA;simp only [List.length_append,List.length_cons,List.length_take,List.length_drop];omega) (mem_insA hq.bK hx) (mem_insA hq.bV hy)
theorem ksetN (h:HasX w0 w tag sb rb n N C X u) (q:CN) (hq:NdAt w tag q) (hs:q.nd.sq) (i x y:Nat) (hi:i < q.K.length) (hx:x < 2 ^ 64) (hy:y < 2 ^ 64) :
  Calls Tryz.prog 176 #[q.val,.int .i64 (i:Int),.int .u64 (x:Int),.int .u64 (y:Int)] w (KnOut w0 w tag sb rb n N C X u (q.nd.put i x y)):=by
 have hn:=np_sq hs
 obtain ⟨lf,ka,kc,va,vc,K,V⟩:=q
 unfold CN.nd at hs hn
 obtain ⟨s1,s2⟩:=hs
 dsimp only at s1 s2 hi hn
 have:=set_any lf ka K.length kc va V.length vc K V w hq.rd rfl rfl (i:Int) x y (by omega)
 rw [hn] at this
 unfold setO setL at this
 rw [if_pos (by omega),if_pos (by omega),Int.toNat_natCast,sub_set rfl hi,sub_set s1.symm hi] at this
 exact kn_out (lf:=lf) (K:=K.set i x) (V:=V.set i y) h this (by simp only [List.length_set];omega) (mem_setA hq.bK hx) (mem_setA hq.bV hy)
theorem kremN (h:HasX w0 w tag sb rb n N C X u) (q:CN) (hq:NdAt w tag q) (hs:q.nd.sq) (i:Nat) (hi:i < q.K.length) :
  Calls Tryz.prog 149 #[q.val,.int .i64 (i:Int)] w (KnOut w0 w tag sb rb n N C X u (q.nd.rem i)):=by
 have hn:=np_sq hs
 obtain ⟨lf,ka,kc,va,vc,K,V⟩:=q
 unfold CN.nd at hs hn
 obtain ⟨s1,s2⟩:=hs
 dsimp only at s1 s2 hi hn
 have:=remove_any lf ka K.length kc va V.length vc K V w hq.rd rfl rfl (i:Int) (by omega)
 rw [hn] at this
 unfold remO remL at this
 rw [if_pos (by omega),if_pos (by omega),Int.toNat_natCast,sub_rem rfl,sub_rem s1.symm] at this
 have l1:=List.length_eraseIdx_le K i
 have l2:=List.length_eraseIdx_le V i
 exact kn_out (lf:=lf) (K:=K.eraseIdx i) (V:=V.eraseIdx i) h this (by omega) (fun y hy => hq.bK y (List.mem_of_mem_eraseIdx hy)) (fun y hy => hq.bV y (List.mem_of_mem_eraseIdx hy))
theorem kfindN (h:HasX w0 w tag sb rb n N C X u) (q:CN) (hq:NdAt w tag q) (x:Nat):Calls Tryz.prog 116 #[q.val,.int .u64 (x:Int)] w fun e w' => e=.returned (.tuple #[.int .i64 (q.nd.find x:Nat),.bool (q.nd.is x)])∧Chg [] w w':=by
 obtain ⟨lf,ka,kc,va,vc,K,V⟩:=q
 exact find_any lf ka K.length kc va V.length vc K V w hq.rd rfl rfl x
theorem kchildN (h:HasX w0 w tag sb rb n N C X u) (q:CN) (hq:NdAt w tag q) (x:Nat):Calls Tryz.prog 65 #[q.val,.int .u64 (x:Int)] w fun e w' => e=.returned (.int .i64 (q.nd.child x:Nat))∧Chg [] w w':=by
 obtain ⟨lf,ka,kc,va,vc,K,V⟩:=q
 exact child_any lf ka K.length kc va V.length vc K V w hq.rd rfl rfl x
def KnTwo (w0 w:World) (tag:Nat→Nat) (sb rb n:Nat) (N C:List UInt8) (X:Nat→Option Nd) (u:Nat) (m p:Nd) (e:Ending) (w':World):Prop:=
 ∃ q q':CN,e=.returned (.tuple #[q.val,q'.val])∧q.nd=m∧q'.nd=p∧∃ tag',HasX w0 w' tag' sb rb n N C X u∧Mv tag tag' w w'∧NdAt w' tag' q∧NdAt w' tag' q'
theorem kn_two (h:HasX w0 w tag sb rb n N C X u) {f:Nat} {args:Array Value} {lf:Bool} {A D:List Nat} (c:Calls Tryz.prog f args w fun e w' => SplitOut w.heap.size lf A D e w'∧Chg [] w w') (hl:A.length=D.length∧A.length≤1000) (bK:∀ x∈A,x < 2 ^ 64) (bV:∀ x∈D,x < 2 ^ 64) :
  Calls Tryz.prog f args w (KnTwo w0 w tag sb rb n N C X u ⟨lf,A.take (half A.length),D.take (half A.length)⟩ ⟨lf,A.drop (half A.length),D.drop (half A.length)⟩):=by
 refine c.mono ?_
 rintro e w' ⟨⟨pa,pc,qa,qc,rfl,r⟩,g⟩
 obtain ⟨tag',h1,h2,h3⟩:=kn_of (lf:=lf) h r g (by omega) bK bV
 have hh:half A.length≤A.length:=by unfold half;omega
 have lA:(A.take (half A.length)).length=half A.length:=by rw [List.length_take];omega
 have lD:(D.take (half A.length)).length=half A.length:=by rw [List.length_take];omega
 have lA':(A.drop (half A.length)).length=A.length - half A.length:=by rw [List.length_drop]
 have lD':(D.drop (half A.length)).length=A.length - half A.length:=by rw [List.length_drop];omega
 have e1:∀ L:List Nat,(uvs L).take (half A.length)=uvs (L.take (half A.length)):=fun L => by simp [uvs,List.map_take]
 have e2:∀ L:List Nat,(uvs L).drop (half A.length)=uvs (L.drop (half A.length)):=fun L => by simp [uvs,List.map_drop]
 have rt:∀ {ao:Option Addr} {L:List Nat},Reads w' ao (uvs L)→L.length=A.length→Reads w' (cut ao (half A.length) 0) (uvs (L.take (half A.length))):=fun {ao L} hr hL => by
  have:=(show Reads w' ao (uvs (L.take (half A.length))) from fun hx => by
   obtain ⟨b,o,rfl,hc⟩:=hr (by simp [uvs_len] at hx ⊢;omega)
   exact ⟨b,o,rfl,fun j v hj => hc j v (by rw [← e1,List.getElem?_take] at hj;split at hj <;> simp_all)⟩)
  have:=this.cut (half A.length) 0 (by simp [uvs_len];omega)
  simpa using this
 have rd:∀ {ao:Option Addr} {L:List Nat},Reads w' ao (uvs L)→L.length=A.length→Reads w' (cut ao A.length (half A.length)) (uvs (L.drop (half A.length))):=fun {ao L} hr hL => by
  rw [← e2]
  exact hr.cut A.length (half A.length) (by rw [uvs_len];omega)
 have hm:A.length≤maxLen:=by unfold maxLen;omega
 refine ⟨⟨lf,cut pa (half A.length) 0,half A.length,cut qa (half A.length) 0,half A.length,A.take (half A.length),D.take (half A.length)⟩,⟨lf,cut pa A.length (half A.length),A.length - half A.length,cut qa A.length (half A.length),A.length - half A.length,A.drop (half A.length),D.drop (half A.length)⟩,?_,rfl,rfl,tag',h1,h2,?_,?_⟩
 ·unfold CN.val
  dsimp only
  rw [lA,lD,lA',lD']
 ·refine ⟨⟨rt h3.rd.rk rfl,rt h3.rd.rv hl.1.symm,by dsimp only;omega,by dsimp only;omega,by dsimp only;omega,by dsimp only;omega,by dsimp only;omega,by dsimp only;omega⟩,fun hx k hk => ?_,fun hx k hk => ?_,fun y hy => bK y (List.mem_of_mem_take hy),fun y hy => bV y (List.mem_of_mem_take hy)⟩
  ·dsimp only at hx hk;rw [blk_cut] at hk;exact h3.kk (by dsimp only;omega) k hk
  ·dsimp only at hx hk;rw [blk_cut] at hk;exact h3.kv (by dsimp only;omega) k hk
 ·refine ⟨⟨rd h3.rd.rk rfl,rd h3.rd.rv hl.1.symm,by dsimp only;omega,by dsimp only;omega,by dsimp only;omega,by dsimp only;omega,by dsimp only;omega,by dsimp only;omega⟩,fun hx k hk => ?_,fun hx k hk => ?_,fun y hy => bK y (List.mem_of_mem_drop hy),fun y hy => bV y (List.mem_of_mem_drop hy)⟩
  ·dsimp only at hx hk;rw [blk_cut] at hk;exact h3.kk (by dsimp only;omega) k hk
  ·dsimp only at hx hk;rw [blk_cut] at hk;exact h3.kv (by dsimp only;omega) k hk
theorem tk_sq {m:Nd} (h:m.sq):tkK m.K m.V=m.K∧tkV m.K m.V=m.V:=by
 unfold tkK tkV
 rw [np_sq h]
 exact ⟨List.take_length,by rw [h.1,List.take_length]⟩
theorem ksplitN (h:HasX w0 w tag sb rb n N C X u) (q:CN) (hq:NdAt w tag q) (hs:q.nd.sq) :
  Calls Tryz.prog 156 #[q.val] w (KnTwo w0 w tag sb rb n N C X u q.nd.lo q.nd.hi):=by
 have hn:=np_sq hs
 obtain ⟨t1,t2⟩:=tk_sq hs
 obtain ⟨lf,ka,kc,va,vc,K,V⟩:=q
 unfold CN.nd at hs hn t1 t2
 obtain ⟨s1,s2⟩:=hs
 dsimp only at s1 s2 hn t1 t2
 have:=split_any lf ka K.length kc va V.length vc K V w hq.rd rfl rfl (by omega)
 rw [t1,t2] at this
 exact kn_two (lf:=lf) (A:=K) (D:=V) h this ⟨s1,by omega⟩ hq.bK hq.bV
theorem kjoinN (h:HasX w0 w tag sb rb n N C X u) (q p:CN) (hq:NdAt w tag q) (hs:q.nd.sq) (hp:NdAt w tag p) (hs':p.nd.sq) :
  Calls Tryz.prog 182 #[q.val,p.val] w (KnOut w0 w tag sb rb n N C X u (q.nd.cat p.nd)):=by
 have hn:=np_sq hs
 have hn':=np_sq hs'
 obtain ⟨t1,t2⟩:=tk_sq hs
 obtain ⟨t1',t2'⟩:=tk_sq hs'
 obtain ⟨lf,ka,kc,va,vc,K,V⟩:=q
 obtain ⟨lf',ka',kc',va',vc',K',V'⟩:=p
 unfold CN.nd at hs hn t1 t2 hs' hn' t1' t2'
 obtain ⟨s1,s2⟩:=hs
 obtain ⟨s1',s2'⟩:=hs'
 dsimp only at s1 s2 hn t1 t2 s1' s2' hn' t1' t2'
 have:=join_any lf ka K.length kc va V.length vc K V lf' ka' K'.length kc' va' V'.length vc' K' V' w hq.rd rfl rfl hp.rd rfl rfl (by omega)
 rw [t1,t2,t1',t2'] at this
 exact kn_out (lf:=lf) (K:=K++K') (V:=V++V') h this (by simp only [List.length_append];omega) (fun y hy => (List.mem_append.1 hy).elim (hq.bK y) (hp.bK y)) (fun y hy => (List.mem_append.1 hy).elim (hq.bV y) (hp.bV y))
theorem kevenN (h:HasX w0 w tag sb rb n N C X u) (q p:CN) (hq:NdAt w tag q) (hs:q.nd.sq) (hp:NdAt w tag p) (hs':p.nd.sq) :
  Calls Tryz.prog 183 #[q.val,p.val] w (KnTwo w0 w tag sb rb n N C X u (q.nd.cat p.nd).lo (q.nd.cat p.nd).hi):=by
 have hn:=np_sq hs
 have hn':=np_sq hs'
 obtain ⟨t1,t2⟩:=tk_sq hs
 obtain ⟨t1',t2'⟩:=tk_sq hs'
 obtain ⟨lf,ka,kc,va,vc,K,V⟩:=q
 obtain ⟨lf',ka',kc',va',vc',K',V'⟩:=p
 unfold CN.nd at hs hn t1 t2 hs' hn' t1' t2'
 obtain ⟨s1,s2⟩:=hs
 obtain ⟨s1',s2'⟩:=hs'
 dsimp only at s1 s2 hn t1 t2 s1' s2' hn' t1' t2'
 have:=even_any lf ka K.length kc va V.length vc K V lf' ka' K'.length kc' va' V'.length vc' K' V' w hq.rd rfl rfl hp.rd rfl rfl (by omega)
 rw [t1,t2,t1',t2'] at this
 exact kn_two (lf:=lf) (A:=K++K') (D:=V++V') h this ⟨by simp only [List.length_append];omega,by simp only [List.length_append];omega⟩ (fun y hy => (List.mem_append.1 hy).elim (hq.bK y) (hp.bK y)) (fun y hy => (List.mem_append.1 hy).elim (hq.bV y) (hp.bV y))
theorem nsame (h:HasX w0 w tag sb rb n N C X u) (q p:CN) (hq:NdAt w tag q) (hp:NdAt w tag p) :
  Calls Tryz.prog 179 #[q.val,p.val] w fun e w' => e=.returned (.bool (sameB q.lf p.lf q.K q.V p.K p.V))∧Chg [] w w':=by
 obtain ⟨lf,ka,kc,va,vc,K,V⟩:=q
 obtain ⟨lf',ka',kc',va',vc',K',V'⟩:=p
 exact same_any lf ka K.length kc va V.length vc K V lf' ka' K'.length kc' va' V'.length vc' K' V' w hq.rd rfl rfl hp.rd rfl rfl
theorem nmay (h:HasX w0 w tag sb rb n N C X u) (q:CN) (hq:NdAt w tag q):Calls Tryz.prog 54 #[q.val] w fun e w' => e=.returned (.bool (mayB q.K q.V))∧Chg [] w w':=by
 obtain ⟨lf,ka,kc,va,vc,K,V⟩:=q
 exact may_any lf ka K.length kc va V.length vc K V w hq.rd rfl rfl
end
end
section
set_option maxRecDepth 200000
open Go.RowKit
attribute [local go_sem ↓] Go.wp_at_zero Go.wp_at_succ
structure Mvb (S:List Nat) (tag tag':Nat→Nat) (w w':World):Prop where
 c:∃ T,Chg T w w'∧∀ k,k∈T→tag k=1 ∨ tag k=2 ∨ k∈S
 o:∀ k,k < w.heap.size→tag' k=tag k
 d:∀ k,w'.heap.size≤k→tag' k=4
theorem Mv.b {tag tag':Nat→Nat} {w w':World} (h:Mv tag tag' w w') (S:List Nat):Mvb S tag tag' w w':=by
 obtain ⟨T,hT,h1⟩:=h.c
 exact ⟨⟨T,hT,fun k hk => (h1 k hk).imp id Or.inl⟩,h.o,h.d⟩
theorem Mvb.size {S:List Nat} {tag tag':Nat→Nat} {w w':World} (h:Mvb S tag tag' w w'):w.heap.size≤w'.heap.size:=by
 obtain ⟨T,hT,-⟩:=h.c
 exact hT.size
theorem Mvb.trans {S T U:List Nat} {t t' t'':Nat→Nat} {a b c:World} (h:Mvb S t t' a b) (g:Mvb T t' t'' b c) (hS:∀ k,k∈S→k < a.heap.size→k∈U) (hT:∀ k,k∈T→k < a.heap.size→k∈U):Mvb U t t'' a c:=by
 obtain ⟨S',hS',h1⟩:=h.c
 obtain ⟨T',hT',g1⟩:=g.c
 refine ⟨⟨(S'++T').filter (fun k => decide (k < a.heap.size)),hS'.trans hT' (fun k hk hlt => List.mem_filter.2 ⟨List.mem_append_left _ hk,by simpa using hlt⟩) (fun k hk hlt => List.mem_filter.2 ⟨List.mem_append_right _ hk,by simpa using hlt⟩),fun k hk => ?_⟩,fun k hk => (g.o k (Nat.lt_of_lt_of_le hk hS'.size)).trans (h.o k hk),g.d⟩
 obtain ⟨h8,h7⟩:=List.mem_filter.1 hk
 have h7:k < a.heap.size:=by simpa using h7
 rcases List.mem_append.1 h8 with h9 | h9
 ·exact (h1 k h9).imp id (fun q => q.imp id (fun q => hS k q h7))
 ·rw [← h.o k h7]
  exact (g1 k h9).imp id (fun q => q.imp id (fun q => hT k q h7))
theorem Mvb.four {S:List Nat} {tag tag':Nat→Nat} {a b:World} (m:Mvb S tag tag' a b) {k:Nat} (h:tag k=4) (hk:k < a.heap.size):tag' k=4:=(m.o k hk).trans h
theorem Mvb.cellv {S:List Nat} {tag tag':Nat→Nat} {w w':World} (m:Mvb S tag tag' w w') {p:Addr} {v:Value} (h:w.cell? p=some v) (hp:Kt tag p.block) (hS:p.block ∉ S):w'.cell? p=some v:=by
 obtain ⟨T,hT,h1⟩:=m.c
 exact hT.cellv h (fun hm => (h1 _ hm).elim hp.1 (fun q => q.elim hp.2 hS))
theorem Mvb.frozen {S:List Nat} {tag tag':Nat→Nat} {w w':World} (m:Mvb S tag tag' w w') {p:Addr} {v:Bool} (h:w.frozen? p=v) (hb:p.block < w.heap.size) (hp:Kt tag p.block) (hS:p.block ∉ S):w'.frozen? p=v:=by
 obtain ⟨T,hT,h1⟩:=m.c
 exact (hT.frozen hb (fun hm => (h1 _ hm).elim hp.1 (fun q => q.elim hp.2 hS))).trans h
theorem Mvb.roomz {S:List Nat} {tag tag':Nat→Nat} {w w':World} (m:Mvb S tag tag' w w') {z B:Nat} {ao:Option Addr} {n c:Nat} {xs:List Value} (h:RoomZ z w B ao n c xs) (hp:∀ k,k∈fp ao c→Kt tag k∧k ∉ S):RoomZ z w' B ao n c xs:=by
 obtain ⟨T,hT,h1⟩:=m.c
 exact h.chg hT (fun k hk hm => (h1 k hm).elim (hp k hk).1.1 (fun q => q.elim (hp k hk).1.2 (hp k hk).2))
theorem Mvb.nd {S:List Nat} {tag tag':Nat→Nat} {w w':World} (g:Mvb S tag tag' w w') {m:CN} (h:NdAt w tag m) (hS:∀ k,k∈S→tag k=4):NdAt w' tag' m:=by
 obtain ⟨T,hT,h1⟩:=g.c
 have hh:∀ k,k∈T→tag k ≠ 5:=fun k hk => (h1 k hk).elim (by omega) (fun q => q.elim (by omega) (fun q => by have:=hS k q;omega))
 exact ⟨⟨h.rd.rk.chg0 hT (fun hx k hk hm => hh k hm (h.kk (by simpa [uvs_len] using hx) k hk)),h.rd.rv.chg0 hT (fun hx k hk hm => hh k hm (h.kv (by simpa [uvs_len] using hx) k hk)),h.rd.ck,h.rd.cv,h.rd.bk,h.rd.bv,h.rd.xk,h.rd.xv⟩,
  fun hx k hk => (g.o k (reads_ltT h.rd.rk (by simpa [uvs_len] using hx) k hk)).trans (h.kk hx k hk),fun hx k hk => (g.o k (reads_ltT h.rd.rv (by simpa [uvs_len] using hx) k hk)).trans (h.kv hx k hk),h.bK,h.bV⟩
theorem Mvb.wrote {S T:List Nat} {tag tag':Nat→Nat} {a b c:World} (h:Mvb S tag tag' a b) (g:Chg T b c) (hT:∀ k,k∈T→k < a.heap.size→k∈S):Mvb S tag tag' a c:=by
 obtain ⟨S',hS',h1⟩:=h.c
 refine ⟨⟨S'++T.filter (fun k => decide (k < a.heap.size)),hS'.trans g (fun k hk _ => List.mem_append_left _ hk) (fun k hk hlt => List.mem_append_right _ (List.mem_filter.2 ⟨hk,by simpa using hlt⟩)),fun k hk => ?_⟩,h.o,fun k hk => h.d k (Nat.le_trans g.size hk)⟩
 rcases List.mem_append.1 hk with h9 | h9
 ·exact h1 k h9
 ·obtain ⟨h8,h7⟩:=List.mem_filter.1 h9
  exact Or.inr (Or.inr (hT k h8 (by simpa using h7)))
structure CS where
 t:Nat
 was:CN
 node:CN
 pl:Nat
def CS.cells (s:CS):List Value:=[.int .u64 (s.t:Int),.bool s.was.lf,.slice s.was.ka s.was.K.length s.was.kc,.slice s.was.va s.was.V.length s.was.vc,.bool s.node.lf,.slice s.node.ka s.node.K.length s.node.kc,.slice s.node.va s.node.V.length s.node.vc,.int .i64 (s.pl:Int)]
def CS.val (s:CS):Value:=stepV s.t s.was s.node s.pl
def cellsL (L:List CS):List Value:=L.flatMap CS.cells
theorem cellsL_len (L:List CS):(cellsL L).length=L.length * 8:=by
 unfold cellsL
 induction L with
 | nil => rfl
 | cons s L ih => rw [List.flatMap_cons,List.length_append,ih,List.length_cons];simp [CS.cells];omega
theorem cellsL_snoc (L:List CS) (s:CS):cellsL (L++[s])=cellsL L++s.cells:=by unfold cellsL;simp
theorem cellsL_get {L:List CS} {i:Nat} {s:CS} (h:L[i]?=some s) (j:Nat) (hj:j < 8):(cellsL L)[i * 8+j]?=s.cells[j]?:=by
 induction L generalizing i with
 | nil => simp at h
 | cons a L ih =>
  have hl:a.cells.length=8:=by simp [CS.cells]
  unfold cellsL
  rw [List.flatMap_cons]
  cases i with
  | zero =>
   simp at h
   subst h
   rw [Nat.zero_mul,Nat.zero_add,List.getElem?_append_left (by omega)]
  | succ i =>
   simp at h
   rw [List.getElem?_append_right (by omega),hl,show (i+1) * 8+j - 8=i * 8+j by omega]
   exact ih h
structure StepAt (w:World) (b o:Nat) (s:CS):Prop where
 c:∀ j v,s.cells[j]?=some v→w.cell? ⟨b,o+j,none⟩=some v
 f:∀ j,j < 8→w.frozen? ⟨b,o+j,none⟩=false
theorem StepAt.all {w:World} {b o:Nat} {s:CS} (h:StepAt w b o s):(w.cell? ⟨b,o,none⟩=some (.int .u64 (s.t:Int))∧w.cell? ⟨b,o+1,none⟩=some (.bool s.was.lf)∧w.cell? ⟨b,o+2,none⟩=some (.slice s.was.ka s.was.K.length s.was.kc)∧w.cell? ⟨b,o+3,none⟩=some (.slice s.was.va s.was.V.length s.was.vc) ∧
  w.cell? ⟨b,o+4,none⟩=some (.bool s.node.lf)∧w.cell? ⟨b,o+5,none⟩=some (.slice s.node.ka s.node.K.length s.node.kc)∧w.cell? ⟨b,o+6,none⟩=some (.slice s.node.va s.node.V.length s.node.vc)∧w.cell? ⟨b,o+7,none⟩=some (.int .i64 (s.pl:Int))) ∧
  w.frozen? ⟨b,o,none⟩=false∧w.frozen? ⟨b,o+1,none⟩=false∧w.frozen? ⟨b,o+2,none⟩=false∧w.frozen? ⟨b,o+3,none⟩=false∧w.frozen? ⟨b,o+4,none⟩=false∧w.frozen? ⟨b,o+5,none⟩=false∧w.frozen? ⟨b,o+6,none⟩=false∧w.frozen? ⟨b,o+7,none⟩=false:=
 ⟨⟨h.c 0 _ rfl,h.c 1 _ rfl,h.c 2 _ rfl,h.c 3 _ rfl,h.c 4 _ rfl,h.c 5 _ rfl,h.c 6 _ rfl,h.c 7 _ rfl⟩,h.f 0 (by decide),h.f 1 (by decide),h.f 2 (by decide),h.f 3 (by decide),h.f 4 (by decide),h.f 5 (by decide),h.f 6 (by decide),h.f 7 (by decide)⟩
theorem StepAt.lt {w:World} {b o:Nat} {s:CS} (h:StepAt w b o s):b < w.heap.size:=block_lt_of_cell h.all.1.1
theorem StepAt.chg {w w':World} {b o:Nat} {s:CS} (h:StepAt w b o s) {S:List Nat} (g:Chg S w w') (hb:b ∉ S):StepAt w' b o s:=
 ⟨fun j v hj => g.cellv (h.c j v hj) hb,fun j hj => (g.frozen (p:=⟨b,o+j,none⟩) h.lt hb).trans (h.f j hj)⟩
theorem StepAt.mv {w w':World} {tag tag':Nat→Nat} {b o:Nat} {s:CS} (h:StepAt w b o s) (m:Mv tag tag' w w') (hb:tag b=4):StepAt w' b o s:=by
 obtain ⟨S,hS,h1⟩:=m.c
 exact h.chg hS (fun hm => (h1 b hm).elim (by omega) (by omega))
theorem StepAt.place {w:World} {b o:Nat} {s:CS} (h:StepAt w b o s) (p:Nat):StepAt (w.setCell ⟨b,o+7,none⟩ (.int .i64 (p:Int))) b o { s with pl:=p }:=by
 refine ⟨fun j v hj => ?_,fun j hj => by rw [World.frozen?_setCell];exact h.f j hj⟩
 match j,hj with
 | 0,hj => rw [World.cell?_setCell_other _ _ _ _ (by simp)];exact h.c 0 v hj
 | 1,hj => rw [World.cell?_setCell_other _ _ _ _ (by simp)];exact h.c 1 v hj
 | 2,hj => rw [World.cell?_setCell_other _ _ _ _ (by simp)];exact h.c 2 v hj
 | 3,hj => rw [World.cell?_setCell_other _ _ _ _ (by simp)];exact h.c 3 v hj
 | 4,hj => rw [World.cell?_setCell_other _ _ _ _ (by simp)];exact h.c 4 v hj
 | 5,hj => rw [World.cell?_setCell_other _ _ _ _ (by simp)];exact h.c 5 v hj
 | 6,hj => rw [World.cell?_setCell_other _ _ _ _ (by simp)];exact h.c 6 v hj
 | 7,hj => rw [World.cell?_setCell_same _ _ _ h.all.1.2.2.2.2.2.2.2];exact hj
 | j+8,hj => simp [CS.cells] at hj
def wr3 (w:World) (b o:Nat) (q:CN):World:=((w.setCell ⟨b,o+4,none⟩ (.bool q.lf)).setCell ⟨b,o+5,none⟩ (.slice q.ka q.K.length q.kc)).setCell ⟨b,o+6,none⟩ (.slice q.va q.V.length q.vc)
theorem wr3_chg (w:World) (b o:Nat) (q:CN):Chg [b] w (wr3 w b o q):=
 ((Chg.setCell w ⟨b,o+4,none⟩ _).trans (Chg.setCell _ ⟨b,o+5,none⟩ _) (fun _ h _ => h) (fun _ h _ => h)).trans (Chg.setCell _ ⟨b,o+6,none⟩ _) (fun _ h _ => h) (fun _ h _ => h)
theorem wr3_cell {w:World} {b o:Nat} {s:CS} (h:StepAt w b o s) (q:CN) (j:Nat):(wr3 w b o q).cell? ⟨b,j,none⟩=if j=o+4 then some (.bool q.lf) else if j=o+5 then some (.slice q.ka q.K.length q.kc) else if j=o+6 then some (.slice q.va q.V.length q.vc) else w.cell? ⟨b,j,none⟩:=by
 obtain ⟨⟨a0,a1,a2,a3,a4,a5,a6,a7⟩,-⟩:=h.all
 unfold wr3
 have k5:(w.setCell ⟨b,o+4,none⟩ (.bool q.lf)).cell? ⟨b,o+5,none⟩=some (.slice s.node.ka s.node.K.length s.node.kc):=by rw [World.cell?_setCell_other _ _ _ _ (by simp)];exact a5
 have k6:((w.setCell ⟨b,o+4,none⟩ (.bool q.lf)).setCell ⟨b,o+5,none⟩ (.slice q.ka q.K.length q.kc)).cell? ⟨b,o+6,none⟩=some (.slice s.node.va s.node.V.length s.node.vc):=by
  rw [World.cell?_setCell_other _ _ _ _ (by simp),World.cell?_setCell_other _ _ _ _ (by simp)];exact a6
 by_cases e4:j=o+4
 ·subst e4
  rw [if_pos rfl,World.cell?_setCell_other _ _ _ _ (by simp),World.cell?_setCell_other _ _ _ _ (by simp),World.cell?_setCell_same _ _ _ a4]
 ·rw [if_neg e4]
  by_cases e5:j=o+5
  ·subst e5
   rw [if_pos rfl,World.cell?_setCell_other _ _ _ _ (by simp),World.cell?_setCell_same _ _ _ k5]
  ·rw [if_neg e5]
   by_cases e6:j=o+6
   ·subst e6
    rw [if_pos rfl,World.cell?_setCell_same _ _ _ k6]
   ·rw [if_neg e6,World.cell?_setCell_other _ _ _ _ (by simp [e6]),World.cell?_setCell_other _ _ _ _ (by simp [e5]),World.cell?_setCell_other _ _ _ _ (by simp [e4])]
theorem wr3_frozen (w:World) (b o:Nat) (q:CN) (p:Addr):(wr3 w b o q).frozen? p=w.frozen? p:=by
 unfold wr3
 rw [World.frozen?_setCell,World.frozen?_setCell,World.frozen?_setCell]
theorem StepAt.wr {w:World} {b o:Nat} {s:CS} (h:StepAt w b o s) (q:CN):StepAt (wr3 w b o q) b o { s with node:=q }:=by
 refine ⟨fun j v hj => ?_,fun j hj => by rw [wr3_frozen];exact h.f j hj⟩
 rw [wr3_cell h]
 match j,hj with
 | 0,hj => rw [if_neg (by omega),if_neg (by omega),if_neg (by omega)];exact h.c 0 v hj
 | 1,hj => rw [if_neg (by omega),if_neg (by omega),if_neg (by omega)];exact h.c 1 v hj
 | 2,hj => rw [if_neg (by omega),if_neg (by omega),if_neg (by omega)];exact h.c 2 v hj
 | 3,hj => rw [if_neg (by omega),if_neg (by omega),if_neg (by omega)];exact h.c 3 v hj
 | 4,hj => rw [if_pos rfl];exact hj
 | 5,hj => rw [if_neg (by omega),if_pos rfl];exact hj
 | 6,hj => rw [if_neg (by omega),if_neg (by omega),if_pos rfl];exact hj
 | 7,hj => rw [if_neg (by omega),if_neg (by omega),if_neg (by omega)];exact h.c 7 v hj
 | j+8,hj => simp [CS.cells] at hj
section
variable {w0 w:World} {tag:Nat→Nat} {sb rb n:Nat} {N C:List UInt8} {X:Nat→Option Nd} {u:Nat}
def SetPost (w0 w:World) (tag:Nat→Nat) (sb rb n:Nat) (N C:List UInt8) (X:Nat→Option Nd) (u b o:Nat) (m:Nd) (e:Ending) (w':World):Prop:=
 e=.returned (.tuple #[])∧∃ (q:CN) (tag':Nat→Nat) (w1:World),q.nd=m∧HasX w0 w1 tag' sb rb n N C X u∧Mv tag tag' w w1∧NdAt w1 tag' q∧w'=wr3 w1 b o q
theorem set_anyT (h:HasX w0 w tag sb rb n N C X u) (b o:Nat) (s:CS) (hs:StepAt w b o s) (tb:tag b=4) (hq:NdAt w tag s.node) (hsq:s.node.nd.sq) (i x y:Nat) (hi:i < s.node.K.length) (hx:x < 2 ^ 64) (hy:y < 2 ^ 64) :
  Calls Tryz.prog 148 #[.pointer (some ⟨b,o,none⟩),.int .i64 (i:Int),.int .u64 (x:Int),.int .u64 (y:Int)] w (SetPost w0 w tag sb rb n N C X u b o (s.node.nd.put i x y)):=by
 obtain ⟨⟨a0,a1,a2,a3,a4,a5,a6,a7⟩,z0,z1,z2,z3,z4,z5,z6,z7⟩:=hs.all
 have cS:=ksetN h s.node hq hsq i x y hi hx hy
 unfold CN.val at cS
 go_enter Tryz.func148,Tryz.ntmps148
 go_wp2_with fail
 refine cS.mono ?_
 rintro e w1 ⟨q,rfl,hqm,tag',h1,m1,q1⟩
 have s1:=hs.mv m1 tb
 obtain ⟨⟨b0,b1,b2,b3,b4,b5,b6,b7⟩,y0,y1,y2,y3,y4,y5,y6,y7⟩:=s1.all
 unfold CN.val
 go_wp2_with fail
 go_end0
 exact ⟨rfl,q,tag',w1,hqm,h1,m1,q1,rfl⟩
end
end
section
set_option maxRecDepth 200000
open Go.RowKit
attribute [local go_sem ↓] Go.wp_at_zero Go.wp_at_succ
theorem eltS:EltZ Tryz.prog 122 139 8 128:=EltZ.mk (v:=.agg stepZ) Tryz.underlying122 (by kernel_rfl) (by kernel_rfl)
theorem cells_one (s:CS):∀ u∈s.cells,u.oneCell'=true:=by
 intro u hu
 simp [CS.cells] at hu
 rcases hu with rfl | rfl | rfl | rfl | rfl | rfl | rfl | rfl <;> rfl
structure RowS (w:World) (B:Nat) (tag:Nat→Nat) (ao:Option Addr) (c:Nat) (L:List CS):Prop where
 rm:RoomZ 8 w B ao L.length c (cellsL L)
 tg:∀ k,k∈fp ao c→tag k=4
 nd:∀ s,s∈L→NdAt w tag s.was∧NdAt w tag s.node
theorem RowS.nil (w:World) (B:Nat) (tag:Nat→Nat):RowS w B tag none 0 []:=⟨RoomZ.nil _ _ _ _,by simp [fp_zero],by simp⟩
theorem RowS.le {w:World} {B:Nat} {tag:Nat→Nat} {ao:Option Addr} {c:Nat} {L:List CS} (h:RowS w B tag ao c L):L.length≤c:=h.rm.le
theorem RowS.step {w:World} {B:Nat} {tag:Nat→Nat} {ao:Option Addr} {c:Nat} {L:List CS} (h:RowS w B tag ao c L) {i:Nat} {s:CS} (hs:L[i]?=some s):∃ b o,ao=some ⟨b,o,none⟩∧StepAt w b (o+i * 8) s∧b∈fp ao c:=by
 have hi:=(List.getElem?_eq_some_iff.1 hs).1
 have hc:=h.rm.le
 obtain ⟨b,o,rfl,h1,hlt,h2,h3⟩:=h.rm.at_ (by omega)
 refine ⟨b,o,rfl,⟨fun j v hj => ?_,fun j hj => ?_⟩,by rw [fp_some _ _ _ (by omega)];simp⟩
 ·have hj8:j < 8:=by
   by_cases h9:j < 8
   ·exact h9
   ·rw [List.getElem?_eq_none (by simp [CS.cells];omega)] at hj;cases hj
  have:=h3 (i * 8+j) v (by rw [cellsL_get hs j hj8];exact hj)
  rwa [← Nat.add_assoc] at this
 ·have:=(h2 (i * 8+j) (by omega)).2
  rwa [← Nat.add_assoc] at this
theorem RowS.mvb {S:List Nat} {w w':World} {B:Nat} {tag tag':Nat→Nat} {ao:Option Addr} {c:Nat} {L:List CS} (h:RowS w B tag ao c L) (m:Mvb S tag tag' w w') (hS:∀ k,k∈S→tag k=4) (hf:∀ k,k∈fp ao c→k ∉ S):RowS w' B tag' ao c L:=
 ⟨m.roomz h.rm (fun k hk => ⟨kt4 (h.tg k hk),hf k hk⟩),fun k hk => m.four (h.tg k hk) (h.rm.lt k hk).2,fun s hs => ⟨m.nd (h.nd s hs).1 hS,m.nd (h.nd s hs).2 hS⟩⟩
theorem RowS.wrote {S:List Nat} {w w':World} {B:Nat} {tag:Nat→Nat} {ao:Option Addr} {c:Nat} {L:List CS} (h:RowS w B tag ao c L) (g:Chg S w w') (hS:∀ k,k∈S→tag k=4) (hf:∀ k,k∈fp ao c→k ∉ S):RowS w' B tag ao c L:=
 ⟨h.rm.chg g hf,h.tg,fun s hs => ⟨(h.nd s hs).1.wrote g hS,(h.nd s hs).2.wrote g hS⟩⟩
theorem cellsL_set {L:List CS} {i:Nat} {s:CS} (hs:L[i]?=some s) (q:CN) (j:Nat):(cellsL (L.set i { s with node:=q }))[j]?=if j=i * 8+4 then some (.bool q.lf) else if j=i * 8+5 then some (.slice q.ka q.K.length q.kc) else if j=i * 8+6 then some (.slice q.va q.V.length q.vc) else (cellsL L)[j]?:=by
 have hi:=(List.getElem?_eq_some_iff.1 hs).1
 obtain ⟨p,r,hr,rfl⟩:∃ p r,r < 8∧j=p * 8+r:=⟨j / 8,j % 8,by omega,by omega⟩
 by_cases hp:p < L.length
 ·have h1:L[p]?=some L[p]:=List.getElem?_eq_getElem hp
  by_cases e:p=i
  ·subst e
   rw [hs] at h1
   have h2:(L.set p { s with node:=q })[p]?=some { s with node:=q }:=by rw [List.getElem?_set_self hp]
   rw [cellsL_get h2 r hr,cellsL_get hs r hr]
   match r,hr with
   | 0,_ => rw [if_neg (by omega),if_neg (by omega),if_neg (by omega)];rfl
   | 1,_ => rw [if_neg (by omega),if_neg (by omega),if_neg (by omega)];rfl
   | 2,_ => rw [if_neg (by omega),if_neg (by omega),if_neg (by omega)];rfl
   | 3,_ => rw [if_neg (by omega),if_neg (by omega),if_neg (by omega)];rfl
   | 4,_ => rw [if_pos rfl];rfl
   | 5,_ => rw [if_neg (by omega),if_pos rfl];rfl
   | 6,_ => rw [if_neg (by omega),if_neg (by omega),if_pos rfl];rfl
   | 7,_ => rw [if_neg (by omega),if_neg (by omega),if_neg (by omega)];rfl
  ·have h2:(L.set i { s with node:=q })[p]?=some L[p]:=by rw [List.getElem?_set_ne (fun h => e h.symm)];exact h1
   rw [cellsL_get h2 r hr,cellsL_get h1 r hr,if_neg (by omega),if_neg (by omega),if_neg (by omega)]
 ·rw [List.getElem?_eq_none (by rw [cellsL_len,List.length_set];omega),List.getElem?_eq_none (by rw [cellsL_len];omega),if_neg (by omega),if_neg (by omega),if_neg (by omega)]
theorem RowS.wr {w:World} {B:Nat} {tag:Nat→Nat} {b o c:Nat} {L:List CS} (h:RowS w B tag (some ⟨b,o,none⟩) c L) {i:Nat} {s:CS} (hs:L[i]?=some s) (tb:tag b=4) {q:CN} (hq:NdAt w tag q):RowS (wr3 w b (o+i * 8) q) B tag (some ⟨b,o,none⟩) c (L.set i { s with node:=q }):=by
 have hi:=(List.getElem?_eq_some_iff.1 hs).1
 have hle:=h.rm.le
 have g:=wr3_chg w b (o+i * 8) q
 have hS:∀ k,k∈[b]→tag k=4:=fun k hk => by simp at hk;subst hk;exact tb
 obtain ⟨b2,o2,e2,hst,-⟩:=h.step hs
 cases e2
 obtain ⟨b3,o3,e3,h1,hlt,h2,h3⟩:=h.rm.at_ (by omega)
 cases e3
 refine ⟨⟨by rw [cellsL_len],by rw [List.length_set];exact hle,h.rm.max,fun hc => ⟨b,o,rfl,h1,Nat.lt_of_lt_of_le hlt g.size,fun j hj => ⟨?_,by rw [wr3_frozen];exact (h2 j hj).2⟩,fun j v hj => ?_⟩⟩,h.tg,fun x hx => ?_⟩
 ·rw [wr3_cell hst]
  split
  ·rfl
  ·split
   ·rfl
   ·split
    ·rfl
    ·exact (h2 j hj).1
 ·rw [cellsL_set hs] at hj
  rw [wr3_cell hst]
  by_cases e4:j=i * 8+4
  ·rw [if_pos e4] at hj;rw [if_pos (by omega)];exact hj
  ·rw [if_neg e4] at hj;rw [if_neg (by omega)]
   by_cases e5:j=i * 8+5
   ·rw [if_pos e5] at hj;rw [if_pos (by omega)];exact hj
   ·rw [if_neg e5] at hj;rw [if_neg (by omega)]
    by_cases e6:j=i * 8+6
    ·rw [if_pos e6] at hj;rw [if_pos (by omega)];exact hj
    ·rw [if_neg e6] at hj;rw [if_neg (by omega)];exact h3 j v hj
 ·rcases List.mem_or_eq_of_mem_set hx with hx | rfl
  ·exact ⟨(h.nd x hx).1.wrote g hS,(h.nd x hx).2.wrote g hS⟩
  ·exact ⟨(h.nd s (List.mem_of_getElem? hs)).1.wrote g hS,hq.wrote g hS⟩
structure WayAt (w:World) (B:Nat) (tag:Nat→Nat) (wb sb:Nat) (a1:Option Addr) (c1:Nat) (a2:Option Addr) (c2:Nat) (S V:List CS) (rt od:Nat) (th:Bool):Prop where
 p0:w.cell? ⟨wb,0,none⟩=some (.pointer (some ⟨sb,0,none⟩))
 p1:w.cell? ⟨wb,1,none⟩=some (.slice a1 S.length c1)
 p2:w.cell? ⟨wb,2,none⟩=some (.slice a2 V.length c2)
 p3:w.cell? ⟨wb,3,none⟩=some (.int .u64 (rt:Int))
 p4:w.cell? ⟨wb,4,none⟩=some (.int .u64 (od:Int))
 p5:w.cell? ⟨wb,5,none⟩=some (.bool th)
 f:∀ j,w.frozen? ⟨wb,j,none⟩=false
 tb:tag wb=4
 r1:RowS w B tag a1 c1 S
 r2:RowS w B tag a2 c2 V
 d1:wb ∉ fp a1 c1
 d2:wb ∉ fp a2 c2
 d3:∀ k,k∈fp a1 c1→k ∉ fp a2 c2
 hB:B≤w.heap.size
section
variable {w w':World} {B:Nat} {tag tag':Nat→Nat} {wb sb:Nat} {a1:Option Addr} {c1:Nat} {a2:Option Addr} {c2:Nat} {S V:List CS} {rt od:Nat} {th:Bool}
theorem WayAt.lt (h:WayAt w B tag wb sb a1 c1 a2 c2 S V rt od th):wb < w.heap.size:=block_lt_of_cell h.p0
theorem WayAt.mvb (h:WayAt w B tag wb sb a1 c1 a2 c2 S V rt od th) {T:List Nat} (m:Mvb T tag tag' w w') (hT:∀ k,k∈T→tag k=4) (h0:wb ∉ T) (h1:∀ k,k∈fp a1 c1→k ∉ T) (h2:∀ k,k∈fp a2 c2→k ∉ T):WayAt w' B tag' wb sb a1 c1 a2 c2 S V rt od th:=
 ⟨m.cellv h.p0 (kt4 h.tb) h0,m.cellv h.p1 (kt4 h.tb) h0,m.cellv h.p2 (kt4 h.tb) h0,m.cellv h.p3 (kt4 h.tb) h0,m.cellv h.p4 (kt4 h.tb) h0,m.cellv h.p5 (kt4 h.tb) h0,fun j => m.frozen (h.f j) h.lt (kt4 h.tb) h0,m.four h.tb h.lt,h.r1.mvb m hT h1,h.r2.mvb m hT h2,h.d1,h.d2,h.d3,Nat.le_trans h.hB m.size⟩
theorem WayAt.mv (h:WayAt w B tag wb sb a1 c1 a2 c2 S V rt od th) (m:Mv tag tag' w w'):WayAt w' B tag' wb sb a1 c1 a2 c2 S V rt od th:=h.mvb (m.b []) (by simp) (by simp) (by simp) (by simp)
theorem WayAt.wrote (h:WayAt w B tag wb sb a1 c1 a2 c2 S V rt od th) {T:List Nat} (g:Chg T w w') (hT:∀ k,k∈T→tag k=4) (h0:wb ∉ T) (h1:∀ k,k∈fp a1 c1→k ∉ T) (h2:∀ k,k∈fp a2 c2→k ∉ T):WayAt w' B tag wb sb a1 c1 a2 c2 S V rt od th:=
 ⟨g.cellv h.p0 h0,g.cellv h.p1 h0,g.cellv h.p2 h0,g.cellv h.p3 h0,g.cellv h.p4 h0,g.cellv h.p5 h0,fun j => (g.frozen (p:=⟨wb,j,none⟩) h.lt h0).trans (h.f j),h.tb,h.r1.wrote g hT h1,h.r2.wrote g hT h2,h.d1,h.d2,h.d3,Nat.le_trans h.hB g.size⟩
theorem WayAt.keep (h:WayAt w B tag wb sb a1 c1 a2 c2 S V rt od th) (g:Chg [] w w'):WayAt w' B tag wb sb a1 c1 a2 c2 S V rt od th:=h.wrote g (by simp) (by simp) (by simp) (by simp)
theorem leaf_any (h:WayAt w B tag wb sb a1 c1 a2 c2 S V rt od th) (k:Nat) (hk:S.length=k+1) (hm:k≤1000):Calls Tryz.prog 110 #[.pointer (some ⟨wb,0,none⟩)] w fun e w' => ∃ b o,a1=some ⟨b,o,none⟩∧e=.returned (.pointer (some ⟨b,o+k * 8,none⟩))∧Chg [] w w':=by
 have p1:=h.p1
 obtain ⟨s,hs⟩:∃ s,S[k]?=some s:=⟨S[k],List.getElem?_eq_getElem (by omega)⟩
 obtain ⟨b,o,rfl,-,-⟩:=h.r1.step hs
 rw [hk] at p1
 have hw1:IntKind.i64.wrap (((k+1:Nat):Int) - 1)=(k:Int):=by rw [Go.IntWalk.i64_in _ (by omega)];omega
 have hle:=h.r1.le
 go_enter Tryz.func110,Tryz.ntmps110
 go_wp2_with fail
 go_quiet (fail)
 go_wp2_with fail
 go_ret
 exact ⟨b,o,rfl,rfl,Chg.drewN w _⟩
end
end
end Go.Proofs.YtdgkbicelnnfpaaGreatDoor
