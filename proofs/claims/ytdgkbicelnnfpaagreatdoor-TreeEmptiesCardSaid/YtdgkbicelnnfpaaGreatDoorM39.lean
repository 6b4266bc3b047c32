/- Texts Wd, We, Wf, Wg, Wh of the library, joined. -/
import Derived.Test.YtdgkbicelnnfpaaGreatDoorM38
set_option linter.unusedVariables false
set_option linter.unusedSimpArgs false
namespace Go.Proofs.YtdgkbicelnnfpaaGreatDoor
section
def Used (n:Nat) (N:List UInt8) (U:List Nat):Prop:=N.length=n∧(∀ b,b∈U→b < n)∧∀ b,b < n→(at0 N (b:Int)).toNat=U.count b
def HasRoom (n:Nat) (N C:List UInt8):Prop:=∃ b,b < n∧at0 N (b:Int)=0∧at0 C (b:Int)=0
theorem at0_set {N:List UInt8} {x:Nat} (hx:x < N.length) (v:UInt8) (b:Nat):at0 (N.set x v) (b:Int)=if b=x then v else at0 N (b:Int):=by
 unfold at0
 rw [Int.toNat_natCast]
 by_cases e:b=x
 ·subst e
  rw [if_pos rfl,List.getElem?_set_self hx]
  rfl
 ·rw [if_neg e,List.getElem?_set_ne (fun q => e q.symm)]
theorem u8_sub (x:UInt8) (h:0 < x.toNat):(x - 1).toNat=x.toNat - 1:=by
 have hx:=x.toNat_lt
 rw [UInt8.toNat_sub_of_le _ _ (by rw [UInt8.le_iff_toNat_le];exact h)]
 rfl
namespace Used
variable {n:Nat} {N C:List UInt8} {U U':List Nat}
theorem perm (h:Used n N U) (p:U.Perm U'):Used n N U':=⟨h.1,fun b hb => h.2.1 b (p.mem_iff.2 hb),fun b hb => by rw [h.2.2 b hb,p.count_eq]⟩
theorem zero (h:Used n N U) {b:Nat} (hb:b < n) (h0:at0 N (b:Int)=0):b ∉ U:=fun hm => by
 have h1:=h.2.2 b hb
 rw [h0] at h1
 have h2:=List.count_pos_iff.2 hm
 simp at h1
 omega
theorem alloc (h:Used n N U) (hC:C.length=n):(¬ HasRoom n N C∧(allocN N C).2.1 ≠ 0) ∨ ((allocN N C).2.1=0∧∃ t:Nat,(allocN N C).1=(t:Int)∧t < n∧t ∉ U∧at0 C (t:Int)=0∧Used n (allocN N C).2.2 (t :: U)):=by
 by_cases h0:(allocN N C).2.1=0
 ·right
  refine ⟨h0,?_⟩
  obtain ⟨t,e1,e2,e3,e4,e5⟩:=alloc_ok h.1 hC (show allocN N C=((allocN N C).1,0,(allocN N C).2.2) from Prod.ext rfl (Prod.ext h0 rfl))
  have z0:at0 N (t:Int)=0:=at0_of e4
  have hm:=h.zero e2 z0
  refine ⟨t,e1,e2,hm,at0_of e5,?_⟩
  rw [e3]
  refine ⟨by simp [h.1],fun b hb => ?_,fun b hb => ?_⟩
  ·rcases List.mem_cons.1 hb with rfl | hb
   ·exact e2
   ·exact h.2.1 b hb
  ·rw [at0_set (by rw [h.1];exact e2)]
   by_cases e:b=t
   ·subst e
    rw [if_pos rfl,List.count_cons_self,List.count_eq_zero_of_not_mem hm]
    rfl
   ·rw [if_neg e,List.count_cons_of_ne (fun q => e q.symm),h.2.2 b hb]
 ·left
  refine ⟨fun ⟨b,hb,h1,h2⟩ => h0 ?_,h0⟩
  unfold allocN
  cases hf:freeL (freeI N C) with
  | cons x r => rfl
  | nil =>
   exfalso
   have e1:N[b]?=some 0:=by
    have hl:b < N.length:=by rw [h.1];exact hb
    have:=h1
    unfold at0 at this
    rw [Int.toNat_natCast,List.getElem?_eq_getElem hl] at this
    rw [List.getElem?_eq_getElem hl]
    simpa using this
   have e2:C[b]?=some 0:=by
    have hl:b < C.length:=by rw [hC];exact hb
    have:=h2
    unfold at0 at this
    rw [Int.toNat_natCast,List.getElem?_eq_getElem hl] at this
    rw [List.getElem?_eq_getElem hl]
    simpa using this
   have:=(mem_freeL (freeI N C) b).2 (freeI_true.2 ⟨e1,e2⟩)
   rw [hf] at this
   simp at this
theorem dec {a:Nat} (h:Used n N (a :: U)):(decN N (a:Int)).2.1=0∧Used n (decN N (a:Int)).2.2 U:=by
 have ha:=h.2.1 a (by simp)
 have hc:=h.2.2 a ha
 rw [List.count_cons_self] at hc
 have hne:at0 N (a:Int) ≠ 0:=fun e => by rw [e] at hc;simp at hc
 unfold decN
 rw [if_pos (isIn_yes h.1 ha),if_neg hne]
 refine ⟨rfl,?_⟩
 dsimp only
 rw [Int.toNat_natCast]
 refine ⟨by simp [h.1],fun b hb => h.2.1 b (List.mem_cons_of_mem _ hb),fun b hb => ?_⟩
 rw [at0_set (by rw [h.1];exact ha)]
 by_cases e:b=a
 ·subst e
  rw [if_pos rfl,u8_sub _ (by omega),hc]
  rfl
 ·rw [if_neg e,h.2.2 b hb,List.count_cons_of_ne (fun q => e q.symm)]
theorem cnt {a:Nat} (h:Used n N (a :: U)):cntN N (a:Int)=(U.count a+1:Nat):=by
 have ha:=h.2.1 a (by simp)
 have hc:=h.2.2 a ha
 rw [List.count_cons_self] at hc
 unfold cntN
 rw [if_pos (isIn_yes h.1 ha),hc]
theorem new_of {t:Nat} (h:Used n N U) (ht:t < n) (hm:t∈U) (h0:at0 C (t:Int)=0):newN N C (t:Int)=true:=by
 have hc:=h.2.2 t ht
 have hp:=List.count_pos_iff.2 hm
 have hne:at0 N (t:Int) ≠ 0:=fun e => by rw [e] at hc;simp at hc;omega
 unfold newN
 rw [isIn_yes h.1 ht,h0]
 simp [hne]
end Used
theorem blk_of {n a:Nat} (hn:n≤1024) (ha:a < n):blkI a=(a:Int):=blk_int (by omega)
theorem shadow_ex {n:Nat} {N C:List UInt8} {X:Nat→Option Nd} {a:Nat} {m:Nd} {U:List Nat} (h:Used n N (a :: U)) (hC:C.length=n) (ha:a ∉ U) (hX:X a=some m) :
  (¬ HasRoom n N C∧shadowA N C X a=.full) ∨ ∃ N' X' t,shadowA N C X a=.ok (N',X',t,m)∧Used n N' (t :: U)∧t < n∧newN N' C (t:Int)=true∧t ∉ U∧X' t=some m∧(∀ z,z ≠ t→X' z=X z)∧(t=a ∨ at0 N (t:Int)=0∧at0 C (t:Int)=0∧t ∉ a :: U):=by
 have han:=h.2.1 a (by simp)
 have hc:=h.cnt
 rw [List.count_eq_zero_of_not_mem ha,Nat.zero_add] at hc
 unfold shadowA
 rw [hX]
 dsimp only
 by_cases hn:newN N C (a:Int)=true
 ·rw [if_pos ⟨hn,hc⟩]
  exact Or.inr ⟨N,X,a,rfl,h,han,hn,ha,hX,fun _ _ => rfl,Or.inl rfl⟩
 ·rw [if_neg (fun q => hn q.1)]
  rcases h.alloc hC with ⟨h1,h2⟩ | ⟨h0,t,e1,e2,e3,e4,e5⟩
  ·exact Or.inl ⟨h1,by rw [if_pos h2]⟩
  ·right
   rw [if_neg (by rw [h0];simp)]
   have hp:Used n (allocN N C).2.2 (a :: t :: U):=e5.perm (List.Perm.swap a t U)
   have hta:a ∉ t :: U:=by
    intro hm
    rcases List.mem_cons.1 hm with rfl | hm
    ·exact e3 (by simp)
    ·exact ha hm
   have hc2:=hp.cnt
   rw [List.count_eq_zero_of_not_mem hta,Nat.zero_add] at hc2
   rw [if_neg (by rw [hc2];decide)]
   dsimp only
   obtain ⟨d1,d2⟩:=hp.dec
   rw [if_neg (by rw [d1];simp),e1,Int.toNat_natCast]
   have hz:at0 N (t:Int)=0:=by
    have:=h.2.2 t e2
    rw [List.count_eq_zero_of_not_mem e3] at this
    exact UInt8.toNat_inj.1 this
   refine ⟨_,_,t,rfl,d2,e2,d2.new_of e2 (by simp) e4,fun hm => e3 (List.mem_cons_of_mem _ hm),?_,fun z hz => ?_,Or.inr ⟨hz,e4,e3⟩⟩
   ·unfold putX;rw [if_pos rfl]
   ·unfold putX;rw [if_neg hz]
theorem make_ex {n:Nat} {N C:List UInt8} {X:Nat→Option Nd} {m:Nd} {U:List Nat} (h:Used n N U) (hC:C.length=n) (hm:mayB m.K m.V=true) :
  (¬ HasRoom n N C∧makeA N C X m=.full) ∨ ∃ N' t,makeA N C X m=.ok (N',putX X t m,t)∧Used n N' (t :: U)∧t < n∧newN N' C (t:Int)=true∧t ∉ U∧at0 N (t:Int)=0∧at0 C (t:Int)=0:=by
 unfold makeA
 rw [if_neg (by rw [hm];simp)]
 rcases h.alloc hC with ⟨h1,h2⟩ | ⟨h0,t,e1,e2,e3,e4,e5⟩
 ·exact Or.inl ⟨h1,by rw [if_pos h2]⟩
 ·right
  rw [if_neg (by rw [h0];simp),e1,Int.toNat_natCast]
  have hz:at0 N (t:Int)=0:=by
   have:=h.2.2 t e2
   rw [List.count_eq_zero_of_not_mem e3] at this
   exact UInt8.toNat_inj.1 this
  exact ⟨_,t,rfl,e5,e2,e5.new_of e2 (by simp) e4,e3,hz,e4⟩
theorem less_ex {n:Nat} {N:List UInt8} {a:Nat} {U:List Nat} (h:Used n N (a :: U)) (hn:n≤1024):∃ N',lessA N a=some N'∧Used n N' U:=by
 obtain ⟨d1,d2⟩:=h.dec
 unfold lessA
 rw [blk_of hn (h.2.1 a (by simp)),if_pos d1]
 exact ⟨_,rfl,d2⟩
end
section
structure FrameS (X:Nat→Option Nd) (h:Nat) (s:AS) (P1 P2:Prs) (B1 B2:List Nat):Prop where
 lf:s.node.lf=false
 len:s.node.K.length=s.node.V.length
 pl:s.pl < s.node.K.length
 l:Kids (T4 X h) (s.node.K.take s.pl) (s.node.V.take s.pl) P1 B1
 r:Kids (T4 X h) (s.node.K.drop (s.pl+1)) (s.node.V.drop (s.pl+1)) P2 B2
def Link (key:Nat) (L:List AS) (t:Nat) (Q:Prs):Prop:=∀ r,L.getLast?=some r→r.node.V[r.pl]?=some t∧∃ k0 x0,Q.head?=some (k0,x0)∧r.node.K[r.pl]?=some (min key k0)
def Size (L:List AS) (h:Nat) (m:Nd):Prop:=m.K.length≤8∧(L=[]→h=0→1≤m.K.length)∧(L=[]→h ≠ 0→2≤m.K.length)∧(L ≠ []→4≤m.K.length)
inductive Path (X:Nat→Option Nd) (key:Nat):List AS→Nat→Prs→Prs→Prs→List Nat→Prop
 | nil {h:Nat} {P:Prs}:Path X key [] h P [] [] []
 | snoc {L:List AS} {h:Nat} {s:AS} {P A R P1 P2:Prs} {Bs B1 B2:List Nat}:Path X key L (h+1) (P1++(P++P2)) A R Bs→Link key L s.t (P1++(P++P2))→Size L (h+1) s.node→FrameS X h s P1 P2 B1 B2→(∀ a,a∈P1→a.1 < key)→(∀ a,a∈P2→key < a.1)→X s.t=some s.was →
   Path X key (L++[s]) h P (A++P1) (P2++R) (Bs++(B1++B2))
theorem Kids.frame {X X':Nat→Option Nd} {h:Nat} {K V:List Nat} {P:Prs} {B:List Nat} (t:Kids (T4 X h) K V P B) (f:∀ z,z∈B→X' z=X z):Kids (T4 X' h) K V P B:=t.mono fun v p b hb r => r.frame fun z hz => f z (hb z hz)
theorem FrameS.frame {X X':Nat→Option Nd} {h:Nat} {s:AS} {P1 P2:Prs} {B1 B2:List Nat} (t:FrameS X h s P1 P2 B1 B2) (f:∀ z,z∈B1++B2→X' z=X z):FrameS X' h s P1 P2 B1 B2:=
 ⟨t.lf,t.len,t.pl,t.l.frame fun z hz => f z (List.mem_append_left _ hz),t.r.frame fun z hz => f z (List.mem_append_right _ hz)⟩
theorem Path.frame {X X':Nat→Option Nd} {key:Nat} {L:List AS} {h:Nat} {P A R:Prs} {Bs:List Nat} (t:Path X key L h P A R Bs) (f:∀ z,z∈L.map AS.t++Bs→X' z=X z):Path X' key L h P A R Bs:=by
 induction t with
 | nil => exact .nil
 | snoc _ hl hs fr h1 h2 hw ih =>
  refine .snoc (ih fun z hz => f z ?_) hl hs (fr.frame fun z hz => f z ?_) h1 h2 ?_
  ·rcases List.mem_append.1 hz with h9 | h9
   ·exact List.mem_append_left _ (by rw [List.map_append];exact List.mem_append_left _ h9)
   ·exact List.mem_append_right _ (List.mem_append_left _ h9)
  ·exact List.mem_append_right _ (List.mem_append_right _ hz)
  ·rw [f _ (List.mem_append_left _ (by simp))];exact hw
theorem Path.keys {X:Nat→Option Nd} {key:Nat} {L:List AS} {h:Nat} {P A R:Prs} {Bs:List Nat} (t:Path X key L h P A R Bs):(∀ a,a∈A→a.1 < key)∧∀ a,a∈R→key < a.1:=by
 induction t with
 | nil => simp
 | snoc _ _ _ _ h1 h2 _ ih =>
  refine ⟨fun a ha => ?_,fun a ha => ?_⟩
  ·rcases List.mem_append.1 ha with h9 | h9
   ·exact ih.1 a h9
   ·exact h1 a h9
  ·rcases List.mem_append.1 ha with h9 | h9
   ·exact h2 a h9
   ·exact ih.2 a h9
theorem put_take (K V:List Nat) (lf:Bool) (i x y:Nat):((⟨lf,K,V⟩:Nd).put i x y).K.take i=K.take i∧((⟨lf,K,V⟩:Nd).put i x y).V.take i=V.take i∧((⟨lf,K,V⟩:Nd).put i x y).K.drop (i+1)=K.drop (i+1)∧((⟨lf,K,V⟩:Nd).put i x y).V.drop (i+1)=V.drop (i+1):=by
 unfold Nd.put
 dsimp only
 exact ⟨List.take_set_of_le (Nat.le_refl _),List.take_set_of_le (Nat.le_refl _),List.drop_set_of_lt (by omega),List.drop_set_of_lt (by omega)⟩
theorem down_ex {n:Nat} {C:List UInt8} (hC:C.length=n) (key:Nat) (D:List Nat):∀ (h f:Nat) (N:List UInt8) (X:Nat→Option Nd) (L:List AS) (x:AS) (A P R:Prs) (B Bs:List Nat),
  Used n N ((x.t :: (L.map AS.t++(B++Bs)))++D)→((x.t :: (L.map AS.t++(B++Bs)))++D).Nodup→Path X key L h P A R Bs→X x.t=some x.node→x.was=x.node→TN X h x.node P B→Link key L x.t P→Size L h x.node→Srt P→h≤f →
  (downL C key (f+1) N X L x=.full∧∃ N' W,Used n N' (W++D)∧W.length=L.length+1+B.length+Bs.length∧¬ HasRoom n N' C) ∨
  ∃ N' X' L' x' A' P' R' Bs',downL C key (f+1) N X L x=.ok (N',X',L'++[x'])∧Used n N' ((x'.t :: (L'.map AS.t++Bs'))++D)∧((x'.t :: (L'.map AS.t++Bs'))++D).Nodup∧Path X' key L' 0 P' A' R' Bs'∧X' x'.t=some x'.node∧x'.was=x'.node∧TN X' 0 x'.node P' []∧Link key L' x'.t P'∧Size L' 0 x'.node ∧
   Srt P'∧L'.length=L.length+h∧A'++(P'++R')=A++(P++R)∧L'.length+Bs'.length=L.length+B.length+Bs.length∧(L++[x]).map AS.t <+: (L'++[x']).map AS.t
 | 0,f,N,X,L,x,A,P,R,B,Bs,hU,hN,hP,hX,hw,t,hl,hs,hsr,hf => by
  right
  obtain ⟨t1,t2,t3,rfl⟩:=t
  refine ⟨N,X,L,x,A,P,R,Bs,?_,hU,hN,hP,hX,hw,⟨t1,t2,t3,rfl⟩,hl,hs,hsr,rfl,rfl,by simp,List.prefix_rfl⟩
  unfold downL
  rw [if_pos t1]
 | h+1,f,N,X,L,x,A,P,R,B,Bs,hU,hN,hP,hX,hw,t,hl,hs,hsr,hf => by
  obtain ⟨f,rfl⟩:∃ g,f=g+1:=⟨f - 1,by omega⟩
  obtain ⟨t1,t2⟩:=t
  have hK0:x.node.K ≠ []:=fun e => by
   have h1:=hs
   unfold Size at h1
   rw [e] at h1
   by_cases hL:L=[]
   ·have:=h1.2.2.1 hL (by omega);simp at this
   ·have:=h1.2.2.2 hL;simp at this
  obtain ⟨k,v,P1,p,P2,B1,b,B2,e1,e2,k1,⟨m',b',r1,r2,r3,rfl⟩,⟨x0,hx0⟩,k2,rfl,rfl,l1,l2,l3⟩:=locate t2 hsr hK0 key
  have e1':x.node.K[x.node.child key]?=some k:=e1
  have e2':x.node.V[x.node.child key]?=some v:=e2
  have hplK:x.node.child key < x.node.K.length:=(List.getElem?_eq_some_iff.1 e1').1
  have hplV:x.node.child key < x.node.V.length:=(List.getElem?_eq_some_iff.1 e2').1
  have hlen:x.node.K.length=x.node.V.length:=t2.len
  have k1':Kids (T4 X h) (x.node.K.take (x.node.child key)) (x.node.V.take (x.node.child key)) P1 B1:=k1
  have k2':Kids (T4 X h) (x.node.K.drop (x.node.child key+1)) (x.node.V.drop (x.node.child key+1)) P2 B2:=k2
  have hdl:downL C key (f+1+1) N X L x=(match shadowA N C X v with
   | .stuck => .stuck
   | .full => .full
   | .ok (N',X',t,m) => downL C key (f+1) N' X' (L++[(⟨x.t,x.was,x.node.put (x.node.child key) (min key k) t,x.node.child key⟩:AS)]) ⟨t,m,m,0⟩):=by
   conv => lhs;unfold downL
   rw [if_neg (by rw [t1];simp),if_neg (by omega),e2',e1']
   rfl
  generalize x.node.child key=pl at *
  have hp:((x.t :: (L.map AS.t++((B1++((v :: b')++B2))++Bs)))++D).Perm (v :: ((x.t :: (L.map AS.t++((B1++(b'++B2))++Bs)))++D)):=List.perm_iff_count.2 fun a => by
   simp only [List.count_append,List.count_cons,List.cons_append];omega
  have hN2:=hp.nodup_iff.1 hN
  obtain ⟨hv,hN3⟩:=List.nodup_cons.1 hN2
  rw [hdl]
  rcases shadow_ex (hU.perm hp) hC hv r1 with ⟨g1,g2⟩ | ⟨N',X',t',g1,g2,g3,g4,g5,g6,g7,g8⟩
  ·left
   rw [g2]
   exact ⟨rfl,N,_,hU,by simp;omega,g1⟩
  ·rw [g1]
   dsimp only
   have hne:∀ z,z∈(x.t :: (L.map AS.t++((B1++(b'++B2))++Bs)))++D→X' z=X z:=fun z hz => g7 z (fun e => g5 (e ▸ hz))
   have hx:X' x.t=X x.t:=hne _ (by simp)
   have hp2:(t' :: ((x.t :: (L.map AS.t++((B1++(b'++B2))++Bs)))++D)).Perm ((t' :: ((L++[(⟨x.t,x.was,x.node.put pl (min key k) t',pl⟩:AS)]).map AS.t++(b'++(Bs++(B1++B2)))))++D):=List.perm_iff_count.2 fun a => by
    simp only [List.count_append,List.count_cons,List.cons_append,List.map_append,List.map_cons,List.map_nil,List.count_nil];omega
   obtain ⟨pt1,pt2,pt3,pt4⟩:=put_take x.node.K x.node.V x.node.lf pl (min key k) t'
   have hs':Size L (h+1) (x.node.put pl (min key k) t'):=by
    unfold Size Nd.put at *
    simpa using hs
   obtain ⟨s1,s2,s3⟩:=hsr.parts
   have ih:=down_ex hC key D h f N' X' (L++[⟨x.t,x.was,x.node.put pl (min key k) t',pl⟩]) ⟨t',m',m',0⟩ (A++P1) p (P2++R) b' (Bs++(B1++B2)) (g2.perm hp2) (hp2.nodup_iff.1 (List.nodup_cons.2 ⟨g5,hN3⟩))
    (.snoc (hP.frame fun z hz => hne z (by
     rcases List.mem_append.1 hz with h9 | h9
     ·exact List.mem_append_left _ (List.mem_cons_of_mem _ (List.mem_append_left _ h9))
     ·exact List.mem_append_left _ (List.mem_cons_of_mem _ (List.mem_append_right _ (List.mem_append_right _ h9))))) hl hs'
     ⟨t1,by unfold Nd.put;simp [hlen],by unfold Nd.put;simpa using hplK,by rw [pt1,pt2];exact k1'.frame fun z hz => hne z (by simp [hz]),by rw [pt3,pt4];exact k2'.frame fun z hz => hne z (by simp [hz])⟩ l1 l2 (by rw [hx,hX,hw]))
    g6 rfl (r3.frame fun z hz => hne z (by simp [hz]))
    (fun r hr => by
     rw [List.getLast?_concat] at hr
     simp only [Option.some.injEq] at hr
     subst hr
     exact ⟨by unfold Nd.put;simp [hplV],k,x0,hx0,by unfold Nd.put;simp [hplK]⟩)
    ⟨r2.2,fun e => by simp at e,fun e => by simp at e,fun _ => r2.1⟩ s2.parts.1 (by omega)
   rcases ih with ⟨i1,N2,W,i2,i3,i4⟩ | ⟨N2,X2,L',x',A',P',R',Bs',i1,i2,i3,i4,i5,i6,i7,i8,i9,i10,i11,i12,i13,i14⟩
   ·left
    refine ⟨i1,N2,W,i2,?_,i4⟩
    rw [i3]
    simp
    omega
   ·right
    refine ⟨N2,X2,L',x',A',P',R',Bs',i1,i2,i3,i4,i5,i6,i7,i8,i9,i10,?_,?_,?_,?_⟩
    ·rw [i11];simp;omega
    ·rw [i12];simp
    ·rw [i13];simp;omega
    ·refine List.IsPrefix.trans ?_ i14
     simp only [List.map_append,List.map_cons,List.map_nil]
     exact List.prefix_append _ _
end
section
theorem TN.parts {X:Nat→Option Nd} {h:Nat} {m:Nd} {P:Prs} {B:List Nat} (t:TN X h m P B) (c:Nat):∃ P1 P2 B1 B2,TN X h ⟨m.lf,m.K.take c,m.V.take c⟩ P1 B1∧TN X h ⟨m.lf,m.K.drop c,m.V.drop c⟩ P2 B2∧P=P1++P2∧B=B1++B2:=by
 cases h with
 | zero =>
  obtain ⟨t1,t2,rfl,rfl⟩:=t
  refine ⟨_,_,[],[],⟨t1,by simp [t2],rfl,rfl⟩,⟨t1,by simp [t2],rfl,rfl⟩,?_,rfl⟩
  dsimp only
  rw [← List.zip_append (by simp [t2]),List.take_append_drop,List.take_append_drop]
 | succ h =>
  obtain ⟨t1,t2⟩:=t
  have t2':Kids (T4 X h) (m.K.take c++m.K.drop c) (m.V.take c++m.V.drop c) P B:=by rw [List.take_append_drop,List.take_append_drop];exact t2
  obtain ⟨P1,P2,B1,B2,h1,h2,e1,e2⟩:=Kids.split (by rw [List.length_take,List.length_take,t2.len]) t2'
  exact ⟨P1,P2,B1,B2,⟨t1,h1⟩,⟨t1,h2⟩,e1,e2⟩
theorem at_parts {L:List Nat} {i x:Nat} (h:L[i]?=some x):L=L.take i++x :: L.drop (i+1)∧L.take (i+1)=L.take i++[x]:=by
 obtain ⟨hi,he⟩:=List.getElem?_eq_some_iff.1 h
 refine ⟨by rw [← he,List.getElem_cons_drop,List.take_append_drop],?_⟩
 rw [List.take_succ_eq_append_getElem hi,he]
theorem FrameS.close {X:Nat→Option Nd} {h:Nat} {s:AS} {P1 P2 p:Prs} {B1 B2 b:List Nat} {k v:Nat} (fr:FrameS X h s P1 P2 B1 B2) (r:T4 X h v p b) (hv:s.node.V[s.pl]?=some v) (hk:s.node.K[s.pl]?=some k) (hx:∃ x,p.head?=some (k,x)):TN X (h+1) s.node (P1++(p++P2)) (B1++(b++B2)):=by
 refine ⟨fr.lf,?_⟩
 have h1:=fr.l.append (Kids.cons r hx fr.r)
 rw [← (at_parts hk).1,← (at_parts hv).1] at h1
 exact h1
theorem FrameS.close2 {X:Nat→Option Nd} {h:Nat} {s:AS} {P1 P2 p p2:Prs} {B1 B2 b b2:List Nat} {k v k2 v2:Nat} (fr:FrameS X h s P1 P2 B1 B2) (r:T4 X h v p b) (hv:s.node.V[s.pl]?=some v) (hk:s.node.K[s.pl]?=some k) (hx:∃ x,p.head?=some (k,x)) (r2:T4 X h v2 p2 b2) (hx2:∃ x,p2.head?=some (k2,x)) :
  TN X (h+1) (s.node.ins (s.pl+1) k2 v2) (P1++((p++p2)++P2)) (B1++((b++b2)++B2)):=by
 refine TN.succ.2 ⟨fr.lf,?_⟩
 have h1:=fr.l.append (Kids.cons r hx (Kids.cons r2 hx2 fr.r))
 have e1:(s.node.ins (s.pl+1) k2 v2).K=s.node.K.take s.pl++k :: k2 :: s.node.K.drop (s.pl+1):=by
  show insA s.node.K (s.pl+1) k2=_
  unfold insA
  rw [(at_parts hk).2,List.append_assoc]
  rfl
 have e2:(s.node.ins (s.pl+1) k2 v2).V=s.node.V.take s.pl++v :: v2 :: s.node.V.drop (s.pl+1):=by
  show insA s.node.V (s.pl+1) v2=_
  unfold insA
  rw [(at_parts hv).2,List.append_assoc]
  rfl
 rw [← e1,← e2] at h1
 simpa only [List.append_assoc] using h1
theorem may_of {K V:List Nat} (h1:1≤K.length) (h8:K.length≤8) (hl:K.length=V.length) (hr:K.Pairwise (· < ·)) (hv:∀ v,v∈V→0 < v):mayB K V=true:=by
 unfold mayB
 simp only [Bool.and_eq_true,decide_eq_true_eq,List.all_eq_true,List.mem_range]
 refine ⟨⟨⟨h1,h8⟩,hl.symm⟩,fun i hi => ?_⟩
 unfold okAt
 simp only [Bool.and_eq_true,Bool.or_eq_true,decide_eq_true_eq]
 have hiV:i < V.length:=by omega
 refine ⟨?_,?_⟩
 ·rw [List.getD_eq_getElem?_getD,List.getElem?_eq_getElem hiV]
  exact hv _ (List.getElem_mem _)
 ·by_cases h0:i=0
  ·exact Or.inl h0
  ·right
   rw [List.getD_eq_getElem?_getD,List.getD_eq_getElem?_getD,List.getElem?_eq_getElem hi,List.getElem?_eq_getElem (by omega)]
   exact List.pairwise_iff_getElem.1 hr (i - 1) i (by omega) hi (by omega)
theorem TN.may {X:Nat→Option Nd} {h:Nat} {m:Nd} {P:Prs} {B:List Nat} (t:TN X h m P B) (hs:Srt P) (hp:∀ a,a∈P→0 < a.2) (hb:∀ z,z∈B→0 < z) (h1:1≤m.K.length) (h8:m.K.length≤8):mayB m.K m.V=true:=by
 cases h with
 | zero =>
  obtain ⟨t1,t2,rfl,-⟩:=t
  refine may_of h1 h8 t2 (zip_rising hs t2) fun v hv => ?_
  obtain ⟨i,hi,rfl⟩:=List.getElem_of_mem hv
  have hm:(m.K[i]'(by omega),m.V[i])∈m.K.zip m.V:=by
   rw [← List.getElem_zip (h:=by simp;omega)]
   exact List.getElem_mem _
  exact hp _ hm
 | succ h =>
  obtain ⟨t1,t2⟩:=t
  refine may_of h1 h8 t2.len (t2.rising hs).1 fun v hv => hb v (t2.vals (fun v p b ⟨_,_,_,_,_,e⟩ => by rw [e];simp) v hv)
theorem AS.same_is {x:AS} (h:x.same=true):x.node=x.was:=by
 unfold AS.same sameB at h
 simp only [Bool.and_eq_true,decide_eq_true_eq] at h
 obtain ⟨h1,h2,h3⟩:=h
 obtain ⟨t,⟨a,b,c⟩,⟨d,e,f⟩,p⟩:=x
 dsimp only at *
 rw [h1,h2,h3]
theorem save_keep {X:Nat→Option Nd} {V:List AS} {x:AS} (hw:saveAll X V x.t=some x.was):saveAll X (keptV V x) x.t=some x.node∧∀ z,z ≠ x.t→saveAll X (keptV V x) z=saveAll X V z:=by
 unfold keptV
 by_cases hs:x.same=true
 ·rw [if_pos hs]
  exact ⟨by rw [hw,AS.same_is hs],fun _ _ => rfl⟩
 ·rw [if_neg hs,saveAll_snoc]
  exact ⟨by unfold putX;rw [if_pos rfl],fun z hz => by unfold putX;rw [if_neg hz]⟩
theorem putX_swap (X:Nat→Option Nd) {a t:Nat} (b m:Nd) (h:a ≠ t):putX (putX X t m) a b=putX (putX X a b) t m:=by
 funext z
 unfold putX
 by_cases h1:z=a
 ·by_cases h2:z=t
  ·exact absurd (h1.symm.trans h2) h
  ·rw [if_pos h1,if_neg h2,if_pos h1]
 ·by_cases h2:z=t
  ·rw [if_neg h1,if_pos h2,if_pos h2]
  ·rw [if_neg h1,if_neg h2,if_neg h2,if_neg h1]
theorem save_new:∀ {V:List AS} {X:Nat→Option Nd} {t:Nat} {m:Nd},(∀ y,y∈V→y.t ≠ t)→saveAll (putX X t m) V t=some m∧∀ z,z ≠ t→saveAll (putX X t m) V z=saveAll X V z
 | [],X,t,m,_ => ⟨by show putX X t m t=_;unfold putX;rw [if_pos rfl],fun z hz => by show putX X t m z=X z;unfold putX;rw [if_neg hz]⟩
 | y :: V,X,t,m,h => by
  have e:saveAll (putX X t m) (y :: V)=saveAll (putX (putX X y.t y.node) t m) V:=by
   show saveAll (putX (putX X t m) y.t y.node) V=_
   rw [putX_swap X y.node m (h y (by simp))]
  rw [e]
  exact save_new fun z hz => h z (List.mem_cons_of_mem _ hz)
end
section
structure UpI (n key val:Nat) (D:List Nat) (N:List UInt8) (X:Nat→Option Nd) (V Lp:List AS) (s:AS) (h:Nat) (Q A R:Prs) (B Bs:List Nat):Prop where
 u:Used n N ((s.t :: (Lp.map AS.t++(B++Bs)))++D)
 nd:((s.t :: (Lp.map AS.t++(B++Bs)))++D).Nodup
 p:Path (saveAll X V) key Lp h Q A R Bs
 x:saveAll X V s.t=some s.was
 t:TN (saveAll X V) h s.node (insP key val Q) B
 l:Link key Lp s.t Q
 lo:(Lp=[]→h=0→1≤s.node.K.length)∧(Lp=[]→h ≠ 0→2≤s.node.K.length)∧(Lp ≠ []→4≤s.node.K.length)
 hi:s.node.K.length≤9
 sr:Srt (A++(Q++R))
 pos:∀ a,a∈A++(Q++R)→0 < a.2
 v:∀ y,y∈V→y.t∈B∧mayB y.node.K y.node.V=true
theorem pos_ins {P:Prs} {key val:Nat} (h:∀ a,a∈P→0 < a.2) (hv:0 < val):∀ a,a∈insP key val P→0 < a.2:=by
 intro a ha
 unfold insP at ha
 rcases List.mem_append.1 ha with h1 | h1
 ·exact h a (List.mem_filter.1 h1).1
 ·rcases List.mem_cons.1 h1 with rfl | h1
  ·exact hv
  ·exact h a (List.mem_filter.1 h1).1
theorem Srt.mid {A Q R:Prs} (h:Srt (A++(Q++R))):Srt Q:=h.parts.2.1.parts.1
theorem UpI.may {n key val:Nat} {D:List Nat} {N:List UInt8} {X:Nat→Option Nd} {V Lp:List AS} {s:AS} {h:Nat} {Q A R:Prs} {B Bs:List Nat} (U:UpI n key val D N X V Lp s h Q A R B Bs) (hv:0 < val) (h0:0∈D) {m:Nd} {P':Prs} {B':List Nat} (t:TN (saveAll X V) h m P' B') (hP:P'.Sublist (insP key val Q)) (hB:∀ z,z∈B'→z∈B) (h1:1≤m.K.length) (h8:m.K.length≤8):mayB m.K m.V=true:=by
 refine t.may ((insP_srt U.sr.mid key val).sublist hP) (fun a ha => pos_ins (fun a ha => U.pos a (List.mem_append_right _ (List.mem_append_left _ ha))) hv a (hP.subset ha)) (fun z hz => ?_) h1 h8
 have hzB:=hB z hz
 have hd:=(List.nodup_append.1 U.nd).2.2 z (by simp [hzB]) 0 h0
 omega
theorem UpI.few {n key val:Nat} {D:List Nat} {N:List UInt8} {X:Nat→Option Nd} {V Lp:List AS} {s:AS} {h:Nat} {Q A R:Prs} {B Bs:List Nat} (U:UpI n key val D N X V Lp s h Q A R B Bs) (hv:0 < val) (h0:0∈D) (h8:s.node.K.length≤8) (hL:Lp ≠ []) :
  ∃ Lp0 s0 P1 P2 A0 R0 B1 B2 Bs0,Lp=Lp0++[s0]∧A++(Q++R)=A0++((P1++(Q++P2))++R0)∧Bs=Bs0++(B1++B2)∧UpI n key val D N X (keptV V s) Lp0 s0 (h+1) (P1++(Q++P2)) A0 R0 (B1++((s.t :: B)++B2)) Bs0:=by
 obtain ⟨u,nd,p,x,t,l,lo,hi,sr,pos,v⟩:=U
 obtain ⟨w1,w2⟩:=save_keep x
 have hm:1≤s.node.K.length:=Nat.le_trans (by decide) (lo.2.2 hL)
 have hmay:=UpI.may ⟨u,nd,p,x,t,l,lo,hi,sr,pos,v⟩ hv h0 t (List.Sublist.refl _) (fun z hz => hz) hm h8
 cases p with
 | nil => exact absurd rfl hL
 | snoc p hl hs fr h1 h2 hw =>
  rename_i Lp0 s0 A0 R0 P1 P2 Bs0 B1 B2
  have hp:((s.t :: ((Lp0++[s0]).map AS.t++(B++(Bs0++(B1++B2)))))++D).Perm ((s0.t :: (Lp0.map AS.t++((B1++((s.t :: B)++B2))++Bs0)))++D):=List.perm_iff_count.2 fun a => by
   simp only [List.count_append,List.count_cons,List.cons_append,List.map_append,List.map_cons,List.map_nil,List.count_nil];omega
  have hne:∀ z,z∈(Lp0.map AS.t++[s0.t])++(B++(Bs0++(B1++B2)))→z ≠ s.t:=fun z hz e => by
   have h9:=(List.nodup_cons.1 nd).1
   subst e
   apply h9
   refine List.mem_append_left _ ?_
   simpa [List.map_append] using hz
  have hR:A0++P1++(Q++(P2++R0))=A0++((P1++(Q++P2))++R0):=by simp only [List.append_assoc]
  obtain ⟨l1,k0,x0,l2,l3⟩:=l s0 (by rw [List.getLast?_concat])
  have hQ:=sr.mid
  refine ⟨Lp0,s0,P1,P2,A0,R0,B1,B2,Bs0,rfl,hR,rfl,u.perm hp,hp.nodup_iff.1 nd,p.frame fun z hz => w2 z (hne z ?_),?_,?_,hl,⟨fun e e2 => by omega,fun e e2 => hs.2.2.1 e (by omega),hs.2.2.2⟩,by have:=hs.1;omega,hR ▸ sr,fun a ha => pos a (hR ▸ ha),fun y hy => ?_⟩
  ·rcases List.mem_append.1 hz with h9 | h9
   ·exact List.mem_append_left _ (List.mem_append_left _ h9)
   ·exact List.mem_append_right _ (List.mem_append_right _ (List.mem_append_left _ h9))
  ·rw [w2 _ (hne _ (by simp))];exact hw
  ·rw [insP_mid val h1 h2]
   have r:T4 (saveAll X (keptV V s)) h s.t (insP key val Q) (s.t :: B):=⟨s.node,B,w1,⟨lo.2.2 hL,h8⟩,t.frame fun z hz => w2 z (hne z (by simp [hz])),rfl⟩
   exact (fr.frame fun z hz => w2 z (hne z (List.mem_append_right _ (List.mem_append_right _ (List.mem_append_right _ hz))))).close r l1 l3 (head_ins hQ l2 key val)
  ·rcases kept_mem hy with h9 | rfl
   ·obtain ⟨v1,v2⟩:=v y h9
    exact ⟨by simp [v1],v2⟩
   ·exact ⟨by simp,hmay⟩
end
section
theorem UpI.parted {n key val:Nat} {D:List Nat} {N C:List UInt8} {X:Nat→Option Nd} {V Lp:List AS} {s:AS} {h:Nat} {Q A R:Prs} {B Bs:List Nat} (U:UpI n key val D N X V Lp s h Q A R B Bs) (hC:C.length=n) (hv:0 < val) (h0:0∈D) (h8:¬ s.node.K.length≤8) :
  (makeA N C X s.node.hi=.full∧¬ HasRoom n N C) ∨ ∃ N1 t Q1 Q2 B1 B2,makeA N C X s.node.hi=.ok (N1,putX X t s.node.hi,t)∧Used n N1 (t :: ((s.t :: (Lp.map AS.t++(B++Bs)))++D))∧t ∉ (s.t :: (Lp.map AS.t++(B++Bs)))++D∧0 < t ∧
   insP key val Q=Q1++Q2∧B=B1++B2∧TN (saveAll X V) h s.node.lo Q1 B1∧TN (saveAll X V) h s.node.hi Q2 B2∧s.node.lo.K.length=5∧s.node.hi.K.length=4∧mayB s.node.lo.K s.node.lo.V=true ∧
   saveAll (putX X t s.node.hi) (keptV V ⟨s.t,s.was,s.node.lo,s.pl⟩) s.t=some s.node.lo∧saveAll (putX X t s.node.hi) (keptV V ⟨s.t,s.was,s.node.lo,s.pl⟩) t=some s.node.hi∧∀ z,z ≠ s.t→z ≠ t→saveAll (putX X t s.node.hi) (keptV V ⟨s.t,s.was,s.node.lo,s.pl⟩) z=saveAll X V z:=by
 have h9:s.node.K.length=9:=by have:=U.hi;omega
 obtain ⟨Q1,Q2,B1,B2,t1,t2,eQ,eB⟩:=U.t.parts (half s.node.K.length)
 have hlo:s.node.lo.K.length=5:=by show (s.node.K.take (half s.node.K.length)).length=5;rw [List.length_take,h9];rfl
 have hhi:s.node.hi.K.length=4:=by show (s.node.K.drop (half s.node.K.length)).length=4;rw [List.length_drop,h9];rfl
 have hm1:mayB s.node.hi.K s.node.hi.V=true:=U.may hv h0 t2 (by rw [eQ];exact List.sublist_append_right _ _) (fun z hz => by rw [eB];exact List.mem_append_right _ hz) (show 1≤s.node.hi.K.length by omega) (show s.node.hi.K.length≤8 by omega)
 have hm2:mayB s.node.lo.K s.node.lo.V=true:=U.may hv h0 t1 (by rw [eQ];exact List.sublist_append_left _ _) (fun z hz => by rw [eB];exact List.mem_append_left _ hz) (show 1≤s.node.lo.K.length by omega) (show s.node.lo.K.length≤8 by omega)
 rcases make_ex (X:=X) U.u hC hm1 with ⟨g1,g2⟩ | ⟨N1,t,g1,g2,g3,g4,g5,g6,g7⟩
 ·exact Or.inl ⟨g2,g1⟩
 ·right
  have htp:0 < t:=by
   have:t ≠ 0:=fun e => g5 (by rw [e];exact List.mem_append_right _ h0)
   omega
  have hVt:∀ y,y∈V→y.t ≠ t:=fun y hy e => g5 (by have:=(U.v y hy).1;rw [e] at this;simp [this])
  have hst:s.t ≠ t:=fun e => g5 (by rw [← e];simp)
  obtain ⟨n1,n2⟩:=save_new (X:=X) (m:=s.node.hi) hVt
  obtain ⟨w1,w2⟩:=save_keep (X:=putX X t s.node.hi) (V:=V) (x:=⟨s.t,s.was,s.node.lo,s.pl⟩) (by show saveAll (putX X t s.node.hi) V s.t=some s.was;rw [n2 _ hst];exact U.x)
  exact ⟨N1,t,Q1,Q2,B1,B2,g1,g2,g5,htp,eQ,eB,t1,t2,hlo,hhi,hm2,w1,(w2 t hst.symm).trans n1,fun z z1 z2 => (w2 z z1).trans (n2 z z2)⟩
theorem UpI.split {n key val:Nat} {D:List Nat} {N C:List UInt8} {X:Nat→Option Nd} {V Lp:List AS} {s:AS} {h:Nat} {Q A R:Prs} {B Bs:List Nat} (U:UpI n key val D N X V Lp s h Q A R B Bs) (hC:C.length=n) (hv:0 < val) (h0:0∈D) (h8:¬ s.node.K.length≤8) (hL:Lp ≠ []) :
  (makeA N C X s.node.hi=.full∧¬ HasRoom n N C) ∨ ∃ N1 t,makeA N C X s.node.hi=.ok (N1,putX X t s.node.hi,t) ∧
  ∃ Lp0 s0 P1 P2 A0 R0 B0 B1 B2 Bs0,Lp=Lp0++[s0]∧A++(Q++R)=A0++((P1++(Q++P2))++R0)∧Bs=Bs0++(B1++B2)∧B0.length=B.length+2∧(s0.node.sq∧s0.pl+1≤s0.node.K.length) ∧
   UpI n key val D N1 (putX X t s.node.hi) (keptV V ⟨s.t,s.was,s.node.lo,s.pl⟩) Lp0 ⟨s0.t,s0.was,s0.node.ins (s0.pl+1) (s.node.hi.K.getD 0 0) t,s0.pl⟩ (h+1) (P1++(Q++P2)) A0 R0 (B1++(B0++B2)) Bs0:=by
 rcases U.parted hC hv h0 h8 with hf | ⟨N1,t,Q1,Q2,C1,C2,g1,g2,g3,g4,eQ,eB,t1,t2,l5,l4,may2,w1,w2,w3⟩
 ·exact Or.inl hf
 right
 refine ⟨N1,t,g1,?_⟩
 obtain ⟨u,nd,p,x,tt,l,lo,hi,sr,pos,v⟩:=U
 cases p with
 | nil => exact absurd rfl hL
 | snoc p hl hs fr h1 h2 hw =>
  rename_i Lp0 s0 A0 R0 P1 P2 Bs0 B1 B2
  subst eB
  have hp:(t :: ((s.t :: ((Lp0++[s0]).map AS.t++((C1++C2)++(Bs0++(B1++B2)))))++D)).Perm ((s0.t :: (Lp0.map AS.t++((B1++(((s.t :: C1)++(t :: C2))++B2))++Bs0)))++D):=List.perm_iff_count.2 fun a => by
   simp only [List.count_append,List.count_cons,List.cons_append,List.map_append,List.map_cons,List.map_nil,List.count_nil];omega
  have hne:∀ z,z∈(Lp0.map AS.t++[s0.t])++((C1++C2)++(Bs0++(B1++B2)))→z ≠ s.t∧z ≠ t:=fun z hz => by
   have h9:=(List.nodup_cons.1 nd).1
   refine ⟨fun e => h9 ?_,fun e => g3 ?_⟩
   ·subst e
    refine List.mem_append_left _ ?_
    simpa [List.map_append] using hz
   ·subst e
    refine List.mem_append_left _ (List.mem_cons_of_mem _ ?_)
    simpa [List.map_append] using hz
  have hX:∀ z,z∈(Lp0.map AS.t++[s0.t])++((C1++C2)++(Bs0++(B1++B2)))→saveAll (putX X t s.node.hi) (keptV V ⟨s.t,s.was,s.node.lo,s.pl⟩) z=saveAll X V z:=fun z hz => w3 z (hne z hz).1 (hne z hz).2
  have hR:A0++P1++(Q++(P2++R0))=A0++((P1++(Q++P2))++R0):=by simp only [List.append_assoc]
  obtain ⟨l1,k0,x0,l2,l3⟩:=l s0 (by rw [List.getLast?_concat])
  have hQ:=sr.mid
  refine ⟨Lp0,s0,P1,P2,A0,R0,(s.t :: C1)++(t :: C2),B1,B2,Bs0,rfl,hR,rfl,by simp;omega,⟨⟨fr.len,by have:=hs.1;omega⟩,fr.pl⟩,g2.perm hp,hp.nodup_iff.1 (List.nodup_cons.2 ⟨g3,nd⟩),p.frame fun z hz => hX z ?_,?_,?_,hl,⟨fun e e2 => by omega,fun e e2 => ?_,fun e => ?_⟩,?_,hR ▸ sr,fun a ha => pos a (hR ▸ ha),fun y hy => ?_⟩
  ·rcases List.mem_append.1 hz with h9 | h9
   ·exact List.mem_append_left _ (List.mem_append_left _ h9)
   ·exact List.mem_append_right _ (List.mem_append_right _ (List.mem_append_left _ h9))
  ·show _=some s0.was
   rw [hX _ (by simp)];exact hw
  ·rw [insP_mid val h1 h2,eQ]
   have r1:T4 (saveAll (putX X t s.node.hi) (keptV V ⟨s.t,s.was,s.node.lo,s.pl⟩)) h s.t Q1 (s.t :: C1):=⟨s.node.lo,C1,w1,by omega,t1.frame fun z hz => hX z (by simp [hz]),rfl⟩
   have r2:T4 (saveAll (putX X t s.node.hi) (keptV V ⟨s.t,s.was,s.node.lo,s.pl⟩)) h t Q2 (t :: C2):=⟨s.node.hi,C2,w2,by omega,t2.frame fun z hz => hX z (by simp [hz]),rfl⟩
   have hk2:s.node.hi.K[0]?=some (s.node.hi.K.getD 0 0):=by
    rw [List.getD_eq_getElem?_getD,List.getElem?_eq_getElem (by omega)]
    rfl
   have hd1:∃ y,Q1.head?=some (min key k0,y):=by
    obtain ⟨y,hy⟩:=head_ins hQ l2 key val
    rw [eQ] at hy
    have hne1:Q1 ≠ []:=t1.ne (show 0 < s.node.lo.K.length by omega)
    cases Q1 with
    | nil => exact absurd rfl hne1
    | cons a Q1 => exact ⟨y,by simpa using hy⟩
   exact (fr.frame fun z hz => hX z (List.mem_append_right _ (List.mem_append_right _ (List.mem_append_right _ hz)))).close2 r1 l1 l3 hd1 r2 (t2.head hk2)
  ·have:=hs.2.2.1 e (by omega)
   show 2≤(insA s0.node.K (s0.pl+1) (s.node.hi.K.getD 0 0)).length
   unfold insA
   simp
   omega
  ·have:=hs.2.2.2 e
   show 4≤(insA s0.node.K (s0.pl+1) (s.node.hi.K.getD 0 0)).length
   unfold insA
   simp
   omega
  ·have h7:=hs.1
   have h6:=fr.pl
   show (insA s0.node.K (s0.pl+1) (s.node.hi.K.getD 0 0)).length≤9
   unfold insA
   simp
   omega
  ·rcases kept_mem hy with h9 | rfl
   ·obtain ⟨v1,v2⟩:=v y h9
    refine ⟨?_,v2⟩
    simp only [List.mem_append,List.mem_cons] at v1 ⊢
    rcases v1 with v1 | v1 <;> simp [v1]
   ·exact ⟨by simp,may2⟩
end
end Go.Proofs.YtdgkbicelnnfpaaGreatDoor
