/- Texts Wn, Wo, Wp, Wq of the library, joined. -/
import Derived.Test.YtdgkbicelnnfpaaGreatDoorM40
set_option linter.unusedVariables false
set_option linter.unusedSimpArgs false
namespace Go.Proofs.YtdgkbicelnnfpaaGreatDoor
section
variable {n key:Nat} {D:List Nat} {N C:List UInt8} {X:Nat→Option Nd} {V Lp:List AS} {s:AS} {h:Nat} {Q A R:Prs} {B Bs:List Nat}
theorem nd_ext {m p:Nd} (h1:m.lf=p.lf) (h2:m.K=p.K) (h3:m.V=p.V):m=p:=by
 obtain ⟨a,b,c⟩:=m
 obtain ⟨d,e,f⟩:=p
 dsimp only at *
 rw [h1,h2,h3]
theorem over {X1:Nat→Option Nd} {t:Nat} {m:Nd} (h1:X1 t=some m) (h2:∀ z,z ≠ t→X1 z=X z) (hV:∀ y,y∈V→y.t ≠ t):saveAll X1 V t=some m∧∀ z,z ≠ t→saveAll X1 V z=saveAll X V z:=
 ⟨(save_other hV).trans h1,fun z hz => save_same (h2 z hz)⟩
theorem UpR.more (U:UpR n key D N X V Lp s h Q A R B Bs) (hC:C.length=n) (hn:n≤1024) (h0:0∈D) (h4:¬ 4≤s.node.K.length) (hL:Lp ≠ []) :
  ∃ Lp0 s0,Lp=Lp0++[s0]∧(s0.node.sq∧s0.pl < s0.node.K.length)∧∃ (z v kz:Nat),neighI s0.pl s0.node.K.length=(z:Int)∧(s0.node.put s0.pl (s.node.K.getD 0 0) s.t).V[z]?=some v∧(s0.node.put s0.pl (s.node.K.getD 0 0) s.t).K[z]?=some kz ∧
   ((shadowA N C X v=.full∧¬ HasRoom n N C) ∨ ∃ N1 X1 t m,shadowA N C X v=.ok (N1,X1,t,m)∧∃ N2 V2 a3,
    (if z < s0.pl then meetA N1 V ⟨s0.t,s0.was,(s0.node.put s0.pl (s.node.K.getD 0 0) s.t).put z kz t,s0.pl⟩ ⟨t,m,m,0⟩ s s0.pl else meetA N1 V ⟨s0.t,s0.was,(s0.node.put s0.pl (s.node.K.getD 0 0) s.t).put z kz t,s0.pl⟩ s ⟨t,m,m,0⟩ z)=some (N2,V2,a3) ∧
    ∃ P1 P2 A0 R0 B' Bs0,A++(Q++R)=A0++((P1++(Q++P2))++R0)∧B'.length+Bs0.length≤B.length+Bs.length+1∧UpR n key D N2 X1 V2 Lp0 a3 (h+1) (P1++(Q++P2)) A0 R0 B' Bs0):=by
 obtain ⟨u,nd,p,x,t,l,th,lo,hi,sr,pos,vv⟩:=U
 have h3:=lo.2 hL
 cases p with
 | nil => exact absurd rfl hL
 | snoc p hl hs fr h1 h2 hw =>
  rename_i Lp0 s0 A0 R0 P1 P2 Bs0 B1 B2
  obtain ⟨l1,k0,x0,l2,l3⟩:=l s0 (by rw [List.getLast?_concat])
  obtain ⟨k1,hk1⟩:∃ k1,s.node.K[0]?=some k1:=⟨_,List.getElem?_eq_getElem (by omega)⟩
  have ek:s.node.K.getD 0 0=k1:=by rw [List.getD_eq_getElem?_getD,hk1];rfl
  rw [ek]
  have hR:A0++P1++(Q++(P2++R0))=A0++((P1++(Q++P2))++R0):=by simp only [List.append_assoc]
  have hlen:=fr.len
  have hpl:=fr.pl
  have hplV:s0.pl < s0.node.V.length:=by omega
  have hl2:2≤s0.node.K.length:=by
   by_cases e:Lp0=[]
   ·exact hs.2.2.1 e (by omega)
   ·have:=hs.2.2.2 e;omega
  have hlt:(s0.node.K.take s0.pl).length=s0.pl:=by rw [List.length_take];omega
  have hltV:(s0.node.V.take s0.pl).length=s0.pl:=by rw [List.length_take];omega
  have hsz:=hs.1
  have hnew:∀ {v:Nat} {m:Nd} {rest:List Nat},((s.t :: ((Lp0++[s0]).map AS.t++(B++(Bs0++(B1++B2)))))++D).Perm (v :: rest)→saveAll X V v=some m→(∀ z,z∈s.t :: B→z∈rest) →
    (shadowA N C X v=.full∧¬ HasRoom n N C) ∨ ∃ N1 X1 t',shadowA N C X v=.ok (N1,X1,t',m)∧Used n N1 (t' :: rest)∧(t' :: rest).Nodup∧saveAll X1 V t'=some m∧∀ z,z∈rest→saveAll X1 V z=saveAll X V z:=by
   intro v m rest hp hX hB
   obtain ⟨q1,q2⟩:=List.nodup_cons.1 (hp.nodup_iff.1 nd)
   have hVv:∀ y,y∈V→y.t ≠ v:=fun y hy e => q1 (hB v (by rw [← e];exact List.mem_cons_of_mem _ (vv y hy).1))
   rw [save_other hVv] at hX
   rcases shadow_ex (u.perm hp) hC q1 hX with ⟨g1,g2⟩ | ⟨N1,X1,t',g1,g2,g3,g4,g5,g6,g7,g8⟩
   ·exact Or.inl ⟨g2,g1⟩
   ·right
    obtain ⟨o1,o2⟩:=over (V:=V) g6 g7 (fun y hy e => g5 (hB t' (by rw [← e];exact List.mem_cons_of_mem _ (vv y hy).1)))
    exact ⟨N1,X1,t',g1,g2,List.nodup_cons.2 ⟨g5,q2⟩,o1,fun z hz => o2 z (fun e => g5 (by rw [← e];exact hz))⟩
  by_cases hr:s0.pl+1 < s0.node.K.length
  ·
   obtain ⟨kb,K2,hK2⟩:∃ kb K2,s0.node.K.drop (s0.pl+1)=kb :: K2:=by
    cases e:s0.node.K.drop (s0.pl+1) with
    | nil => have:=congrArg List.length e;simp at this;omega
    | cons a b => exact ⟨a,b,rfl⟩
   obtain ⟨v,V2,hV2⟩:∃ v V2,s0.node.V.drop (s0.pl+1)=v :: V2:=by
    cases e:s0.node.V.drop (s0.pl+1) with
    | nil => have:=congrArg List.length e;simp at this;omega
    | cons a b => exact ⟨a,b,rfl⟩
   have kr:=fr.r
   rw [hK2,hV2] at kr
   have kl:=fr.l
   have eK:=(at_parts l3).1
   have eV:=(at_parts l1).1
   rw [hK2] at eK
   rw [hV2] at eV
   generalize s0.node.K.take s0.pl=K1 at *
   generalize s0.node.V.take s0.pl=V1 at *
   cases kr with
   | cons r hx kr =>
    rename_i pv Pr bv Br
    obtain ⟨m,bv',r1,r2,r3,rfl⟩:=r
    have hnd:s0.node.put s0.pl k1 s.t=⟨false,K1++k1 :: kb :: K2,V1++s.t :: v :: V2⟩:=nd_ext fr.lf (by show s0.node.K.set _ _=_;rw [eK,← hlt,set0]) (by show s0.node.V.set _ _=_;rw [eV,← hltV,set0])
    have hne:neighI s0.pl s0.node.K.length=((s0.pl+1:Nat):Int):=by unfold neighI;rw [if_pos hr];omega
    refine ⟨Lp0,s0,rfl,⟨⟨hlen,by omega⟩,hpl⟩,s0.pl+1,v,kb,hne,by rw [hnd,← hltV];exact get1 _ _ _ _,by rw [hnd,← hlt];exact get1 _ _ _ _,?_⟩
    have hp:((s.t :: ((Lp0++[s0]).map AS.t++(B++(Bs0++(B1++((v :: bv')++Br))))))++D).Perm (v :: (s.t :: ((s0.t :: (Lp0.map AS.t++((B1++((B++bv')++Br))++Bs0)))++D))):=List.perm_iff_count.2 fun a => by
     simp only [List.count_append,List.count_cons,List.cons_append,List.map_append,List.map_cons,List.map_nil,List.count_nil];omega
    rcases hnew hp r1 (fun z hz => by
     rcases List.mem_cons.1 hz with rfl | hz
     ·simp
     ·simp [hz]) with hf | ⟨N1,X1,t',g1,g2,g3,g4,g5⟩
    ·exact Or.inl hf
    ·right
     refine ⟨N1,X1,t',m,g1,?_⟩
     rw [if_neg (by omega)]
     have hput2:(s0.node.put s0.pl k1 s.t).put (s0.pl+1) kb t'=⟨false,K1++k1 :: kb :: K2,V1++s.t :: t' :: V2⟩:=by
      rw [hnd]
      exact nd_ext rfl (by show List.set _ _ _=_;rw [← hlt,set1]) (by show List.set _ _ _=_;rw [← hltV,set1])
     rw [hput2]
     obtain ⟨N2,V2',a3,B',e1,e2,e3⟩:=met (n:=n) (key:=key) (D:=D) (h:=h) (Q:=Q) (N1:=N1) (X1:=X1) (V:=V) (Lp0:=Lp0) (s0:=s0) (xa:=s) (xb:=⟨t',m,m,0⟩) (fk:=k1) (K1:=K1) (V1:=V1) (K2:=K2) (V2:=V2) (P1:=P1) (P2:=pv++Pr) (A0:=A0) (R0:=R0) (pa:=remP key Q) (pb:=pv) (Pl:=P1) (Pr:=Pr) (ba:=B) (bb:=bv') (Bl:=B1) (Br:=Br) (Bs0:=Bs0) (k2':=0) (B1:=[]) (B2:=[]) hn h0 g2 g3
      (t.frame fun z hz => g5 z (by simp [hz])) (r3.frame fun z hz => g5 z (by simp [hz])) (by show 7≤s.node.K.length+m.K.length;omega) (by show s.node.K.length+m.K.length≤11;omega) (by rw [g5 _ (by simp)];exact x) g4
      (kl.frame fun z hz => g5 z (by simp [hz])) (kr.frame fun z hz => g5 z (by simp [hz])) (t.head hk1) (by rw [remP_mid h1 h2,List.append_assoc]) (p.frame fun z hz => g5 z (by
       rcases List.mem_append.1 hz with h9 | h9 <;> simp [h9])) hl (by rw [g5 _ (by simp)];exact hw) hs (by rw [eK];simp;omega) fr.lf th (hR ▸ sr) (fun a ha => pos a (hR ▸ ha)) (fun y hy => ⟨List.mem_append_left _ (vv y hy).1,(vv y hy).2⟩)
      ⟨s0.t,s0.was,⟨false,K1++k1 :: kb :: K2,V1++s.t :: t' :: V2⟩,s0.pl⟩ rfl rfl (s0.pl+1)
      (nd_ext rfl (by show List.eraseIdx _ _=_;rw [← hlt,erase1]) (by show List.eraseIdx _ _=_;rw [← hltV,erase1]))
      (fun k => nd_ext rfl (by show List.set _ _ _=_;rw [← hlt,set1]) (by show List.set _ _ _=_;rw [← hltV,set1]))
     exact ⟨N2,V2',a3,e1,P1,pv++Pr,A0,R0,B',Bs0,hR,by simp;omega,e2⟩
  ·
   have hd:s0.node.K.drop (s0.pl+1)=[]:=List.drop_eq_nil_of_le (by omega)
   have hdV:s0.node.V.drop (s0.pl+1)=[]:=List.drop_eq_nil_of_le (by omega)
   have kr:=fr.r
   rw [hd,hdV] at kr
   cases kr
   obtain ⟨q,hq⟩:∃ q,s0.pl=q+1:=⟨s0.pl - 1,by omega⟩
   obtain ⟨ka,hka⟩:∃ ka,s0.node.K[q]?=some ka:=⟨_,List.getElem?_eq_getElem (by omega)⟩
   obtain ⟨v,hva⟩:∃ v,s0.node.V[q]?=some v:=⟨_,List.getElem?_eq_getElem (by omega)⟩
   have kl:=fr.l
   have tK:=(at_parts hka).2
   have tV:=(at_parts hva).2
   have eK:=(at_parts l3).1
   have eV:=(at_parts l1).1
   rw [hd] at eK
   rw [hdV] at eV
   rw [hq,tK] at eK
   rw [hq,tV] at eV
   rw [hq,tK,tV] at kl
   have hlq:(s0.node.K.take q).length=q:=by rw [List.length_take];omega
   have hlqV:(s0.node.V.take q).length=q:=by rw [List.length_take];omega
   obtain ⟨P1',pv,B1',bv,kl1,kl2,rfl,rfl⟩:=Kids.split (by rw [hlq,hlqV]) kl
   obtain ⟨⟨m,bv',r1,r2,r3,rfl⟩,hx⟩:=kl2.one'
   rw [List.append_assoc] at eK eV
   simp only [List.cons_append,List.nil_append] at eK eV
   generalize s0.node.K.take q=K1 at *
   generalize s0.node.V.take q=V1 at *
   have hnd:s0.node.put s0.pl k1 s.t=⟨false,K1++ka :: k1 :: [],V1++v :: s.t :: []⟩:=nd_ext fr.lf (by show s0.node.K.set _ _=_;rw [eK,hq,← hlq,set1]) (by show s0.node.V.set _ _=_;rw [eV,hq,← hlqV,set1])
   have hne:neighI s0.pl s0.node.K.length=((q:Nat):Int):=by unfold neighI;rw [if_neg hr];omega
   refine ⟨Lp0,s0,rfl,⟨⟨hlen,by omega⟩,hpl⟩,q,v,ka,hne,by rw [hnd,← hlqV];exact get0 _ _ _,by rw [hnd,← hlq];exact get0 _ _ _,?_⟩
   have hp:((s.t :: ((Lp0++[s0]).map AS.t++(B++(Bs0++((B1'++(v :: bv'))++[])))))++D).Perm (v :: (s.t :: ((s0.t :: (Lp0.map AS.t++((B1'++((bv'++B)++[]))++Bs0)))++D))):=List.perm_iff_count.2 fun a => by
    simp only [List.count_append,List.count_cons,List.cons_append,List.map_append,List.map_cons,List.map_nil,List.count_nil];omega
   rcases hnew hp r1 (fun z hz => by
    rcases List.mem_cons.1 hz with rfl | hz
    ·simp
    ·simp [hz]) with hf | ⟨N1,X1,t',g1,g2,g3,g4,g5⟩
   ·exact Or.inl hf
   ·right
    refine ⟨N1,X1,t',m,g1,?_⟩
    rw [if_pos (by omega)]
    have hput2:(s0.node.put s0.pl k1 s.t).put q ka t'=⟨false,K1++ka :: k1 :: [],V1++t' :: s.t :: []⟩:=by
     rw [hnd]
     exact nd_ext rfl (by show List.set _ _ _=_;rw [← hlq,set0]) (by show List.set _ _ _=_;rw [← hlqV,set0])
    rw [hput2]
    have hswap:(t' :: (s.t :: ((s0.t :: (Lp0.map AS.t++((B1'++((bv'++B)++[]))++Bs0)))++D))).Perm (s.t :: (t' :: ((s0.t :: (Lp0.map AS.t++((B1'++((bv'++B)++[]))++Bs0)))++D))):=List.Perm.swap _ _ _
    obtain ⟨N2,V2',a3,B',e1,e2,e3⟩:=met (n:=n) (key:=key) (D:=D) (h:=h) (Q:=Q) (N1:=N1) (X1:=X1) (V:=V) (Lp0:=Lp0) (s0:=s0) (xa:=⟨t',m,m,0⟩) (xb:=s) (fk:=ka) (K1:=K1) (V1:=V1) (K2:=[]) (V2:=[]) (P1:=P1'++pv) (P2:=[]) (A0:=A0) (R0:=R0) (pa:=pv) (pb:=remP key Q) (Pl:=P1') (Pr:=[]) (ba:=bv') (bb:=B) (Bl:=B1') (Br:=[]) (Bs0:=Bs0) (k2':=0) (B1:=[]) (B2:=[]) hn h0 (g2.perm hswap) (hswap.nodup_iff.1 g3)
     (r3.frame fun z hz => g5 z (by simp [hz])) (t.frame fun z hz => g5 z (by simp [hz])) (by show 7≤m.K.length+s.node.K.length;omega) (by show m.K.length+s.node.K.length≤11;omega) g4 (by rw [g5 _ (by simp)];exact x)
     (kl1.frame fun z hz => g5 z (by simp [hz])) Kids.nil hx (by rw [remP_mid h1 h2];simp only [List.append_assoc]) (p.frame fun z hz => g5 z (by
      rcases List.mem_append.1 hz with h9 | h9 <;> simp [h9])) hl (by rw [g5 _ (by simp)];exact hw) hs (by rw [eK];simp) fr.lf th (hR ▸ sr) (fun a ha => pos a (hR ▸ ha)) (fun y hy => ⟨List.mem_append_right _ (vv y hy).1,(vv y hy).2⟩)
     ⟨s0.t,s0.was,⟨false,K1++ka :: k1 :: [],V1++t' :: s.t :: []⟩,s0.pl⟩ rfl rfl s0.pl
     (nd_ext rfl (by show List.eraseIdx _ _=_;rw [hq,← hlq,erase1]) (by show List.eraseIdx _ _=_;rw [hq,← hlqV,erase1]))
     (fun k => nd_ext rfl (by show List.set _ _ _=_;rw [hq,← hlq,set1]) (by show List.set _ _ _=_;rw [hq,← hlqV,set1]))
    exact ⟨N2,V2',a3,e1,P1'++pv,[],A0,R0,B',Bs0,hR,by simp at e3 ⊢;omega,e2⟩
end
section
theorem shrinks_root {L:List AS} {s:AS} (hx:L[0]?=some s) (hs:s.node.sq):shrinks L 0=true:=by
 unfold shrinks
 rw [hx]
 simp only [Bool.or_eq_true,Bool.and_eq_true,decide_eq_true_eq]
 exact ⟨hs,Or.inl rfl⟩
theorem shrinks_mid {L:List AS} {j:Nat} {s y:AS} (hx:L[j+1]?=some s) (hs:s.node.sq) (hy:L[j]?=some y) (hq:y.node.sq∧y.pl < y.node.K.length):shrinks L (j+1)=true:=by
 unfold shrinks
 rw [hx]
 dsimp only
 rw [Nat.add_sub_cancel,hy]
 simp only [Bool.or_eq_true,Bool.and_eq_true,decide_eq_true_eq]
 exact ⟨hs,Or.inr ⟨hq.1.1,hq.1.2,hq.2⟩⟩
theorem comeS_full {n:Nat} {C N:List UInt8} {X:Nat→Option Nd} {L V:List AS} {rt i:Nat} (hs:shrinks L i=true) (hr:shrunkA N C X L V rt i=.full):comeS n C (N,X,L,V,rt) i=.full:=by
 unfold comeS
 dsimp only
 rw [if_pos hs,hr]
theorem comeS_yes {n:Nat} {C N:List UInt8} {X:Nat→Option Nd} {L V:List AS} {rt i:Nat} {r:WaySt} (hs:shrinks L i=true) (hr:shrunkA N C X L V rt i=.ok r) (hv:∀ y,y∈r.2.2.2.1→y.t < n):comeS n C (N,X,L,V,rt) i=.ok r:=by
 unfold comeS
 dsimp only
 rw [if_pos hs,hr]
 dsimp only
 rw [if_pos (List.all_eq_true.2 fun y hy => by simpa using hv y hy)]
theorem shrunk_top {C N:List UInt8} {X:Nat→Option Nd} {L V:List AS} {rt:Nat} {s:AS} (hx:L[0]?=some s) {N':List UInt8} {V':List AS} {rt':Nat} (h:topA N V rt s=some (N',V',rt')):shrunkA N C X L V rt 0=.ok (N',X,L,V',rt'):=by
 unfold shrunkA
 rw [hx]
 dsimp only
 rw [if_pos rfl,h]
theorem shrunk_at {C N:List UInt8} {X:Nat→Option Nd} {L V:List AS} {rt i:Nat} {x a:AS} (hx:L[i+1]?=some x) (hy:L[i]?=some a) (hk:x.node.K.length ≠ 0):shrunkA N C X L V rt (i+1) =
   (if 4≤x.node.K.length ∨ neighI a.pl a.node.K.length < 0 then .ok (N,X,L.set i ⟨a.t,a.was,a.node.put a.pl (x.node.K.getD 0 0) x.t,a.pl⟩,keptV V x,rt) else
   match (a.node.put a.pl (x.node.K.getD 0 0) x.t).V[(neighI a.pl a.node.K.length).toNat]?,(a.node.put a.pl (x.node.K.getD 0 0) x.t).K[(neighI a.pl a.node.K.length).toNat]? with
   | some v,some k =>
    (match shadowA N C X v with
    | .stuck => .stuck
    | .full => .full
    | .ok (N1,X1,t,m) =>
     (match (if (neighI a.pl a.node.K.length).toNat < a.pl then meetA N1 V ⟨a.t,a.was,(a.node.put a.pl (x.node.K.getD 0 0) x.t).put (neighI a.pl a.node.K.length).toNat k t,a.pl⟩ ⟨t,m,m,0⟩ x a.pl else meetA N1 V ⟨a.t,a.was,(a.node.put a.pl (x.node.K.getD 0 0) x.t).put (neighI a.pl a.node.K.length).toNat k t,a.pl⟩ x ⟨t,m,m,0⟩ (neighI a.pl a.node.K.length).toNat) with
     | none => .stuck
     | some (N2,V2,a3) => .ok (N2,X1,L.set i a3,V2,rt)))
   | _,_ => .stuck):=by
 conv => lhs;unfold shrunkA
 rw [hx]
 dsimp only
 rw [if_neg (by omega),Nat.add_sub_cancel,hy]
 dsimp only
 rw [if_neg hk]
 rfl
theorem UpR.sq {n key:Nat} {D:List Nat} {N:List UInt8} {X:Nat→Option Nd} {V Lp:List AS} {s:AS} {h:Nat} {Q A R:Prs} {B Bs:List Nat} (U:UpR n key D N X V Lp s h Q A R B Bs):s.node.sq:=⟨U.t.len,by have:=U.hi;omega⟩
theorem UpR.parent {n key:Nat} {D:List Nat} {N:List UInt8} {X:Nat→Option Nd} {V Lp:List AS} {s:AS} {h:Nat} {Q A R:Prs} {B Bs:List Nat} (U:UpR n key D N X V Lp s h Q A R B Bs) (hL:Lp ≠ []):∃ Lp0 s0,Lp=Lp0++[s0]∧s0.node.sq∧s0.pl < s0.node.K.length∧2≤s0.node.K.length:=by
 have hp:=U.p
 cases hp with
 | nil => exact absurd rfl hL
 | snoc p hl hs fr h1 h2 hw =>
  rename_i Lp0 s0 A0 R0 P1 P2 Bs0 B1 B2
  refine ⟨_,_,rfl,⟨fr.len,by have:=hs.1;omega⟩,fr.pl,?_⟩
  by_cases e:Lp0=[]
  ·exact hs.2.2.1 e (by omega)
  ·have:=hs.2.2.2 e;omega
def RemT (X:Nat→Option Nd) (a:Nat) (P:Prs) (B:List Nat) (H:Nat):Prop:=(a=0∧P=[]∧B=[]) ∨ (a ≠ 0∧RootT X a P B H)
theorem root_rem {n key:Nat} {D:List Nat} {C:List UInt8} (hn:n≤1024) (h0:0∈D) {N:List UInt8} {X:Nat→Option Nd} {V L:List AS} {rt:Nat} {s:AS} {h:Nat} {Q A R:Prs} {B Bs:List Nat} (U:UpR n key D N X V [] s h Q A R B Bs) (hx:L[0]?=some s) (hrt:s.t=rt) :
  ∃ N' V' rt' B' H,shrunkA N C X L V rt 0=.ok (N',X,L,V',rt')∧Used n N' (B'++D)∧(B'++D).Nodup∧RemT (saveAll X V') rt' (remP key (A++(Q++R))) B' H∧H≤h∧(∀ y,y∈V'→mayB y.node.K y.node.V=true∧y.t < n)∧B'.length≤1+B.length:=by
 have hp:=U.p
 obtain ⟨hA,hR,hB⟩:A=[]∧R=[]∧Bs=[]:=by
  generalize hL0:([]:List AS)=L0 at hp
  cases hp with
  | nil => exact ⟨rfl,rfl,rfl⟩
  | snoc _ _ _ _ _ _ _ => simp at hL0
 subst hA hR hB
 have hQ:([]:Prs)++(Q++[])=Q:=by simp
 rw [hQ]
 have hpm:((s.t :: (List.map AS.t []++(B++[])))++D).Perm (s.t :: (B++D)):=by simp
 have hu:=U.u.perm hpm
 have hnd:=hpm.nodup_iff.1 U.nd
 have hVn:∀ y,y∈V→mayB y.node.K y.node.V=true∧y.t < n:=fun y hy => ⟨(U.v y hy).2,hu.2.1 _ (by simp [(U.v y hy).1])⟩
 have hs0:s.t ≠ 0:=fun e => (List.nodup_cons.1 hnd).1 (by rw [e];exact List.mem_append_right _ h0)
 obtain ⟨N2,l1,l2⟩:=less_ex hu hn
 have hsQ:Srt Q:=by have:=U.sr;rw [hQ] at this;exact this
 have keep:1≤s.node.K.length→(h ≠ 0→2≤s.node.K.length)→topA N V rt s=some (N,keptV V s,rt)→∃ N' V' rt' B' H,shrunkA N C X L V rt 0=.ok (N',X,L,V',rt')∧Used n N' (B'++D)∧(B'++D).Nodup∧RemT (saveAll X V') rt' (remP key Q) B' H∧H≤h∧(∀ y,y∈V'→mayB y.node.K y.node.V=true∧y.t < n)∧B'.length≤1+B.length:=fun k1 k2 kt => by
  obtain ⟨w1,w2⟩:=save_keep U.x
  have hmay:mayB s.node.K s.node.V=true:=U.t.may (remP_srt hsQ key) (fun a ha => U.pos a (by rw [hQ];exact (List.mem_filter.1 ha).1)) (fun z hz => by
   have:=(List.nodup_append.1 U.nd).2.2 z (by simp [hz]) 0 h0
   omega) k1 U.hi
  refine ⟨N,_,rt,s.t :: B,h,shrunk_top hx kt,hu,hnd,Or.inr ⟨hrt ▸ hs0,s.node,B,hrt ▸ w1,U.t.frame fun z hz => w2 z (fun e => (List.nodup_cons.1 hnd).1 (by rw [← e];simp [hz])),⟨U.hi,fun _ _ => k1,fun _ e => k2 e,fun e => absurd rfl e⟩,by rw [hrt]⟩,Nat.le_refl _,fun y hy => ?_,by simp;omega⟩
  rcases kept_mem hy with h9 | rfl
  ·exact hVn y h9
  ·exact ⟨hmay,hu.2.1 _ (by simp)⟩
 cases h with
 | zero =>
  obtain ⟨t1,t2,t3,rfl⟩:=U.t
  by_cases hk:s.node.K.length=0
  ·have e1:topA N V rt s=some (N2,V,0):=by
    unfold topA
    rw [if_pos ⟨t1,hk⟩,l1]
   refine ⟨N2,V,0,[],0,shrunk_top hx e1,by simpa using l2,by simpa using (List.nodup_cons.1 hnd).2,Or.inl ⟨rfl,?_,rfl⟩,Nat.le_refl _,hVn,by simp⟩
   rw [t3,List.length_eq_zero_iff.1 hk]
   rfl
  ·exact keep (by omega) (fun e => absurd rfl e) (by unfold topA;rw [if_neg (fun q => hk q.2),if_neg (fun q => by rw [t1] at q;cases q.1)])
 | succ h =>
  obtain ⟨t1,t2⟩:=U.t
  have hk1:=U.lo.1 rfl (by omega)
  by_cases hk:s.node.K.length=1
  ·obtain ⟨k,hK⟩:∃ k,s.node.K=[k]:=List.length_eq_one_iff.1 hk
   obtain ⟨v,hV⟩:∃ v,s.node.V=[v]:=List.length_eq_one_iff.1 (by rw [← t2.len];exact hk)
   rw [hK,hV] at t2
   obtain ⟨⟨m,bv,r1,r2,r3,rfl⟩,-⟩:=t2.one'
   have e1:topA N V rt s=some (N2,V,v):=by
    unfold topA
    rw [if_neg (fun q => by rw [t1] at q;cases q.1),if_pos ⟨t1,hk⟩,l1,hV]
    rfl
   have hv0:v ≠ 0:=fun e => by
    have:=(List.nodup_append.1 U.nd).2.2 v (by simp) 0 h0
    exact this e
   exact ⟨N2,V,v,v :: bv,h,shrunk_top hx e1,l2,(List.nodup_cons.1 hnd).2,Or.inr ⟨hv0,m,bv,r1,r3,⟨r2.2,fun _ _ => by omega,fun _ _ => by omega,fun e => absurd rfl e⟩,rfl⟩,by omega,hVn,by omega⟩
  ·exact keep hk1 (fun _ => by omega) (by unfold topA;rw [if_neg (fun q => by rw [t1] at q;cases q.1),if_neg (fun q => hk q.2)])
theorem up_rem {n key:Nat} {D:List Nat} {C:List UInt8} (hC:C.length=n) (hn:n≤1024) (h0:0∈D):∀ (i:Nat) (N:List UInt8) (X:Nat→Option Nd) (V L Lp:List AS) (rt:Nat) (s:AS) (h:Nat) (Q A R:Prs) (B Bs:List Nat),i=Lp.length→UpR n key D N X V Lp s h Q A R B Bs→L.take (i+1)=Lp++[s]→((Lp++[s]).head?.map AS.t)=some rt →
  (upL (comeS n C) (i+1) (N,X,L,V,rt)=.full∧∃ N' W,Used n N' (W++D)∧W.length≤Lp.length+1+B.length+Bs.length+i∧¬ HasRoom n N' C) ∨
  ∃ N' X' L' V' rt' B' H,upL (comeS n C) (i+1) (N,X,L,V,rt)=.ok (N',X',L',V',rt')∧Used n N' (B'++D)∧(B'++D).Nodup∧RemT (saveAll X' V') rt' (remP key (A++(Q++R))) B' H∧H≤h+i∧(∀ y,y∈V'→mayB y.node.K y.node.V=true)∧B'.length≤Lp.length+1+B.length+Bs.length+i
 | 0,N,X,V,L,Lp,rt,s,h,Q,A,R,B,Bs,hi,U,hL,hrt => by
  have hLp:Lp=[]:=List.length_eq_zero_iff.1 hi.symm
  subst hLp
  have hx:L[0]?=some s:=(at_take (Lp:=[]) hL).1
  have hrt:s.t=rt:=by simpa using hrt
  obtain ⟨N',V',rt',B',H,e1,e2,e3,e4,e5,e6,e7⟩:=root_rem (C:=C) hn h0 U hx hrt
  right
  refine ⟨N',X,L,V',rt',B',H,?_,e2,e3,e4,by omega,fun y hy => (e6 y hy).1,by simp;omega⟩
  unfold upL
  rw [comeS_yes (shrinks_root hx U.sq) e1 (fun y hy => (e6 y hy).2)]
  rfl
 | i+1,N,X,V,L,Lp,rt,s,h,Q,A,R,B,Bs,hi,U,hL,hrt => by
  have hLn:Lp ≠ []:=fun e => by rw [e] at hi;simp at hi
  obtain ⟨hx',htk⟩:=at_take (Lp:=Lp) (by rw [← hi];exact hL)
  have hx:L[i+1]?=some s:=by rw [hi];exact hx'
  have hup:∀ st,upL (comeS n C) (i+1+1) st=(match comeS n C st (i+1) with
   | .stuck => .stuck
   | .full => .full
   | .ok s' => upL (comeS n C) (i+1) s'):=fun st => by
   conv => lhs;unfold upL
   rfl
  rw [hup]
  obtain ⟨Lq,sq,hLq,hq1,hq2,hq3⟩:=U.parent hLn
  have hiq:i=Lq.length:=by rw [hLq] at hi;simp at hi;omega
  have hxq:L[i]?=some sq:=by
   rw [hLq] at htk
   rw [hiq]
   exact (at_take (by simpa using htk)).1
  have hsp:=shrinks_mid hx U.sq hxq ⟨hq1,hq2⟩
  have h3:=U.lo.2 hLn
  have hsa:=shrunk_at (C:=C) (N:=N) (X:=X) (V:=V) (rt:=rt) hx hxq (by omega)
  have hset:∀ (Lp0:List AS) (a3:AS),Lp=Lp0++[sq]→i=Lp0.length→(L.set i a3).take (i+1)=Lp0++[a3]:=fun Lp0 a3 e1 e2 => by
   have e:L.take (i+1)=Lp0++[sq]:=by rw [← hi] at htk;rw [htk,e1]
   rw [List.take_set,e,e2,List.set_append_right _ _ (Nat.le_refl _),Nat.sub_self]
   rfl
  have hhead:∀ (Lp0:List AS) (a3:AS),Lp=Lp0++[sq]→a3.t=sq.t→((Lp0++[a3]).head?.map AS.t)=some rt:=fun Lp0 a3 e1 e2 => by
   rw [← hrt,e1]
   cases Lp0 <;> simp [e2]
  by_cases h4:4≤s.node.K.length
  ·obtain ⟨Lp0,s0,P1,P2,A0,R0,B1,B2,Bs0,rfl,e2,rfl,U2⟩:=U.few h0 h4 hLn
   have hs0:sq=s0:=by simpa using (List.append_inj' hLq rfl).2.symm
   subst hs0
   have hi0:i=Lp0.length:=by simp at hi;omega
   rw [if_pos (Or.inl h4)] at hsa
   rw [comeS_yes hsp hsa (fun y hy => U2.u.2.1 _ (by have:=(U2.v y hy).1;simp at this ⊢;rcases this with h9 | h9 | h9 | h9 <;> simp [h9]))]
   dsimp only
   rw [e2]
   rcases up_rem hC hn h0 i N X (keptV V s) _ Lp0 rt _ (h+1) (P1++(Q++P2)) A0 R0 _ Bs0 hi0 U2 (hset Lp0 _ rfl hi0) (hhead Lp0 _ rfl rfl) with ⟨j1,N',W,j2,j3,j4⟩ | ⟨N',X',L',V',rt',B',H,j1,j2,j3,j4,j5,j6,j7⟩
   ·exact Or.inl ⟨j1,N',W,j2,by simp at j3 ⊢;omega,j4⟩
   ·exact Or.inr ⟨N',X',L',V',rt',B',H,j1,j2,j3,j4,by omega,j6,by simp at j7 ⊢;omega⟩
  ·obtain ⟨Lp0,s0,rfl,hsq0,z,v,kz,hz,hv,hkz,hm⟩:=U.more hC hn h0 h4 hLn
   have hs0:sq=s0:=by simpa using (List.append_inj' hLq rfl).2.symm
   subst hs0
   have hi0:i=Lp0.length:=by simp at hi;omega
   have hzn:(neighI sq.pl sq.node.K.length).toNat=z:=by rw [hz];rfl
   rw [if_neg (fun q => by rcases q with q | q <;> omega),hzn,hv,hkz] at hsa
   dsimp only at hsa
   rcases hm with ⟨g1,g2⟩ | ⟨N1,X1,t,m,g1,N2,V2,a3,g2,P1,P2,A0,R0,B',Bs0,e2,e3,U2⟩
   ·rw [g1] at hsa
    left
    rw [comeS_full hsp hsa]
    exact ⟨rfl,N,_,U.u,by simp;omega,g2⟩
   ·rw [g1] at hsa
    dsimp only at hsa
    rw [g2] at hsa
    dsimp only at hsa
    rw [comeS_yes hsp hsa (fun y hy => U2.u.2.1 _ (by have:=(U2.v y hy).1;simp [this]))]
    dsimp only
    rw [e2]
    have ha3:a3.t=sq.t:=by
     split at g2
     ·exact (meetA_is g2).2
     ·exact (meetA_is g2).2
    rcases up_rem hC hn h0 i N2 X1 V2 _ Lp0 rt _ (h+1) (P1++(Q++P2)) A0 R0 _ Bs0 hi0 U2 (hset Lp0 _ rfl hi0) (hhead Lp0 _ rfl ha3) with ⟨j1,N',W,j2,j3,j4⟩ | ⟨N',X',L',V',rt',B'',H,j1,j2,j3,j4,j5,j6,j7⟩
    ·exact Or.inl ⟨j1,N',W,j2,by simp at j3 ⊢;omega,j4⟩
    ·exact Or.inr ⟨N',X',L',V',rt',B'',H,j1,j2,j3,j4,by omega,j6,by simp at j7 ⊢;omega⟩
end
section
theorem getP_mem {P:Prs} {key v:Nat} (h:getP P key=(v,true)):(key,v)∈P:=by
 unfold getP at h
 cases hf:P.find? (fun a => a.1 == key) with
 | none => rw [hf] at h;simp at h
 | some a =>
  rw [hf] at h
  have h1:=List.mem_of_find?_eq_some hf
  have h2:=List.find?_some hf
  simp only [beq_iff_eq] at h2
  simp only [Prod.mk.injEq] at h
  obtain ⟨a1,a2⟩:=a
  dsimp only at *
  rw [← h2,← h.1]
  exact h1
theorem removed_ex {n key v:Nat} {D:List Nat} {C:List UInt8} (hC:C.length=n) (hn:n≤1024) (h0:0∈D) {N:List UInt8} {X:Nat→Option Nd} {root H:Nat} {P:Prs} {B:List Nat} (T:RootT X root P B H) (hH:H≤11) (hU:Used n N (B++D)) (hN:(B++D).Nodup) (hs:Srt P) (hp:∀ a,a∈P→0 < a.2) (hg:getP P key=(v,true)) :
  (removedA N C X root key=.full∧∃ N' W,Used n N' (W++D)∧W.length≤B.length+H∧¬ HasRoom n N' C) ∨
  ∃ N' X' rt B' H',removedA N C X root key=.ok (N',X',rt,v,true)∧RemT X' rt (remP key P) B' H'∧Used n N' (B'++D)∧(B'++D).Nodup∧H'≤H∧B'.length≤B.length+H:=by
 obtain ⟨m,B0,hX,t,sz,rfl⟩:=T
 have hN1:=List.nodup_cons.1 hN
 unfold removedA downA
 rcases shadow_ex (a:=root) (U:=B0++D) hU hC hN1.1 hX with ⟨g1,g2⟩ | ⟨N1,X1,t1,g1,g2,g3,g4,g5,g6,g7,g8⟩
 ·left
  rw [g2]
  exact ⟨rfl,N,root :: B0,hU,by simp,g1⟩
 rw [g1]
 dsimp only
 have hp0:(t1 :: (B0++D)).Perm (((⟨t1,m,m,0⟩:AS).t :: (([]:List AS).map AS.t++(B0++[])))++D):=by simp
 rcases down_ex hC key D H 11 N1 X1 [] ⟨t1,m,m,0⟩ [] P [] B0 [] (g2.perm hp0) (hp0.nodup_iff.1 (List.nodup_cons.2 ⟨g5,hN1.2⟩)) .nil g6 rfl (t.frame fun z hz => g7 z (fun e => g5 (by subst e;simp [hz]))) (fun r hr => by simp at hr) sz hs hH with ⟨j1,N2,W,j2,j3,j4⟩ | ⟨N2,X2,L',x',A',P',R',Bs',j1,j2,j3,j4,j5,j6,j7,j8,j9,j10,j11,j12,j13,j14⟩
 ·left
  rw [j1]
  exact ⟨rfl,N2,W,j2,by rw [j3];simp;omega,j4⟩
 rw [j1]
 dsimp only
 have j12':A'++(P'++R')=P:=by rw [j12];simp
 obtain ⟨k1,k2,k3,-⟩:=j7
 have hsr':Srt (A'++(P'++R')):=by rw [j12'];exact hs
 obtain ⟨q1,q2,q3,q4,q5⟩:=leaf_rem k2 (k3 ▸ j10) key
 have hpath:=j4.keys
 have hgP:getP P' key=(v,true):=by rw [← hg,← j12'];exact (getP_mid hpath.1 hpath.2).symm
 have htold:((if x'.node.is key=true then x'.node.V.getD (x'.node.find key) 0 else 0),x'.node.is key)=(v,true):=by
  rw [leaf_told k2 (k3 ▸ j10) key,← k3]
  exact hgP
 obtain ⟨lf,hlf⟩:∃ lf,(if x'.node.is key=true then x'.node.rem (x'.node.find key) else x'.node)=lf:=⟨_,rfl⟩
 rw [hlf] at q1 q2 q3 q4 q5
 have hleaf:takenL (L'++[x']) key=.ok (L'++[⟨x'.t,x'.was,lf,x'.pl⟩],v,true):=by
  unfold takenL
  rw [List.length_append,List.length_singleton,Nat.add_sub_cancel,List.getElem?_append_right (Nat.le_refl _),Nat.sub_self,List.getElem?_cons_zero]
  dsimp only
  rw [hlf,List.set_append_right _ _ (Nat.le_refl _),Nat.sub_self]
  simp only [Prod.mk.injEq] at htold
  rw [htold.1,htold.2]
  rfl
 obtain ⟨y,hy⟩:∃ y,(L'++[x'])[0]?=some y:=⟨_,List.getElem?_eq_getElem (by simp)⟩
 rw [hleaf,hy]
 dsimp only
 rw [hU.1]
 unfold upA
 dsimp only
 have U:UpR n key D N2 X2 [] L' ⟨x'.t,x'.was,lf,x'.pl⟩ 0 P' A' R' [] Bs':=by
  refine ⟨by simpa using j2,by simpa using j3,j4,by rw [j6];exact j5,⟨q1.trans k1,q2,by rw [q3,← k3],rfl⟩,j8,⟨v,getP_mem hgP⟩,⟨fun _ e => absurd rfl e,fun e => ?_⟩,?_,hsr',fun a ha => hp a (j12' ▸ ha),by simp⟩
  ·have:=j9.2.2.2 e
   show 3≤lf.K.length
   omega
  ·have:=j9.1
   show lf.K.length≤8
   omega
 have hrt:((L'++[(⟨x'.t,x'.was,lf,x'.pl⟩:AS)]).head?.map AS.t)=some y.t:=by
  cases L' with
  | nil => simp at hy ⊢;rw [hy]
  | cons z L' => simp at hy ⊢;rw [hy]
 rw [List.length_append,List.length_singleton]
 rcases up_rem hC hn h0 L'.length N2 X2 [] (L'++[⟨x'.t,x'.was,lf,x'.pl⟩]) L' y.t ⟨x'.t,x'.was,lf,x'.pl⟩ 0 P' A' R' [] Bs' rfl U (List.take_of_length_le (by simp)) hrt with ⟨i1,N3,W,i2,i3,i4⟩ | ⟨N3,X3,L3,V3,rt3,B3,H3,i1,i2,i3,i4,i5,i6,i7⟩
 ·left
  rw [i1]
  exact ⟨rfl,N3,W,i2,by simp at i3 j11 j13 ⊢;omega,i4⟩
 ·right
  rw [i1]
  dsimp only
  rw [if_pos (List.all_eq_true.2 i6)]
  refine ⟨N3,_,rt3,B3,H3,rfl,?_,i2,i3,?_,?_⟩
  ·rw [j12'] at i4;exact i4
  ·simp at j11;omega
  ·simp at i7 j11 j13 ⊢;omega
theorem lookA_ex {X:Nat→Option Nd} {root key H:Nat} {P:Prs} {B:List Nat} (T:RemT X root P B H) (hH:H≤11) (hs:Srt P):lookA X root key=some (getP P key):=by
 unfold lookA
 rcases T with ⟨rfl,rfl,-⟩ | ⟨h0,m,B',hX,t,sz,-⟩
 ·rfl
 ·rw [if_neg h0]
  refine look_tn hX t hs ?_ hH
  by_cases e:H=0
  ·exact sz.2.1 rfl e
  ·have:=sz.2.2.1 rfl e;omega
theorem removeA_ex {n key:Nat} {D:List Nat} {C:List UInt8} (hC:C.length=n) (hn:n≤1024) (h0:0∈D) {N:List UInt8} {X:Nat→Option Nd} {root H:Nat} {P:Prs} {B:List Nat} (T:RemT X root P B H) (hH:H≤11) (hU:Used n N (B++D)) (hN:(B++D).Nodup) (hs:Srt P) (hp:∀ a,a∈P→0 < a.2) {v:Nat} (hg:getP P key=(v,true)) :
  lookA X root key=some (v,true)∧((removedA N C X root key=.full∧∃ N' W,Used n N' (W++D)∧W.length≤B.length+H∧¬ HasRoom n N' C) ∨
  ∃ N' X' rt B' H',removedA N C X root key=.ok (N',X',rt,v,true)∧RemT X' rt (remP key P) B' H'∧Used n N' (B'++D)∧(B'++D).Nodup∧H'≤H∧B'.length≤B.length+H):=by
 refine ⟨by rw [lookA_ex T hH hs,hg],?_⟩
 rcases T with ⟨rfl,rfl,-⟩ | ⟨hr,T⟩
 ·cases hg
 ·exact removed_ex hC hn h0 T hH hU hN hs hp hg
theorem insertA_ex {n key val:Nat} {D:List Nat} {C:List UInt8} (hC:C.length=n) (hv:0 < val) (h0:0∈D) {N:List UInt8} {X:Nat→Option Nd} {root H:Nat} {P:Prs} {B:List Nat} (T:RemT X root P B H) (hH:H≤11) (hU:Used n N (B++D)) (hN:(B++D).Nodup) (hs:Srt P) (hp:∀ a,a∈P→0 < a.2) :
  (insertA N C X root key val=.full∧∃ N' W,Used n N' (W++D)∧W.length≤B.length+H+1∧¬ HasRoom n N' C) ∨
  ∃ N' X' rt B' H',insertA N C X root key val=.ok (N',X',rt,(getP P key).1,(getP P key).2)∧RemT X' rt (insP key val P) B' H'∧Used n N' (B'++D)∧(B'++D).Nodup∧H'≤H+1∧B'.length≤B.length+H+2:=by
 unfold insertA
 rw [if_neg (by omega)]
 have hrt:∀ {rt:Nat} {B':List Nat} {X':Nat→Option Nd} {P':Prs} {H':Nat},(B'++D).Nodup→RootT X' rt P' B' H'→rt ≠ 0:=fun {rt B' X' P' H'} hn ⟨m,b,_,_,_,e⟩ e0 => by
  subst e
  exact (List.nodup_append.1 hn).2.2 rt (by simp) 0 h0 e0
 rcases T with ⟨rfl,rfl,rfl⟩ | ⟨hr,T⟩
 ·rw [if_pos rfl]
  have hm:mayB (⟨true,[key],[val]⟩:Nd).K (⟨true,[key],[val]⟩:Nd).V=true:=may_of (K:=[key]) (V:=[val]) (by simp) (by simp) rfl (by simp) (by intro v hv;simp at hv;omega)
  have hU':Used n N D:=by simpa using hU
  rcases make_ex (X:=X) (m:=⟨true,[key],[val]⟩) hU' hC hm with ⟨k1,k2⟩ | ⟨N2,t,k1,k2,k3,k4,k5,k6,k7⟩
  ·left
   rw [k2]
   exact ⟨rfl,N,[],by simpa using hU',by simp,k1⟩
  ·right
   rw [k1]
   have hnd:([t]++D).Nodup:=List.nodup_cons.2 ⟨k5,by simpa using hN⟩
   have ht:t ≠ 0:=fun e => k5 (by rw [e];exact h0)
   refine ⟨N2,_,t,[t],0,rfl,Or.inr ⟨ht,⟨true,[key],[val]⟩,[],by unfold putX;rw [if_pos rfl],⟨rfl,rfl,rfl,rfl⟩,⟨by show 1≤8;omega,fun _ _ => by show 1≤1;omega,fun _ e => absurd rfl e,fun e => absurd rfl e⟩,rfl⟩,k2,hnd,by omega,by simp⟩
 ·rw [if_neg hr]
  rcases inserted_ex hC hv h0 (key:=key) T hH hU hN hs hp with hf | ⟨N',X',rt,B',H',e1,e2,e3,e4,e5,e6⟩
  ·exact Or.inl hf
  ·exact Or.inr ⟨N',X',rt,B',H',e1,Or.inr ⟨hrt e4 e2,e2⟩,e3,e4,e5,e6⟩
end
section
theorem Kids.sizes {X:Nat→Option Nd} {h:Nat} {K V:List Nat} {P:Prs} {B:List Nat} (t:Kids (T4 X h) K V P B) (f:∀ v p b,T4 X h v p b→b.length+1≤p.length∧4 ^ (h+1)≤p.length):B.length+K.length≤P.length∧K.length * 4 ^ (h+1)≤P.length:=by
 induction t with
 | nil => simp
 | cons r _ _ ih =>
  obtain ⟨i1,i2⟩:=ih
  obtain ⟨f1,f2⟩:=f _ _ _ r
  simp only [List.length_append,List.length_cons,Nat.add_mul,Nat.one_mul]
  exact ⟨by omega,by omega⟩
theorem T4.sizes {X:Nat→Option Nd}:∀ {h v:Nat} {p:Prs} {b:List Nat},T4 X h v p b→b.length+1≤p.length∧4 ^ (h+1)≤p.length
 | 0,v,p,b,t => by
  obtain ⟨m,b',hX,hs,t,e⟩:=t
  obtain ⟨t1,hl,t3,t4⟩:=t
  subst e t3 t4
  rw [List.length_zip,← hl,Nat.min_self]
  exact ⟨by simp;omega,by simp;omega⟩
 | h+1,v,p,b,t => by
  obtain ⟨m,b',hX,hs,t,e⟩:=t
  subst e
  obtain ⟨s1,s2⟩:=Kids.sizes t.2 fun v p b r => T4.sizes r
  refine ⟨by simp;omega,?_⟩
  have:4 * 4 ^ (h+1)≤m.K.length * 4 ^ (h+1):=Nat.mul_le_mul_right _ hs.1
  rw [Nat.pow_succ,Nat.mul_comm]
  omega
theorem RemT.sizes {X:Nat→Option Nd} {a:Nat} {P:Prs} {B:List Nat} {H:Nat} (t:RemT X a P B H):B.length≤P.length∧(a ≠ 0→H ≠ 0→2 * 4 ^ H≤P.length):=by
 rcases t with ⟨rfl,rfl,rfl⟩ | ⟨h0,m,B',hX,t,sz,rfl⟩
 ·exact ⟨Nat.le_refl _,fun h => absurd rfl h⟩
 ·cases H with
  | zero =>
   obtain ⟨_,hl,rfl,rfl⟩:=t
   have:=sz.2.1 rfl rfl
   rw [List.length_zip,← hl,Nat.min_self]
   exact ⟨by simp;omega,fun _ e => absurd rfl e⟩
  | succ H =>
   obtain ⟨s1,s2⟩:=Kids.sizes t.2 fun v p b r => T4.sizes r
   have h2:=sz.2.2.1 rfl (by omega)
   refine ⟨by simp;omega,fun _ _ => ?_⟩
   have:2 * 4 ^ (H+1)≤m.K.length * 4 ^ (H+1):=Nat.mul_le_mul_right _ h2
   omega
theorem RemT.low {X:Nat→Option Nd} {a:Nat} {P:Prs} {B:List Nat} {H:Nat} (t:RemT X a P B H) (hP:P.length < 512):a=0 ∨ H≤3:=by
 by_cases h0:a=0
 ·exact Or.inl h0
 ·right
  have h1:=t.sizes.2 h0
  by_cases hH:H≤3
  ·exact hH
  ·have h2:=h1 (by omega)
   have h3:4 ^ 4≤4 ^ H:=Nat.pow_le_pow_right (by decide) (by omega)
   omega
theorem nodupW_le:∀ (l Y:List Nat),l.Nodup→(∀ b,b∈l→b∈Y)→l.length≤Y.length
 | [],Y,_,_ => Nat.zero_le _
 | a :: l,Y,hn,hs => by
  obtain ⟨h1,h2⟩:=List.nodup_cons.1 hn
  have ha:=hs a (by simp)
  have ih:=nodupW_le l (Y.erase a) h2 fun b hb => (List.mem_erase_of_ne (fun e => h1 (by rw [← e];exact hb))).2 (hs b (List.mem_cons_of_mem _ hb))
  have hl:=List.length_erase_of_mem ha
  have hp:=List.length_pos_of_mem ha
  simp
  omega
theorem pigeonW {n:Nat} {Y:List Nat} (h:Y.length < n):∃ b,b < n∧b ∉ Y:=by
 by_cases hc:∃ b,b < n∧b ∉ Y
 ·exact hc
 ·exfalso
  have hs:∀ b,b∈List.range n→b∈Y:=fun b hb => by
   by_cases hm:b∈Y
   ·exact hm
   ·exact absurd ⟨b,List.mem_range.1 hb,hm⟩ hc
  have:=nodupW_le _ _ List.nodup_range hs
  simp at this
  omega
theorem room_of {n:Nat} {N C:List UInt8} {U Y:List Nat} (hU:Used n N U) (hC:∀ b,b < n→at0 C (b:Int) ≠ 0→b∈Y) (hY:∀ b,b∈U→b∈Y) (hl:Y.length < n):HasRoom n N C:=by
 obtain ⟨b,hb,hm⟩:=pigeonW hl
 refine ⟨b,hb,?_,?_⟩
 ·have h1:=hU.2.2 b hb
  rw [List.count_eq_zero_of_not_mem (fun h => hm (hY b h))] at h1
  exact UInt8.toNat_inj.1 h1
 ·by_cases h:at0 C (b:Int)=0
  ·exact h
  ·exact absurd (hC b hb h) hm
theorem rem_perm {P:Prs} {key v:Nat} (hs:Srt P) (h:getP P key=(v,true)):P.Perm ((key,v) :: remP key P):=by
 induction P with
 | nil => cases h
 | cons a P ih =>
  obtain ⟨h1,h2⟩:=List.pairwise_cons.1 hs
  obtain ⟨a1,a2⟩:=a
  by_cases e:a1=key
  ·subst e
   have hv:v=a2:=by unfold getP at h;simp at h;exact h.symm
   subst hv
   have:remP a1 ((a1,v) :: P)=P:=by
    unfold remP
    rw [List.filter_cons,if_neg (by simp)]
    exact List.filter_eq_self.2 fun b hb => by have:=h1 b hb;dsimp only at this;simp;omega
   rw [this]
  ·have hg:getP P key=(v,true):=by
    rw [← h]
    unfold getP
    rw [List.find?_cons_of_neg (by simpa using e)]
   have hr:remP key ((a1,a2) :: P)=(a1,a2) :: remP key P:=by
    unfold remP
    rw [List.filter_cons,if_pos (by simpa using e)]
   rw [hr]
   exact ((ih h2 hg).cons _).trans (List.Perm.swap _ _ _)
theorem ins_perm {P:Prs} (hs:Srt P) (key val:Nat):(insP key val P).Perm ((key,val) :: remP key P):=by
 rw [remP_parts hs]
 unfold insP
 exact List.perm_middle
theorem rem_absent {P:Prs} {key:Nat} (h:(getP P key).2=false):remP key P=P∧getP P key=(0,false):=by
 have e:getP P key=(0,false):=by
  unfold getP at h ⊢
  cases hf:P.find? (fun a => a.1 == key) with
  | none => rfl
  | some a => rw [hf] at h;simp at h
 exact ⟨remP_none e,e⟩
end
end Go.Proofs.YtdgkbicelnnfpaaGreatDoor
