/- Texts Wi, Wj, Wk, Wl, Wm of the library, joined. -/
import Derived.Test.YtdgkbicelnnfpaaGreatDoorM39
set_option linter.unusedVariables false
set_option linter.unusedSimpArgs false
namespace Go.Proofs.YtdgkbicelnnfpaaGreatDoor
section
def RootT (X:Nat→Option Nd) (a:Nat) (P:Prs) (B:List Nat) (H:Nat):Prop:=∃ m B',X a=some m∧TN X H m P B'∧Size [] H m∧B=a :: B'
theorem at_take {L Lp:List AS} {s:AS} (h:L.take (Lp.length+1)=Lp++[s]):L[Lp.length]?=some s∧L.take Lp.length=Lp:=by
 refine ⟨?_,?_⟩
 ·have e:(L.take (Lp.length+1))[Lp.length]?=L[Lp.length]?:=by rw [List.getElem?_take,if_pos (by omega)]
  rw [← e,h,List.getElem?_append_right (Nat.le_refl _),Nat.sub_self]
  rfl
 ·have e:(L.take (Lp.length+1)).take Lp.length=L.take Lp.length:=by rw [List.take_take];congr 1;omega
  rw [← e,h,List.take_left' rfl]
theorem splits_few {L:List AS} {i:Nat} {s:AS} (hx:L[i]?=some s) (h8:s.node.K.length≤8):splits L i=true:=by
 unfold splits
 rw [hx]
 simp [h8]
theorem splits_root {L:List AS} {s:AS} (hx:L[0]?=some s) (hs:s.node.sq):splits L 0=true:=by
 unfold splits
 rw [hx]
 simp only [Bool.or_eq_true,Bool.and_eq_true,decide_eq_true_eq]
 exact Or.inr ⟨hs,Or.inl rfl⟩
theorem splits_mid {L:List AS} {j:Nat} {s y:AS} (hx:L[j+1]?=some s) (hs:s.node.sq) (hy:L[j]?=some y) (hq:y.node.sq∧y.pl+1≤y.node.K.length):splits L (j+1)=true:=by
 unfold splits
 rw [hx]
 dsimp only
 rw [Nat.add_sub_cancel,hy]
 simp only [Bool.or_eq_true,Bool.and_eq_true,decide_eq_true_eq]
 exact Or.inr ⟨hs,Or.inr ⟨hq.1.1,hq.1.2,hq.2⟩⟩
theorem UpI.sq {n key val:Nat} {D:List Nat} {N:List UInt8} {X:Nat→Option Nd} {V Lp:List AS} {s:AS} {h:Nat} {Q A R:Prs} {B Bs:List Nat} (U:UpI n key val D N X V Lp s h Q A R B Bs):s.node.sq:=⟨U.t.len,by have:=U.hi;omega⟩
theorem UpI.parent {n key val:Nat} {D:List Nat} {N:List UInt8} {X:Nat→Option Nd} {V Lp:List AS} {s:AS} {h:Nat} {Q A R:Prs} {B Bs:List Nat} (U:UpI n key val D N X V Lp s h Q A R B Bs) (hL:Lp ≠ []):∃ Lp0 s0,Lp=Lp0++[s0]∧s0.node.sq∧s0.pl+1≤s0.node.K.length:=by
 have hp:=U.p
 cases hp with
 | nil => exact absurd rfl hL
 | snoc p hl hs fr h1 h2 hw => exact ⟨_,_,rfl,⟨fr.len,by have:=hs.1;omega⟩,fr.pl⟩
theorem come_few {C:List UInt8} {N:List UInt8} {X:Nat→Option Nd} {L V:List AS} {rt i:Nat} {s:AS} (hx:L[i]?=some s) (h8:s.node.K.length≤8):comeG C (N,X,L,V,rt) i=.ok (N,X,L,keptV V s,rt):=by
 unfold comeG
 rw [if_pos (splits_few hx h8)]
 unfold grownA
 dsimp only
 rw [hx]
 dsimp only
 rw [if_pos h8]
theorem come_many {C:List UInt8} {N:List UInt8} {X:Nat→Option Nd} {L V:List AS} {rt i:Nat} {s:AS} (hx:L[i]?=some s) (h8:¬ s.node.K.length≤8) (hs:splits L i=true):comeG C (N,X,L,V,rt) i=(match makeA N C X s.node.hi with
  | .stuck => .stuck
  | .full => .full
  | .ok (N1,X1,t) =>
   if i=0 then
    match makeA N1 C X1 (topN (s.node.lo.K.getD 0 0) (s.node.hi.K.getD 0 0) s.t t) with
    | .stuck => .stuck
    | .full => .full
    | .ok (N2,X2,t2) => .ok (N2,X2,L,keptV V ⟨s.t,s.was,s.node.lo,s.pl⟩,t2)
   else
    match L[i - 1]? with
    | none => .stuck
    | some y => .ok (N1,X1,L.set (i - 1) ⟨y.t,y.was,y.node.ins (y.pl+1) (s.node.hi.K.getD 0 0) t,y.pl⟩,keptV V ⟨s.t,s.was,s.node.lo,s.pl⟩,rt)):=by
 unfold comeG
 rw [if_pos hs]
 conv => lhs;unfold grownA
 dsimp only
 rw [hx]
 dsimp only
 rw [if_neg h8]
 rfl
theorem up_ins {n key val:Nat} {D:List Nat} {C:List UInt8} (hC:C.length=n) (hv:0 < val) (h0:0∈D):∀ (i:Nat) (N:List UInt8) (X:Nat→Option Nd) (V L Lp:List AS) (rt:Nat) (s:AS) (h:Nat) (Q A R:Prs) (B Bs:List Nat),i=Lp.length→UpI n key val D N X V Lp s h Q A R B Bs→L.take (i+1)=Lp++[s]→((Lp++[s]).head?.map AS.t)=some rt →
  (upL (comeG C) (i+1) (N,X,L,V,rt)=.full∧∃ N' W,Used n N' (W++D)∧W.length≤Lp.length+1+B.length+Bs.length+(i+1)∧¬ HasRoom n N' C) ∨
  ∃ N' X' L' V' rt' B' H,upL (comeG C) (i+1) (N,X,L,V,rt)=.ok (N',X',L',V',rt')∧Used n N' (B'++D)∧(B'++D).Nodup∧RootT (saveAll X' V') rt' (insP key val (A++(Q++R))) B' H∧H≤h+i+1∧(∀ y,y∈V'→mayB y.node.K y.node.V=true)∧B'.length≤Lp.length+1+B.length+Bs.length+(i+2)
 | 0,N,X,V,L,Lp,rt,s,h,Q,A,R,B,Bs,hi,U,hL,hrt => by
  have hLp:Lp=[]:=List.length_eq_zero_iff.1 hi.symm
  subst hLp
  have hx:L[0]?=some s:=(at_take (Lp:=[]) hL).1
  have hrt:s.t=rt:=by simpa using hrt
  have hp:=U.p
  obtain ⟨hA,hR,hB⟩:A=[]∧R=[]∧Bs=[]:=by
   generalize hL0:([]:List AS)=L0 at hp
   cases hp with
   | nil => exact ⟨rfl,rfl,rfl⟩
   | snoc _ _ _ _ _ _ _ => simp at hL0
  subst hA hR hB
  have hup:∀ st,upL (comeG C) 1 st=(match comeG C st 0 with
   | .stuck => .stuck
   | .full => .full
   | .ok s' => .ok s'):=fun st => by
   conv => lhs;unfold upL
   cases comeG C st 0 with
   | stuck => rfl
   | full => rfl
   | ok s' => rfl
  rw [hup]
  by_cases h8:s.node.K.length≤8
  ·right
   rw [come_few hx h8]
   obtain ⟨w1,w2⟩:=save_keep U.x
   have hpm:((s.t :: (List.map AS.t []++(B++[])))++D).Perm ((s.t :: B)++D):=by simp
   have h1:1≤s.node.K.length:=by
    by_cases hh:h=0
    ·exact U.lo.1 rfl hh
    ·have:=U.lo.2.1 rfl hh;omega
   have hmay:=U.may hv h0 U.t (List.Sublist.refl _) (fun z hz => hz) h1 h8
   have hne:∀ z,z∈B→z ≠ s.t:=fun z hz e => (List.nodup_cons.1 U.nd).1 (by subst e;simp [hz])
   refine ⟨N,X,L,keptV V s,rt,s.t :: B,h,rfl,U.u.perm hpm,hpm.nodup_iff.1 U.nd,⟨s.node,B,hrt ▸ w1,?_,⟨h8,U.lo.1,U.lo.2.1,U.lo.2.2⟩,by rw [hrt]⟩,by omega,fun y hy => ?_,by simp;omega⟩
   ·have e:([]:Prs)++(Q++[])=Q:=by simp
    rw [e]
    exact U.t.frame fun z hz => w2 z (hne z hz)
   ·rcases kept_mem hy with h9 | rfl
    ·exact (U.v y h9).2
    ·exact hmay
  ·rw [come_many hx h8 (splits_root hx U.sq)]
   rcases U.parted hC hv h0 h8 with ⟨g1,g2⟩ | ⟨N1,t,Q1,Q2,C1,C2,g1,g2,g3,g4,eQ,eB,t1,t2,l5,l4,may2,w1,w2,w3⟩
   ·left
    rw [g1]
    exact ⟨rfl,N,_,U.u,by simp,g2⟩
   ·rw [g1]
    dsimp only
    rw [if_pos rfl]
    obtain ⟨a,ha⟩:∃ a,s.node.lo.K[0]?=some a:=⟨_,List.getElem?_eq_getElem (by omega)⟩
    obtain ⟨b,hb⟩:∃ b,s.node.hi.K[0]?=some b:=⟨_,List.getElem?_eq_getElem (by omega)⟩
    have ea:s.node.lo.K.getD 0 0=a:=by rw [List.getD_eq_getElem?_getD,ha];rfl
    have eb:s.node.hi.K.getD 0 0=b:=by rw [List.getD_eq_getElem?_getD,hb];rfl
    rw [ea,eb]
    have hd1:=t1.head ha
    have hd2:=t2.head hb
    subst eB
    have hsr:=insP_srt U.sr.mid key val
    rw [eQ] at hsr
    have hab:a < b:=by
     obtain ⟨x1,h1⟩:=hd1
     obtain ⟨x2,h2⟩:=hd2
     exact hsr.parts.2.2 _ (List.mem_of_head? h1) _ (List.mem_of_head? h2)
    have hs0:0 < s.t:=by
     have:s.t ≠ 0:=fun e => (List.nodup_cons.1 U.nd).1 (by rw [e];exact List.mem_append_right _ h0)
     omega
    have hmt:mayB (topN a b s.t t).K (topN a b s.t t).V=true:=may_of (K:=[a,b]) (V:=[s.t,t]) (by simp) (by simp) rfl (by simpa using hab) (by intro v hv;simp at hv;omega)
    rcases make_ex (X:=putX X t s.node.hi) g2 hC hmt with ⟨k1,k2⟩ | ⟨N2,t3,k1,k2,k3,k4,k5,k6,k7⟩
    ·left
     rw [k2]
     refine ⟨rfl,N1,t :: (s.t :: (List.map AS.t []++((C1++C2)++[]))),g2,by simp;omega,k1⟩
    ·right
     rw [k1]
     have hVt:∀ y,y∈keptV V ⟨s.t,s.was,s.node.lo,s.pl⟩→y.t ≠ t3:=fun y hy e => by
      rcases kept_mem hy with h9 | rfl
      ·have h7:=(U.v y h9).1
       rw [e] at h7
       exact k5 (List.mem_cons_of_mem _ (List.mem_append_left _ (List.mem_cons_of_mem _ (List.mem_append_right _ (List.mem_append_left _ h7)))))
      ·have e:s.t=t3:=e
       exact k5 (by rw [← e];simp)
     obtain ⟨n1,n2⟩:=save_new (X:=putX X t s.node.hi) (m:=topN a b s.t t) hVt
     have hpm:(t3 :: (t :: ((s.t :: (List.map AS.t []++((C1++C2)++[])))++D))).Perm ((t3 :: ((s.t :: C1)++(t :: C2)))++D):=List.perm_iff_count.2 fun z => by
      simp only [List.count_append,List.count_cons,List.cons_append,List.map_nil,List.nil_append,List.append_nil];omega
     have hnd:(t3 :: (t :: ((s.t :: (List.map AS.t []++((C1++C2)++[])))++D))).Nodup:=List.nodup_cons.2 ⟨k5,List.nodup_cons.2 ⟨g3,U.nd⟩⟩
     have hX:∀ z,z∈C1++C2→saveAll (putX (putX X t s.node.hi) t3 (topN a b s.t t)) (keptV V ⟨s.t,s.was,s.node.lo,s.pl⟩) z=saveAll X V z:=fun z hz => by
      have z1:z ≠ t3:=fun e => k5 (by subst e;simp at hz ⊢;rcases hz with h9 | h9 <;> simp [h9])
      have z2:z ≠ t:=fun e => g3 (by subst e;simp at hz ⊢;rcases hz with h9 | h9 <;> simp [h9])
      have z3:z ≠ s.t:=fun e => (List.nodup_cons.1 U.nd).1 (by subst e;simp at hz ⊢;rcases hz with h9 | h9 <;> simp [h9])
      rw [n2 z z1]
      exact w3 z z3 z2
     have st3:s.t ≠ t3:=fun e => k5 (by rw [← e];simp)
     have tt3:t ≠ t3:=fun e => k5 (by rw [← e];simp)
     have r1:T4 (saveAll (putX (putX X t s.node.hi) t3 (topN a b s.t t)) (keptV V ⟨s.t,s.was,s.node.lo,s.pl⟩)) h s.t Q1 (s.t :: C1):=⟨s.node.lo,C1,(n2 _ st3).trans w1,by omega,t1.frame fun z hz => hX z (List.mem_append_left _ hz),rfl⟩
     have r2:T4 (saveAll (putX (putX X t s.node.hi) t3 (topN a b s.t t)) (keptV V ⟨s.t,s.was,s.node.lo,s.pl⟩)) h t Q2 (t :: C2):=⟨s.node.hi,C2,(n2 _ tt3).trans w2,by omega,t2.frame fun z hz => hX z (List.mem_append_right _ hz),rfl⟩
     refine ⟨N2,_,L,_,t3,t3 :: ((s.t :: C1)++(t :: C2)),h+1,rfl,k2.perm hpm,hpm.nodup_iff.1 hnd,⟨topN a b s.t t,_,n1,?_,⟨by show 2≤8;omega,fun _ e => by omega,fun _ _ => by show 2≤2;omega,fun e => absurd rfl e⟩,rfl⟩,by omega,fun y hy => ?_,by simp;omega⟩
     ·have e:([]:Prs)++(Q++[])=Q:=by simp
      rw [e,eQ]
      exact TN.succ.2 ⟨rfl,Kids.cons r1 hd1 (Kids.one r2 hd2)⟩
     ·rcases kept_mem hy with h9 | rfl
      ·exact (U.v y h9).2
      ·exact may2
 | i+1,N,X,V,L,Lp,rt,s,h,Q,A,R,B,Bs,hi,U,hL,hrt => by
  have hLn:Lp ≠ []:=fun e => by rw [e] at hi;simp at hi
  obtain ⟨hx',htk⟩:=at_take (Lp:=Lp) (by rw [← hi];exact hL)
  have hx:L[i+1]?=some s:=by rw [hi];exact hx'
  have hup:∀ st,upL (comeG C) (i+1+1) st=(match comeG C st (i+1) with
   | .stuck => .stuck
   | .full => .full
   | .ok s' => upL (comeG C) (i+1) s'):=fun st => by
   conv => lhs;unfold upL
   rfl
  rw [hup]
  by_cases h8:s.node.K.length≤8
  ·rw [come_few hx h8]
   dsimp only
   obtain ⟨Lp0,s0,P1,P2,A0,R0,B1,B2,Bs0,rfl,e2,rfl,U2⟩:=U.few hv h0 h8 hLn
   have hi0:i=Lp0.length:=by simp at hi;omega
   have htk2:L.take (i+1)=Lp0++[s0]:=by rw [hi0];simpa using htk
   have hrt2:((Lp0++[s0]).head?.map AS.t)=some rt:=by
    rw [← hrt]
    rw [List.head?_append,List.head?_append]
    cases Lp0 <;> simp
   rw [e2]
   rcases up_ins hC hv h0 i N X (keptV V s) L Lp0 rt s0 (h+1) (P1++(Q++P2)) A0 R0 _ Bs0 hi0 U2 htk2 hrt2 with ⟨j1,N',W,j2,j3,j4⟩ | ⟨N',X',L',V',rt',B',H,j1,j2,j3,j4,j5,j6,j7⟩
   ·exact Or.inl ⟨j1,N',W,j2,by simp at j3 ⊢;omega,j4⟩
   ·exact Or.inr ⟨N',X',L',V',rt',B',H,j1,j2,j3,j4,by omega,j6,by simp at j7 ⊢;omega⟩
  ·obtain ⟨Lq,sq,hLq,hq1,hq2⟩:=U.parent hLn
   have hiq:i=Lq.length:=by rw [hLq] at hi;simp at hi;omega
   have hxq:L[i]?=some sq:=by
    rw [hLq] at htk
    rw [hiq]
    exact (at_take (by simpa using htk)).1
   have hsp:=splits_mid hx U.sq hxq ⟨hq1,hq2⟩
   rw [come_many hx h8 hsp]
   rcases U.split hC hv h0 h8 hLn with ⟨g1,g2⟩ | ⟨N1,t,g1,Lp0,s0,P1,P2,A0,R0,B0,B1,B2,Bs0,rfl,e2,rfl,hB0,hq,U2⟩
   ·left
    rw [g1]
    exact ⟨rfl,N,_,U.u,by simp;omega,g2⟩
   ·have hi0:i=Lp0.length:=by simp at hi;omega
    have hs0:sq=s0:=by
     have e:=List.append_inj' hLq rfl
     simpa using e.2.symm
    subst hs0
    rw [g1]
    dsimp only
    rw [if_neg (by omega),Nat.add_sub_cancel,hxq]
    dsimp only
    have htk2:(L.set i ⟨sq.t,sq.was,sq.node.ins (sq.pl+1) (s.node.hi.K.getD 0 0) t,sq.pl⟩).take (i+1)=Lp0++[⟨sq.t,sq.was,sq.node.ins (sq.pl+1) (s.node.hi.K.getD 0 0) t,sq.pl⟩]:=by
     have e:L.take (i+1)=Lp0++[sq]:=by rw [hi0];simpa using htk
     rw [List.take_set,e,hi0,List.set_append_right _ _ (Nat.le_refl _),Nat.sub_self]
     rfl
    have hrt2:((Lp0++[(⟨sq.t,sq.was,sq.node.ins (sq.pl+1) (s.node.hi.K.getD 0 0) t,sq.pl⟩:AS)]).head?.map AS.t)=some rt:=by
     rw [← hrt]
     rw [List.head?_append,List.head?_append]
     cases Lp0 <;> simp
    rw [e2]
    rcases up_ins hC hv h0 i N1 (putX X t s.node.hi) (keptV V ⟨s.t,s.was,s.node.lo,s.pl⟩) _ Lp0 rt _ (h+1) (P1++(Q++P2)) A0 R0 _ Bs0 hi0 U2 htk2 hrt2 with ⟨j1,N',W,j2,j3,j4⟩ | ⟨N',X',L',V',rt',B',H,j1,j2,j3,j4,j5,j6,j7⟩
    ·exact Or.inl ⟨j1,N',W,j2,by simp at j3 ⊢;omega,j4⟩
    ·exact Or.inr ⟨N',X',L',V',rt',B',H,j1,j2,j3,j4,by omega,j6,by simp at j7 ⊢;omega⟩
end
section
theorem inserted_ex {n key val:Nat} {D:List Nat} {C:List UInt8} (hC:C.length=n) (hv:0 < val) (h0:0∈D) {N:List UInt8} {X:Nat→Option Nd} {root H:Nat} {P:Prs} {B:List Nat} (T:RootT X root P B H) (hH:H≤11) (hU:Used n N (B++D)) (hN:(B++D).Nodup) (hs:Srt P) (hp:∀ a,a∈P→0 < a.2) :
  (insertedA N C X root key val=.full∧∃ N' W,Used n N' (W++D)∧W.length≤B.length+H+1∧¬ HasRoom n N' C) ∨
  ∃ N' X' rt B' H',insertedA N C X root key val=.ok (N',X',rt,(getP P key).1,(getP P key).2)∧RootT X' rt (insP key val P) B' H'∧Used n N' (B'++D)∧(B'++D).Nodup∧H'≤H+1∧B'.length≤B.length+H+2:=by
 obtain ⟨m,B0,hX,t,sz,rfl⟩:=T
 have hN1:=List.nodup_cons.1 hN
 unfold insertedA downA
 rcases shadow_ex (a:=root) (U:=B0++D) hU hC hN1.1 hX with ⟨g1,g2⟩ | ⟨N1,X1,t1,g1,g2,g3,g4,g5,g6,g7,g8⟩
 ·left
  rw [g2]
  exact ⟨rfl,N,root :: B0,hU,by simp;omega,g1⟩
 rw [g1]
 dsimp only
 have hp0:(t1 :: (B0++D)).Perm (((⟨t1,m,m,0⟩:AS).t :: (([]:List AS).map AS.t++(B0++[])))++D):=by simp
 rcases down_ex hC key D H 11 N1 X1 [] ⟨t1,m,m,0⟩ [] P [] B0 [] (g2.perm hp0) (hp0.nodup_iff.1 (List.nodup_cons.2 ⟨g5,hN1.2⟩)) .nil g6 rfl (t.frame fun z hz => g7 z (fun e => g5 (by subst e;simp [hz]))) (fun r hr => by simp at hr) sz hs hH with ⟨j1,N2,W,j2,j3,j4⟩ | ⟨N2,X2,L',x',A',P',R',Bs',j1,j2,j3,j4,j5,j6,j7,j8,j9,j10,j11,j12,j13,j14⟩
 ·left
  rw [j1]
  exact ⟨rfl,N2,W,j2,by rw [j3];simp;omega,j4⟩
 rw [j1]
 dsimp only
 have j12':A'++(P'++R')=P:=by rw [j12];simp
 obtain ⟨k1,k2,k3,-⟩:=j7
 have hsr':Srt (A'++(P'++R')):=by rw [j12'];exact hs
 obtain ⟨q1,q2,q3,q4,q5,q6⟩:=leaf_ins k2 (k3 ▸ j10) key val
 have hpath:=j4.keys
 have htold:((if x'.node.is key=true then x'.node.V.getD (x'.node.find key) 0 else 0),x'.node.is key)=getP P key:=by
  rw [leaf_told k2 (k3 ▸ j10) key,← k3,← j12']
  exact (getP_mid hpath.1 hpath.2).symm
 obtain ⟨lf,hlf⟩:∃ lf,(if x'.node.is key=true then x'.node.rem (x'.node.find key) else x'.node).ins (x'.node.find key) key val=lf:=⟨_,rfl⟩
 rw [hlf] at q1 q2 q3 q4 q5 q6
 have hleaf:leafed (L'++[x']) key val=.ok (L'++[⟨x'.t,x'.was,lf,x'.pl⟩],(getP P key).1,(getP P key).2):=by
  unfold leafed
  rw [List.length_append,List.length_singleton,Nat.add_sub_cancel,List.getElem?_append_right (Nat.le_refl _),Nat.sub_self,List.getElem?_cons_zero]
  dsimp only
  rw [hlf,← htold,List.set_append_right _ _ (Nat.le_refl _),Nat.sub_self]
  rfl
 obtain ⟨y,hy⟩:∃ y,(L'++[x'])[0]?=some y:=⟨_,List.getElem?_eq_getElem (by simp)⟩
 rw [hleaf,hy]
 dsimp only
 unfold upA
 dsimp only
 have U:UpI n key val D N2 X2 [] L' ⟨x'.t,x'.was,lf,x'.pl⟩ 0 P' A' R' [] Bs':=by
  refine ⟨by simpa using j2,by simpa using j3,j4,by rw [j6];exact j5,⟨q1.trans k1,q2,by rw [q3,← k3],rfl⟩,j8,⟨fun _ _ => q6,fun _ e => absurd rfl e,fun e => ?_⟩,?_,hsr',fun a ha => hp a (j12' ▸ ha),by simp⟩
  ·have:=j9.2.2.2 e
   show 4≤lf.K.length
   omega
  ·have:=j9.1
   show lf.K.length≤9
   omega
 have hrt:((L'++[(⟨x'.t,x'.was,lf,x'.pl⟩:AS)]).head?.map AS.t)=some y.t:=by
  cases L' with
  | nil => simp at hy ⊢;rw [hy]
  | cons z L' => simp at hy ⊢;rw [hy]
 rw [List.length_append,List.length_singleton]
 rcases up_ins hC hv h0 L'.length N2 X2 [] (L'++[⟨x'.t,x'.was,lf,x'.pl⟩]) L' y.t ⟨x'.t,x'.was,lf,x'.pl⟩ 0 P' A' R' [] Bs' rfl U (List.take_of_length_le (by simp)) hrt with ⟨i1,N3,W,i2,i3,i4⟩ | ⟨N3,X3,L3,V3,rt3,B3,H3,i1,i2,i3,i4,i5,i6,i7⟩
 ·left
  rw [i1]
  exact ⟨rfl,N3,W,i2,by simp at i3 j11 j13 ⊢;omega,i4⟩
 ·right
  rw [i1]
  dsimp only
  rw [if_pos (List.all_eq_true.2 i6)]
  refine ⟨N3,_,rt3,B3,H3,rfl,?_,i2,i3,?_,?_⟩
  ·rw [j12'] at i4;exact i4
  ·simp at j11;omega
  ·simp at i7 j11 j13 ⊢;omega
end
section
structure UpR (n key:Nat) (D:List Nat) (N:List UInt8) (X:Nat→Option Nd) (V Lp:List AS) (s:AS) (h:Nat) (Q A R:Prs) (B Bs:List Nat):Prop where
 u:Used n N ((s.t :: (Lp.map AS.t++(B++Bs)))++D)
 nd:((s.t :: (Lp.map AS.t++(B++Bs)))++D).Nodup
 p:Path (saveAll X V) key Lp h Q A R Bs
 x:saveAll X V s.t=some s.was
 t:TN (saveAll X V) h s.node (remP key Q) B
 l:Link key Lp s.t Q
 th:∃ x,(key,x)∈Q
 lo:(Lp=[]→h ≠ 0→1≤s.node.K.length)∧(Lp ≠ []→3≤s.node.K.length)
 hi:s.node.K.length≤8
 sr:Srt (A++(Q++R))
 pos:∀ a,a∈A++(Q++R)→0 < a.2
 v:∀ y,y∈V→y.t∈B∧mayB y.node.K y.node.V=true
variable {n key:Nat} {D:List Nat} {N C:List UInt8} {X:Nat→Option Nd} {V Lp:List AS} {s:AS} {h:Nat} {Q A R:Prs} {B Bs:List Nat}
theorem UpR.few (U:UpR n key D N X V Lp s h Q A R B Bs) (h0:0∈D) (h4:4≤s.node.K.length) (hL:Lp ≠ []) :
  ∃ Lp0 s0 P1 P2 A0 R0 B1 B2 Bs0,Lp=Lp0++[s0]∧A++(Q++R)=A0++((P1++(Q++P2))++R0)∧Bs=Bs0++(B1++B2) ∧
   UpR n key D N X (keptV V s) Lp0 ⟨s0.t,s0.was,s0.node.put s0.pl (s.node.K.getD 0 0) s.t,s0.pl⟩ (h+1) (P1++(Q++P2)) A0 R0 (B1++((s.t :: B)++B2)) Bs0:=by
 obtain ⟨u,nd,p,x,t,l,th,lo,hi,sr,pos,v⟩:=U
 obtain ⟨w1,w2⟩:=save_keep x
 have hQ:=sr.mid
 have hmay:mayB s.node.K s.node.V=true:=t.may (remP_srt hQ key) (fun a ha => pos a (List.mem_append_right _ (List.mem_append_left _ (List.mem_filter.1 ha).1))) (fun z hz => by
  have:=(List.nodup_append.1 nd).2.2 z (by simp [hz]) 0 h0
  omega) (by omega) hi
 cases p with
 | nil => exact absurd rfl hL
 | snoc p hl hs fr h1 h2 hw =>
  rename_i Lp0 s0 A0 R0 P1 P2 Bs0 B1 B2
  have hp:((s.t :: ((Lp0++[s0]).map AS.t++(B++(Bs0++(B1++B2)))))++D).Perm ((s0.t :: (Lp0.map AS.t++((B1++((s.t :: B)++B2))++Bs0)))++D):=List.perm_iff_count.2 fun a => by
   simp only [List.count_append,List.count_cons,List.cons_append,List.map_append,List.map_cons,List.map_nil,List.count_nil];omega
  have hne:∀ z,z∈(Lp0.map AS.t++[s0.t])++(B++(Bs0++(B1++B2)))→z ≠ s.t:=fun z hz e => by
   have h9:=(List.nodup_cons.1 nd).1
   subst e
   apply h9
   refine List.mem_append_left _ ?_
   simpa [List.map_append] using hz
  have hR:A0++P1++(Q++(P2++R0))=A0++((P1++(Q++P2))++R0):=by simp only [List.append_assoc]
  obtain ⟨l1,k0,x0,l2,l3⟩:=l s0 (by rw [List.getLast?_concat])
  obtain ⟨k1,hk1⟩:∃ k1,s.node.K[0]?=some k1:=⟨_,List.getElem?_eq_getElem (by omega)⟩
  have ek:s.node.K.getD 0 0=k1:=by rw [List.getD_eq_getElem?_getD,hk1];rfl
  rw [ek]
  obtain ⟨pt1,pt2,pt3,pt4⟩:=put_take s0.node.K s0.node.V s0.node.lf s0.pl k1 s.t
  have hplV:s0.pl < s0.node.V.length:=by have h6:=fr.len;have h7:=fr.pl;omega
  refine ⟨Lp0,s0,P1,P2,A0,R0,B1,B2,Bs0,rfl,hR,rfl,u.perm hp,hp.nodup_iff.1 nd,p.frame fun z hz => w2 z (hne z ?_),?_,?_,hl,?_,⟨fun e e2 => ?_,fun e => ?_⟩,?_,hR ▸ sr,fun a ha => pos a (hR ▸ ha),fun y hy => ?_⟩
  ·rcases List.mem_append.1 hz with h9 | h9
   ·exact List.mem_append_left _ (List.mem_append_left _ h9)
   ·exact List.mem_append_right _ (List.mem_append_right _ (List.mem_append_left _ h9))
  ·show _=some s0.was
   rw [w2 _ (hne _ (by simp))];exact hw
  ·rw [remP_mid h1 h2]
   have r:T4 (saveAll X (keptV V s)) h s.t (remP key Q) (s.t :: B):=⟨s.node,B,w1,⟨h4,hi⟩,t.frame fun z hz => w2 z (hne z (by simp [hz])),rfl⟩
   have fr':=fr.frame (X':=saveAll X (keptV V s)) fun z hz => w2 z (hne z (List.mem_append_right _ (List.mem_append_right _ (List.mem_append_right _ hz))))
   have fr2:FrameS (saveAll X (keptV V s)) h ⟨s0.t,s0.was,s0.node.put s0.pl k1 s.t,s0.pl⟩ P1 P2 B1 B2:=⟨fr.lf,by unfold Nd.put;simp [fr.len],by unfold Nd.put;simpa using fr.pl,by dsimp only;rw [pt1,pt2];exact fr'.l,by dsimp only;rw [pt3,pt4];exact fr'.r⟩
   exact fr2.close r (by unfold Nd.put;simp [hplV]) (by unfold Nd.put;simp [fr.pl]) (t.head hk1)
  ·obtain ⟨y,hy⟩:=th
   exact ⟨y,List.mem_append_right _ (List.mem_append_left _ hy)⟩
  ·have:=hs.2.2.1 e (by omega)
   unfold Nd.put
   simp
   omega
  ·have:=hs.2.2.2 e
   unfold Nd.put
   simp
   omega
  ·have:=hs.1
   unfold Nd.put
   simpa using this
  ·rcases kept_mem hy with h9 | rfl
   ·obtain ⟨v1,v2⟩:=v y h9
    exact ⟨by simp [v1],v2⟩
   ·exact ⟨by simp,hmay⟩
end
section
theorem TN.cat {X:Nat→Option Nd} {h:Nat} {m p:Nd} {P Q:Prs} {B C:List Nat} (t:TN X h m P B) (r:TN X h p Q C):TN X h (m.cat p) (P++Q) (B++C):=by
 cases h with
 | zero =>
  obtain ⟨t1,t2,rfl,rfl⟩:=t
  obtain ⟨r1,r2,rfl,rfl⟩:=r
  refine ⟨t1,?_,?_,rfl⟩
  ·show (m.K++p.K).length=(m.V++p.V).length
   simp [t2,r2]
  ·show _=(m.K++p.K).zip (m.V++p.V)
   rw [List.zip_append t2]
 | succ h => exact TN.succ.2 ⟨t.1,t.2.append r.2⟩
theorem meet_ex {n:Nat} {N:List UInt8} {X:Nat→Option Nd} {V:List AS} {h:Nat} {xa xb:AS} {pa pb:Prs} {ba bb U:List Nat} (hn:n≤1024) (hU:Used n N (xb.t :: (xa.t :: U))) (ta:TN (saveAll X V) h xa.node pa ba) (tb:TN (saveAll X V) h xb.node pb bb) (h7:7≤xa.node.K.length+xb.node.K.length) (h11:xa.node.K.length+xb.node.K.length≤11)
  (wa:saveAll X V xa.t=some xa.was) (wb:saveAll X V xb.t=some xb.was) (hab:xa.t ≠ xb.t) (ha:∀ z,z∈ba++bb→z ≠ xa.t∧z ≠ xb.t∧0 < z) (hs:Srt (pa++pb)) (hp:∀ a,a∈pa++pb→0 < a.2) (ah:AS) (z:Nat) :
  ∃ N2 V2 a3,meetA N V ah xa xb z=some (N2,V2,a3) ∧
   ((Used n N2 (xa.t :: U)∧a3=⟨ah.t,ah.was,ah.node.rem z,ah.pl⟩∧T4 (saveAll X V2) h xa.t (pa++pb) (xa.t :: (ba++bb))∧(∀ y,y∈V2→y∈V ∨ (y.t=xa.t∧mayB y.node.K y.node.V=true))∧(∀ y,y ≠ xa.t→saveAll X V2 y=saveAll X V y)) ∨
    (∃ k2 qa qb ca cb,Used n N2 (xb.t :: (xa.t :: U))∧a3=⟨ah.t,ah.was,ah.node.put z k2 xb.t,ah.pl⟩∧pa++pb=qa++qb∧ba++bb=ca++cb∧T4 (saveAll X V2) h xa.t qa (xa.t :: ca)∧T4 (saveAll X V2) h xb.t qb (xb.t :: cb)∧(∃ x,qb.head?=some (k2,x))∧qa ≠ [] ∧
    (∀ y,y∈V2→y∈V ∨ ((y.t=xa.t ∨ y.t=xb.t)∧mayB y.node.K y.node.V=true))∧(∀ y,y ≠ xa.t→y ≠ xb.t→saveAll X V2 y=saveAll X V y))):=by
 have tc:=ta.cat tb
 have hlc:(xa.node.cat xb.node).K.length=xa.node.K.length+xb.node.K.length:=by show (xa.node.K++xb.node.K).length=_;simp
 unfold meetA
 by_cases h8:xa.node.K.length+xb.node.K.length≤8
 ·rw [if_pos h8]
  obtain ⟨N2,l1,l2⟩:=less_ex hU hn
  rw [l1]
  obtain ⟨w1,w2⟩:=save_keep (x:=⟨xa.t,xa.was,xa.node.cat xb.node,xa.pl⟩) (V:=V) (X:=X) wa
  have hm:=tc.may hs hp (fun z hz => (ha z hz).2.2) (by omega) (by omega)
  refine ⟨N2,_,_,rfl,Or.inl ⟨l2,rfl,⟨xa.node.cat xb.node,_,w1,by omega,tc.frame fun z hz => w2 z (ha z hz).1,rfl⟩,fun y hy => ?_,fun y hy => w2 y hy⟩⟩
  rcases kept_mem hy with h9 | rfl
  ·exact Or.inl h9
  ·exact Or.inr ⟨rfl,hm⟩
 ·rw [if_neg h8]
  obtain ⟨qa,qb,ca,cb,t1,t2,e1,e2⟩:=tc.parts (half (xa.node.cat xb.node).K.length)
  have hla:((xa.node.cat xb.node).K.take (half (xa.node.cat xb.node).K.length)).length=half (xa.node.K.length+xb.node.K.length):=by rw [List.length_take,hlc];unfold half;omega
  have hlb:((xa.node.cat xb.node).K.drop (half (xa.node.cat xb.node).K.length)).length=(xa.node.K.length+xb.node.K.length) - half (xa.node.K.length+xb.node.K.length):=by rw [List.length_drop,hlc]
  have hh:5≤half (xa.node.K.length+xb.node.K.length)∧half (xa.node.K.length+xb.node.K.length)≤6∧4≤(xa.node.K.length+xb.node.K.length) - half (xa.node.K.length+xb.node.K.length)∧(xa.node.K.length+xb.node.K.length) - half (xa.node.K.length+xb.node.K.length)≤5:=by unfold half;omega
  obtain ⟨w1,w2⟩:=save_keep (x:=⟨xa.t,xa.was,(xa.node.cat xb.node).lo,xa.pl⟩) (V:=V) (X:=X) wa
  have wb':saveAll X (keptV V ⟨xa.t,xa.was,(xa.node.cat xb.node).lo,xa.pl⟩) xb.t=some xb.was:=(w2 _ (fun e => hab e.symm)).trans wb
  obtain ⟨w3,w4⟩:=save_keep (x:=⟨xb.t,xb.was,(xa.node.cat xb.node).hi,xb.pl⟩) (X:=X) wb'
  have hsp:Srt qa∧Srt qb∧_:=(e1 ▸ hs).parts
  have hma:mayB (xa.node.cat xb.node).lo.K (xa.node.cat xb.node).lo.V=true:=t1.may hsp.1 (fun a h9 => hp a (e1 ▸ List.mem_append_left _ h9)) (fun z hz => (ha z (e2 ▸ List.mem_append_left _ hz)).2.2) (by show 1≤((xa.node.cat xb.node).K.take _).length;omega) (by show ((xa.node.cat xb.node).K.take _).length≤8;omega)
  have hmb:mayB (xa.node.cat xb.node).hi.K (xa.node.cat xb.node).hi.V=true:=t2.may hsp.2.1 (fun a h9 => hp a (e1 ▸ List.mem_append_right _ h9)) (fun z hz => (ha z (e2 ▸ List.mem_append_right _ hz)).2.2) (by show 1≤((xa.node.cat xb.node).K.drop _).length;omega) (by show ((xa.node.cat xb.node).K.drop _).length≤8;omega)
  obtain ⟨k2,hk2⟩:∃ k2,(xa.node.cat xb.node).hi.K[0]?=some k2:=⟨_,List.getElem?_eq_getElem (by show 0 < ((xa.node.cat xb.node).K.drop _).length;omega)⟩
  have ek:(xa.node.cat xb.node).hi.K.getD 0 0=k2:=by rw [List.getD_eq_getElem?_getD,hk2];rfl
  rw [ek]
  have hX:∀ y,y ≠ xa.t→y ≠ xb.t→saveAll X (keptV (keptV V ⟨xa.t,xa.was,(xa.node.cat xb.node).lo,xa.pl⟩) ⟨xb.t,xb.was,(xa.node.cat xb.node).hi,xb.pl⟩) y=saveAll X V y:=fun y y1 y2 => (w4 y y2).trans (w2 y y1)
  refine ⟨N,_,_,rfl,Or.inr ⟨k2,qa,qb,ca,cb,hU,rfl,e1,e2,⟨(xa.node.cat xb.node).lo,ca,(w4 _ hab).trans w1,?_,t1.frame fun z hz => hX z (ha z (e2 ▸ List.mem_append_left _ hz)).1 (ha z (e2 ▸ List.mem_append_left _ hz)).2.1,rfl⟩,⟨(xa.node.cat xb.node).hi,cb,w3,?_,t2.frame fun z hz => hX z (ha z (e2 ▸ List.mem_append_right _ hz)).1 (ha z (e2 ▸ List.mem_append_right _ hz)).2.1,rfl⟩,t2.head hk2,t1.ne (by show 0 < ((xa.node.cat xb.node).K.take _).length;omega),fun y hy => ?_,hX⟩⟩
  ·show 4≤((xa.node.cat xb.node).K.take _).length∧((xa.node.cat xb.node).K.take _).length≤8
   omega
  ·show 4≤((xa.node.cat xb.node).K.drop _).length∧((xa.node.cat xb.node).K.drop _).length≤8
   omega
  ·rcases kept_mem hy with h9 | rfl
   ·rcases kept_mem h9 with h9 | rfl
    ·exact Or.inl h9
    ·exact Or.inr ⟨Or.inl rfl,hma⟩
   ·exact Or.inr ⟨Or.inr rfl,hmb⟩
end
section
theorem set0 (x y:Nat) (R:List Nat):∀ A:List Nat,(A++x :: R).set A.length y=A++y :: R
 | [] => rfl
 | a :: A => by rw [List.cons_append,List.length_cons,List.set_cons_succ,set0 x y R A];rfl
theorem set1 (a x y:Nat) (R:List Nat):∀ A:List Nat,(A++a :: x :: R).set (A.length+1) y=A++a :: y :: R
 | [] => rfl
 | b :: A => by rw [List.cons_append,List.length_cons,List.set_cons_succ,set1 a x y R A];rfl
theorem erase1 (a x:Nat) (R:List Nat):∀ A:List Nat,(A++a :: x :: R).eraseIdx (A.length+1)=A++a :: R
 | [] => rfl
 | b :: A => by rw [List.cons_append,List.length_cons,List.eraseIdx_cons_succ,erase1 a x R A];rfl
theorem get0 (x:Nat) (R A:List Nat):(A++x :: R)[A.length]?=some x:=by rw [List.getElem?_append_right (Nat.le_refl _),Nat.sub_self];rfl
theorem get1 (a x:Nat) (R A:List Nat):(A++a :: x :: R)[A.length+1]?=some x:=by rw [List.getElem?_append_right (by omega),show A.length+1 - A.length=1 by omega];rfl
theorem save_same {X X':Nat→Option Nd} {z:Nat}:∀ {V:List AS},X' z=X z→saveAll X' V z=saveAll X V z:=by
 intro V
 induction V generalizing X X' with
 | nil => exact fun h => h
 | cons y V ih =>
  intro h
  show saveAll (putX X' y.t y.node) V z=saveAll (putX X y.t y.node) V z
  refine ih ?_
  unfold putX
  rw [h]
theorem save_other {X:Nat→Option Nd} {z:Nat}:∀ {V:List AS},(∀ y,y∈V→y.t ≠ z)→saveAll X V z=X z:=by
 intro V
 induction V generalizing X with
 | nil => exact fun _ => rfl
 | cons y V ih =>
  intro h
  show saveAll (putX X y.t y.node) V z=X z
  rw [ih fun w hw => h w (List.mem_cons_of_mem _ hw)]
  unfold putX
  rw [if_neg (fun e => h y (by simp) e.symm)]
variable {n key:Nat} {D:List Nat} {N C:List UInt8} {X:Nat→Option Nd} {V Lp:List AS} {s:AS} {h:Nat} {Q A R:Prs} {B Bs:List Nat}
theorem met {N1:List UInt8} {X1:Nat→Option Nd} {Lp0:List AS} {s0 xa xb:AS} {k2' fk:Nat} {K1 V1 K2 V2:List Nat} {P1 P2 A0 R0 pa pb Pl Pr:Prs} {B1 B2 ba bb Bl Br Bs0:List Nat} (hn:n≤1024) (h0:0∈D)
  (hU:Used n N1 (xb.t :: (xa.t :: ((s0.t :: (Lp0.map AS.t++((Bl++((ba++bb)++Br))++Bs0)))++D)))) (hN:(xb.t :: (xa.t :: ((s0.t :: (Lp0.map AS.t++((Bl++((ba++bb)++Br))++Bs0)))++D))).Nodup)
  (ta:TN (saveAll X1 V) h xa.node pa ba) (tb:TN (saveAll X1 V) h xb.node pb bb) (h7:7≤xa.node.K.length+xb.node.K.length) (h11:xa.node.K.length+xb.node.K.length≤11) (wa:saveAll X1 V xa.t=some xa.was) (wb:saveAll X1 V xb.t=some xb.was)
  (kl:Kids (T4 (saveAll X1 V) h) K1 V1 Pl Bl) (kr:Kids (T4 (saveAll X1 V) h) K2 V2 Pr Br) (hpa:∃ x,pa.head?=some (fk,x)) (hQ:remP key (P1++(Q++P2))=Pl++((pa++pb)++Pr))
  (hp:Path (saveAll X1 V) key Lp0 (h+1) (P1++(Q++P2)) A0 R0 Bs0) (hl:Link key Lp0 s0.t (P1++(Q++P2))) (hw:saveAll X1 V s0.t=some s0.was) (hs:Size Lp0 (h+1) s0.node) (hlen:s0.node.K.length=K1.length+2+K2.length) (hlf:s0.node.lf=false) (hth:∃ x,(key,x)∈Q) (hsr:Srt (A0++((P1++(Q++P2))++R0))) (hpos:∀ a,a∈A0++((P1++(Q++P2))++R0)→0 < a.2)
  (hv:∀ y,y∈V→y.t∈ba++bb∧mayB y.node.K y.node.V=true) (ah:AS) (hat:ah.t=s0.t) (haw:ah.was=s0.was) (z:Nat) (hrem:ah.node.rem z=⟨false,K1++fk :: K2,V1++xa.t :: V2⟩) (hput:∀ k,ah.node.put z k xb.t=⟨false,K1++fk :: k :: K2,V1++xa.t :: xb.t :: V2⟩) :
  ∃ N2 V2' a3 B',meetA N1 V ah xa xb z=some (N2,V2',a3)∧UpR n key D N2 X1 V2' Lp0 a3 (h+1) (P1++(Q++P2)) A0 R0 B' Bs0∧B'.length≤Bl.length+ba.length+bb.length+Br.length+2:=by
 obtain ⟨hN1,hN2⟩:=List.nodup_cons.1 hN
 obtain ⟨hN3,hN4⟩:=List.nodup_cons.1 hN2
 have hsQ:Srt (remP key (P1++(Q++P2))):=remP_srt hsr.mid key
 have hpQ:∀ a,a∈remP key (P1++(Q++P2))→0 < a.2:=fun a ha => hpos a (List.mem_append_right _ (List.mem_append_left _ (List.mem_filter.1 ha).1))
 rw [hQ] at hsQ hpQ
 have hab:xa.t ≠ xb.t:=fun e => hN1 (by rw [← e];simp)
 have hne:∀ z,z∈(s0.t :: (Lp0.map AS.t++((Bl++((ba++bb)++Br))++Bs0)))→z ≠ xa.t∧z ≠ xb.t∧0 < z:=fun z hz => by
  refine ⟨fun e => hN3 (by rw [← e];exact List.mem_append_left _ hz),fun e => hN1 (by rw [← e];exact List.mem_cons_of_mem _ (List.mem_append_left _ hz)),?_⟩
  have:=(List.nodup_append.1 hN4).2.2 z hz 0 h0
  omega
 have hba:∀ z,z∈ba++bb→z∈(s0.t :: (Lp0.map AS.t++((Bl++((ba++bb)++Br))++Bs0))):=fun z hz => List.mem_cons_of_mem _ (List.mem_append_right _ (List.mem_append_left _ (List.mem_append_right _ (List.mem_append_left _ hz))))
 have hbl:∀ z,z∈Bl→z∈(s0.t :: (Lp0.map AS.t++((Bl++((ba++bb)++Br))++Bs0))):=fun z hz => List.mem_cons_of_mem _ (List.mem_append_right _ (List.mem_append_left _ (List.mem_append_left _ hz)))
 have hbr:∀ z,z∈Br→z∈(s0.t :: (Lp0.map AS.t++((Bl++((ba++bb)++Br))++Bs0))):=fun z hz => List.mem_cons_of_mem _ (List.mem_append_right _ (List.mem_append_left _ (List.mem_append_right _ (List.mem_append_right _ hz))))
 have hpp:∀ z,z∈Lp0.map AS.t++Bs0→z∈(s0.t :: (Lp0.map AS.t++((Bl++((ba++bb)++Br))++Bs0))):=fun z hz => by
  rcases List.mem_append.1 hz with h9 | h9
  ·exact List.mem_cons_of_mem _ (List.mem_append_left _ h9)
  ·exact List.mem_cons_of_mem _ (List.mem_append_right _ (List.mem_append_right _ h9))
 have hsz:=hs.1
 have hth2:∃ x,(key,x)∈P1++(Q++P2):=by
  obtain ⟨x,hx⟩:=hth
  exact ⟨x,List.mem_append_right _ (List.mem_append_left _ hx)⟩
 obtain ⟨N2,V2',a3,e1,e2⟩:=meet_ex hn hU ta tb h7 h11 wa wb hab (fun z hz => hne z (hba z hz)) hsQ.parts.2.1.parts.1 (fun a ha => hpQ a (List.mem_append_right _ (List.mem_append_left _ ha))) ah z
 rcases e2 with ⟨f1,f2,f3,f4,f5⟩ | ⟨k2,qa,qb,ca,cb,f1,f2,f3,f4,f5,f6,f7,f8,f9,f10⟩
 ·subst f2
  have hX:∀ z,z∈(s0.t :: (Lp0.map AS.t++((Bl++((ba++bb)++Br))++Bs0)))→saveAll X1 V2' z=saveAll X1 V z:=fun z hz => f5 z (hne z hz).1
  have hpm:(xa.t :: ((s0.t :: (Lp0.map AS.t++((Bl++((ba++bb)++Br))++Bs0)))++D)).Perm ((s0.t :: (Lp0.map AS.t++((Bl++((xa.t :: (ba++bb))++Br))++Bs0)))++D):=List.perm_iff_count.2 fun a => by
   simp only [List.count_append,List.count_cons,List.cons_append];omega
  have hKl:(ah.node.rem z).K.length+1=s0.node.K.length:=by rw [hrem,hlen];simp;omega
  refine ⟨N2,V2',_,Bl++((xa.t :: (ba++bb))++Br),e1,⟨by rw [hat];exact f1.perm hpm,by rw [hat];exact hpm.nodup_iff.1 hN2,hp.frame fun z hz => hX z (hpp z hz),by dsimp only;rw [hat,haw,hX _ (by simp)];exact hw,?_,by dsimp only;rw [hat];exact hl,hth2,⟨fun e e3 => ?_,fun e => ?_⟩,?_,hsr,hpos,fun y hy => ?_⟩,by simp;omega⟩
  ·dsimp only
   rw [hrem,hQ]
   refine TN.succ.2 ⟨rfl,(kl.frame fun z hz => hX z (hbl z hz)).append (Kids.cons f3 ?_ (kr.frame fun z hz => hX z (hbr z hz)))⟩
   obtain ⟨x,hx⟩:=hpa
   cases pa with
   | nil => simp at hx
   | cons a pa => exact ⟨x,by simpa using hx⟩
  ·have:=hs.2.2.1 e (by omega)
   dsimp only
   omega
  ·have:=hs.2.2.2 e
   dsimp only
   omega
  ·dsimp only
   omega
  ·rcases f4 y hy with h9 | ⟨h9,h8⟩
   ·obtain ⟨v1,v2⟩:=hv y h9
    refine ⟨?_,v2⟩
    rcases List.mem_append.1 v1 with v1 | v1 <;> simp [v1]
   ·exact ⟨by rw [h9];simp,h8⟩
 ·subst f2
  have hX:∀ z,z∈(s0.t :: (Lp0.map AS.t++((Bl++((ba++bb)++Br))++Bs0)))→saveAll X1 V2' z=saveAll X1 V z:=fun z hz => f10 z (hne z hz).1 (hne z hz).2.1
  have hpm:(xb.t :: (xa.t :: ((s0.t :: (Lp0.map AS.t++((Bl++((ba++bb)++Br))++Bs0)))++D))).Perm ((s0.t :: (Lp0.map AS.t++((Bl++((xa.t :: ca)++((xb.t :: cb)++Br)))++Bs0)))++D):=List.perm_iff_count.2 fun a => by
   rw [f4]
   simp only [List.count_append,List.count_cons,List.cons_append];omega
  have hcl:ca.length+cb.length=ba.length+bb.length:=by
   have:=congrArg List.length f4
   simp at this
   omega
  have hKl:(ah.node.put z k2 xb.t).K.length=s0.node.K.length:=by rw [hput,hlen];simp;omega
  refine ⟨N2,V2',_,Bl++((xa.t :: ca)++((xb.t :: cb)++Br)),e1,⟨by rw [hat];exact f1.perm hpm,by rw [hat];exact hpm.nodup_iff.1 hN,hp.frame fun z hz => hX z (hpp z hz),by dsimp only;rw [hat,haw,hX _ (by simp)];exact hw,?_,by dsimp only;rw [hat];exact hl,hth2,⟨fun e e3 => ?_,fun e => ?_⟩,?_,hsr,hpos,fun y hy => ?_⟩,by simp;omega⟩
  ·dsimp only
   rw [hput,hQ,f3,List.append_assoc qa qb Pr]
   refine TN.succ.2 ⟨rfl,(kl.frame fun z hz => hX z (hbl z hz)).append (Kids.cons f5 ?_ (Kids.cons f6 f7 (kr.frame fun z hz => hX z (hbr z hz))))⟩
   obtain ⟨x,hx⟩:=hpa
   cases pa with
   | nil => simp at hx
   | cons a pa =>
    cases qa with
    | nil => exact absurd rfl f8
    | cons a' qa =>
     simp only [List.cons_append,List.cons.injEq] at f3
     exact ⟨x,by rw [← f3.1];simpa using hx⟩
  ·have:=hs.2.2.1 e (by omega)
   dsimp only
   omega
  ·have:=hs.2.2.2 e
   dsimp only
   omega
  ·dsimp only
   omega
  ·have hm:∀ w,w∈ba++bb→w∈Bl++((xa.t :: ca)++((xb.t :: cb)++Br)):=fun w hw9 => by
    rw [f4] at hw9
    rcases List.mem_append.1 hw9 with v1 | v1 <;> simp [v1]
   rcases f9 y hy with h9 | ⟨h9 | h9,h8⟩
   ·obtain ⟨v1,v2⟩:=hv y h9
    exact ⟨hm _ v1,v2⟩
   ·exact ⟨by rw [h9];simp,h8⟩
   ·exact ⟨by rw [h9];simp,h8⟩
end
end Go.Proofs.YtdgkbicelnnfpaaGreatDoor
