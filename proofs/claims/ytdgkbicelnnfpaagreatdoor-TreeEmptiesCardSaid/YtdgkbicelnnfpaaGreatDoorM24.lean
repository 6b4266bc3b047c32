/- Texts Ir of the library, joined. -/
import Derived.Test.YtdgkbicelnnfpaaGreatDoorM23
set_option linter.unusedVariables false
set_option linter.unusedSimpArgs false
namespace Go.Proofs.YtdgkbicelnnfpaaGreatDoor
section
open Go.RowKit
attribute [local go_sem ↓] Go.wp_at_zero Go.wp_at_succ
set_option maxRecDepth 20000 in
set_option maxHeartbeats 4000000 in
theorem insert_any (lf:Bool) (ka:Option Addr) (kl kc:Nat) (va:Option Addr) (vl vc:Nat) (K V:List Nat) (w:World) (h:RdN w ka kc va vc K V) (hk:K.length=kl) (hv:V.length=vl) (z:Int) (x y:Nat) (hb:np K V≤100000000) :
  Calls Tryz.prog 111 #[.agg #[.bool lf,.slice ka kl kc,.slice va vl vc],.int .i64 z,.int .u64 (x:Int),.int .u64 (y:Int)] w fun e w' => NOut w.heap.size lf (insL (np K V) (clampN z (np K V)) x K) (insL (np K V) (clampN z (np K V)) y V) e w'∧Chg [] w w':=by
 obtain ⟨P,hP⟩:∃ P,np K V=P:=⟨_,rfl⟩
 have cP:=pairs_any lf ka kl kc va vl vc P (by rw [min_np hk hv,hP])
 have cC:=fun (a xb:Nat) (u:World) (oa:Option Addr) (oc:Nat) (ob:Option Addr) (od:Nat) (g:Chg [] w u) {B:Nat} (r:RmN u B oa oc ob od [x] [y]) (hx:u.cell? ⟨xb,0,none⟩=some (.int .i64 (a:Int))) (ha:a≤np K V) => changed_ins lf ka kl kc va vl vc K V false oa 1 oc ob 1 od [x] [y] u (h.keep g) hk hv (r.rd (by simp) (by simp)) rfl rfl a xb hx ha (by have:=(tk_one x y).2.2;omega)
 simp only [(tk_one x y).1,(tk_one x y).2.1] at cC
 rw [hP] at cC ⊢
 have CP:=mkHid cP
 have CC:=mkHid @cC
 clear cP cC h hk hv hb hP
 by_cases h1:z < 0
 ·have HFa:=mkHid (show (z < 0)=True∧(0≤z)=False∧((P:Int) < 0)=False∧True from ⟨eq_true (by omega),eq_false (by omega),eq_false (by omega),trivial⟩)
  rw [show clampN z P=0 from if_pos h1]
  clear h1
  unfold insL
  have cC1:=CC.out 0
  generalize sub K 0 0++([x]++sub K 0 P)=X at *
  generalize sub V 0 0++([y]++sub V 0 P)=Y at *
  have CC1:=mkHid @cC1
  clear cC1
  obtain ⟨w1,hw1⟩:∃ w1,w1=(((w.alloc (.cells #[.bool lf,.slice ka kl kc,.slice va vl vc] 53)).alloc (.cells #[.int .i64 z] 3)).alloc (.cells #[.bool false,.slice none 0 0,.slice none 0 0] 53)):=⟨_,rfl⟩
  have a0:w1.cell? ⟨w.heap.size,0,none⟩=some (.bool lf):=by rw [hw1];simp [go_sem]
  have a1:w1.cell? ⟨w.heap.size,1,none⟩=some (.slice ka kl kc):=by rw [hw1];simp [go_sem]
  have a2:w1.cell? ⟨w.heap.size,2,none⟩=some (.slice va vl vc):=by rw [hw1];simp [go_sem]
  have c0:w1.cell? ⟨w.heap.size+1,0,none⟩=some (.int .i64 z):=by rw [hw1];simp [go_sem]
  have t0:w1.there (w.heap.size+1+1) 0 3:=fun j hj => by
   rw [hw1]
   match j,hj with
   | 0,_ => simp [go_sem]
   | 1,_ => simp [go_sem]
   | 2,_ => simp [go_sem]
  have cf:w1.frozen? ⟨w.heap.size+1,0,none⟩=false:=by rw [hw1];simp [go_sem]
  have HCF:=mkHid cf
  clear cf
  have g0:Chg [] w w1:=by rw [hw1];exact ((Chg.alloc [] w _).then (Chg.alloc [] _ _)).then (Chg.alloc [] _ _)
  have hz:w1.heap.size=w.heap.size+3:=by rw [hw1];simp
  have HE:=mkHid (And.intro a0 (And.intro a1 (And.intro a2 (And.intro c0 (And.intro t0 (And.intro g0 (hz)))))))
  clear a0 a1 a2 c0 t0 g0 hz
  go_enter Tryz.func111,Tryz.ntmps111
  go_wp2_with fail
  rw [← hw1]
  clear hw1
  obtain ⟨a0,a1,a2,c0,t0,g0,hz⟩:=HE.out
  clear HE
  obtain ⟨B1,hB1⟩:∃ b,w.heap.size+1=b:=⟨_,rfl⟩
  rw [hB1] at c0 t0 ⊢
  obtain ⟨R,hR⟩:∃ b,B1+1=b:=⟨_,rfl⟩
  rw [hR] at t0 ⊢
  have cf:w1.frozen? ⟨B1,0,none⟩=false:=by have:=HCF.out;rwa [hB1] at this
  have HR:=mkHid (show w.heap.size+1=B1∧B1+1=R∧R+1=w1.heap.size by omega)
  clear hz hB1 hR
  refine region_made 5 [IsV (.int .i64 z),IsV (.int .i64 0),IsV (.agg #[.bool lf,.slice ka kl kc,.slice va vl vc]),IsV (.int .i64 (P:Int)),IsV (.int .i64 0)] (by kernel_rfl) (by kernel_rfl) (by kernel_rfl) (by decide) (of_decide_eq_true (by kernel_rfl)) ⟨keepV _,keepV _,keepV _,keepV _,keepV _,trivial⟩ ?_ ?_
  ·refine ⟨?_,?_,?_,?_,?_,trivial⟩
   ·intro v u hg hd K hK
    have hz:=(Chg.drew [] w1).then hg
    have x0:=hz.cellv c0 (by simp)
    clear hd
    have hk:=hK.out (.int .i64 z) u (Chg.refl _ _) rfl
    clear hK
    simp only [zqa,zqb,zqc,zqd,zqe,putAll,Act.put,zqf,zqg,zqh,Nat.zero_add,Nat.reduceAdd] at hk ⊢
    go_simp
    exact hk
   ·intro v u hg hd K hK
    have h0:∃ lo hi,IsV (.int .i64 z) (v 0) lo hi u:=dep hd 0 (by kernel_rfl)
    have e0:v 0=.int .i64 z:=depV h0
    have q1:=HFa.out.1
    have q2:=HFa.out.2.1
    clear hd
    have hk:=hK.out (.int .i64 0) u (Chg.refl _ _) rfl
    clear hK
    simp only [zqa,zqb,zqc,zqd,zqe,putAll,Act.put,zqf,zqg,zqh,Nat.zero_add,Nat.reduceAdd,e0] at hk ⊢
    go_simp
    exact hk
   ·intro v u hg hd K hK
    have hz:=(Chg.drew [] w1).then hg
    have x0:=hz.cellv a0 (by simp)
    have x1:=hz.cellv a1 (by simp)
    have x2:=hz.cellv a2 (by simp)
    clear hd
    have hk:=hK.out (.agg #[.bool lf,.slice ka kl kc,.slice va vl vc]) u (Chg.refl _ _) rfl
    clear hK
    simp only [zqa,zqb,zqc,zqd,zqe,putAll,Act.put,zqf,zqg,zqh,Nat.zero_add,Nat.reduceAdd] at hk ⊢
    go_simp
    exact hk
   ·intro v u hg hd K hK
    have h2:∃ lo hi,IsV (.agg #[.bool lf,.slice ka kl kc,.slice va vl vc]) (v 2) lo hi u:=dep hd 2 (by kernel_rfl)
    have e2:v 2=.agg #[.bool lf,.slice ka kl kc,.slice va vl vc]:=depV h2
    clear hd
    simp only [zqa,zqb,zqc,zqd,zqe,putAll,Act.put,zqf,zqg,zqh,Nat.zero_add,Nat.reduceAdd,e2] at hK ⊢
    go_simp
    refine (CP.out u).mono ?_
    rintro e u' ⟨rfl,g'⟩
    have hk:=hK.out (.int .i64 (P:Int)) u' g' rfl
    exact hk
   ·intro v u hg hd K hK
    have h1:∃ lo hi,IsV (.int .i64 0) (v 1) lo hi u:=dep hd 1 (by kernel_rfl)
    have e1:v 1=.int .i64 0:=depV h1
    have h3:∃ lo hi,IsV (.int .i64 (P:Int)) (v 3) lo hi u:=dep hd 3 (by kernel_rfl)
    have e3:v 3=.int .i64 (P:Int):=depV h3
    have q1:=HFa.out.2.2.1
    have q2:=HFa.out.2.2.2
    clear hd
    have hk:=hK.out (.int .i64 0) u (Chg.refl _ _) rfl
    clear hK
    simp only [zqa,zqb,zqc,zqd,zqe,putAll,Act.put,zqf,zqg,zqh,Nat.zero_add,Nat.reduceAdd,e1,e3] at hk ⊢
    go_simp
    exact hk
  ·intro v u lo hi hg hall hbd hdj
   have e0:v 0=.int .i64 z:=hall 0 (by decide)
   have e1:v 1=.int .i64 0:=hall 1 (by decide)
   have e2:v 2=.agg #[.bool lf,.slice ka kl kc,.slice va vl vc]:=hall 2 (by decide)
   have e3:v 3=.int .i64 (P:Int):=hall 3 (by decide)
   have e4:v 4=.int .i64 0:=hall 4 (by decide)
   have gW:=(Chg.drew [] w1).then hg
   have k0:=gW.cellv a0 (by simp)
   have k1:=gW.cellv a1 (by simp)
   have k2:=gW.cellv a2 (by simp)
   have k3:=gW.cellv c0 (by simp)
   have k4:=(gW.frozen (p:=⟨B1,0,none⟩) (block_lt_of_cell c0) (by simp)).trans cf
   have k5:=there_chg t0 gW (by simp)
   clear a0 a1 a2 c0 cf t0 hall hbd hdj hg
   simp only [zqa,zqb,zqc,zqd,zqe,putAll,Act.put,zqf,zqg,zqh,Nat.zero_add,Nat.reduceAdd,e0,e1,e2,e3,e4]
   clear e0 e1 e2 e3 e4 v lo hi
   have gS:=Chg.setCell u ⟨B1,0,none⟩ (.int .i64 0)
   have hR1:=HR.out
   have a0:=gS.cellv k0 (by simp;omega)
   have a1:=gS.cellv k1 (by simp;omega)
   have a2:=gS.cellv k2 (by simp;omega)
   have c0:=World.cell?_setCell_same u ⟨B1,0,none⟩ (.int .i64 0) k3
   have t0:=there_chg k5 gS (by simp;omega)
   have gV:=(g0.then gW).trans gS (U:=[]) (by simp) (fun q hq hlt => by simp at hq;omega)
   have hs3:w1.heap.size≤(u.setCell ⟨B1,0,none⟩ (.int .i64 0)).heap.size:=by have:=gW.size;simp;exact this
   have HV:=mkHid (And.intro a0 (And.intro a1 (And.intro a2 (And.intro c0 (And.intro t0 (And.intro gV hs3))))))
   clear a0 a1 a2 c0 t0 gV hs3 gS k0 k1 k2 k5 hR1
   go_wp2_with fail
   obtain ⟨a0,a1,a2,c0,t0,gV,hs3⟩:=HV.out
   clear HV k3 k4
   generalize u.setCell ⟨B1,0,none⟩ (.int .i64 0)=w3 at *
   refine region_made 6 [IsV (.agg #[.bool lf,.slice ka kl kc,.slice va vl vc]),IsV (.int .u64 (x:Int)),IsV (.int .u64 (y:Int)),IsOne x y,IsV (.func (.func 153) #[] #[.pointer (some ⟨B1,0,none⟩)]),IsN lf (X) (Y)] (by kernel_rfl) (by kernel_rfl) (by kernel_rfl) (by decide) (of_decide_eq_true (by kernel_rfl)) ⟨keepV _,keepV _,keepV _,keepOne _ _,keepV _,keepNK _ _ _,trivial⟩ ?_ ?_
   ·refine ⟨?_,?_,?_,?_,?_,?_,trivial⟩
    ·intro v u hg hd K hK
     have hz:=(Chg.drew [] w3).then hg
     have x0:=hz.cellv a0 (by simp)
     have x1:=hz.cellv a1 (by simp)
     have x2:=hz.cellv a2 (by simp)
     clear hd
     have hk:=hK.out (.agg #[.bool lf,.slice ka kl kc,.slice va vl vc]) u (Chg.refl _ _) rfl
     clear hK
     simp only [zqa,zqb,zqc,zqd,zqe,putAll,Act.put,zqf,zqg,zqh,Nat.zero_add,Nat.reduceAdd] at hk ⊢
     go_simp
     exact hk
    ·intro v u hg hd K hK
     clear hd
     have hk:=hK.out (.int .u64 (x:Int)) u (Chg.refl _ _) rfl
     clear hK
     simp only [zqa,zqb,zqc,zqd,zqe,putAll,Act.put,zqf,zqg,zqh,Nat.zero_add,Nat.reduceAdd] at hk ⊢
     go_simp
     exact hk
    ·intro v u hg hd K hK
     clear hd
     have hk:=hK.out (.int .u64 (y:Int)) u (Chg.refl _ _) rfl
     clear hK
     simp only [zqa,zqb,zqc,zqd,zqe,putAll,Act.put,zqf,zqg,zqh,Nat.zero_add,Nat.reduceAdd] at hk ⊢
     go_simp
     exact hk
    ·intro v u hg hd K hK
     have h1:∃ lo hi,IsV (.int .u64 (x:Int)) (v 1) lo hi u:=dep hd 1 (by kernel_rfl)
     have e1:v 1=.int .u64 (x:Int):=depV h1
     have h2:∃ lo hi,IsV (.int .u64 (y:Int)) (v 2) lo hi u:=dep hd 2 (by kernel_rfl)
     have e2:v 2=.int .u64 (y:Int):=depV h2
     clear hd
     simp only [zqa,zqb,zqc,zqd,zqe,putAll,Act.put,zqf,zqg,zqh,Nat.zero_add,Nat.reduceAdd,e1,e2] at hK ⊢
     go_simp
     refine (pair_as x y u).mono ?_
     rintro e u' ⟨⟨qa,qc,qa',qc',rfl,hr⟩,g'⟩
     have hk:=hK.out (_) u' g' ⟨_,_,_,_,rfl,hr⟩
     exact hk
    ·intro v u hg hd K hK
     clear hd
     have hk:=hK.out (.func (.func 153) #[] #[.pointer (some ⟨B1,0,none⟩)]) u (Chg.refl _ _) rfl
     clear hK
     simp only [zqa,zqb,zqc,zqd,zqe,putAll,Act.put,zqf,zqg,zqh,Nat.zero_add,Nat.reduceAdd] at hk ⊢
     go_simp
     exact hk
    ·intro v u hg hd K hK
     have h0:∃ lo hi,IsV (.agg #[.bool lf,.slice ka kl kc,.slice va vl vc]) (v 0) lo hi u:=dep hd 0 (by kernel_rfl)
     have e0:v 0=.agg #[.bool lf,.slice ka kl kc,.slice va vl vc]:=depV h0
     have h4:∃ lo hi,IsV (.func (.func 153) #[] #[.pointer (some ⟨B1,0,none⟩)]) (v 4) lo hi u:=dep hd 4 (by kernel_rfl)
     have e4:v 4=.func (.func 153) #[] #[.pointer (some ⟨B1,0,none⟩)]:=depV h4
     have h3:∃ lo hi,IsOne x y (v 3) lo hi u:=dep hd 3 (by kernel_rfl)
     obtain ⟨_,_,oa,oc,ob,od,e3,hr1⟩:=h3
     clear hd
     simp only [zqa,zqb,zqc,zqd,zqe,putAll,Act.put,zqf,zqg,zqh,Nat.zero_add,Nat.reduceAdd,e0,e4,e3] at hK ⊢
     go_simp
     have hz:=(Chg.drew [] w3).then hg
     refine (CC1.out B1 u oa oc ob od (gV.then hz) hr1 (hz.cellv c0 (by simp)) (by omega)).mono ?_
     rintro e u' ⟨⟨qa,qc,qa',qc',rfl,hr⟩,g'⟩
     have hk:=hK.out _ u' g' (isN_out ⟨_,_,_,_,rfl,hr⟩)
     exact hk
   ·intro v u lo hi hg hall hbd hdj
    have e0:v 0=.agg #[.bool lf,.slice ka kl kc,.slice va vl vc]:=hall 0 (by decide)
    have e1:v 1=.int .u64 (x:Int):=hall 1 (by decide)
    have e2:v 2=.int .u64 (y:Int):=hall 2 (by decide)
    have e4:v 4=.func (.func 153) #[] #[.pointer (some ⟨B1,0,none⟩)]:=hall 4 (by decide)
    obtain ⟨oa,oc,ob,od,e3,-⟩:IsOne x y (v 3) (lo 3) (hi 3) u:=hall 3 (by decide)
    obtain ⟨pa,pc,qa,qc,e5,hr0,m1,m2⟩:IsN lf (X) (Y) (v 5) (lo 5) (hi 5) u:=hall 5 (by decide)
    have bb:=(hbd 5 (by decide)).1
    have hr:=hr0.mono bb
    have gW3:=(Chg.drew [] w3).then hg
    clear hall hbd hdj hr0 m1 m2 bb hg gW
    simp only [zqa,zqb,zqc,zqd,zqe,putAll,Act.put,zqf,zqg,zqh,Nat.zero_add,Nat.reduceAdd,e0,e1,e2,e3,e4,e5]
    clear e0 e1 e2 e3 e4 e5 v lo hi
    have gW:=gW3
    have hR2:=HR.out
    obtain ⟨v0,v1,v2,i0,i1,i2,j0,j1,j2⟩:=there3 (there_chg t0 gW (by simp))
    have gZ:=three_chg u R (.bool lf) (.slice pa (X).length pc) (.slice qa (Y).length qc)
    have hR1:=HR.out
    have hZ:=hr.chg gZ (fun q hq => by simp at hq;omega)
    have gF:=(gV.then gW).trans gZ (U:=[]) (by simp) (fun q hq hlt => by simp at hq;omega)
    have HF:=mkHid (And.intro hZ gF)
    clear hZ gF gZ hr gW
    go_wp2_with fail
    refine bodyPost_ret (v:=.agg #[.bool lf,.slice pa (X).length pc,.slice qa (Y).length qc]) (by simp [results,Tryz.results111,go_sem,i0,i1,i2]) rfl ⟨⟨pa,pc,qa,qc,rfl,HF.out.1.mono (by have:=g0.size;omega)⟩,HF.out.2⟩
 by_cases h0:z=0
 ·subst h0
  have HFa:=mkHid (show True∧True∧((0:Int)≤(P:Int))=True∧True from ⟨trivial,trivial,eq_true (by omega),trivial⟩)
  rw [show clampN 0 P=0 by unfold clampN;rw [if_neg (by omega),if_neg (by omega)];rfl]
  clear h1
  unfold insL
  have cC1:=CC.out 0
  generalize sub K 0 0++([x]++sub K 0 P)=X at *
  generalize sub V 0 0++([y]++sub V 0 P)=Y at *
  have CC1:=mkHid @cC1
  clear cC1
  obtain ⟨w1,hw1⟩:∃ w1,w1=(((w.alloc (.cells #[.bool lf,.slice ka kl kc,.slice va vl vc] 53)).alloc (.cells #[.int .i64 0] 3)).alloc (.cells #[.bool false,.slice none 0 0,.slice none 0 0] 53)):=⟨_,rfl⟩
  have a0:w1.cell? ⟨w.heap.size,0,none⟩=some (.bool lf):=by rw [hw1];simp [go_sem]
  have a1:w1.cell? ⟨w.heap.size,1,none⟩=some (.slice ka kl kc):=by rw [hw1];simp [go_sem]
  have a2:w1.cell? ⟨w.heap.size,2,none⟩=some (.slice va vl vc):=by rw [hw1];simp [go_sem]
  have c0:w1.cell? ⟨w.heap.size+1,0,none⟩=some (.int .i64 0):=by rw [hw1];simp [go_sem]
  have t0:w1.there (w.heap.size+1+1) 0 3:=fun j hj => by
   rw [hw1]
   match j,hj with
   | 0,_ => simp [go_sem]
   | 1,_ => simp [go_sem]
   | 2,_ => simp [go_sem]
  have cf:w1.frozen? ⟨w.heap.size+1,0,none⟩=false:=by rw [hw1];simp [go_sem]
  have HCF:=mkHid cf
  clear cf
  have g0:Chg [] w w1:=by rw [hw1];exact ((Chg.alloc [] w _).then (Chg.alloc [] _ _)).then (Chg.alloc [] _ _)
  have hz:w1.heap.size=w.heap.size+3:=by rw [hw1];simp
  have HE:=mkHid (And.intro a0 (And.intro a1 (And.intro a2 (And.intro c0 (And.intro t0 (And.intro g0 (hz)))))))
  clear a0 a1 a2 c0 t0 g0 hz
  go_enter Tryz.func111,Tryz.ntmps111
  go_wp2_with fail
  rw [← hw1]
  clear hw1
  obtain ⟨a0,a1,a2,c0,t0,g0,hz⟩:=HE.out
  clear HE
  obtain ⟨B1,hB1⟩:∃ b,w.heap.size+1=b:=⟨_,rfl⟩
  rw [hB1] at c0 t0 ⊢
  obtain ⟨R,hR⟩:∃ b,B1+1=b:=⟨_,rfl⟩
  rw [hR] at t0 ⊢
  have cf:w1.frozen? ⟨B1,0,none⟩=false:=by have:=HCF.out;rwa [hB1] at this
  have HR:=mkHid (show w.heap.size+1=B1∧B1+1=R∧R+1=w1.heap.size by omega)
  clear hz hB1 hR
  refine region_made 5 [IsV (.int .i64 0),IsV (.int .i64 0),IsV (.agg #[.bool lf,.slice ka kl kc,.slice va vl vc]),IsV (.int .i64 (P:Int)),IsV (.int .i64 0)] (by kernel_rfl) (by kernel_rfl) (by kernel_rfl) (by decide) (of_decide_eq_true (by kernel_rfl)) ⟨keepV _,keepV _,keepV _,keepV _,keepV _,trivial⟩ ?_ ?_
  ·refine ⟨?_,?_,?_,?_,?_,trivial⟩
   ·intro v u hg hd K hK
    have hz:=(Chg.drew [] w1).then hg
    have x0:=hz.cellv c0 (by simp)
    clear hd
    have hk:=hK.out (.int .i64 0) u (Chg.refl _ _) rfl
    clear hK
    simp only [zqa,zqb,zqc,zqd,zqe,putAll,Act.put,zqf,zqg,zqh,Nat.zero_add,Nat.reduceAdd] at hk ⊢
    go_simp
    exact hk
   ·intro v u hg hd K hK
    have h0:∃ lo hi,IsV (.int .i64 0) (v 0) lo hi u:=dep hd 0 (by kernel_rfl)
    have e0:v 0=.int .i64 0:=depV h0
    have q1:=HFa.out.1
    have q2:=HFa.out.2.1
    clear hd
    have hk:=hK.out (.int .i64 0) u (Chg.refl _ _) rfl
    clear hK
    simp only [zqa,zqb,zqc,zqd,zqe,putAll,Act.put,zqf,zqg,zqh,Nat.zero_add,Nat.reduceAdd,e0] at hk ⊢
    go_simp
    exact hk
   ·intro v u hg hd K hK
    have hz:=(Chg.drew [] w1).then hg
    have x0:=hz.cellv a0 (by simp)
    have x1:=hz.cellv a1 (by simp)
    have x2:=hz.cellv a2 (by simp)
    clear hd
    have hk:=hK.out (.agg #[.bool lf,.slice ka kl kc,.slice va vl vc]) u (Chg.refl _ _) rfl
    clear hK
    simp only [zqa,zqb,zqc,zqd,zqe,putAll,Act.put,zqf,zqg,zqh,Nat.zero_add,Nat.reduceAdd] at hk ⊢
    go_simp
    exact hk
   ·intro v u hg hd K hK
    have h2:∃ lo hi,IsV (.agg #[.bool lf,.slice ka kl kc,.slice va vl vc]) (v 2) lo hi u:=dep hd 2 (by kernel_rfl)
    have e2:v 2=.agg #[.bool lf,.slice ka kl kc,.slice va vl vc]:=depV h2
    clear hd
    simp only [zqa,zqb,zqc,zqd,zqe,putAll,Act.put,zqf,zqg,zqh,Nat.zero_add,Nat.reduceAdd,e2] at hK ⊢
    go_simp
    refine (CP.out u).mono ?_
    rintro e u' ⟨rfl,g'⟩
    have hk:=hK.out (.int .i64 (P:Int)) u' g' rfl
    exact hk
   ·intro v u hg hd K hK
    have h1:∃ lo hi,IsV (.int .i64 0) (v 1) lo hi u:=dep hd 1 (by kernel_rfl)
    have e1:v 1=.int .i64 0:=depV h1
    have h3:∃ lo hi,IsV (.int .i64 (P:Int)) (v 3) lo hi u:=dep hd 3 (by kernel_rfl)
    have e3:v 3=.int .i64 (P:Int):=depV h3
    have q1:=HFa.out.2.2.1
    have q2:=HFa.out.2.2.2
    clear hd
    have hk:=hK.out (.int .i64 0) u (Chg.refl _ _) rfl
    clear hK
    simp only [zqa,zqb,zqc,zqd,zqe,putAll,Act.put,zqf,zqg,zqh,Nat.zero_add,Nat.reduceAdd,e1,e3] at hk ⊢
    go_simp
    exact hk
  ·intro v u lo hi hg hall hbd hdj
   have e0:v 0=.int .i64 0:=hall 0 (by decide)
   have e1:v 1=.int .i64 0:=hall 1 (by decide)
   have e2:v 2=.agg #[.bool lf,.slice ka kl kc,.slice va vl vc]:=hall 2 (by decide)
   have e3:v 3=.int .i64 (P:Int):=hall 3 (by decide)
   have e4:v 4=.int .i64 0:=hall 4 (by decide)
   have gW:=(Chg.drew [] w1).then hg
   have k0:=gW.cellv a0 (by simp)
   have k1:=gW.cellv a1 (by simp)
   have k2:=gW.cellv a2 (by simp)
   have k3:=gW.cellv c0 (by simp)
   have k4:=(gW.frozen (p:=⟨B1,0,none⟩) (block_lt_of_cell c0) (by simp)).trans cf
   have k5:=there_chg t0 gW (by simp)
   clear a0 a1 a2 c0 cf t0 hall hbd hdj hg
   simp only [zqa,zqb,zqc,zqd,zqe,putAll,Act.put,zqf,zqg,zqh,Nat.zero_add,Nat.reduceAdd,e0,e1,e2,e3,e4]
   clear e0 e1 e2 e3 e4 v lo hi
   have gS:=Chg.setCell u ⟨B1,0,none⟩ (.int .i64 0)
   have hR1:=HR.out
   have a0:=gS.cellv k0 (by simp;omega)
   have a1:=gS.cellv k1 (by simp;omega)
   have a2:=gS.cellv k2 (by simp;omega)
   have c0:=World.cell?_setCell_same u ⟨B1,0,none⟩ (.int .i64 0) k3
   have t0:=there_chg k5 gS (by simp;omega)
   have gV:=(g0.then gW).trans gS (U:=[]) (by simp) (fun q hq hlt => by simp at hq;omega)
   have hs3:w1.heap.size≤(u.setCell ⟨B1,0,none⟩ (.int .i64 0)).heap.size:=by have:=gW.size;simp;exact this
   have HV:=mkHid (And.intro a0 (And.intro a1 (And.intro a2 (And.intro c0 (And.intro t0 (And.intro gV hs3))))))
   clear a0 a1 a2 c0 t0 gV hs3 gS k0 k1 k2 k5 hR1
   go_wp2_with fail
   obtain ⟨a0,a1,a2,c0,t0,gV,hs3⟩:=HV.out
   clear HV k3 k4
   generalize u.setCell ⟨B1,0,none⟩ (.int .i64 0)=w3 at *
   refine region_made 6 [IsV (.agg #[.bool lf,.slice ka kl kc,.slice va vl vc]),IsV (.int .u64 (x:Int)),IsV (.int .u64 (y:Int)),IsOne x y,IsV (.func (.func 153) #[] #[.pointer (some ⟨B1,0,none⟩)]),IsN lf (X) (Y)] (by kernel_rfl) (by kernel_rfl) (by kernel_rfl) (by decide) (of_decide_eq_true (by kernel_rfl)) ⟨keepV _,keepV _,keepV _,keepOne _ _,keepV _,keepNK _ _ _,trivial⟩ ?_ ?_
   ·refine ⟨?_,?_,?_,?_,?_,?_,trivial⟩
    ·intro v u hg hd K hK
     have hz:=(Chg.drew [] w3).then hg
     have x0:=hz.cellv a0 (by simp)
     have x1:=hz.cellv a1 (by simp)
     have x2:=hz.cellv a2 (by simp)
     clear hd
     have hk:=hK.out (.agg #[.bool lf,.slice ka kl kc,.slice va vl vc]) u (Chg.refl _ _) rfl
     clear hK
     simp only [zqa,zqb,zqc,zqd,zqe,putAll,Act.put,zqf,zqg,zqh,Nat.zero_add,Nat.reduceAdd] at hk ⊢
     go_simp
     exact hk
    ·intro v u hg hd K hK
     clear hd
     have hk:=hK.out (.int .u64 (x:Int)) u (Chg.refl _ _) rfl
     clear hK
     simp only [zqa,zqb,zqc,zqd,zqe,putAll,Act.put,zqf,zqg,zqh,Nat.zero_add,Nat.reduceAdd] at hk ⊢
     go_simp
     exact hk
    ·intro v u hg hd K hK
     clear hd
     have hk:=hK.out (.int .u64 (y:Int)) u (Chg.refl _ _) rfl
     clear hK
     simp only [zqa,zqb,zqc,zqd,zqe,putAll,Act.put,zqf,zqg,zqh,Nat.zero_add,Nat.reduceAdd] at hk ⊢
     go_simp
     exact hk
    ·intro v u hg hd K hK
     have h1:∃ lo hi,IsV (.int .u64 (x:Int)) (v 1) lo hi u:=dep hd 1 (by kernel_rfl)
     have e1:v 1=.int .u64 (x:Int):=depV h1
     have h2:∃ lo hi,IsV (.int .u64 (y:Int)) (v 2) lo hi u:=dep hd 2 (by kernel_rfl)
     have e2:v 2=.int .u64 (y:Int):=depV h2
     clear hd
     simp only [zqa,zqb,zqc,zqd,zqe,putAll,Act.put,zqf,zqg,zqh,Nat.zero_add,Nat.reduceAdd,e1,e2] at hK ⊢
     go_simp
     refine (pair_as x y u).mono ?_
     rintro e u' ⟨⟨qa,qc,qa',qc',rfl,hr⟩,g'⟩
     have hk:=hK.out (_) u' g' ⟨_,_,_,_,rfl,hr⟩
     exact hk
    ·intro v u hg hd K hK
     clear hd
     have hk:=hK.out (.func (.func 153) #[] #[.pointer (some ⟨B1,0,none⟩)]) u (Chg.refl _ _) rfl
     clear hK
     simp only [zqa,zqb,zqc,zqd,zqe,putAll,Act.put,zqf,zqg,zqh,Nat.zero_add,Nat.reduceAdd] at hk ⊢
     go_simp
     exact hk
    ·intro v u hg hd K hK
     have h0:∃ lo hi,IsV (.agg #[.bool lf,.slice ka kl kc,.slice va vl vc]) (v 0) lo hi u:=dep hd 0 (by kernel_rfl)
     have e0:v 0=.agg #[.bool lf,.slice ka kl kc,.slice va vl vc]:=depV h0
     have h4:∃ lo hi,IsV (.func (.func 153) #[] #[.pointer (some ⟨B1,0,none⟩)]) (v 4) lo hi u:=dep hd 4 (by kernel_rfl)
     have e4:v 4=.func (.func 153) #[] #[.pointer (some ⟨B1,0,none⟩)]:=depV h4
     have h3:∃ lo hi,IsOne x y (v 3) lo hi u:=dep hd 3 (by kernel_rfl)
     obtain ⟨_,_,oa,oc,ob,od,e3,hr1⟩:=h3
     clear hd
     simp only [zqa,zqb,zqc,zqd,zqe,putAll,Act.put,zqf,zqg,zqh,Nat.zero_add,Nat.reduceAdd,e0,e4,e3] at hK ⊢
     go_simp
     have hz:=(Chg.drew [] w3).then hg
     refine (CC1.out B1 u oa oc ob od (gV.then hz) hr1 (hz.cellv c0 (by simp)) (by omega)).mono ?_
     rintro e u' ⟨⟨qa,qc,qa',qc',rfl,hr⟩,g'⟩
     have hk:=hK.out _ u' g' (isN_out ⟨_,_,_,_,rfl,hr⟩)
     exact hk
   ·intro v u lo hi hg hall hbd hdj
    have e0:v 0=.agg #[.bool lf,.slice ka kl kc,.slice va vl vc]:=hall 0 (by decide)
    have e1:v 1=.int .u64 (x:Int):=hall 1 (by decide)
    have e2:v 2=.int .u64 (y:Int):=hall 2 (by decide)
    have e4:v 4=.func (.func 153) #[] #[.pointer (some ⟨B1,0,none⟩)]:=hall 4 (by decide)
    obtain ⟨oa,oc,ob,od,e3,-⟩:IsOne x y (v 3) (lo 3) (hi 3) u:=hall 3 (by decide)
    obtain ⟨pa,pc,qa,qc,e5,hr0,m1,m2⟩:IsN lf (X) (Y) (v 5) (lo 5) (hi 5) u:=hall 5 (by decide)
    have bb:=(hbd 5 (by decide)).1
    have hr:=hr0.mono bb
    have gW3:=(Chg.drew [] w3).then hg
    clear hall hbd hdj hr0 m1 m2 bb hg gW
    simp only [zqa,zqb,zqc,zqd,zqe,putAll,Act.put,zqf,zqg,zqh,Nat.zero_add,Nat.reduceAdd,e0,e1,e2,e3,e4,e5]
    clear e0 e1 e2 e3 e4 e5 v lo hi
    have gW:=gW3
    have hR2:=HR.out
    obtain ⟨v0,v1,v2,i0,i1,i2,j0,j1,j2⟩:=there3 (there_chg t0 gW (by simp))
    have gZ:=three_chg u R (.bool lf) (.slice pa (X).length pc) (.slice qa (Y).length qc)
    have hR1:=HR.out
    have hZ:=hr.chg gZ (fun q hq => by simp at hq;omega)
    have gF:=(gV.then gW).trans gZ (U:=[]) (by simp) (fun q hq hlt => by simp at hq;omega)
    have HF:=mkHid (And.intro hZ gF)
    clear hZ gF gZ hr gW
    go_wp2_with fail
    refine bodyPost_ret (v:=.agg #[.bool lf,.slice pa (X).length pc,.slice qa (Y).length qc]) (by simp [results,Tryz.results111,go_sem,i0,i1,i2]) rfl ⟨⟨pa,pc,qa,qc,rfl,HF.out.1.mono (by have:=g0.size;omega)⟩,HF.out.2⟩
 obtain ⟨a,rfl⟩:∃ a:Nat,z=(a:Int):=⟨z.toNat,by omega⟩
 by_cases h2:P < a
 ·have HFa:=mkHid (show ((a:Int) < 0)=False∧((0:Int)≤(a:Int))=True∧((P:Int) < (a:Int))=True∧(P < a)=True from ⟨eq_false (by omega),eq_true (by omega),eq_true (by omega),eq_true (by omega)⟩)
  rw [show clampN (a:Int) P=P by unfold clampN;rw [if_neg (by omega),if_pos (by omega)]]
  clear h1 h0 h2
  unfold insL
  have cC1:=CC.out P
  generalize sub K 0 P++([x]++sub K P P)=X at *
  generalize sub V 0 P++([y]++sub V P P)=Y at *
  have CC1:=mkHid @cC1
  clear cC1
  obtain ⟨w1,hw1⟩:∃ w1,w1=(((w.alloc (.cells #[.bool lf,.slice ka kl kc,.slice va vl vc] 53)).alloc (.cells #[.int .i64 (a:Int)] 3)).alloc (.cells #[.bool false,.slice none 0 0,.slice none 0 0] 53)):=⟨_,rfl⟩
  have a0:w1.cell? ⟨w.heap.size,0,none⟩=some (.bool lf):=by rw [hw1];simp [go_sem]
  have a1:w1.cell? ⟨w.heap.size,1,none⟩=some (.slice ka kl kc):=by rw [hw1];simp [go_sem]
  have a2:w1.cell? ⟨w.heap.size,2,none⟩=some (.slice va vl vc):=by rw [hw1];simp [go_sem]
  have c0:w1.cell? ⟨w.heap.size+1,0,none⟩=some (.int .i64 (a:Int)):=by rw [hw1];simp [go_sem]
  have t0:w1.there (w.heap.size+1+1) 0 3:=fun j hj => by
   rw [hw1]
   match j,hj with
   | 0,_ => simp [go_sem]
   | 1,_ => simp [go_sem]
   | 2,_ => simp [go_sem]
  have cf:w1.frozen? ⟨w.heap.size+1,0,none⟩=false:=by rw [hw1];simp [go_sem]
  have HCF:=mkHid cf
  clear cf
  have g0:Chg [] w w1:=by rw [hw1];exact ((Chg.alloc [] w _).then (Chg.alloc [] _ _)).then (Chg.alloc [] _ _)
  have hz:w1.heap.size=w.heap.size+3:=by rw [hw1];simp
  have HE:=mkHid (And.intro a0 (And.intro a1 (And.intro a2 (And.intro c0 (And.intro t0 (And.intro g0 (hz)))))))
  clear a0 a1 a2 c0 t0 g0 hz
  go_enter Tryz.func111,Tryz.ntmps111
  go_wp2_with fail
  rw [← hw1]
  clear hw1
  obtain ⟨a0,a1,a2,c0,t0,g0,hz⟩:=HE.out
  clear HE
  obtain ⟨B1,hB1⟩:∃ b,w.heap.size+1=b:=⟨_,rfl⟩
  rw [hB1] at c0 t0 ⊢
  obtain ⟨R,hR⟩:∃ b,B1+1=b:=⟨_,rfl⟩
  rw [hR] at t0 ⊢
  have cf:w1.frozen? ⟨B1,0,none⟩=false:=by have:=HCF.out;rwa [hB1] at this
  have HR:=mkHid (show w.heap.size+1=B1∧B1+1=R∧R+1=w1.heap.size by omega)
  clear hz hB1 hR
  refine region_made 5 [IsV (.int .i64 (a:Int)),IsV (.int .i64 (a:Int)),IsV (.agg #[.bool lf,.slice ka kl kc,.slice va vl vc]),IsV (.int .i64 (P:Int)),IsV (.int .i64 (P:Int))] (by kernel_rfl) (by kernel_rfl) (by kernel_rfl) (by decide) (of_decide_eq_true (by kernel_rfl)) ⟨keepV _,keepV _,keepV _,keepV _,keepV _,trivial⟩ ?_ ?_
  ·refine ⟨?_,?_,?_,?_,?_,trivial⟩
   ·intro v u hg hd K hK
    have hz:=(Chg.drew [] w1).then hg
    have x0:=hz.cellv c0 (by simp)
    clear hd
    have hk:=hK.out (.int .i64 (a:Int)) u (Chg.refl _ _) rfl
    clear hK
    simp only [zqa,zqb,zqc,zqd,zqe,putAll,Act.put,zqf,zqg,zqh,Nat.zero_add,Nat.reduceAdd] at hk ⊢
    go_simp
    exact hk
   ·intro v u hg hd K hK
    have h0:∃ lo hi,IsV (.int .i64 (a:Int)) (v 0) lo hi u:=dep hd 0 (by kernel_rfl)
    have e0:v 0=.int .i64 (a:Int):=depV h0
    have q1:=HFa.out.1
    have q2:=HFa.out.2.1
    clear hd
    have hk:=hK.out (.int .i64 (a:Int)) u (Chg.refl _ _) rfl
    clear hK
    simp only [zqa,zqb,zqc,zqd,zqe,putAll,Act.put,zqf,zqg,zqh,Nat.zero_add,Nat.reduceAdd,e0] at hk ⊢
    go_simp
    exact hk
   ·intro v u hg hd K hK
    have hz:=(Chg.drew [] w1).then hg
    have x0:=hz.cellv a0 (by simp)
    have x1:=hz.cellv a1 (by simp)
    have x2:=hz.cellv a2 (by simp)
    clear hd
    have hk:=hK.out (.agg #[.bool lf,.slice ka kl kc,.slice va vl vc]) u (Chg.refl _ _) rfl
    clear hK
    simp only [zqa,zqb,zqc,zqd,zqe,putAll,Act.put,zqf,zqg,zqh,Nat.zero_add,Nat.reduceAdd] at hk ⊢
    go_simp
    exact hk
   ·intro v u hg hd K hK
    have h2:∃ lo hi,IsV (.agg #[.bool lf,.slice ka kl kc,.slice va vl vc]) (v 2) lo hi u:=dep hd 2 (by kernel_rfl)
    have e2:v 2=.agg #[.bool lf,.slice ka kl kc,.slice va vl vc]:=depV h2
    clear hd
    simp only [zqa,zqb,zqc,zqd,zqe,putAll,Act.put,zqf,zqg,zqh,Nat.zero_add,Nat.reduceAdd,e2] at hK ⊢
    go_simp
    refine (CP.out u).mono ?_
    rintro e u' ⟨rfl,g'⟩
    have hk:=hK.out (.int .i64 (P:Int)) u' g' rfl
    exact hk
   ·intro v u hg hd K hK
    have h1:∃ lo hi,IsV (.int .i64 (a:Int)) (v 1) lo hi u:=dep hd 1 (by kernel_rfl)
    have e1:v 1=.int .i64 (a:Int):=depV h1
    have h3:∃ lo hi,IsV (.int .i64 (P:Int)) (v 3) lo hi u:=dep hd 3 (by kernel_rfl)
    have e3:v 3=.int .i64 (P:Int):=depV h3
    have q1:=HFa.out.2.2.1
    have q2:=HFa.out.2.2.2
    clear hd
    have hk:=hK.out (.int .i64 (P:Int)) u (Chg.refl _ _) rfl
    clear hK
    simp only [zqa,zqb,zqc,zqd,zqe,putAll,Act.put,zqf,zqg,zqh,Nat.zero_add,Nat.reduceAdd,e1,e3] at hk ⊢
    go_simp
    exact hk
  ·intro v u lo hi hg hall hbd hdj
   have e0:v 0=.int .i64 (a:Int):=hall 0 (by decide)
   have e1:v 1=.int .i64 (a:Int):=hall 1 (by decide)
   have e2:v 2=.agg #[.bool lf,.slice ka kl kc,.slice va vl vc]:=hall 2 (by decide)
   have e3:v 3=.int .i64 (P:Int):=hall 3 (by decide)
   have e4:v 4=.int .i64 (P:Int):=hall 4 (by decide)
   have gW:=(Chg.drew [] w1).then hg
   have k0:=gW.cellv a0 (by simp)
   have k1:=gW.cellv a1 (by simp)
   have k2:=gW.cellv a2 (by simp)
   have k3:=gW.cellv c0 (by simp)
   have k4:=(gW.frozen (p:=⟨B1,0,none⟩) (block_lt_of_cell c0) (by simp)).trans cf
   have k5:=there_chg t0 gW (by simp)
   clear a0 a1 a2 c0 cf t0 hall hbd hdj hg
   simp only [zqa,zqb,zqc,zqd,zqe,putAll,Act.put,zqf,zqg,zqh,Nat.zero_add,Nat.reduceAdd,e0,e1,e2,e3,e4]
   clear e0 e1 e2 e3 e4 v lo hi
   have gS:=Chg.setCell u ⟨B1,0,none⟩ (.int .i64 (P:Int))
   have hR1:=HR.out
   have a0:=gS.cellv k0 (by simp;omega)
   have a1:=gS.cellv k1 (by simp;omega)
   have a2:=gS.cellv k2 (by simp;omega)
   have c0:=World.cell?_setCell_same u ⟨B1,0,none⟩ (.int .i64 (P:Int)) k3
   have t0:=there_chg k5 gS (by simp;omega)
   have gV:=(g0.then gW).trans gS (U:=[]) (by simp) (fun q hq hlt => by simp at hq;omega)
   have hs3:w1.heap.size≤(u.setCell ⟨B1,0,none⟩ (.int .i64 (P:Int))).heap.size:=by have:=gW.size;simp;exact this
   have HV:=mkHid (And.intro a0 (And.intro a1 (And.intro a2 (And.intro c0 (And.intro t0 (And.intro gV hs3))))))
   clear a0 a1 a2 c0 t0 gV hs3 gS k0 k1 k2 k5 hR1
   go_wp2_with fail
   obtain ⟨a0,a1,a2,c0,t0,gV,hs3⟩:=HV.out
   clear HV k3 k4
   generalize u.setCell ⟨B1,0,none⟩ (.int .i64 (P:Int))=w3 at *
   refine region_made 6 [IsV (.agg #[.bool lf,.slice ka kl kc,.slice va vl vc]),IsV (.int .u64 (x:Int)),IsV (.int .u64 (y:Int)),IsOne x y,IsV (.func (.func 153) #[] #[.pointer (some ⟨B1,0,none⟩)]),IsN lf (X) (Y)] (by kernel_rfl) (by kernel_rfl) (by kernel_rfl) (by decide) (of_decide_eq_true (by kernel_rfl)) ⟨keepV _,keepV _,keepV _,keepOne _ _,keepV _,keepNK _ _ _,trivial⟩ ?_ ?_
   ·refine ⟨?_,?_,?_,?_,?_,?_,trivial⟩
    ·intro v u hg hd K hK
     have hz:=(Chg.drew [] w3).then hg
     have x0:=hz.cellv a0 (by simp)
     have x1:=hz.cellv a1 (by simp)
     have x2:=hz.cellv a2 (by simp)
     clear hd
     have hk:=hK.out (.agg #[.bool lf,.slice ka kl kc,.slice va vl vc]) u (Chg.refl _ _) rfl
     clear hK
     simp only [zqa,zqb,zqc,zqd,zqe,putAll,Act.put,zqf,zqg,zqh,Nat.zero_add,Nat.reduceAdd] at hk ⊢
     go_simp
     exact hk
    ·intro v u hg hd K hK
     clear hd
     have hk:=hK.out (.int .u64 (x:Int)) u (Chg.refl _ _) rfl
     clear hK
     simp only [zqa,zqb,zqc,zqd,zqe,putAll,Act.put,zqf,zqg,zqh,Nat.zero_add,Nat.reduceAdd] at hk ⊢
     go_simp
     exact hk
    ·intro v u hg hd K hK
     clear hd
     have hk:=hK.out (.int .u64 (y:Int)) u (Chg.refl _ _) rfl
     clear hK
     simp only [zqa,zqb,zqc,zqd,zqe,putAll,Act.put,zqf,zqg,zqh,Nat.zero_add,Nat.reduceAdd] at hk ⊢
     go_simp
     exact hk
    ·intro v u hg hd K hK
     have h1:∃ lo hi,IsV (.int .u64 (x:Int)) (v 1) lo hi u:=dep hd 1 (by kernel_rfl)
     have e1:v 1=.int .u64 (x:Int):=depV h1
     have h2:∃ lo hi,IsV (.int .u64 (y:Int)) (v 2) lo hi u:=dep hd 2 (by kernel_rfl)
     have e2:v 2=.int .u64 (y:Int):=depV h2
     clear hd
     simp only [zqa,zqb,zqc,zqd,zqe,putAll,Act.put,zqf,zqg,zqh,Nat.zero_add,Nat.reduceAdd,e1,e2] at hK ⊢
     go_simp
     refine (pair_as x y u).mono ?_
     rintro e u' ⟨⟨qa,qc,qa',qc',rfl,hr⟩,g'⟩
     have hk:=hK.out (_) u' g' ⟨_,_,_,_,rfl,hr⟩
     exact hk
    ·intro v u hg hd K hK
     clear hd
     have hk:=hK.out (.func (.func 153) #[] #[.pointer (some ⟨B1,0,none⟩)]) u (Chg.refl _ _) rfl
     clear hK
     simp only [zqa,zqb,zqc,zqd,zqe,putAll,Act.put,zqf,zqg,zqh,Nat.zero_add,Nat.reduceAdd] at hk ⊢
     go_simp
     exact hk
    ·intro v u hg hd K hK
     have h0:∃ lo hi,IsV (.agg #[.bool lf,.slice ka kl kc,.slice va vl vc]) (v 0) lo hi u:=dep hd 0 (by kernel_rfl)
     have e0:v 0=.agg #[.bool lf,.slice ka kl kc,.slice va vl vc]:=depV h0
     have h4:∃ lo hi,IsV (.func (.func 153) #[] #[.pointer (some ⟨B1,0,none⟩)]) (v 4) lo hi u:=dep hd 4 (by kernel_rfl)
     have e4:v 4=.func (.func 153) #[] #[.pointer (some ⟨B1,0,none⟩)]:=depV h4
     have h3:∃ lo hi,IsOne x y (v 3) lo hi u:=dep hd 3 (by kernel_rfl)
     obtain ⟨_,_,oa,oc,ob,od,e3,hr1⟩:=h3
     clear hd
     simp only [zqa,zqb,zqc,zqd,zqe,putAll,Act.put,zqf,zqg,zqh,Nat.zero_add,Nat.reduceAdd,e0,e4,e3] at hK ⊢
     go_simp
     have hz:=(Chg.drew [] w3).then hg
     refine (CC1.out B1 u oa oc ob od (gV.then hz) hr1 (hz.cellv c0 (by simp)) (by omega)).mono ?_
     rintro e u' ⟨⟨qa,qc,qa',qc',rfl,hr⟩,g'⟩
     have hk:=hK.out _ u' g' (isN_out ⟨_,_,_,_,rfl,hr⟩)
     exact hk
   ·intro v u lo hi hg hall hbd hdj
    have e0:v 0=.agg #[.bool lf,.slice ka kl kc,.slice va vl vc]:=hall 0 (by decide)
    have e1:v 1=.int .u64 (x:Int):=hall 1 (by decide)
    have e2:v 2=.int .u64 (y:Int):=hall 2 (by decide)
    have e4:v 4=.func (.func 153) #[] #[.pointer (some ⟨B1,0,none⟩)]:=hall 4 (by decide)
    obtain ⟨oa,oc,ob,od,e3,-⟩:IsOne x y (v 3) (lo 3) (hi 3) u:=hall 3 (by decide)
    obtain ⟨pa,pc,qa,qc,e5,hr0,m1,m2⟩:IsN lf (X) (Y) (v 5) (lo 5) (hi 5) u:=hall 5 (by decide)
    have bb:=(hbd 5 (by decide)).1
    have hr:=hr0.mono bb
    have gW3:=(Chg.drew [] w3).then hg
    clear hall hbd hdj hr0 m1 m2 bb hg gW
    simp only [zqa,zqb,zqc,zqd,zqe,putAll,Act.put,zqf,zqg,zqh,Nat.zero_add,Nat.reduceAdd,e0,e1,e2,e3,e4,e5]
    clear e0 e1 e2 e3 e4 e5 v lo hi
    have gW:=gW3
    have hR2:=HR.out
    obtain ⟨v0,v1,v2,i0,i1,i2,j0,j1,j2⟩:=there3 (there_chg t0 gW (by simp))
    have gZ:=three_chg u R (.bool lf) (.slice pa (X).length pc) (.slice qa (Y).length qc)
    have hR1:=HR.out
    have hZ:=hr.chg gZ (fun q hq => by simp at hq;omega)
    have gF:=(gV.then gW).trans gZ (U:=[]) (by simp) (fun q hq hlt => by simp at hq;omega)
    have HF:=mkHid (And.intro hZ gF)
    clear hZ gF gZ hr gW
    go_wp2_with fail
    refine bodyPost_ret (v:=.agg #[.bool lf,.slice pa (X).length pc,.slice qa (Y).length qc]) (by simp [results,Tryz.results111,go_sem,i0,i1,i2]) rfl ⟨⟨pa,pc,qa,qc,rfl,HF.out.1.mono (by have:=g0.size;omega)⟩,HF.out.2⟩
 have haP:a≤P:=by omega
 have HFa:=mkHid (show ((a:Int) < 0)=False∧((0:Int)≤(a:Int))=True∧((P:Int) < (a:Int))=False∧(P < a)=False from ⟨eq_false (by omega),eq_true (by omega),eq_false (by omega),eq_false (by omega)⟩)
 rw [show clampN (a:Int) P=a by unfold clampN;rw [if_neg (by omega),if_neg (by omega)];omega]
 clear h1 h0 h2
 unfold insL
 have cC1:=CC.out a
 generalize sub K 0 a++([x]++sub K a P)=X at *
 generalize sub V 0 a++([y]++sub V a P)=Y at *
 have CC1:=mkHid @cC1
 clear cC1
 obtain ⟨w1,hw1⟩:∃ w1,w1=(((w.alloc (.cells #[.bool lf,.slice ka kl kc,.slice va vl vc] 53)).alloc (.cells #[.int .i64 (a:Int)] 3)).alloc (.cells #[.bool false,.slice none 0 0,.slice none 0 0] 53)):=⟨_,rfl⟩
 have a0:w1.cell? ⟨w.heap.size,0,none⟩=some (.bool lf):=by rw [hw1];simp [go_sem]
 have a1:w1.cell? ⟨w.heap.size,1,none⟩=some (.slice ka kl kc):=by rw [hw1];simp [go_sem]
 have a2:w1.cell? ⟨w.heap.size,2,none⟩=some (.slice va vl vc):=by rw [hw1];simp [go_sem]
 have c0:w1.cell? ⟨w.heap.size+1,0,none⟩=some (.int .i64 (a:Int)):=by rw [hw1];simp [go_sem]
 have t0:w1.there (w.heap.size+1+1) 0 3:=fun j hj => by
  rw [hw1]
  match j,hj with
  | 0,_ => simp [go_sem]
  | 1,_ => simp [go_sem]
  | 2,_ => simp [go_sem]
 have cf:w1.frozen? ⟨w.heap.size+1,0,none⟩=false:=by rw [hw1];simp [go_sem]
 have HCF:=mkHid cf
 clear cf
 have g0:Chg [] w w1:=by rw [hw1];exact ((Chg.alloc [] w _).then (Chg.alloc [] _ _)).then (Chg.alloc [] _ _)
 have hz:w1.heap.size=w.heap.size+3:=by rw [hw1];simp
 have HE:=mkHid (And.intro a0 (And.intro a1 (And.intro a2 (And.intro c0 (And.intro t0 (And.intro g0 (hz)))))))
 clear a0 a1 a2 c0 t0 g0 hz
 go_enter Tryz.func111,Tryz.ntmps111
 go_wp2_with fail
 rw [← hw1]
 clear hw1
 obtain ⟨a0,a1,a2,c0,t0,g0,hz⟩:=HE.out
 clear HE
 obtain ⟨B1,hB1⟩:∃ b,w.heap.size+1=b:=⟨_,rfl⟩
 rw [hB1] at c0 t0 ⊢
 obtain ⟨R,hR⟩:∃ b,B1+1=b:=⟨_,rfl⟩
 rw [hR] at t0 ⊢
 have cf:w1.frozen? ⟨B1,0,none⟩=false:=by have:=HCF.out;rwa [hB1] at this
 have HR:=mkHid (show w.heap.size+1=B1∧B1+1=R∧R+1=w1.heap.size by omega)
 clear hz hB1 hR
 refine region_made 5 [IsV (.int .i64 (a:Int)),IsV (.int .i64 (a:Int)),IsV (.agg #[.bool lf,.slice ka kl kc,.slice va vl vc]),IsV (.int .i64 (P:Int)),IsV (.int .i64 (a:Int))] (by kernel_rfl) (by kernel_rfl) (by kernel_rfl) (by decide) (of_decide_eq_true (by kernel_rfl)) ⟨keepV _,keepV _,keepV _,keepV _,keepV _,trivial⟩ ?_ ?_
 ·refine ⟨?_,?_,?_,?_,?_,trivial⟩
  ·intro v u hg hd K hK
   have hz:=(Chg.drew [] w1).then hg
   have x0:=hz.cellv c0 (by simp)
   clear hd
   have hk:=hK.out (.int .i64 (a:Int)) u (Chg.refl _ _) rfl
   clear hK
   simp only [zqa,zqb,zqc,zqd,zqe,putAll,Act.put,zqf,zqg,zqh,Nat.zero_add,Nat.reduceAdd] at hk ⊢
   go_simp
   exact hk
  ·intro v u hg hd K hK
   have h0:∃ lo hi,IsV (.int .i64 (a:Int)) (v 0) lo hi u:=dep hd 0 (by kernel_rfl)
   have e0:v 0=.int .i64 (a:Int):=depV h0
   have q1:=HFa.out.1
   have q2:=HFa.out.2.1
   clear hd
   have hk:=hK.out (.int .i64 (a:Int)) u (Chg.refl _ _) rfl
   clear hK
   simp only [zqa,zqb,zqc,zqd,zqe,putAll,Act.put,zqf,zqg,zqh,Nat.zero_add,Nat.reduceAdd,e0] at hk ⊢
   go_simp
   exact hk
  ·intro v u hg hd K hK
   have hz:=(Chg.drew [] w1).then hg
   have x0:=hz.cellv a0 (by simp)
   have x1:=hz.cellv a1 (by simp)
   have x2:=hz.cellv a2 (by simp)
   clear hd
   have hk:=hK.out (.agg #[.bool lf,.slice ka kl kc,.slice va vl vc]) u (Chg.refl _ _) rfl
   clear hK
   simp only [zqa,zqb,zqc,zqd,zqe,putAll,Act.put,zqf,zqg,zqh,Nat.zero_add,Nat.reduceAdd] at hk ⊢
   go_simp
   exact hk
  ·intro v u hg hd K hK
   have h2:∃ lo hi,IsV (.agg #[.bool lf,.slice ka kl kc,.slice va vl vc]) (v 2) lo hi u:=dep hd 2 (by kernel_rfl)
   have e2:v 2=.agg #[.bool lf,.slice ka kl kc,.slice va vl vc]:=depV h2
   clear hd
   simp only [zqa,zqb,zqc,zqd,zqe,putAll,Act.put,zqf,zqg,zqh,Nat.zero_add,Nat.reduceAdd,e2] at hK ⊢
   go_simp
   refine (CP.out u).mono ?_
   rintro e u' ⟨rfl,g'⟩
   have hk:=hK.out (.int .i64 (P:Int)) u' g' rfl
   exact hk
  ·intro v u hg hd K hK
   have h1:∃ lo hi,IsV (.int .i64 (a:Int)) (v 1) lo hi u:=dep hd 1 (by kernel_rfl)
   have e1:v 1=.int .i64 (a:Int):=depV h1
   have h3:∃ lo hi,IsV (.int .i64 (P:Int)) (v 3) lo hi u:=dep hd 3 (by kernel_rfl)
   have e3:v 3=.int .i64 (P:Int):=depV h3
   have q1:=HFa.out.2.2.1
   have q2:=HFa.out.2.2.2
   clear hd
   have hk:=hK.out (.int .i64 (a:Int)) u (Chg.refl _ _) rfl
   clear hK
   simp only [zqa,zqb,zqc,zqd,zqe,putAll,Act.put,zqf,zqg,zqh,Nat.zero_add,Nat.reduceAdd,e1,e3] at hk ⊢
   go_simp
   exact hk
 ·intro v u lo hi hg hall hbd hdj
  have e0:v 0=.int .i64 (a:Int):=hall 0 (by decide)
  have e1:v 1=.int .i64 (a:Int):=hall 1 (by decide)
  have e2:v 2=.agg #[.bool lf,.slice ka kl kc,.slice va vl vc]:=hall 2 (by decide)
  have e3:v 3=.int .i64 (P:Int):=hall 3 (by decide)
  have e4:v 4=.int .i64 (a:Int):=hall 4 (by decide)
  have gW:=(Chg.drew [] w1).then hg
  have k0:=gW.cellv a0 (by simp)
  have k1:=gW.cellv a1 (by simp)
  have k2:=gW.cellv a2 (by simp)
  have k3:=gW.cellv c0 (by simp)
  have k4:=(gW.frozen (p:=⟨B1,0,none⟩) (block_lt_of_cell c0) (by simp)).trans cf
  have k5:=there_chg t0 gW (by simp)
  clear a0 a1 a2 c0 cf t0 hall hbd hdj hg
  simp only [zqa,zqb,zqc,zqd,zqe,putAll,Act.put,zqf,zqg,zqh,Nat.zero_add,Nat.reduceAdd,e0,e1,e2,e3,e4]
  clear e0 e1 e2 e3 e4 v lo hi
  have gS:=Chg.setCell u ⟨B1,0,none⟩ (.int .i64 (a:Int))
  have hR1:=HR.out
  have a0:=gS.cellv k0 (by simp;omega)
  have a1:=gS.cellv k1 (by simp;omega)
  have a2:=gS.cellv k2 (by simp;omega)
  have c0:=World.cell?_setCell_same u ⟨B1,0,none⟩ (.int .i64 (a:Int)) k3
  have t0:=there_chg k5 gS (by simp;omega)
  have gV:=(g0.then gW).trans gS (U:=[]) (by simp) (fun q hq hlt => by simp at hq;omega)
  have hs3:w1.heap.size≤(u.setCell ⟨B1,0,none⟩ (.int .i64 (a:Int))).heap.size:=by have:=gW.size;simp;exact this
  have HV:=mkHid (And.intro a0 (And.intro a1 (And.intro a2 (And.intro c0 (And.intro t0 (And.intro gV hs3))))))
  clear a0 a1 a2 c0 t0 gV hs3 gS k0 k1 k2 k5 hR1
  go_wp2_with fail
  obtain ⟨a0,a1,a2,c0,t0,gV,hs3⟩:=HV.out
  clear HV k3 k4
  generalize u.setCell ⟨B1,0,none⟩ (.int .i64 (a:Int))=w3 at *
  refine region_made 6 [IsV (.agg #[.bool lf,.slice ka kl kc,.slice va vl vc]),IsV (.int .u64 (x:Int)),IsV (.int .u64 (y:Int)),IsOne x y,IsV (.func (.func 153) #[] #[.pointer (some ⟨B1,0,none⟩)]),IsN lf (X) (Y)] (by kernel_rfl) (by kernel_rfl) (by kernel_rfl) (by decide) (of_decide_eq_true (by kernel_rfl)) ⟨keepV _,keepV _,keepV _,keepOne _ _,keepV _,keepNK _ _ _,trivial⟩ ?_ ?_
  ·refine ⟨?_,?_,?_,?_,?_,?_,trivial⟩
   ·intro v u hg hd K hK
    have hz:=(Chg.drew [] w3).then hg
    have x0:=hz.cellv a0 (by simp)
    have x1:=hz.cellv a1 (by simp)
    have x2:=hz.cellv a2 (by simp)
    clear hd
    have hk:=hK.out (.agg #[.bool lf,.slice ka kl kc,.slice va vl vc]) u (Chg.refl _ _) rfl
    clear hK
    simp only [zqa,zqb,zqc,zqd,zqe,putAll,Act.put,zqf,zqg,zqh,Nat.zero_add,Nat.reduceAdd] at hk ⊢
    go_simp
    exact hk
   ·intro v u hg hd K hK
    clear hd
    have hk:=hK.out (.int .u64 (x:Int)) u (Chg.refl _ _) rfl
    clear hK
    simp only [zqa,zqb,zqc,zqd,zqe,putAll,Act.put,zqf,zqg,zqh,Nat.zero_add,Nat.reduceAdd] at hk ⊢
    go_simp
    exact hk
   ·intro v u hg hd K hK
    clear hd
    have hk:=hK.out (.int .u64 (y:Int)) u (Chg.refl _ _) rfl
    clear hK
    simp only [zqa,zqb,zqc,zqd,zqe,putAll,Act.put,zqf,zqg,zqh,Nat.zero_add,Nat.reduceAdd] at hk ⊢
    go_simp
    exact hk
   ·intro v u hg hd K hK
    have h1:∃ lo hi,IsV (.int .u64 (x:Int)) (v 1) lo hi u:=dep hd 1 (by kernel_rfl)
    have e1:v 1=.int .u64 (x:Int):=depV h1
    have h2:∃ lo hi,IsV (.int .u64 (y:Int)) (v 2) lo hi u:=dep hd 2 (by kernel_rfl)
    have e2:v 2=.int .u64 (y:Int):=depV h2
    clear hd
    simp only [zqa,zqb,zqc,zqd,zqe,putAll,Act.put,zqf,zqg,zqh,Nat.zero_add,Nat.reduceAdd,e1,e2] at hK ⊢
    go_simp
    refine (pair_as x y u).mono ?_
    rintro e u' ⟨⟨qa,qc,qa',qc',rfl,hr⟩,g'⟩
    have hk:=hK.out (_) u' g' ⟨_,_,_,_,rfl,hr⟩
    exact hk
   ·intro v u hg hd K hK
    clear hd
    have hk:=hK.out (.func (.func 153) #[] #[.pointer (some ⟨B1,0,none⟩)]) u (Chg.refl _ _) rfl
    clear hK
    simp only [zqa,zqb,zqc,zqd,zqe,putAll,Act.put,zqf,zqg,zqh,Nat.zero_add,Nat.reduceAdd] at hk ⊢
    go_simp
    exact hk
   ·intro v u hg hd K hK
    have h0:∃ lo hi,IsV (.agg #[.bool lf,.slice ka kl kc,.slice va vl vc]) (v 0) lo hi u:=dep hd 0 (by kernel_rfl)
    have e0:v 0=.agg #[.bool lf,.slice ka kl kc,.slice va vl vc]:=depV h0
    have h4:∃ lo hi,IsV (.func (.func 153) #[] #[.pointer (some ⟨B1,0,none⟩)]) (v 4) lo hi u:=dep hd 4 (by kernel_rfl)
    have e4:v 4=.func (.func 153) #[] #[.pointer (some ⟨B1,0,none⟩)]:=depV h4
    have h3:∃ lo hi,IsOne x y (v 3) lo hi u:=dep hd 3 (by kernel_rfl)
    obtain ⟨_,_,oa,oc,ob,od,e3,hr1⟩:=h3
    clear hd
    simp only [zqa,zqb,zqc,zqd,zqe,putAll,Act.put,zqf,zqg,zqh,Nat.zero_add,Nat.reduceAdd,e0,e4,e3] at hK ⊢
    go_simp
    have hz:=(Chg.drew [] w3).then hg
    refine (CC1.out B1 u oa oc ob od (gV.then hz) hr1 (hz.cellv c0 (by simp)) (by omega)).mono ?_
    rintro e u' ⟨⟨qa,qc,qa',qc',rfl,hr⟩,g'⟩
    have hk:=hK.out _ u' g' (isN_out ⟨_,_,_,_,rfl,hr⟩)
    exact hk
  ·intro v u lo hi hg hall hbd hdj
   have e0:v 0=.agg #[.bool lf,.slice ka kl kc,.slice va vl vc]:=hall 0 (by decide)
   have e1:v 1=.int .u64 (x:Int):=hall 1 (by decide)
   have e2:v 2=.int .u64 (y:Int):=hall 2 (by decide)
   have e4:v 4=.func (.func 153) #[] #[.pointer (some ⟨B1,0,none⟩)]:=hall 4 (by decide)
   obtain ⟨oa,oc,ob,od,e3,-⟩:IsOne x y (v 3) (lo 3) (hi 3) u:=hall 3 (by decide)
   obtain ⟨pa,pc,qa,qc,e5,hr0,m1,m2⟩:IsN lf (X) (Y) (v 5) (lo 5) (hi 5) u:=hall 5 (by decide)
   have bb:=(hbd 5 (by decide)).1
   have hr:=hr0.mono bb
   have gW3:=(Chg.drew [] w3).then hg
   clear hall hbd hdj hr0 m1 m2 bb hg gW
   simp only [zqa,zqb,zqc,zqd,zqe,putAll,Act.put,zqf,zqg,zqh,Nat.zero_add,Nat.reduceAdd,e0,e1,e2,e3,e4,e5]
   clear e0 e1 e2 e3 e4 e5 v lo hi
   have gW:=gW3
   have hR2:=HR.out
   obtain ⟨v0,v1,v2,i0,i1,i2,j0,j1,j2⟩:=there3 (there_chg t0 gW (by simp))
   have gZ:=three_chg u R (.bool lf) (.slice pa (X).length pc) (.slice qa (Y).length qc)
   have hR1:=HR.out
   have hZ:=hr.chg gZ (fun q hq => by simp at hq;omega)
   have gF:=(gV.then gW).trans gZ (U:=[]) (by simp) (fun q hq hlt => by simp at hq;omega)
   have HF:=mkHid (And.intro hZ gF)
   clear hZ gF gZ hr gW
   go_wp2_with fail
   refine bodyPost_ret (v:=.agg #[.bool lf,.slice pa (X).length pc,.slice qa (Y).length qc]) (by simp [results,Tryz.results111,go_sem,i0,i1,i2]) rfl ⟨⟨pa,pc,qa,qc,rfl,HF.out.1.mono (by have:=g0.size;omega)⟩,HF.out.2⟩
end
end Go.Proofs.YtdgkbicelnnfpaaGreatDoor
