/- Texts Io, Ii, Ij of the library, joined. -/
import Derived.Test.YtdgkbicelnnfpaaGreatDoorM21
set_option linter.unusedVariables false
set_option linter.unusedSimpArgs false
namespace Go.Proofs.YtdgkbicelnnfpaaGreatDoor
section
open Go.RowKit
attribute [local go_sem ↓] Go.wp_at_zero Go.wp_at_succ
def ChOut (B:Nat) (lf:Bool) (RK RV:Pr) (e:Ending) (w':World):Prop:=∃ x y lo hi lo' hi',e=.returned (.agg #[.bool lf,x,y])∧RK x lo hi w'∧RV y lo' hi' w'∧(B≤lo∧B≤lo'∧hi≤w'.heap.size∧hi'≤w'.heap.size)∧(hi≤lo' ∨ hi'≤lo)
def Stays (B:Nat) (p:Pr):Prop:=(∀ x lo hi u u' S,Chg S u u'→(∀ q∈S,B≤q∧q < lo)→p x lo hi u→p x lo hi u')∧∀ x lo hi u,p x lo hi u→∃ a n c,x=.slice a n c
theorem Stays.keeps {B:Nat} {p:Pr} (h:Stays B p):Keeps p:=fun x lo hi u u' g hp => h.1 x lo hi u u' [] g (by simp) hp
theorem staysR (B:Nat) (L:List Nat):Stays B (RL L):=⟨fun x lo hi u u' S g hS h => by
  obtain ⟨a,c,e,r,m⟩:=h
  exact ⟨a,c,e,r.chg g (fun q hq hm => by have:=(r.lt q hq).1;have:=(hS q hm).2;omega),m⟩,
 fun x lo hi u h => by obtain ⟨a,c,e,_⟩:=h;exact ⟨a,_,c,e⟩⟩
theorem staysV (B:Nat) (a:Option Addr) (n c:Nat):Stays B (IsV (.slice a n c)):=⟨fun _ _ _ _ _ _ _ _ h => h,fun _ _ _ _ h => ⟨a,n,c,h⟩⟩
theorem laid_two (w:World) (x0 x1 x2 y0 y1 y2:Value):∃ w1,w1=((w.alloc (.cells #[x0,x1,x2] 53)).alloc (.cells #[y0,y1,y2] 53)).alloc (.cells #[.bool false,.slice none 0 0,.slice none 0 0] 53)∧w1.cell? ⟨w.heap.size,0,none⟩=some x0∧w1.cell? ⟨w.heap.size,1,none⟩=some x1∧w1.cell? ⟨w.heap.size,2,none⟩=some x2∧w1.cell? ⟨w.heap.size+1,0,none⟩=some y0∧w1.cell? ⟨w.heap.size+1,1,none⟩=some y1∧w1.cell? ⟨w.heap.size+1,2,none⟩=some y2∧w1.there (w.heap.size+1+1) 0 3∧Chg [] w w1∧w1.heap.size=w.heap.size+3:=by
 obtain ⟨e1,e2,f1,f2⟩:=two_boxes w x0 x1 x2 y0 y1 y2 53
 obtain ⟨e0,f0⟩:=two_boxes0 w x0 x1 x2 y0 y1 y2 53
 have t:=start_there ((w.alloc (.cells #[x0,x1,x2] 53)).alloc (.cells #[y0,y1,y2] 53))
 rw [show ((w.alloc (.cells #[x0,x1,x2] 53)).alloc (.cells #[y0,y1,y2] 53)).heap.size=w.heap.size+1+1 by simp] at t
 have g:=Chg.alloc [] ((w.alloc (.cells #[x0,x1,x2] 53)).alloc (.cells #[y0,y1,y2] 53)) (.cells #[.bool false,.slice none 0 0,.slice none 0 0] 53)
 exact ⟨_,rfl,g.cellv e0 (by simp),g.cellv e1 (by simp),g.cellv e2 (by simp),g.cellv f0 (by simp),g.cellv f1 (by simp),g.cellv f2 (by simp),t,((Chg.alloc [] w _).then (Chg.alloc [] _ _)).then g,by simp⟩
set_option maxRecDepth 20000 in
set_option maxHeartbeats 4000000 in
theorem changed_any (lf:Bool) (ka:Option Addr) (kl kc:Nat) (va:Option Addr) (vl vc:Nat) (lf':Bool) (ka':Option Addr) (kl' kc':Nat) (va':Option Addr) (vl' vc':Nat) (g:Nat) (lb:Array Value) (he:Enters Tryz.prog g) (P P':Nat) (RK RV:Pr) (w:World)
  (hP:min kl vl=P) (hP':min kl' vl'=P') (hk:P≤kc) (hv:P≤vc) (hk':P'≤kc') (hv':P'≤vc') (sK:Stays w.heap.size RK) (sV:Stays w.heap.size RV)
  (hfK:∀ u:World,Chg [] w u→Calls Tryz.prog g (#[.slice ka P kc,.slice ka' P' kc']++lb) u fun e u' => ∃ x,e=.returned x∧RK x u.heap.size u'.heap.size u'∧Chg [] u u')
  (hfV:∀ u:World,Chg [] w u→Calls Tryz.prog g (#[.slice va P vc,.slice va' P' vc']++lb) u fun e u' => ∃ x,e=.returned x∧RV x u.heap.size u'.heap.size u'∧Chg [] u u') :
  Calls Tryz.prog 151 #[.agg #[.bool lf,.slice ka kl kc,.slice va vl vc],.agg #[.bool lf',.slice ka' kl' kc',.slice va' vl' vc'],.func (.func g) #[] lb] w fun e w' => ChOut w.heap.size lf RK RV e w'∧Chg [] w w':=by
 have cP:=pairs_any lf ka kl kc va vl vc P hP
 have cP':=pairs_any lf' ka' kl' kc' va' vl' vc' P' hP'
 have HS:=mkHid (show (∀ u:World,(Instr.slice 35 (.slice ka kl kc) none (some (.int .i64 (P:Int))) none).run Tryz.prog u=.ok (.slice ka P kc) u)∧(∀ u:World,(Instr.slice 35 (.slice va vl vc) none (some (.int .i64 (P:Int))) none).run Tryz.prog u=.ok (.slice va P vc) u)∧(∀ u:World,(Instr.slice 35 (.slice ka' kl' kc') none (some (.int .i64 (P':Int))) none).run Tryz.prog u=.ok (.slice ka' P' kc') u)∧(∀ u:World,(Instr.slice 35 (.slice va' vl' vc') none (some (.int .i64 (P':Int))) none).run Tryz.prog u=.ok (.slice va' P' vc') u) from
  ⟨fun u => run_take_k (e:=34) ka kl kc P Tryz.underlying35 (by kernel_rfl) hk u,fun u => run_take_k (e:=34) va vl vc P Tryz.underlying35 (by kernel_rfl) hv u,fun u => run_take_k (e:=34) ka' kl' kc' P' Tryz.underlying35 (by kernel_rfl) hk' u,fun u => run_take_k (e:=34) va' vl' vc' P' Tryz.underlying35 (by kernel_rfl) hv' u⟩)
 have eg:∀ (args:Array Value) (w:World),(callFunc g args).run Tryz.prog w=.ok (.enter g args) w:=he
 obtain ⟨w1,hw1,a0,a1,a2,b0,b1,b2,t0,g0,hz⟩:=laid_two w (.bool lf) (.slice ka kl kc) (.slice va vl vc) (.bool lf') (.slice ka' kl' kc') (.slice va' vl' vc')
 have HE:=mkHid (And.intro a0 (And.intro a1 (And.intro a2 (And.intro b0 (And.intro b1 (And.intro b2 (And.intro t0 (And.intro g0 hz))))))))
 have CP:=mkHid cP
 have CP':=mkHid cP'
 have HK:=mkHid hfK
 have HV:=mkHid hfV
 have HG:=mkHid eg
 clear a0 a1 a2 b0 b1 b2 t0 g0 hz cP cP' hfK hfV eg hP hP' he hk hv hk' hv'
 go_enter Tryz.func151,Tryz.ntmps151
 go_wp2_with fail
 rw [← hw1]
 clear hw1
 obtain ⟨a0,a1,a2,b0,b1,b2,t0,g0,hz⟩:=HE.out
 obtain ⟨B1,hB1⟩:∃ b,w.heap.size+1=b:=⟨_,rfl⟩
 rw [hB1] at b0 b1 b2 t0 ⊢
 obtain ⟨R,hR⟩:∃ b,B1+1=b:=⟨_,rfl⟩
 rw [hR] at t0 ⊢
 have HR:=mkHid (show R+1=w1.heap.size∧w.heap.size≤R by omega)
 clear HE hB1 hR hz
 generalize w.heap.size=b at a0 a1 a2 ⊢
 refine region_made 6 [IsV (.agg #[.bool lf,.slice ka kl kc,.slice va vl vc]),IsV (.int .i64 (P:Int)),IsV (.agg #[.bool lf',.slice ka' kl' kc',.slice va' vl' vc']),IsV (.int .i64 (P':Int)),IsV (.int .i64 (P:Int)),IsV (.int .i64 (P':Int))] (by kernel_rfl) (by kernel_rfl) (by kernel_rfl) (by decide) (of_decide_eq_true (by kernel_rfl)) ⟨keepV _,keepV _,keepV _,keepV _,keepV _,keepV _,trivial⟩ ?_ ?_
 ·refine ⟨?_,?_,?_,?_,?_,?_,trivial⟩
  ·intro v u hg hd K hK
   have hz:=(Chg.drew [] w1).then hg
   have x0:=hz.cellv a0 (by simp)
   have x1:=hz.cellv a1 (by simp)
   have x2:=hz.cellv a2 (by simp)
   clear hd
   have hk:=hK.out (.agg #[.bool lf,.slice ka kl kc,.slice va vl vc]) u (Chg.refl _ _) rfl
   clear hK
   simp only [zqa,zqb,zqc,zqd,zqe,putAll,Act.put,zqf,zqg,zqh,Nat.zero_add,Nat.reduceAdd] at hk ⊢
   go_simp
   exact hk
  ·intro v u hg hd K hK
   have h0:∃ lo hi,IsV (.agg #[.bool lf,.slice ka kl kc,.slice va vl vc]) (v 0) lo hi u:=dep hd 0 (by kernel_rfl)
   have e0:v 0=.agg #[.bool lf,.slice ka kl kc,.slice va vl vc]:=depV h0
   clear hd
   simp only [zqa,zqb,zqc,zqd,zqe,putAll,Act.put,zqf,zqg,zqh,Nat.zero_add,Nat.reduceAdd,e0] at hK ⊢
   go_simp
   refine (CP.out u).mono ?_
   rintro e u' ⟨rfl,g'⟩
   have hk:=hK.out (.int .i64 (P:Int)) u' g' rfl
   exact hk
  ·intro v u hg hd K hK
   have hz:=(Chg.drew [] w1).then hg
   have x0:=hz.cellv b0 (by simp)
   have x1:=hz.cellv b1 (by simp)
   have x2:=hz.cellv b2 (by simp)
   clear hd
   have hk:=hK.out (.agg #[.bool lf',.slice ka' kl' kc',.slice va' vl' vc']) u (Chg.refl _ _) rfl
   clear hK
   simp only [zqa,zqb,zqc,zqd,zqe,putAll,Act.put,zqf,zqg,zqh,Nat.zero_add,Nat.reduceAdd] at hk ⊢
   go_simp
   exact hk
  ·intro v u hg hd K hK
   have h2:∃ lo hi,IsV (.agg #[.bool lf',.slice ka' kl' kc',.slice va' vl' vc']) (v 2) lo hi u:=dep hd 2 (by kernel_rfl)
   have e2:v 2=.agg #[.bool lf',.slice ka' kl' kc',.slice va' vl' vc']:=depV h2
   clear hd
   simp only [zqa,zqb,zqc,zqd,zqe,putAll,Act.put,zqf,zqg,zqh,Nat.zero_add,Nat.reduceAdd,e2] at hK ⊢
   go_simp
   refine (CP'.out u).mono ?_
   rintro e u' ⟨rfl,g'⟩
   have hk:=hK.out (.int .i64 (P':Int)) u' g' rfl
   exact hk
  ·intro v u hg hd K hK
   have h1:∃ lo hi,IsV (.int .i64 (P:Int)) (v 1) lo hi u:=dep hd 1 (by kernel_rfl)
   have e1:v 1=.int .i64 (P:Int):=depV h1
   clear hd
   have hk:=hK.out (.int .i64 (P:Int)) u (Chg.refl _ _) rfl
   clear hK
   simp only [zqa,zqb,zqc,zqd,zqe,putAll,Act.put,zqf,zqg,zqh,Nat.zero_add,Nat.reduceAdd,e1] at hk ⊢
   go_simp
   exact hk
  ·intro v u hg hd K hK
   have h3:∃ lo hi,IsV (.int .i64 (P':Int)) (v 3) lo hi u:=dep hd 3 (by kernel_rfl)
   have e3:v 3=.int .i64 (P':Int):=depV h3
   clear hd
   have hk:=hK.out (.int .i64 (P':Int)) u (Chg.refl _ _) rfl
   clear hK
   simp only [zqa,zqb,zqc,zqd,zqe,putAll,Act.put,zqf,zqg,zqh,Nat.zero_add,Nat.reduceAdd,e3] at hk ⊢
   go_simp
   exact hk
 ·intro v u lo hi hg hall hbd hdj
  have e0:v 0=.agg #[.bool lf,.slice ka kl kc,.slice va vl vc]:=hall 0 (by decide)
  have e1:v 1=.int .i64 (P:Int):=hall 1 (by decide)
  have e2:v 2=.agg #[.bool lf',.slice ka' kl' kc',.slice va' vl' vc']:=hall 2 (by decide)
  have e3:v 3=.int .i64 (P':Int):=hall 3 (by decide)
  have e4:v 4=.int .i64 (P:Int):=hall 4 (by decide)
  have e5:v 5=.int .i64 (P':Int):=hall 5 (by decide)
  have gW:=(Chg.drew [] w1).then hg
  have k0:=gW.cellv a0 (by simp)
  have k1:=gW.cellv a1 (by simp)
  have k2:=gW.cellv a2 (by simp)
  have k3:=gW.cellv b0 (by simp)
  have k4:=gW.cellv b1 (by simp)
  have k5:=gW.cellv b2 (by simp)
  have s0:=there_chg t0 gW (by simp)
  clear a0 a1 a2 b0 b1 b2 t0 hall hbd hdj hg
  have a0:=k0
  have a1:=k1
  have a2:=k2
  have b0:=k3
  have b1:=k4
  have b2:=k5
  have t0:=s0
  clear k0 k1 k2 k3 k4 k5 s0
  simp only [zqa,zqb,zqc,zqd,zqe,putAll,Act.put,zqf,zqg,zqh,Nat.zero_add,Nat.reduceAdd,e0,e1,e2,e3,e4,e5]
  clear e0 e1 e2 e3 e4 e5 v lo hi
  go_wp2_with fail
  obtain ⟨w2,hw2⟩:∃ w2,w2=u:=⟨_,rfl⟩
  subst hw2
  refine region_made 22 [IsV (.pointer (some ⟨b,0,none⟩)),IsV (.bool lf),IsV (.func (.func g) #[] lb),IsV (.pointer (some ⟨b,1,none⟩)),IsV (.slice ka kl kc),IsV (.int .i64 (P:Int)),IsV (.slice ka P kc),IsV (.pointer (some ⟨B1,1,none⟩)),IsV (.slice ka' kl' kc'),IsV (.int .i64 (P':Int)),IsV (.slice ka' P' kc'),RK,IsV (.func (.func g) #[] lb),IsV (.pointer (some ⟨b,2,none⟩)),IsV (.slice va vl vc),IsV (.int .i64 (P:Int)),IsV (.slice va P vc),IsV (.pointer (some ⟨B1,2,none⟩)),IsV (.slice va' vl' vc'),IsV (.int .i64 (P':Int)),IsV (.slice va' P' vc'),RV] (by kernel_rfl) (by kernel_rfl) (by kernel_rfl) (by decide) (of_decide_eq_true (by kernel_rfl)) ⟨keepV _,keepV _,keepV _,keepV _,keepV _,keepV _,keepV _,keepV _,keepV _,keepV _,keepV _,sK.keeps,keepV _,keepV _,keepV _,keepV _,keepV _,keepV _,keepV _,keepV _,keepV _,sV.keeps,trivial⟩ ?_ ?_
  ·refine ⟨?_,?_,?_,?_,?_,?_,?_,?_,?_,?_,?_,?_,?_,?_,?_,?_,?_,?_,?_,?_,?_,?_,trivial⟩
   ·intro v u hg hd K hK
    clear hd
    have hk:=hK.out (.pointer (some ⟨b,0,none⟩)) u (Chg.refl _ _) rfl
    clear hK
    simp only [zqa,zqb,zqc,zqd,zqe,putAll,Act.put,zqf,zqg,zqh,Nat.zero_add,Nat.reduceAdd] at hk ⊢
    go_simp
    exact hk
   ·intro v u hg hd K hK
    have h0:∃ lo hi,IsV (.pointer (some ⟨b,0,none⟩)) (v 0) lo hi u:=dep hd 0 (by kernel_rfl)
    have e0:v 0=.pointer (some ⟨b,0,none⟩):=depV h0
    have hz:=(Chg.drew [] w2).then hg
    have x0:=hz.cellv a0 (by simp)
    have x1:=hz.cellv a1 (by simp)
    have x2:=hz.cellv a2 (by simp)
    clear hd
    have hk:=hK.out (.bool lf) u (Chg.refl _ _) rfl
    clear hK
    simp only [zqa,zqb,zqc,zqd,zqe,putAll,Act.put,zqf,zqg,zqh,Nat.zero_add,Nat.reduceAdd,e0] at hk ⊢
    go_simp
    exact hk
   ·intro v u hg hd K hK
    clear hd
    have hk:=hK.out (.func (.func g) #[] lb) u (Chg.refl _ _) rfl
    clear hK
    simp only [zqa,zqb,zqc,zqd,zqe,putAll,Act.put,zqf,zqg,zqh,Nat.zero_add,Nat.reduceAdd] at hk ⊢
    go_simp
    exact hk
   ·intro v u hg hd K hK
    clear hd
    have hk:=hK.out (.pointer (some ⟨b,1,none⟩)) u (Chg.refl _ _) rfl
    clear hK
    simp only [zqa,zqb,zqc,zqd,zqe,putAll,Act.put,zqf,zqg,zqh,Nat.zero_add,Nat.reduceAdd] at hk ⊢
    go_simp
    exact hk
   ·intro v u hg hd K hK
    have h3:∃ lo hi,IsV (.pointer (some ⟨b,1,none⟩)) (v 3) lo hi u:=dep hd 3 (by kernel_rfl)
    have e3:v 3=.pointer (some ⟨b,1,none⟩):=depV h3
    have hz:=(Chg.drew [] w2).then hg
    have x0:=hz.cellv a0 (by simp)
    have x1:=hz.cellv a1 (by simp)
    have x2:=hz.cellv a2 (by simp)
    clear hd
    have hk:=hK.out (.slice ka kl kc) u (Chg.refl _ _) rfl
    clear hK
    simp only [zqa,zqb,zqc,zqd,zqe,putAll,Act.put,zqf,zqg,zqh,Nat.zero_add,Nat.reduceAdd,e3] at hk ⊢
    go_simp
    exact hk
   ·intro v u hg hd K hK
    clear hd
    have hk:=hK.out (.int .i64 (P:Int)) u (Chg.refl _ _) rfl
    clear hK
    simp only [zqa,zqb,zqc,zqd,zqe,putAll,Act.put,zqf,zqg,zqh,Nat.zero_add,Nat.reduceAdd] at hk ⊢
    go_simp
    exact hk
   ·intro v u hg hd K hK
    have h4:∃ lo hi,IsV (.slice ka kl kc) (v 4) lo hi u:=dep hd 4 (by kernel_rfl)
    have e4:v 4=.slice ka kl kc:=depV h4
    have h5:∃ lo hi,IsV (.int .i64 (P:Int)) (v 5) lo hi u:=dep hd 5 (by kernel_rfl)
    have e5:v 5=.int .i64 (P:Int):=depV h5
    have q1:=HS.out.1
    clear hd
    have hk:=hK.out (.slice ka P kc) u (Chg.refl _ _) rfl
    clear hK
    simp only [zqa,zqb,zqc,zqd,zqe,putAll,Act.put,zqf,zqg,zqh,Nat.zero_add,Nat.reduceAdd,e4,e5] at hk ⊢
    go_simp
    exact hk
   ·intro v u hg hd K hK
    clear hd
    have hk:=hK.out (.pointer (some ⟨B1,1,none⟩)) u (Chg.refl _ _) rfl
    clear hK
    simp only [zqa,zqb,zqc,zqd,zqe,putAll,Act.put,zqf,zqg,zqh,Nat.zero_add,Nat.reduceAdd] at hk ⊢
    go_simp
    exact hk
   ·intro v u hg hd K hK
    have h7:∃ lo hi,IsV (.pointer (some ⟨B1,1,none⟩)) (v 7) lo hi u:=dep hd 7 (by kernel_rfl)
    have e7:v 7=.pointer (some ⟨B1,1,none⟩):=depV h7
    have hz:=(Chg.drew [] w2).then hg
    have x0:=hz.cellv b0 (by simp)
    have x1:=hz.cellv b1 (by simp)
    have x2:=hz.cellv b2 (by simp)
    clear hd
    have hk:=hK.out (.slice ka' kl' kc') u (Chg.refl _ _) rfl
    clear hK
    simp only [zqa,zqb,zqc,zqd,zqe,putAll,Act.put,zqf,zqg,zqh,Nat.zero_add,Nat.reduceAdd,e7] at hk ⊢
    go_simp
    exact hk
   ·intro v u hg hd K hK
    clear hd
    have hk:=hK.out (.int .i64 (P':Int)) u (Chg.refl _ _) rfl
    clear hK
    simp only [zqa,zqb,zqc,zqd,zqe,putAll,Act.put,zqf,zqg,zqh,Nat.zero_add,Nat.reduceAdd] at hk ⊢
    go_simp
    exact hk
   ·intro v u hg hd K hK
    have h8:∃ lo hi,IsV (.slice ka' kl' kc') (v 8) lo hi u:=dep hd 8 (by kernel_rfl)
    have e8:v 8=.slice ka' kl' kc':=depV h8
    have h9:∃ lo hi,IsV (.int .i64 (P':Int)) (v 9) lo hi u:=dep hd 9 (by kernel_rfl)
    have e9:v 9=.int .i64 (P':Int):=depV h9
    have q1:=HS.out.2.2.1
    clear hd
    have hk:=hK.out (.slice ka' P' kc') u (Chg.refl _ _) rfl
    clear hK
    simp only [zqa,zqb,zqc,zqd,zqe,putAll,Act.put,zqf,zqg,zqh,Nat.zero_add,Nat.reduceAdd,e8,e9] at hk ⊢
    go_simp
    exact hk
   ·intro v u hg hd K hK
    have h2:∃ lo hi,IsV (.func (.func g) #[] lb) (v 2) lo hi u:=dep hd 2 (by kernel_rfl)
    have e2:v 2=.func (.func g) #[] lb:=depV h2
    have h6:∃ lo hi,IsV (.slice ka P kc) (v 6) lo hi u:=dep hd 6 (by kernel_rfl)
    have e6:v 6=.slice ka P kc:=depV h6
    have h10:∃ lo hi,IsV (.slice ka' P' kc') (v 10) lo hi u:=dep hd 10 (by kernel_rfl)
    have e10:v 10=.slice ka' P' kc':=depV h10
    have eg:=HG.out
    clear hd
    simp only [zqa,zqb,zqc,zqd,zqe,putAll,Act.put,zqf,zqg,zqh,Nat.zero_add,Nat.reduceAdd,e2,e6,e10] at hK ⊢
    go_simp
    refine (HK.out u ((g0.then gW).then ((Chg.drew [] w2).then hg))).mono ?_
    rintro e u' ⟨x,rfl,hx,g'⟩
    have hk:=hK.out (x) u' g' hx
    exact hk
   ·intro v u hg hd K hK
    clear hd
    have hk:=hK.out (.func (.func g) #[] lb) u (Chg.refl _ _) rfl
    clear hK
    simp only [zqa,zqb,zqc,zqd,zqe,putAll,Act.put,zqf,zqg,zqh,Nat.zero_add,Nat.reduceAdd] at hk ⊢
    go_simp
    exact hk
   ·intro v u hg hd K hK
    clear hd
    have hk:=hK.out (.pointer (some ⟨b,2,none⟩)) u (Chg.refl _ _) rfl
    clear hK
    simp only [zqa,zqb,zqc,zqd,zqe,putAll,Act.put,zqf,zqg,zqh,Nat.zero_add,Nat.reduceAdd] at hk ⊢
    go_simp
    exact hk
   ·intro v u hg hd K hK
    have h13:∃ lo hi,IsV (.pointer (some ⟨b,2,none⟩)) (v 13) lo hi u:=dep hd 13 (by kernel_rfl)
    have e13:v 13=.pointer (some ⟨b,2,none⟩):=depV h13
    have hz:=(Chg.drew [] w2).then hg
    have x0:=hz.cellv a0 (by simp)
    have x1:=hz.cellv a1 (by simp)
    have x2:=hz.cellv a2 (by simp)
    clear hd
    have hk:=hK.out (.slice va vl vc) u (Chg.refl _ _) rfl
    clear hK
    simp only [zqa,zqb,zqc,zqd,zqe,putAll,Act.put,zqf,zqg,zqh,Nat.zero_add,Nat.reduceAdd,e13] at hk ⊢
    go_simp
    exact hk
   ·intro v u hg hd K hK
    clear hd
    have hk:=hK.out (.int .i64 (P:Int)) u (Chg.refl _ _) rfl
    clear hK
    simp only [zqa,zqb,zqc,zqd,zqe,putAll,Act.put,zqf,zqg,zqh,Nat.zero_add,Nat.reduceAdd] at hk ⊢
    go_simp
    exact hk
   ·intro v u hg hd K hK
    have h14:∃ lo hi,IsV (.slice va vl vc) (v 14) lo hi u:=dep hd 14 (by kernel_rfl)
    have e14:v 14=.slice va vl vc:=depV h14
    have h15:∃ lo hi,IsV (.int .i64 (P:Int)) (v 15) lo hi u:=dep hd 15 (by kernel_rfl)
    have e15:v 15=.int .i64 (P:Int):=depV h15
    have q1:=HS.out.2.1
    clear hd
    have hk:=hK.out (.slice va P vc) u (Chg.refl _ _) rfl
    clear hK
    simp only [zqa,zqb,zqc,zqd,zqe,putAll,Act.put,zqf,zqg,zqh,Nat.zero_add,Nat.reduceAdd,e14,e15] at hk ⊢
    go_simp
    exact hk
   ·intro v u hg hd K hK
    clear hd
    have hk:=hK.out (.pointer (some ⟨B1,2,none⟩)) u (Chg.refl _ _) rfl
    clear hK
    simp only [zqa,zqb,zqc,zqd,zqe,putAll,Act.put,zqf,zqg,zqh,Nat.zero_add,Nat.reduceAdd] at hk ⊢
    go_simp
    exact hk
   ·intro v u hg hd K hK
    have h17:∃ lo hi,IsV (.pointer (some ⟨B1,2,none⟩)) (v 17) lo hi u:=dep hd 17 (by kernel_rfl)
    have e17:v 17=.pointer (some ⟨B1,2,none⟩):=depV h17
    have hz:=(Chg.drew [] w2).then hg
    have x0:=hz.cellv b0 (by simp)
    have x1:=hz.cellv b1 (by simp)
    have x2:=hz.cellv b2 (by simp)
    clear hd
    have hk:=hK.out (.slice va' vl' vc') u (Chg.refl _ _) rfl
    clear hK
    simp only [zqa,zqb,zqc,zqd,zqe,putAll,Act.put,zqf,zqg,zqh,Nat.zero_add,Nat.reduceAdd,e17] at hk ⊢
    go_simp
    exact hk
   ·intro v u hg hd K hK
    clear hd
    have hk:=hK.out (.int .i64 (P':Int)) u (Chg.refl _ _) rfl
    clear hK
    simp only [zqa,zqb,zqc,zqd,zqe,putAll,Act.put,zqf,zqg,zqh,Nat.zero_add,Nat.reduceAdd] at hk ⊢
    go_simp
    exact hk
   ·intro v u hg hd K hK
    have h18:∃ lo hi,IsV (.slice va' vl' vc') (v 18) lo hi u:=dep hd 18 (by kernel_rfl)
    have e18:v 18=.slice va' vl' vc':=depV h18
    have h19:∃ lo hi,IsV (.int .i64 (P':Int)) (v 19) lo hi u:=dep hd 19 (by kernel_rfl)
    have e19:v 19=.int .i64 (P':Int):=depV h19
    have q1:=HS.out.2.2.2
    clear hd
    have hk:=hK.out (.slice va' P' vc') u (Chg.refl _ _) rfl
    clear hK
    simp only [zqa,zqb,zqc,zqd,zqe,putAll,Act.put,zqf,zqg,zqh,Nat.zero_add,Nat.reduceAdd,e18,e19] at hk ⊢
    go_simp
    exact hk
   ·intro v u hg hd K hK
    have h12:∃ lo hi,IsV (.func (.func g) #[] lb) (v 12) lo hi u:=dep hd 12 (by kernel_rfl)
    have e12:v 12=.func (.func g) #[] lb:=depV h12
    have h16:∃ lo hi,IsV (.slice va P vc) (v 16) lo hi u:=dep hd 16 (by kernel_rfl)
    have e16:v 16=.slice va P vc:=depV h16
    have h20:∃ lo hi,IsV (.slice va' P' vc') (v 20) lo hi u:=dep hd 20 (by kernel_rfl)
    have e20:v 20=.slice va' P' vc':=depV h20
    have eg:=HG.out
    clear hd
    simp only [zqa,zqb,zqc,zqd,zqe,putAll,Act.put,zqf,zqg,zqh,Nat.zero_add,Nat.reduceAdd,e12,e16,e20] at hK ⊢
    go_simp
    refine (HV.out u ((g0.then gW).then ((Chg.drew [] w2).then hg))).mono ?_
    rintro e u' ⟨x,rfl,hx,g'⟩
    have hk:=hK.out (x) u' g' hx
    exact hk
  ·intro v u lo hi hg hall hbd hdj
   have e0:v 0=.pointer (some ⟨b,0,none⟩):=hall 0 (by decide)
   have e1:v 1=.bool lf:=hall 1 (by decide)
   have e2:v 2=.func (.func g) #[] lb:=hall 2 (by decide)
   have e3:v 3=.pointer (some ⟨b,1,none⟩):=hall 3 (by decide)
   have e4:v 4=.slice ka kl kc:=hall 4 (by decide)
   have e5:v 5=.int .i64 (P:Int):=hall 5 (by decide)
   have e6:v 6=.slice ka P kc:=hall 6 (by decide)
   have e7:v 7=.pointer (some ⟨B1,1,none⟩):=hall 7 (by decide)
   have e8:v 8=.slice ka' kl' kc':=hall 8 (by decide)
   have e9:v 9=.int .i64 (P':Int):=hall 9 (by decide)
   have e10:v 10=.slice ka' P' kc':=hall 10 (by decide)
   have e12:v 12=.func (.func g) #[] lb:=hall 12 (by decide)
   have e13:v 13=.pointer (some ⟨b,2,none⟩):=hall 13 (by decide)
   have e14:v 14=.slice va vl vc:=hall 14 (by decide)
   have e15:v 15=.int .i64 (P:Int):=hall 15 (by decide)
   have e16:v 16=.slice va P vc:=hall 16 (by decide)
   have e17:v 17=.pointer (some ⟨B1,2,none⟩):=hall 17 (by decide)
   have e18:v 18=.slice va' vl' vc':=hall 18 (by decide)
   have e19:v 19=.int .i64 (P':Int):=hall 19 (by decide)
   have e20:v 20=.slice va' P' vc':=hall 20 (by decide)
   have hK:RK (v 11) (lo 11) (hi 11) u:=hall 11 (by decide)
   have hV:RV (v 21) (lo 21) (hi 21) u:=hall 21 (by decide)
   have bK:=hbd 11 (by decide)
   have bV:=hbd 21 (by decide)
   have dKV:=hdj 11 21 (by decide) (by decide) (by decide)
   obtain ⟨xa,xn,xc,e11⟩:=sK.2 _ _ _ _ hK
   obtain ⟨ya,yn,yc,e21⟩:=sV.2 _ _ _ _ hV
   have gU:=(Chg.drew [] w2).then hg
   obtain ⟨v0,v1,v2,i0,i1,i2,j0,j1,j2⟩:=there3 (there_chg t0 gU (by simp))
   have gZ:=three_chg u R (.bool lf) (.slice xa xn xc) (.slice ya yn yc)
   have hR1:=HR.out
   have hws:=gW.size
   rw [e11] at hK
   rw [e21] at hV
   have hK2:=sK.1 _ _ _ _ _ _ gZ (fun q hq => by simp at hq;omega) hK
   have hV2:=sV.1 _ _ _ _ _ _ gZ (fun q hq => by simp at hq;omega) hV
   have gF:=((g0.then gW).then gU).trans gZ (U:=[]) (by simp) (fun q hq hlt => by simp at hq;omega)
   have hsz:(((u.setCell ⟨R,0,none⟩ (.bool lf)).setCell ⟨R,1,none⟩ (.slice xa xn xc)).setCell ⟨R,2,none⟩ (.slice ya yn yc)).heap.size=u.heap.size:=by simp
   have HF:=mkHid (show ChOut w.heap.size lf RK RV (.returned (.agg #[.bool lf,.slice xa xn xc,.slice ya yn yc])) _∧_ from ⟨⟨_,_,_,_,_,_,rfl,hK2,hV2,⟨by have:=g0.size;omega,by have:=g0.size;omega,by rw [hsz];omega,by rw [hsz];omega⟩,dKV⟩,gF⟩)
   clear hK hV hK2 hV2 gF gZ gU hall hbd hdj hg bK bV dKV hsz hws
   simp only [zqa,zqb,zqc,zqd,zqe,putAll,Act.put,zqf,zqg,zqh,Nat.zero_add,Nat.reduceAdd,e0,e1,e2,e3,e4,e5,e6,e7,e8,e9,e10,e11,e12,e13,e14,e15,e16,e17,e18,e19,e20,e21]
   go_wp2_with fail
   refine bodyPost_ret (v:=.agg #[.bool lf,.slice xa xn xc,.slice ya yn yc]) (by simp [results,Tryz.results151,go_sem,i0,i1,i2]) rfl HF.out
end
section
open Go.RowKit
attribute [local go_sem ↓] Go.wp_at_zero Go.wp_at_succ
def tkK (K V:List Nat):List Nat:=K.take (np K V)
def tkV (K V:List Nat):List Nat:=V.take (np K V)
theorem tk_lens {K V:List Nat}:(tkK K V).length=np K V∧(tkV K V).length=np K V:=by
 unfold tkK tkV
 rw [List.length_take,List.length_take]
 exact ⟨Nat.min_eq_left np_le.1,Nat.min_eq_left np_le.2⟩
end
section
open Go.RowKit
attribute [local go_sem ↓] Go.wp_at_zero Go.wp_at_succ
def clampN (z:Int) (P:Nat):Nat:=if z < 0 then 0 else if (P:Int) < z then P else z.toNat
def insL (P a x:Nat) (L:List Nat):List Nat:=sub L 0 a++([x]++sub L a P)
def setL (P a x:Nat) (L:List Nat):List Nat:=sub L 0 a++([x]++sub L (a+1) P)
def remL (P a:Nat) (L:List Nat):List Nat:=sub L 0 a++sub L (a+1) P
def setO (z:Int) (x P:Nat) (L:List Nat):List Nat:=if 0≤z∧z < (P:Int) then setL P z.toNat x L else sub L 0 P
def remO (z:Int) (P:Nat) (L:List Nat):List Nat:=if 0≤z∧z < (P:Int) then remL P z.toNat L else sub L 0 P
theorem tk_eq {K V:List Nat} (h:K.length=V.length):tkK K V=K∧tkV K V=V:=by
 unfold tkK tkV np
 rw [← h,Nat.min_self]
 refine ⟨List.take_length,?_⟩
 rw [h];exact List.take_length
end
end Go.Proofs.YtdgkbicelnnfpaaGreatDoor
