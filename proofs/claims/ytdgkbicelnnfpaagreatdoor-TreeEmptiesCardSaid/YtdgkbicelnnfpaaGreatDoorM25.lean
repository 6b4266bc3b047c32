/- Texts Il, Is, Id, Ie of the library, joined. -/
import Derived.Test.YtdgkbicelnnfpaaGreatDoorM23
import Derived.Shelf.Abstract
set_option linter.unusedVariables false
set_option linter.unusedSimpArgs false
namespace Go.Proofs.YtdgkbicelnnfpaaGreatDoor
section
open Go.RowKit
attribute [local go_sem ↓] Go.wp_at_zero Go.wp_at_succ
def half (P:Nat):Nat:=P - P / 2
end
section
open Go.RowKit
attribute [local go_sem ↓] Go.wp_at_zero Go.wp_at_succ
def SplitOut (B:Nat) (lf:Bool) (A C:List Nat) (e:Ending) (w':World):Prop:=∃ pa pc qa qc,e=.returned (.tuple #[.agg #[.bool lf,.slice (cut pa (half A.length) 0) (half A.length) (half A.length),.slice (cut qa (half A.length) 0) (half A.length) (half A.length)],.agg #[.bool lf,.slice (cut pa A.length (half A.length)) (A.length - half A.length) (A.length - half A.length),.slice (cut qa A.length (half A.length)) (A.length - half A.length) (A.length - half A.length)]])∧RmN w' B pa pc qa qc A C
set_option maxRecDepth 20000 in
set_option maxHeartbeats 4000000 in
theorem split_any (lf:Bool) (ka:Option Addr) (kl kc:Nat) (va:Option Addr) (vl vc:Nat) (K V:List Nat) (w:World) (h:RdN w ka kc va vc K V) (hk:K.length=kl) (hv:V.length=vl) (hb:np K V≤1000000000) :
  Calls Tryz.prog 156 #[.agg #[.bool lf,.slice ka kl kc,.slice va vl vc]] w fun e w' => SplitOut w.heap.size lf (tkK K V) (tkV K V) e w'∧Chg [] w w':=by
 have cC:=fun (u:World) (g:Chg [] w u) => copied_any lf ka kl kc va vl vc K V u (h.keep g) hk hv hb
 obtain ⟨lX,lY⟩:=tk_lens (K:=K) (V:=V)
 obtain ⟨P,hP⟩:∃ P,np K V=P:=⟨_,rfl⟩
 rw [hP] at lX lY hb
 generalize tkK K V=X at *
 generalize tkV K V=Y at *
 obtain ⟨q,hq⟩:∃ q,P / 2=q:=⟨_,rfl⟩
 obtain ⟨m,hm⟩:∃ m,half P=m:=⟨_,rfl⟩
 have hm2:P - q=m:=by rw [← hm,← hq];rfl
 obtain ⟨d,hd⟩:∃ d,P - m=d:=⟨_,rfl⟩
 have HQ:=mkHid (show (P:Int) / 2=(q:Int)∧(P:Int) - (q:Int)=(m:Int) from ⟨by omega,by omega⟩)
 have hmP:m≤P:=by omega
 have hqb:q≤1000000000:=by omega
 have HL:=mkHid (And.intro lX (And.intro lY (And.intro hm hd)))
 have CC:=mkHid cC
 clear cC h hk hv lX lY hP hq hm hm2 hd
 obtain ⟨w1,hw1⟩:∃ w1,w1=(((w.alloc (.cells #[.bool lf,.slice ka kl kc,.slice va vl vc] 53)).alloc (.cells #[.bool false,.slice none 0 0,.slice none 0 0] 53)).alloc (.cells #[.bool false,.slice none 0 0,.slice none 0 0] 53)):=⟨_,rfl⟩
 have a0:w1.cell? ⟨w.heap.size,0,none⟩=some (.bool lf):=by rw [hw1];simp [go_sem]
 have a1:w1.cell? ⟨w.heap.size,1,none⟩=some (.slice ka kl kc):=by rw [hw1];simp [go_sem]
 have a2:w1.cell? ⟨w.heap.size,2,none⟩=some (.slice va vl vc):=by rw [hw1];simp [go_sem]
 have t0:w1.there (w.heap.size+1) 0 3:=fun j hj => by
  rw [hw1]
  match j,hj with
  | 0,_ => simp [go_sem]
  | 1,_ => simp [go_sem]
  | 2,_ => simp [go_sem]
 have t1:w1.there (w.heap.size+1+1) 0 3:=fun j hj => by
  rw [hw1]
  match j,hj with
  | 0,_ => simp [go_sem]
  | 1,_ => simp [go_sem]
  | 2,_ => simp [go_sem]
 have g0:Chg [] w w1:=by rw [hw1];exact ((Chg.alloc [] w _).then (Chg.alloc [] _ _)).then (Chg.alloc [] _ _)
 have hz:w1.heap.size=w.heap.size+3:=by rw [hw1];simp
 have HE:=mkHid (And.intro a0 (And.intro a1 (And.intro a2 (And.intro t0 (And.intro t1 (And.intro g0 (hz)))))))
 clear a0 a1 a2 t0 t1 g0 hz
 go_enter Tryz.func156,Tryz.ntmps156
 go_wp2_with fail
 rw [← hw1]
 clear hw1
 obtain ⟨a0,a1,a2,t0,t1,g0,hz⟩:=HE.out
 clear HE
 obtain ⟨R,hR⟩:∃ b,w.heap.size+1=b:=⟨_,rfl⟩
 rw [hR] at t0 t1 ⊢
 obtain ⟨R',hR'⟩:∃ b,R+1=b:=⟨_,rfl⟩
 rw [hR'] at t1 ⊢
 have HR:=mkHid (show w.heap.size+1=R∧R+1=R'∧R'+1=w1.heap.size by omega)
 clear hz hR hR'
 go_wp2_with fail
 refine (CC.out w1 g0).mono ?_
 rintro e w2 ⟨⟨pa,pc,qa,qc,rfl,hr⟩,g2⟩
 rw [HL.out.1,HL.out.2.1]
 have n3:=Chg.alloc [] w2 (.cells #[.bool lf,.slice pa P pc,.slice qa P qc] 53)
 obtain ⟨o0,o1,o2⟩:=laid3 w2 (.bool lf) (.slice pa P pc) (.slice qa P qc) 53
 have hR:=hr.keep n3
 have hkc:P≤pc:=by have:=hr.rk.le;rw [HL.out.1] at this;exact this
 have hvc:P≤qc:=by have:=hr.rv.le;rw [HL.out.2.1] at this;exact this
 have gA:=g2.then n3
 have s0:=there_chg t0 gA (by simp)
 have s1:=there_chg t1 gA (by simp)
 have gW:=g0.then gA
 have hs:=gA.size
 have hzz:w2.heap.size < (w2.alloc (.cells #[.bool lf,.slice pa P pc,.slice qa P qc] 53)).heap.size:=by simp
 have HA:=mkHid (And.intro o0 (And.intro o1 (And.intro o2 (And.intro hR (And.intro s0 (And.intro s1 (And.intro gW hs)))))))
 clear n3 o0 o1 o2 hR gA s0 s1 gW hs hr g2 t0 t1 a0 a1 a2
 go_wp2_with fail
 obtain ⟨o0,o1,o2,hR,t0,t1,gW,hs⟩:=HA.out
 clear HA
 generalize w2.alloc (.cells #[.bool lf,.slice pa P pc,.slice qa P qc] 53)=w3 at *
 generalize w2.heap.size=ob at *
 refine (pairs_any lf pa P pc qa P qc P (by omega) w3).mono ?_
 rintro e w4 ⟨rfl,g4⟩
 have x0:=g4.cellv o0 (by simp)
 have x1:=g4.cellv o1 (by simp)
 have x2:=g4.cellv o2 (by simp)
 have s0:=there_chg t0 g4 (by simp)
 have s1:=there_chg t1 g4 (by simp)
 have gX:=gW.then g4
 have hR2:=hR.keep g4
 have hs4:=g4.size
 clear o0 o1 o2 t0 t1 gW hR g4
 have q1:=HQ.out.1
 have q2:=HQ.out.2
 go_wp2_with fail
 clear q1 q2
 refine region_made 7 [IsV (.agg #[.bool lf,.slice pa P pc,.slice qa P qc]),IsV (.int .i64 (m:Int)),IsV (.agg #[.bool lf,.slice (cut pa m 0) m m,.slice (cut qa m 0) m m]),IsV (.agg #[.bool lf,.slice pa P pc,.slice qa P qc]),IsV (.int .i64 (m:Int)),IsV (.int .i64 (P:Int)),IsV (.agg #[.bool lf,.slice (cut pa P m) d d,.slice (cut qa P m) d d])] (by kernel_rfl) (by kernel_rfl) (by kernel_rfl) (by decide) (of_decide_eq_true (by kernel_rfl)) ⟨keepV _,keepV _,keepV _,keepV _,keepV _,keepV _,keepV _,trivial⟩ ?_ ?_
 ·refine ⟨?_,?_,?_,?_,?_,?_,?_,trivial⟩
  ·intro v u hg hd K hK
   have hz:=(Chg.drew [] w4).then hg
   have y0:=hz.cellv x0 (by simp)
   have y1:=hz.cellv x1 (by simp)
   have y2:=hz.cellv x2 (by simp)
   clear hd
   have hk:=hK.out (.agg #[.bool lf,.slice pa P pc,.slice qa P qc]) u (Chg.refl _ _) rfl
   clear hK
   simp only [zqa,zqb,zqc,zqd,zqe,putAll,Act.put,zqf,zqg,zqh,Nat.zero_add,Nat.reduceAdd] at hk ⊢
   go_simp
   exact hk
  ·intro v u hg hd K hK
   clear hd
   have hk:=hK.out (.int .i64 (m:Int)) u (Chg.refl _ _) rfl
   clear hK
   simp only [zqa,zqb,zqc,zqd,zqe,putAll,Act.put,zqf,zqg,zqh,Nat.zero_add,Nat.reduceAdd] at hk ⊢
   go_simp
   exact hk
  ·intro v u hg hd K hK
   have h0:∃ lo hi,IsV (.agg #[.bool lf,.slice pa P pc,.slice qa P qc]) (v 0) lo hi u:=dep hd 0 (by kernel_rfl)
   have e0:v 0=.agg #[.bool lf,.slice pa P pc,.slice qa P qc]:=depV h0
   have h1:∃ lo hi,IsV (.int .i64 (m:Int)) (v 1) lo hi u:=dep hd 1 (by kernel_rfl)
   have e1:v 1=.int .i64 (m:Int):=depV h1
   clear hd
   simp only [zqa,zqb,zqc,zqd,zqe,putAll,Act.put,zqf,zqg,zqh,Nat.zero_add,Nat.reduceAdd,e0,e1] at hK ⊢
   go_simp
   refine (part_anyK lf pa P pc qa P qc 0 m m u (Nat.zero_le _) hmP hmP hkc hvc rfl).mono ?_
   rintro e u' ⟨rfl,g'⟩
   have hk:=hK.out (.agg #[.bool lf,.slice (cut pa m 0) m m,.slice (cut qa m 0) m m]) u' g' rfl
   exact hk
  ·intro v u hg hd K hK
   have hz:=(Chg.drew [] w4).then hg
   have y0:=hz.cellv x0 (by simp)
   have y1:=hz.cellv x1 (by simp)
   have y2:=hz.cellv x2 (by simp)
   clear hd
   have hk:=hK.out (.agg #[.bool lf,.slice pa P pc,.slice qa P qc]) u (Chg.refl _ _) rfl
   clear hK
   simp only [zqa,zqb,zqc,zqd,zqe,putAll,Act.put,zqf,zqg,zqh,Nat.zero_add,Nat.reduceAdd] at hk ⊢
   go_simp
   exact hk
  ·intro v u hg hd K hK
   clear hd
   have hk:=hK.out (.int .i64 (m:Int)) u (Chg.refl _ _) rfl
   clear hK
   simp only [zqa,zqb,zqc,zqd,zqe,putAll,Act.put,zqf,zqg,zqh,Nat.zero_add,Nat.reduceAdd] at hk ⊢
   go_simp
   exact hk
  ·intro v u hg hd K hK
   clear hd
   have hk:=hK.out (.int .i64 (P:Int)) u (Chg.refl _ _) rfl
   clear hK
   simp only [zqa,zqb,zqc,zqd,zqe,putAll,Act.put,zqf,zqg,zqh,Nat.zero_add,Nat.reduceAdd] at hk ⊢
   go_simp
   exact hk
  ·intro v u hg hd K hK
   have h3:∃ lo hi,IsV (.agg #[.bool lf,.slice pa P pc,.slice qa P qc]) (v 3) lo hi u:=dep hd 3 (by kernel_rfl)
   have e3:v 3=.agg #[.bool lf,.slice pa P pc,.slice qa P qc]:=depV h3
   have h4:∃ lo hi,IsV (.int .i64 (m:Int)) (v 4) lo hi u:=dep hd 4 (by kernel_rfl)
   have e4:v 4=.int .i64 (m:Int):=depV h4
   have h5:∃ lo hi,IsV (.int .i64 (P:Int)) (v 5) lo hi u:=dep hd 5 (by kernel_rfl)
   have e5:v 5=.int .i64 (P:Int):=depV h5
   clear hd
   simp only [zqa,zqb,zqc,zqd,zqe,putAll,Act.put,zqf,zqg,zqh,Nat.zero_add,Nat.reduceAdd,e3,e4,e5] at hK ⊢
   go_simp
   refine (part_anyK lf pa P pc qa P qc m P d u hmP (Nat.le_refl _) (Nat.le_refl _) hkc hvc HL.out.2.2.2).mono ?_
   rintro e u' ⟨rfl,g'⟩
   have hk:=hK.out (.agg #[.bool lf,.slice (cut pa P m) d d,.slice (cut qa P m) d d]) u' g' rfl
   exact hk
 ·intro v u lo hi hg hall hbd hdj
  have e0:v 0=.agg #[.bool lf,.slice pa P pc,.slice qa P qc]:=hall 0 (by decide)
  have e1:v 1=.int .i64 (m:Int):=hall 1 (by decide)
  have e2:v 2=.agg #[.bool lf,.slice (cut pa m 0) m m,.slice (cut qa m 0) m m]:=hall 2 (by decide)
  have e3:v 3=.agg #[.bool lf,.slice pa P pc,.slice qa P qc]:=hall 3 (by decide)
  have e4:v 4=.int .i64 (m:Int):=hall 4 (by decide)
  have e5:v 5=.int .i64 (P:Int):=hall 5 (by decide)
  have e6:v 6=.agg #[.bool lf,.slice (cut pa P m) d d,.slice (cut qa P m) d d]:=hall 6 (by decide)
  have gU:=(Chg.drew [] w4).then hg
  obtain ⟨a0',a1',a2',i0,i1,i2,j0,j1,j2⟩:=there3 (there_chg s0 gU (by simp))
  obtain ⟨b0',b1',b2',k0,k1,k2,l0,l1,l2⟩:=there3 (there_chg s1 gU (by simp))
  have gZ:=three_chg u R (.bool lf) (.slice (cut pa m 0) m m) (.slice (cut qa m 0) m m)
  have gY:=three_chg (((u.setCell ⟨R,0,none⟩ (.bool lf)).setCell ⟨R,1,none⟩ (.slice (cut pa m 0) m m)).setCell ⟨R,2,none⟩ (.slice (cut qa m 0) m m)) R' (.bool lf) (.slice (cut pa P m) d d) (.slice (cut qa P m) d d)
  have hR1:=HR.out
  have hne:R' ≠ R:=by omega
  have hne2:R ≠ R':=by omega
  have gF:=((gX.then gU).trans gZ (U:=[]) (by simp) (fun q hq hlt => by simp at hq;omega)).trans gY (U:=[]) (by simp) (fun q hq hlt => by simp at hq;omega)
  have hN:=(((hR2.keep gU).chg gZ (fun q hq => by simp at hq;omega)).chg gY (fun q hq => by simp at hq;omega)).mono g0.size
  have HF:=mkHid (And.intro hN gF)
  clear hall hbd hdj hg hN gF gZ gY gU hR2 gX s0 s1 x0 x1 x2
  simp only [zqa,zqb,zqc,zqd,zqe,putAll,Act.put,zqf,zqg,zqh,Nat.zero_add,Nat.reduceAdd,e0,e1,e2,e3,e4,e5,e6]
  go_wp2_with fail
  refine bodyPost_ret (v:=.tuple #[.agg #[.bool lf,.slice (cut pa m 0) m m,.slice (cut qa m 0) m m],.agg #[.bool lf,.slice (cut pa P m) d d,.slice (cut qa P m) d d]]) (by simp [results,Tryz.results156,go_sem,i0,i1,i2,k0,k1,k2,hne,hne2]) rfl ⟨⟨pa,pc,qa,qc,?_,HF.out.1⟩,HF.out.2⟩
  rw [HL.out.1,HL.out.2.2.1,HL.out.2.2.2]
set_option maxRecDepth 20000 in
set_option maxHeartbeats 4000000 in
theorem even_any (lf:Bool) (ka:Option Addr) (kl kc:Nat) (va:Option Addr) (vl vc:Nat) (K V:List Nat) (lf':Bool) (ka':Option Addr) (kl' kc':Nat) (va':Option Addr) (vl' vc':Nat) (K' V':List Nat) (w:World) (h:RdN w ka kc va vc K V) (hk:K.length=kl) (hv:V.length=vl) (h':RdN w ka' kc' va' vc' K' V') (hk':K'.length=kl') (hv':V'.length=vl') (hb:np K V+np K' V'≤1000000000) :
  Calls Tryz.prog 183 #[.agg #[.bool lf,.slice ka kl kc,.slice va vl vc],.agg #[.bool lf',.slice ka' kl' kc',.slice va' vl' vc']] w fun e w' => SplitOut w.heap.size lf (tkK K V++tkK K' V') (tkV K V++tkV K' V') e w'∧Chg [] w w':=by
 have cC:=fun (u:World) (g:Chg [] w u) => join_any lf ka kl kc va vl vc K V lf' ka' kl' kc' va' vl' vc' K' V' u (h.keep g) hk hv (h'.keep g) hk' hv' hb
 obtain ⟨l1,l2⟩:=tk_lens (K:=K) (V:=V)
 obtain ⟨l3,l4⟩:=tk_lens (K:=K') (V:=V')
 have lX:(tkK K V++tkK K' V').length=np K V+np K' V':=by rw [List.length_append];omega
 have lY:(tkV K V++tkV K' V').length=np K V+np K' V':=by rw [List.length_append];omega
 generalize tkK K V++tkK K' V'=X at *
 generalize tkV K V++tkV K' V'=Y at *
 obtain ⟨P,hP⟩:∃ P,np K V+np K' V'=P:=⟨_,rfl⟩
 rw [hP] at lX lY hb
 have hnp:np X Y=P:=by unfold np;omega
 have htk:=tk_eq (K:=X) (V:=Y) (by omega)
 obtain ⟨m,hm⟩:∃ m,half P=m:=⟨_,rfl⟩
 obtain ⟨d,hd⟩:∃ d,P - m=d:=⟨_,rfl⟩
 have HL:=mkHid (And.intro lX (And.intro lY (And.intro hm (And.intro hd (And.intro hnp htk)))))
 have HBD:=mkHid hb
 have CC:=mkHid cC
 clear cC h hk hv h' hk' hv' hb l1 l2 l3 l4 lX lY hP hm hd hnp htk
 obtain ⟨w1,hw1⟩:∃ w1,w1=((((w.alloc (.cells #[.bool lf,.slice ka kl kc,.slice va vl vc] 53)).alloc (.cells #[.bool lf',.slice ka' kl' kc',.slice va' vl' vc'] 53)).alloc (.cells #[.bool false,.slice none 0 0,.slice none 0 0] 53)).alloc (.cells #[.bool false,.slice none 0 0,.slice none 0 0] 53)):=⟨_,rfl⟩
 have a0:w1.cell? ⟨w.heap.size,0,none⟩=some (.bool lf):=by rw [hw1];simp [go_sem]
 have a1:w1.cell? ⟨w.heap.size,1,none⟩=some (.slice ka kl kc):=by rw [hw1];simp [go_sem]
 have a2:w1.cell? ⟨w.heap.size,2,none⟩=some (.slice va vl vc):=by rw [hw1];simp [go_sem]
 have b0:w1.cell? ⟨w.heap.size+1,0,none⟩=some (.bool lf'):=by rw [hw1];simp [go_sem]
 have b1:w1.cell? ⟨w.heap.size+1,1,none⟩=some (.slice ka' kl' kc'):=by rw [hw1];simp [go_sem]
 have b2:w1.cell? ⟨w.heap.size+1,2,none⟩=some (.slice va' vl' vc'):=by rw [hw1];simp [go_sem]
 have t0:w1.there (w.heap.size+1+1) 0 3:=fun j hj => by
  rw [hw1]
  match j,hj with
  | 0,_ => simp [go_sem]
  | 1,_ => simp [go_sem]
  | 2,_ => simp [go_sem]
 have t1:w1.there (w.heap.size+1+1+1) 0 3:=fun j hj => by
  rw [hw1]
  match j,hj with
  | 0,_ => simp [go_sem]
  | 1,_ => simp [go_sem]
  | 2,_ => simp [go_sem]
 have g0:Chg [] w w1:=by rw [hw1];exact (((Chg.alloc [] w _).then (Chg.alloc [] _ _)).then (Chg.alloc [] _ _)).then (Chg.alloc [] _ _)
 have hz:w1.heap.size=w.heap.size+4:=by rw [hw1];simp
 have HE:=mkHid (And.intro a0 (And.intro a1 (And.intro a2 (And.intro b0 (And.intro b1 (And.intro b2 (And.intro t0 (And.intro t1 (And.intro g0 (hz))))))))))
 clear a0 a1 a2 b0 b1 b2 t0 t1 g0 hz
 go_enter Tryz.func183,Tryz.ntmps183
 go_wp2_with fail
 rw [← hw1]
 clear hw1
 obtain ⟨a0,a1,a2,b0,b1,b2,t0,t1,g0,hz⟩:=HE.out
 clear HE
 obtain ⟨B1,hB1⟩:∃ b,w.heap.size+1=b:=⟨_,rfl⟩
 rw [hB1] at b0 b1 b2 t0 t1 ⊢
 obtain ⟨R,hR⟩:∃ b,B1+1=b:=⟨_,rfl⟩
 rw [hR] at t0 t1 ⊢
 obtain ⟨R',hR'⟩:∃ b,R+1=b:=⟨_,rfl⟩
 rw [hR'] at t1 ⊢
 have HR:=mkHid (show w.heap.size+1=B1∧B1+1=R∧R+1=R'∧R'+1=w1.heap.size by omega)
 clear hz hB1 hR hR'
 go_wp2_with fail
 refine (CC.out w1 g0).mono ?_
 rintro e w2 ⟨⟨pa,pc,qa,qc,rfl,hr⟩,g2⟩
 have rd:=hr.rd (by have:=HL.out.1;have:=HBD.out;omega) (by have:=HL.out.2.1;have:=HBD.out;omega)
 rw [HL.out.1,HL.out.2.1]
 have cS:=split_any lf pa P pc qa P qc X Y w2 rd HL.out.1 HL.out.2.1 (by rw [HL.out.2.2.2.2.1];exact HBD.out)
 rw [HL.out.2.2.2.2.2.1,HL.out.2.2.2.2.2.2] at cS
 have CS:=mkHid cS
 clear cS rd hr
 go_wp2_with fail
 refine CS.out.mono ?_
 rintro e w4 ⟨⟨ja,jc,jb,jd,rfl,hN⟩,g4⟩
 rw [HL.out.1,HL.out.2.2.1,HL.out.2.2.2.1]
 have gA:=g2.then g4
 have s0:=there_chg t0 gA (by simp)
 have s1:=there_chg t1 gA (by simp)
 have gX:=g0.then gA
 have hs:=gA.size
 have hs2:=g2.size
 clear gA t0 t1 a0 a1 a2 b0 b1 b2
 have gU:=Chg.refl [] w4
 obtain ⟨a0',a1',a2',i0,i1,i2,j0,j1,j2⟩:=there3 (there_chg s0 gU (by simp))
 obtain ⟨b0',b1',b2',k0,k1,k2,l0,l1,l2⟩:=there3 (there_chg s1 gU (by simp))
 have gZ:=three_chg w4 R (.bool lf) (.slice (cut ja m 0) m m) (.slice (cut jb m 0) m m)
 have gY:=three_chg (((w4.setCell ⟨R,0,none⟩ (.bool lf)).setCell ⟨R,1,none⟩ (.slice (cut ja m 0) m m)).setCell ⟨R,2,none⟩ (.slice (cut jb m 0) m m)) R' (.bool lf) (.slice (cut ja P m) d d) (.slice (cut jb P m) d d)
 have hR1:=HR.out
 have hne:R' ≠ R:=by omega
 have hne2:R ≠ R':=by omega
 have gF:=((gX.then gU).trans gZ (U:=[]) (by simp) (fun q hq hlt => by simp at hq;omega)).trans gY (U:=[]) (by simp) (fun q hq hlt => by simp at hq;omega)
 have hM:=((hN.chg gZ (fun q hq => by simp at hq;omega)).chg gY (fun q hq => by simp at hq;omega)).mono (show w.heap.size≤w2.heap.size from Nat.le_trans g0.size g2.size)
 have HF:=mkHid (And.intro hM gF)
 clear hM gF gZ gY gU hN gX s0 s1 g2 g4
 go_wp2_with fail
 refine bodyPost_ret (v:=.tuple #[.agg #[.bool lf,.slice (cut ja m 0) m m,.slice (cut jb m 0) m m],.agg #[.bool lf,.slice (cut ja P m) d d,.slice (cut jb P m) d d]]) (by simp [results,Tryz.results183,go_sem,i0,i1,i2,k0,k1,k2,hne,hne2]) rfl ⟨⟨ja,jc,jb,jd,?_,HF.out.1⟩,HF.out.2⟩
 rw [HL.out.1,HL.out.2.2.1,HL.out.2.2.2.1]
end
section
open Go.RowKit
attribute [local go_sem ↓] Go.wp_at_zero Go.wp_at_succ
set_option maxRecDepth 20000 in
theorem findlit_any (b:Nat) (k x:Nat) (w:World) (hc:w.cell? ⟨b,0,none⟩=some (.int .u64 (x:Int))):Calls Tryz.prog 162 #[.int .u64 (k:Int),.pointer (some ⟨b,0,none⟩)] w fun e w' => e=.returned (.bool (decide (k < x)))∧w=w':=by
 go_enter Tryz.func162,Tryz.ntmps162
 go_wp2_with fail
 go_ret
 first | exact ⟨rfl,rfl⟩ | exact ⟨ret_bool' (by rw [Bool.eq_iff_iff];simp),rfl⟩
set_option maxRecDepth 20000 in
theorem childlit_any (b:Nat) (k x:Nat) (w:World) (hc:w.cell? ⟨b,0,none⟩=some (.int .u64 (x:Int))):Calls Tryz.prog 118 #[.int .u64 (k:Int),.pointer (some ⟨b,0,none⟩)] w fun e w' => e=.returned (.bool (decide (k≤x)))∧w=w':=by
 go_enter Tryz.func118,Tryz.ntmps118
 go_wp2_with fail
 go_ret
 first | exact ⟨rfl,rfl⟩ | exact ⟨ret_bool' (by rw [Bool.eq_iff_iff];simp),rfl⟩
set_option maxRecDepth 20000 in
set_option maxHeartbeats 1000000 in
theorem run_any (lf:Bool) (ka:Option Addr) (kl kc:Nat) (va:Option Addr) (vl vc:Nat) (K V:List Nat) (w:World) (h:RdN w ka kc va vc K V) (hk:K.length=kl) (hv:V.length=vl) (p:Nat→Bool) (g:Nat) (lb:Array Value) (he:Enters Tryz.prog g)
  (hf:∀ (k:Nat) (w1:World),Chg [] w w1→Calls Tryz.prog g (#[.int .u64 (k:Int)]++lb) w1 fun e w' => e=.returned (.bool (p k))∧w1=w') :
  Calls Tryz.prog 117 #[.agg #[.bool lf,.slice ka kl kc,.slice va vl vc],.func (.func g) #[] lb] w fun e w' => e=.returned (.int .i64 (runN p K V:Nat))∧Chg [] w w':=by
 have hkc:=h.ck
 have hbk:=h.bk
 have g0:=Chg.alloc [] w (.cells #[.bool lf,.slice ka kl kc,.slice va vl vc] 53)
 obtain ⟨c0,c1,c2⟩:=laid3 w (.bool lf) (.slice ka kl kc) (.slice va vl vc) 53
 have h1:=h.keep g0
 obtain ⟨P,hP⟩:∃ P,np K V=P:=⟨_,rfl⟩
 have cP:=pairs_any lf ka kl kc va vl vc P (by rw [min_np hk hv,hP])
 have hPk:P≤kl:=by rw [← hP,← hk];exact np_le.1
 have hklb:kl≤140737488351232:=by omega
 have hklc:kl≤kc:=by omega
 have HC:=mkHid (And.intro c0 (And.intro c1 c2))
 have HP:=mkHid hP
 have HK:=mkHid hk
 have HF:=mkHid hf
 have hsl:=fun u:World => run_take_k (P:=Tryz.prog) (t:=35) (e:=34) ka kl kc P Tryz.underlying35 (by kernel_rfl) (by omega) u
 have eg:∀ (args:Array Value) (w:World),(callFunc g args).run Tryz.prog w=.ok (.enter g args) w:=he
 clear c0 c1 c2 hk hv h hP hf he
 go_enter Tryz.func117,Tryz.ntmps117
 go_wp2_with fail
 generalize w.alloc (.cells #[.bool lf,.slice ka kl kc,.slice va vl vc] 53)=w1 at *
 generalize w.heap.size=b at *
 obtain ⟨c0,c1,c2⟩:=HC.out
 refine (cP w1).mono ?_
 rintro e w2 ⟨rfl,g2⟩
 have x1:=g2.cellv c1 (by simp)
 have gA:=g0.then g2
 have hr:=h1.keep g2
 go_wp2_with fail
 go_loopw [15] (fun iv wr => ∃ k:Nat,iv=.int .i64 k∧k≤runN p K V∧k≤P∧w2=wr) (fun iv _ => P - (Go.RowKit.intOf iv).toNat)
 case atStart => exact ⟨0,rfl,Nat.zero_le _,Nat.zero_le _,rfl⟩
 case round =>
  obtain ⟨k,rfl,hkr,hkP,rfl⟩:=hrel
  by_cases hlt:k < P
  ·have d1:decide (k < P)=true:=decide_eq_true hlt
   have d2:decide ((k:Int) < (P:Int))=true:=decide_eq_true (by omega)
   have hkl:k < kl:=by omega
   obtain ⟨y,hy⟩:∃ y,K[k]?=some y:=⟨_,List.getElem?_eq_getElem (by rw [HK.out];exact hkl)⟩
   obtain ⟨kb,ko,rfl,ck,_⟩:=reads_lt hr.rk k _ (uvs_get hy)
   cases hp:p y with
   | true =>
    have hs:k+1≤runN p K V:=run_step hkr (by rw [HP.out];exact hlt) hy hp
    have HPY:=mkHid hp
    clear hr hy hp
    go_wp2_with fail
    refine (HF.out y _ gA).mono ?_
    rw [HPY.out]
    rintro e w3 ⟨rfl,rfl⟩
    go_wp2_with fail
    exact ⟨⟨k+1,by first | rfl | go_num,hs,by omega,by first | trivial | rfl⟩,by simp [Go.RowKit.intOf];omega⟩
   | false =>
    have hs:runN p K V=k:=run_stop hkr (by rw [HP.out];exact hlt) hy hp
    have HS:=mkHid hs
    have HPY:=mkHid hp
    clear hr hy hp hs
    go_wp2_with fail
    refine (HF.out y _ gA).mono ?_
    rw [HPY.out]
    rintro e w3 ⟨rfl,rfl⟩
    go_wp2_with fail
    go_ret
    rw [HS.out]
    exact ⟨rfl,gA⟩
  ·have hke:k=P:=by omega
   have d1:decide (k < P)=false:=decide_eq_false hlt
   have d2:decide ((k:Int) < (P:Int))=false:=decide_eq_false (by omega)
   have hs:runN p K V=P:=by rw [← hke];exact run_end hkr (by rw [HP.out];exact hlt)
   have HS:=mkHid hs
   clear hr hs hke
   go_wp2_with fail
   go_ret
   rw [HS.out]
   exact ⟨rfl,gA⟩
theorem enters_find:Enters Tryz.prog 162:=enters_of Tryz.func162 (by kernel_rfl) rfl
theorem enters_child:Enters Tryz.prog 118:=enters_of Tryz.func118 (by kernel_rfl) rfl
section
variable (lf:Bool) (ka:Option Addr) (kl kc:Nat) (va:Option Addr) (vl vc:Nat) (K V:List Nat) (w:World) (h:RdN w ka kc va vc K V) (hk:K.length=kl) (hv:V.length=vl) (x:Nat)
include h hk hv
theorem run_find (b:Nat) (hb:w.cell? ⟨b,0,none⟩=some (.int .u64 (x:Int))):Calls Tryz.prog 117 #[.agg #[.bool lf,.slice ka kl kc,.slice va vl vc],.func (.func 162) #[] #[.pointer (some ⟨b,0,none⟩)]] w fun e w' => e=.returned (.int .i64 (findN x K V:Nat))∧Chg [] w w':=
 run_any lf ka kl kc va vl vc K V w h hk hv (fun k => decide (k < x)) _ _ enters_find fun k w1 g => findlit_any b k x w1 (g.cellv hb (by simp))
theorem run_child (b:Nat) (hb:w.cell? ⟨b,0,none⟩=some (.int .u64 (x:Int))):Calls Tryz.prog 117 #[.agg #[.bool lf,.slice ka kl kc,.slice va vl vc],.func (.func 118) #[] #[.pointer (some ⟨b,0,none⟩)]] w fun e w' => e=.returned (.int .i64 (runN (fun k => decide (k≤x)) K V:Nat))∧Chg [] w w':=
 run_any lf ka kl kc va vl vc K V w h hk hv (fun k => decide (k≤x)) _ _ enters_child fun k w1 g => childlit_any b k x w1 (g.cellv hb (by simp))
end
end
section
open Go.RowKit
attribute [local go_sem ↓] Go.wp_at_zero Go.wp_at_succ
theorem step5 {a0 a1 a2 a3 a4:Addr} {v0 v1 v2 v3 v4:Value} {W u u':World} (h:u.cell? a0=some v0∧u.cell? a1=some v1∧u.cell? a2=some v2∧u.cell? a3=some v3∧u.cell? a4=some v4∧Chg [] W u) (g:Chg [] u u'):u'.cell? a0=some v0∧u'.cell? a1=some v1∧u'.cell? a2=some v2∧u'.cell? a3=some v3∧u'.cell? a4=some v4∧Chg [] W u':=
 ⟨g.cellv h.1 (by simp),g.cellv h.2.1 (by simp),g.cellv h.2.2.1 (by simp),g.cellv h.2.2.2.1 (by simp),g.cellv h.2.2.2.2.1 (by simp),h.2.2.2.2.2.then g⟩
theorem pick5 {p0 p1 p2 p3 p4 q:Prop} (h:p0∧p1∧p2∧p3∧p4∧q):q:=h.2.2.2.2.2
theorem laid31 (w:World) (x y z u:Value) (t s:TypeId):((w.alloc (.cells #[x,y,z] t)).alloc (.cells #[u] s)).cell? ⟨w.heap.size,0,none⟩=some x∧((w.alloc (.cells #[x,y,z] t)).alloc (.cells #[u] s)).cell? ⟨w.heap.size,1,none⟩=some y∧((w.alloc (.cells #[x,y,z] t)).alloc (.cells #[u] s)).cell? ⟨w.heap.size,2,none⟩=some z∧((w.alloc (.cells #[x,y,z] t)).alloc (.cells #[u] s)).cell? ⟨w.heap.size+1,0,none⟩=some u:=by
 obtain ⟨h0,h1,h2⟩:=laid3 w x y z t
 have g:=Chg.alloc [] (w.alloc (.cells #[x,y,z] t)) (.cells #[u] s)
 refine ⟨g.cellv h0 (by simp),g.cellv h1 (by simp),g.cellv h2 (by simp),?_⟩
 have hz:(w.alloc (.cells #[x,y,z] t)).heap.size=w.heap.size+1:=by simp
 have hl:=cell_of_row _ _ 0 _ _ _ (heap_alloc_last (w.alloc (.cells #[x,y,z] t)) (.cells #[u] s))
 rw [hz] at hl
 rw [hl];rfl
set_option maxRecDepth 20000 in
set_option maxHeartbeats 1000000 in
theorem find_any (lf:Bool) (ka:Option Addr) (kl kc:Nat) (va:Option Addr) (vl vc:Nat) (K V:List Nat) (w:World) (h:RdN w ka kc va vc K V) (hk:K.length=kl) (hv:V.length=vl) (x:Nat) :
  Calls Tryz.prog 116 #[.agg #[.bool lf,.slice ka kl kc,.slice va vl vc],.int .u64 (x:Int)] w fun e w' => e=.returned (.tuple #[.int .i64 (findN x K V:Nat),.bool (isN x K V)])∧Chg [] w w':=by
 have hkc:=h.ck
 have hbk:=h.bk
 have g0:Chg [] w ((w.alloc (.cells #[.bool lf,.slice ka kl kc,.slice va vl vc] 53)).alloc (.cells #[.int .u64 (x:Int)] 34)):=(Chg.alloc [] w _).then (Chg.alloc [] _ _)
 obtain ⟨c0,c1,c2,c3⟩:=laid31 w (.bool lf) (.slice ka kl kc) (.slice va vl vc) (.int .u64 (x:Int)) 53 34
 have h1:=h.keep g0
 obtain ⟨P,hP⟩:∃ P,np K V=P:=⟨_,rfl⟩
 have cP:=pairs_any lf ka kl kc va vl vc P (by rw [min_np hk hv,hP])
 have hPk:P≤kl:=by rw [← hP,← hk];exact np_le.1
 have hklb:kl≤140737488351232:=by omega
 have HC:=mkHid (And.intro c0 (And.intro c1 (And.intro c2 c3)))
 have HP:=mkHid hP
 have HK:=mkHid hk
 have HV:=mkHid hv
 clear c0 c1 c2 c3 hk hv h hP
 go_enter Tryz.func116,Tryz.ntmps116
 go_wp2_with fail
 generalize (w.alloc (.cells #[.bool lf,.slice ka kl kc,.slice va vl vc] 53)).alloc (.cells #[.int .u64 (x:Int)] 34)=w1 at *
 generalize w.heap.size+1=xb at *
 generalize w.heap.size=b at *
 obtain ⟨c0,c1,c2,c3⟩:=HC.out
 go_wp2_with fail
 refine (run_find lf ka kl kc va vl vc K V w1 h1 HK.out HV.out x xb c3).mono ?_
 rintro e w2 ⟨rfl,g2⟩
 have x0:=g2.cellv c0 (by simp)
 have x1:=g2.cellv c1 (by simp)
 have x2:=g2.cellv c2 (by simp)
 have x3:=g2.cellv c3 (by simp)
 have hr:=h1.keep g2
 have gA:=g0.then g2
 obtain ⟨k,hkf⟩:∃ k,findN x K V=k:=⟨_,rfl⟩
 have hkP:k≤P:=by rw [← hkf,← HP.out];exact run_le _ _ _
 rw [hkf]
 have HF:=mkHid hkf
 clear c0 c1 c2 c3 HC hkf
 by_cases hlt:k < P
 ·have d1:decide (k < P)=true:=decide_eq_true hlt
  have d2:decide ((k:Int) < (P:Int))=true:=decide_eq_true (by omega)
  have hkl:k < kl:=by omega
  obtain ⟨y,hy⟩:∃ y,K[k]?=some y:=⟨_,List.getElem?_eq_getElem (by rw [HK.out];exact hkl)⟩
  obtain ⟨kb,ko,rfl,ck,_⟩:=reads_lt hr.rk k _ (uvs_get hy)
  have hi:isN x K V=decide (y=x):=is_at (by rw [HF.out,HP.out];exact hlt) (by rw [HF.out];exact hy)
  have HI:=mkHid hi
  clear hr hy hi
  by_cases hxy:y=x
  ·have e3:((y:Int) == (x:Int))=true:=by simp;omega
   have e4:(y == x)=true:=by simp;omega
   have HX:=mkHid hxy
   clear hxy
   go_wp2_with fail
   go_region_held3 (fun u => u.cell? ⟨b,0,none⟩=some (.bool lf)∧u.cell? ⟨b,1,none⟩=some (.slice (some ⟨kb,ko,none⟩) kl kc)∧u.cell? ⟨b,2,none⟩=some (.slice va vl vc)∧u.cell? ⟨kb,ko+k,none⟩=some (.int .u64 (y:Int))∧u.cell? ⟨xb,0,none⟩=some (.int .u64 (x:Int))∧Chg [] w1 u)
    (first | exact ⟨(Chg.drew [] _).cellv x0 (by simp),(Chg.drew [] _).cellv x1 (by simp),(Chg.drew [] _).cellv x2 (by simp),(Chg.drew [] _).cellv ck (by simp),(Chg.drew [] _).cellv x3 (by simp),g2.then (Chg.drew [] _)⟩ | exact step5 (by assumption) (by assumption) | assumption)
    (first | (go_at_call 150;refine (cP _).mono ?_;rintro e w3 ⟨rfl,g3⟩))
   have hg4:Chg [] w1 w3:=pick5 (by assumption)
   go_wp2_with fail
   go_ret2
   rw [HF.out,HI.out,decide_eq_true HX.out]
   exact ⟨rfl,g0.then hg4⟩
  ·have e3:((y:Int) == (x:Int))=false:=by simp;omega
   have e4:(y == x)=false:=by simp;omega
   have HX:=mkHid hxy
   clear hxy
   go_wp2_with fail
   go_region_held3 (fun u => u.cell? ⟨b,0,none⟩=some (.bool lf)∧u.cell? ⟨b,1,none⟩=some (.slice (some ⟨kb,ko,none⟩) kl kc)∧u.cell? ⟨b,2,none⟩=some (.slice va vl vc)∧u.cell? ⟨kb,ko+k,none⟩=some (.int .u64 (y:Int))∧u.cell? ⟨xb,0,none⟩=some (.int .u64 (x:Int))∧Chg [] w1 u)
    (first | exact ⟨(Chg.drew [] _).cellv x0 (by simp),(Chg.drew [] _).cellv x1 (by simp),(Chg.drew [] _).cellv x2 (by simp),(Chg.drew [] _).cellv ck (by simp),(Chg.drew [] _).cellv x3 (by simp),g2.then (Chg.drew [] _)⟩ | exact step5 (by assumption) (by assumption) | assumption)
    (first | (go_at_call 150;refine (cP _).mono ?_;rintro e w3 ⟨rfl,g3⟩))
   have hg4:Chg [] w1 w3:=pick5 (by assumption)
   go_wp2_with fail
   go_ret2
   rw [HF.out,HI.out,decide_eq_false HX.out]
   exact ⟨rfl,g0.then hg4⟩
 ·have d1:decide (k < P)=false:=decide_eq_false hlt
  have d2:decide ((k:Int) < (P:Int))=false:=decide_eq_false (by omega)
  have hi:isN x K V=false:=is_end (by rw [HF.out,HP.out];exact hlt)
  have HI:=mkHid hi
  clear hr hi
  go_wp2_with fail
  refine wp_region_held_drew (S:=fun u => u.cell? ⟨b,0,none⟩=some (.bool lf)∧u.cell? ⟨b,1,none⟩=some (.slice ka kl kc)∧u.cell? ⟨b,2,none⟩=some (.slice va vl vc)∧Chg [] w1 u) (by kernel_rfl) ?_ (fun hH => ?_)
  ·exact ⟨(Chg.drew [] _).cellv x0 (by simp),(Chg.drew [] _).cellv x1 (by simp),(Chg.drew [] _).cellv x2 (by simp),g2.then (Chg.drew [] _)⟩
  refine wpAnyH_take (i:=0) (oi:={ dst:=some 10,op:=_,type:=_,pos:=_,after:=_,guard:=none }) (v:=?_) rfl (by kernel_rfl) (by kernel_rfl) (by kernel_rfl) (fun _ _ _ h => h) (Or.inl ⟨by rfl,?_⟩) hH ?_
  rotate_left
  ·intro u hSu
   try dsimp only at hSu
   go_simp
   try with_reducible rfl
  try simp only [Act.put,zqf,zqg,zqh]
  refine wpAnyH_take (i:=1) (oi:={ dst:=some 11,op:=_,type:=_,pos:=_,after:=_,guard:=none }) (v:=?_) rfl (by kernel_rfl) (by kernel_rfl) (by kernel_rfl) (fun _ _ _ h => h) (Or.inl ⟨by rfl,?_⟩) hH ?_
  rotate_left
  ·intro u hSu
   try dsimp only at hSu
   go_simp
   try with_reducible rfl
  try simp only [Act.put,zqf,zqg,zqh]
  refine wpAnyH_take (i:=2) (oi:={ dst:=some 12,op:=_,type:=_,pos:=_,after:=_,guard:=none }) (v:=?_) rfl (by kernel_rfl) (by kernel_rfl) (by kernel_rfl) (fun _ _ _ h => h) (Or.inl ⟨by rfl,?_⟩) hH ?_
  rotate_left
  ·intro u hSu
   try dsimp only at hSu
   go_simp
   try with_reducible rfl
  try simp only [Act.put,zqf,zqg,zqh]
  refine wpAnyH_ready (rs:=[3]) (by kernel_rfl) (by simp) ?_
  refine AllReadyH.cons (o:={ dst:=some 13,op:=_,type:=_,pos:=_,after:=_,guard:=none }) rfl (fun K hK => ?_) AllReadyH.nil
  go_simp
  go_at_call 150
  refine (cP _).mono ?_
  rintro e w3 ⟨rfl,g3⟩
  have hS3:=step3 hH g3
  clear hH
  refine hK.out _ _ hS3 (fun hH => ?_)
  clear hK K
  try simp only [Act.put,zqf,zqg,zqh]
  refine wpAnyH_take (i:=4) (oi:={ dst:=some 14,op:=_,type:=_,pos:=_,after:=_,guard:=none }) (v:=?_) rfl (by kernel_rfl) (by kernel_rfl) (by kernel_rfl) (fun _ _ _ h => h) (Or.inl ⟨by rfl,?_⟩) hH ?_
  rotate_left
  ·intro u hSu
   try dsimp only at hSu
   go_simp
   try with_reducible rfl
  try simp only [Act.put,zqf,zqg,zqh]
  refine wpAnyH_take (i:=5) (oi:={ dst:=some 15,op:=_,type:=_,pos:=_,after:=_,guard:=none }) (v:=?_) rfl (by kernel_rfl) (by kernel_rfl) (by kernel_rfl) (fun _ _ _ h => h) (Or.inl ⟨by rfl,?_⟩) hH ?_
  rotate_left
  ·intro u hSu
   try dsimp only at hSu
   go_simp
   try with_reducible rfl
  try simp only [Act.put,zqf,zqg,zqh]
  refine wpAnyH_take (i:=6) (oi:={ dst:=some 16,op:=_,type:=_,pos:=_,after:=_,guard:=some (5,true) }) (v:=undef) rfl (by kernel_rfl) (by kernel_rfl) (by kernel_rfl) (fun _ _ _ h => h) (Or.inr ⟨by rfl,rfl⟩) hH ?_
  try simp only [Act.put,zqf,zqg,zqh]
  refine wpAnyH_take (i:=7) (oi:={ dst:=some 17,op:=_,type:=_,pos:=_,after:=_,guard:=some (5,true) }) (v:=undef) rfl (by kernel_rfl) (by kernel_rfl) (by kernel_rfl) (fun _ _ _ h => h) (Or.inr ⟨by rfl,rfl⟩) hH ?_
  try simp only [Act.put,zqf,zqg,zqh]
  refine wpAnyH_take (i:=8) (oi:={ dst:=some 18,op:=_,type:=_,pos:=_,after:=_,guard:=some (5,true) }) (v:=undef) rfl (by kernel_rfl) (by kernel_rfl) (by kernel_rfl) (fun _ _ _ h => h) (Or.inr ⟨by rfl,rfl⟩) hH ?_
  try simp only [Act.put,zqf,zqg,zqh]
  refine wpAnyH_take (i:=9) (oi:={ dst:=some 19,op:=_,type:=_,pos:=_,after:=_,guard:=some (5,true) }) (v:=undef) rfl (by kernel_rfl) (by kernel_rfl) (by kernel_rfl) (fun _ _ _ h => h) (Or.inr ⟨by rfl,rfl⟩) hH ?_
  try simp only [Act.put,zqf,zqg,zqh]
  refine wpAnyH_take (i:=10) (oi:={ dst:=some 20,op:=_,type:=_,pos:=_,after:=_,guard:=some (5,true) }) (v:=undef) rfl (by kernel_rfl) (by kernel_rfl) (by kernel_rfl) (fun _ _ _ h => h) (Or.inr ⟨by rfl,rfl⟩) hH ?_
  try simp only [Act.put,zqf,zqg,zqh]
  refine wpAnyH_take (i:=11) (oi:={ dst:=some 21,op:=_,type:=_,pos:=_,after:=_,guard:=some (5,true) }) (v:=undef) rfl (by kernel_rfl) (by kernel_rfl) (by kernel_rfl) (fun _ _ _ h => h) (Or.inr ⟨by rfl,rfl⟩) hH ?_
  try simp only [Act.put,zqf,zqg,zqh]
  refine wpAnyH_take (i:=12) (oi:={ dst:=some 22,op:=_,type:=_,pos:=_,after:=_,guard:=some (5,true) }) (v:=undef) rfl (by kernel_rfl) (by kernel_rfl) (by kernel_rfl) (fun _ _ _ h => h) (Or.inr ⟨by rfl,rfl⟩) hH ?_
  try simp only [Act.put,zqf,zqg,zqh]
  refine wpAnyH_take (i:=13) (oi:={ dst:=some 23,op:=_,type:=_,pos:=_,after:=_,guard:=none }) (v:=?_) rfl (by kernel_rfl) (by kernel_rfl) (by kernel_rfl) (fun _ _ _ h => h) (Or.inl ⟨by rfl,?_⟩) hH ?_
  rotate_left
  ·intro u hSu
   try dsimp only at hSu
   go_simp
   try with_reducible rfl
  try simp only [Act.put,zqf,zqg,zqh]
  refine wpAnyH_take (i:=14) (oi:={ dst:=some 4,op:=_,type:=_,pos:=_,after:=_,guard:=none }) (v:=?_) rfl (by kernel_rfl) (by kernel_rfl) (by kernel_rfl) (fun _ _ _ h => h) (Or.inl ⟨by rfl,?_⟩) hH ?_
  rotate_left
  ·intro u hSu
   try dsimp only at hSu
   go_simp
   try with_reducible rfl
  try simp only [Act.put,zqf,zqg,zqh]
  refine wpAnyH_take (i:=15) (oi:={ dst:=some 5,op:=_,type:=_,pos:=_,after:=_,guard:=none }) (v:=?_) rfl (by kernel_rfl) (by kernel_rfl) (by kernel_rfl) (fun _ _ _ h => h) (Or.inl ⟨by rfl,?_⟩) hH ?_
  rotate_left
  ·intro u hSu
   try dsimp only at hSu
   go_simp
   try with_reducible rfl
  try simp only [Act.put,zqf,zqg,zqh]
  refine wpAnyH_done (by kernel_rfl) ?_ _
  have hg4:Chg [] w1 w3:=pick3 hS3
  go_wp2_with fail
  go_ret2
  rw [HF.out,HI.out]
  exact ⟨rfl,g0.then hg4⟩
set_option maxRecDepth 20000 in
theorem child_any (lf:Bool) (ka:Option Addr) (kl kc:Nat) (va:Option Addr) (vl vc:Nat) (K V:List Nat) (w:World) (h:RdN w ka kc va vc K V) (hk:K.length=kl) (hv:V.length=vl) (x:Nat) :
  Calls Tryz.prog 65 #[.agg #[.bool lf,.slice ka kl kc,.slice va vl vc],.int .u64 (x:Int)] w fun e w' => e=.returned (.int .i64 (childN x K V:Nat))∧Chg [] w w':=by
 have hkc:=h.ck
 have hbk:=h.bk
 have g0:Chg [] w ((w.alloc (.cells #[.bool lf,.slice ka kl kc,.slice va vl vc] 53)).alloc (.cells #[.int .u64 (x:Int)] 34)):=(Chg.alloc [] w _).then (Chg.alloc [] _ _)
 obtain ⟨c0,c1,c2,c3⟩:=laid31 w (.bool lf) (.slice ka kl kc) (.slice va vl vc) (.int .u64 (x:Int)) 53 34
 have h1:=h.keep g0
 obtain ⟨P,hP⟩:∃ P,np K V=P:=⟨_,rfl⟩
 have cP:=pairs_any lf ka kl kc va vl vc P (by rw [min_np hk hv,hP])
 have hPk:P≤kl:=by rw [← hP,← hk];exact np_le.1
 have hklb:kl≤140737488351232:=by omega
 have HC:=mkHid (And.intro c0 (And.intro c1 (And.intro c2 c3)))
 have HP:=mkHid hP
 have HK:=mkHid hk
 have HV:=mkHid hv
 clear c0 c1 c2 c3 hk hv h hP
 unfold childN
 obtain ⟨k,hkf⟩:∃ k,runN (fun k => decide (k≤x)) K V=k:=⟨_,rfl⟩
 have hkP:k≤P:=by rw [← hkf,← HP.out];exact run_le _ _ _
 rw [hkf]
 have HF:=mkHid hkf
 clear hkf
 by_cases h0:k=0
 ·have HZ:=mkHid h0
  have f1:((k:Int) - 1≤0)=True:=eq_true (by omega)
  have f2:((0:Int)≤(k:Int) - 1)=False:=eq_false (by omega)
  have f3:((k:Int)≤1)=True:=eq_true (by omega)
  have f4:((1:Int)≤(k:Int))=False:=eq_false (by omega)
  clear h0
  go_enter Tryz.func65,Tryz.ntmps65
  go_wp2_with fail
  generalize (w.alloc (.cells #[.bool lf,.slice ka kl kc,.slice va vl vc] 53)).alloc (.cells #[.int .u64 (x:Int)] 34)=w1 at *
  generalize w.heap.size+1=xb at *
  generalize w.heap.size=b at *
  obtain ⟨c0,c1,c2,c3⟩:=HC.out
  go_wp2_with fail
  refine (run_child lf ka kl kc va vl vc K V w1 h1 HK.out HV.out x xb c3).mono ?_
  rw [HF.out]
  rintro e w2 ⟨rfl,g2⟩
  go_wp2_with fail
  all_goals
   go_ret
   exact ⟨ret_int (by have:=HZ.out;omega),g0.then g2⟩
 ·have f1:((0:Int)≤(k:Int) - 1)=True:=eq_true (by omega)
  have f2:((1:Int)≤(k:Int))=True:=eq_true (by omega)
  have f3:(1≤k)=True:=eq_true (by omega)
  have hk1:1≤k:=by omega
  clear h0
  by_cases h9:k=1
  ·have HZ:=mkHid h9
   have f5:((k:Int) - 1≤0)=True:=eq_true (by omega)
   have f6:((k:Int)≤1)=True:=eq_true (by omega)
   clear h9
   go_enter Tryz.func65,Tryz.ntmps65
   go_wp2_with fail
   generalize (w.alloc (.cells #[.bool lf,.slice ka kl kc,.slice va vl vc] 53)).alloc (.cells #[.int .u64 (x:Int)] 34)=w1 at *
   generalize w.heap.size+1=xb at *
   generalize w.heap.size=b at *
   obtain ⟨c0,c1,c2,c3⟩:=HC.out
   go_wp2_with fail
   refine (run_child lf ka kl kc va vl vc K V w1 h1 HK.out HV.out x xb c3).mono ?_
   rw [HF.out]
   rintro e w2 ⟨rfl,g2⟩
   go_wp2_with fail
   all_goals
    go_ret
    exact ⟨ret_int (by have:=HZ.out;omega),g0.then g2⟩
  ·have HZ:=mkHid h9
   have f5:((k:Int) - 1≤0)=False:=eq_false (by omega)
   have f6:((k:Int)≤1)=False:=eq_false (by omega)
   clear h9
   go_enter Tryz.func65,Tryz.ntmps65
   go_wp2_with fail
   generalize (w.alloc (.cells #[.bool lf,.slice ka kl kc,.slice va vl vc] 53)).alloc (.cells #[.int .u64 (x:Int)] 34)=w1 at *
   generalize w.heap.size+1=xb at *
   generalize w.heap.size=b at *
   obtain ⟨c0,c1,c2,c3⟩:=HC.out
   go_wp2_with fail
   refine (run_child lf ka kl kc va vl vc K V w1 h1 HK.out HV.out x xb c3).mono ?_
   rw [HF.out]
   rintro e w2 ⟨rfl,g2⟩
   go_wp2_with fail
   all_goals
    go_ret
    exact ⟨ret_int (by have:=HZ.out;omega),g0.then g2⟩
end
end Go.Proofs.YtdgkbicelnnfpaaGreatDoor
