/- Texts Nm, Nn, No, Np of the library, joined. -/
import Derived.Test.YtdgkbicelnnfpaaGreatDoorM14
set_option linter.unusedVariables false
set_option linter.unusedSimpArgs false
namespace Go.Proofs.YtdgkbicelnnfpaaGreatDoor
section
open Go.RowKit
attribute [local go_sem ↓] Go.wp_at_zero Go.wp_at_succ
theorem low_take {K:List Nat} {j z:Nat} (hz:K[j]?=some z) (x:Nat):lowK (K.take (j+1)) x=decide (x≤z):=by
 have hl:=(List.getElem?_eq_some_iff.1 hz).1
 exact low_at (j:=j) (by rw [List.length_take];omega) (by rw [List.getElem?_take];simp [hz]) x
theorem ok_at {K V:List Nat} {i x v:Nat} (hx:K[i]?=some x) (hv:V[i]?=some v):okAt K V i=(!lowK (K.take i) x && pointsB v):=by
 cases i with
 | zero =>
  rw [okAt_zero hv]
  unfold pointsB
  rw [List.take_zero,low_nil]
  rw [Bool.eq_iff_iff];simp;omega
 | succ j =>
  have hl:=(List.getElem?_eq_some_iff.1 hx).1
  obtain ⟨z,hz⟩:∃ z,K[j]?=some z:=⟨_,List.getElem?_eq_getElem (by omega)⟩
  rw [okAt_succ hv hx hz,low_take hz]
  unfold pointsB
  rw [Bool.eq_iff_iff];simp;omega
set_option maxRecDepth 20000 in
set_option maxHeartbeats 1000000 in
theorem may_any (lf:Bool) (ka:Option Addr) (kl kc:Nat) (va:Option Addr) (vl vc:Nat) (K V:List Nat) (w:World) (h:RdN w ka kc va vc K V) (hk:K.length=kl) (hv:V.length=vl):Calls Tryz.prog 54 #[.agg #[.bool lf,.slice ka kl kc,.slice va vl vc]] w fun e w' => e=.returned (.bool (mayB K V))∧Chg [] w w':=by
 have hkc:kl≤kc:=by have:=h.ck;omega
 have hvc:vl≤vc:=by have:=h.cv;omega
 have hbk:kc≤9223372036854775807:=h.xk
 have hbv:vc≤9223372036854775807:=h.xv
 have g0:=Chg.alloc [] w (.cells #[.bool lf,.slice ka kl kc,.slice va vl vc] 53)
 have c1:=cell_of_row (w.alloc (.cells #[.bool lf,.slice ka kl kc,.slice va vl vc] 53)) w.heap.size 1 _ _ _ (heap_alloc_last w _)
 have c2:=cell_of_row (w.alloc (.cells #[.bool lf,.slice ka kl kc,.slice va vl vc] 53)) w.heap.size 2 _ _ _ (heap_alloc_last w _)
 have HC:=mkHid (And.intro c1 c2)
 have G0:=mkHid g0
 clear c1 c2 g0
 have cF:=fun u => few_any kl u
 have hF:fewB kl=true→kl≤8∧1≤kl:=by unfold fewB;simp;omega
 by_cases h1:fewB kl=true
 ·obtain ⟨h2,h2'⟩:=hF h1
  rw [h1] at cF
  by_cases h3:vl=kl
  ·subst h3
   have hm:mayB K V=(List.range vl).all (okAt K V):=by
    unfold mayB;rw [hk,hv,decide_eq_true h2',decide_eq_true h2];simp
   rw [hm]
   have d3:((vl:Int) != (vl:Int))=false:=by simp
   have HK:=mkHid hk
   have HV:=mkHid hv
   clear hm hk hv hF h1
   go_enter Tryz.func54,Tryz.ntmps54
   go_wp2_with (first | (go_at_call 100;refine (cF _).mono ?_;rintro e w' ⟨rfl,rfl⟩))
   generalize w.alloc (.cells #[.bool lf,.slice ka vl kc,.slice va vl vc] 53)=w1 at *
   generalize w.heap.size=b at *
   obtain ⟨c1,c2⟩:=HC.out
   have r1:=h.keep G0.out
   go_loop [23] (fun iv => ∃ k:Nat,iv=.int .i64 k∧k≤vl∧(List.range k).all (okAt K V)=true) (fun iv => vl - (Go.RowKit.intOf iv).toNat)
   case atStart => exact ⟨0,rfl,Nat.zero_le _,rfl⟩
   case round =>
    obtain ⟨k,rfl,hkn,ha⟩:=hrel
    by_cases hlt:k < vl
    ·have hd:decide (k < vl)=true:=decide_eq_true hlt
     have hd2:decide ((k:Int) < (vl:Int))=true:=decide_eq_true (by omega)
     have kL:k < K.length:=by rw [HK.out];exact hlt
     have kM:k < V.length:=by rw [HV.out];exact hlt
     obtain ⟨x,hx⟩:∃ x,K[k]?=some x:=⟨_,List.getElem?_eq_getElem kL⟩
     obtain ⟨y,hy⟩:∃ y,V[k]?=some y:=⟨_,List.getElem?_eq_getElem kM⟩
     obtain ⟨xb,xo,rfl,cx,_⟩:=reads_lt r1.rk k _ (uvs_get hx)
     obtain ⟨yb,yo,rfl,cy,_⟩:=reads_lt r1.rv k _ (uvs_get hy)
     have hok:=ok_at hx hy
     have hsn:=all_range_succ (okAt K V) k
     rw [ha,Bool.true_and,hok] at hsn
     have hrs:(Instr.slice 35 (.slice (some ⟨xb,xo,none⟩) vl kc) none (some (.int .i64 (k:Int))) none).run Tryz.prog w1=.ok (.slice (some ⟨xb,xo,none⟩) k kc) w1:=run_take_k (e:=34) (some ⟨xb,xo,none⟩) vl kc k Tryz.underlying35 (by kernel_rfl) (by omega) w1
     have cR:=rises_any (some ⟨xb,xo,none⟩) k kc (K.take k) x w1 (by rw [show uvs (K.take k)=(uvs K).take k from List.map_take ..];exact r1.rk.take k) (by rw [List.length_take];omega) (by omega) (by unfold maxLen;omega)
     have cP:=points_any y w1
     have hall:(List.range (k+1)).all (okAt K V)=false→(List.range vl).all (okAt K V)=false:=by
      intro hf
      cases hq:(List.range vl).all (okAt K V) with
      | false => rfl
      | true => exact absurd (all_mono _ (a:=k+1) (b:=vl) (by omega) hq) (by rw [hf];simp)
     have HA:=mkHid (And.intro hsn hall)
     have HX:=mkHid (And.intro hx hy)
     clear hsn hall hok ha kL kM hx hy
     generalize lowK (K.take k) x=q at *
     generalize pointsB y=p at *
     cases q with
     | true =>
      go_wp2_with (first | (go_at_call 101;refine cR.mono ?_;rintro e w' ⟨rfl,rfl⟩))
      go_ret
      rw [HA.out.2 HA.out.1]
      exact ⟨rfl,G0.out⟩
     | false =>
      cases p with
      | false =>
       go_wp2_with (first | (go_at_call 101;refine cR.mono ?_;rintro e w' ⟨rfl,rfl⟩) | (go_at_call 102;refine cP.mono ?_;rintro e w' ⟨rfl,rfl⟩))
       go_ret
       rw [HA.out.2 HA.out.1]
       exact ⟨rfl,G0.out⟩
      | true =>
       go_wp2_with (first | (go_at_call 101;refine cR.mono ?_;rintro e w' ⟨rfl,rfl⟩) | (go_at_call 102;refine cP.mono ?_;rintro e w' ⟨rfl,rfl⟩))
       go_round
       case rel => exact ⟨k+1,by first | rfl | go_num,by omega,HA.out.1⟩
       case measure => simp [Go.RowKit.intOf];omega
    ·have hkk:k=vl:=by omega
     subst hkk
     have hd:decide (k < k)=false:=by simp
     have HA:=mkHid ha
     clear ha
     go_wp2_with fail
     go_ret
     rw [HA.out]
     exact ⟨rfl,G0.out⟩
  ·have hm:mayB K V=false:=by unfold mayB;rw [hk,hv,decide_eq_false h3];simp
   rw [hm]
   have d3:((vl:Int) != (kl:Int))=true:=by simp;omega
   have d4:(vl != kl)=true:=by simp;omega
   clear hm hk hv hF h1
   go_enter Tryz.func54,Tryz.ntmps54
   go_wp2_with (first | (go_at_call 100;refine (cF _).mono ?_;rintro e w' ⟨rfl,rfl⟩))
   go_ret
   exact ⟨rfl,G0.out⟩
 ·have h1':fewB kl=false:=by simpa using h1
  have hm:mayB K V=false:=by
   have h9:(decide (1≤K.length) && decide (K.length≤8))=false:=by rw [hk];exact h1'
   unfold mayB;rw [h9];rfl
  rw [hm]
  rw [h1'] at cF
  clear hm hk hv hF h1 h1'
  go_enter Tryz.func54,Tryz.ntmps54
  go_wp2_with (first | (go_at_call 100;refine (cF _).mono ?_;rintro e w' ⟨rfl,rfl⟩))
  go_ret
  exact ⟨rfl,G0.out⟩
end
section
open Go.RowKit
attribute [local go_sem ↓] Go.wp_at_zero Go.wp_at_succ
theorem form_len {lf:Bool} {K V:List Nat} (h:V.length=K.length):(formN lf K V).length=2+16 * K.length:=by
 unfold formN;rw [List.length_cons,List.length_cons,pairs_len h];omega
theorem be_one (n:Nat):be n 1=[UInt8.ofNat n]:=by simp [be]
set_option maxRecDepth 20000 in
set_option maxHeartbeats 1000000 in
theorem put_node (lf:Bool) (ka:Option Addr) (kl kc:Nat) (va:Option Addr) (vl vc:Nat) (K V:List Nat) (w:World) (h:RdN w ka kc va vc K V) (hk:K.length=kl) (hv:V.length=vl) (hbK:∀ x∈K,x < 2 ^ 64) (hbV:∀ x∈V,x < 2 ^ 64) (hm:mayB K V=true) :
  Calls Tryz.prog 47 #[.agg #[.bool lf,.slice ka kl kc,.slice va vl vc]] w fun e w' => ∃ a c,e=.returned (.tuple #[.slice a (formN lf K V).length c,.int .i64 0])∧Room w' w.heap.size a (formN lf K V).length c (bts (formN lf K V))∧Chg [] w w':=by
 obtain ⟨l1,l2,l3⟩:=may_len hm
 have hkl8:kl≤8:=by omega
 have hkl1:1≤kl:=by omega
 have g0:=Chg.alloc [] w (.cells #[.bool lf,.slice ka kl kc,.slice va vl vc] 53)
 have c0:=cell_of_row (w.alloc (.cells #[.bool lf,.slice ka kl kc,.slice va vl vc] 53)) w.heap.size 0 _ _ _ (heap_alloc_last w _)
 have c1:=cell_of_row (w.alloc (.cells #[.bool lf,.slice ka kl kc,.slice va vl vc] 53)) w.heap.size 1 _ _ _ (heap_alloc_last w _)
 have c2:=cell_of_row (w.alloc (.cells #[.bool lf,.slice ka kl kc,.slice va vl vc] 53)) w.heap.size 2 _ _ _ (heap_alloc_last w _)
 have cM:=may_any lf ka kl kc va vl vc K V (w.alloc (.cells #[.bool lf,.slice ka kl kc,.slice va vl vc] 53)) (h.keep g0) hk hv
 rw [hm] at cM
 have HC:=mkHid (And.intro c0 (And.intro c1 c2))
 have CM:=mkHid cM
 have hvk:vl=kl:=by omega
 have HK:=mkHid hk
 have HV:=mkHid hv
 have HL:=mkHid l3
 have HVK:=mkHid hvk
 clear c0 c1 c2 cM hk hv l3 hm hvk
 go_enter Tryz.func47,Tryz.ntmps47
 go_wp2_with fail
 refine CM.out.mono ?_
 rintro e w1 ⟨rfl,g1⟩
 obtain ⟨d0,d1,d2⟩:=HC.out
 simp only [List.getElem?_toArray,List.getElem?_cons_succ,List.getElem?_cons_zero] at d0 d1 d2
 have x0:=g1.cellv d0 (by simp)
 have x1:=g1.cellv d1 (by simp)
 have x2:=g1.cellv d2 (by simp)
 have hg1:=g0.then g1
 clear CM HC d0 d1 d2 g0 g1
 generalize hbb:w.heap.size=b at *
 have HBB:=mkHid hbb
 clear hbb
 have kk:=kind_any lf w1
 obtain ⟨m,hm⟩:∃ m:Nat,(if lf=true then 1 else 0)=m:=⟨_,rfl⟩
 rw [hm] at kk
 have hm1:m≤1:=by rw [← hm];split <;> omega
 have HM:=mkHid hm
 clear hm
 go_wp2_with fail
 refine kk.mono ?_
 rintro e w' ⟨rfl,rfl⟩
 go_wp2_with fail
 refine (put_any none 0 0 [] m 1 _ (Reads.nil _ _) rfl (by simp) (by omega) (by omega) (by omega) (by omega)).mono ?_
 rintro e w3 ⟨a3,c3,rfl,r3,g3⟩
 have hr3:=r3.reads
 rw [be_one,List.nil_append] at hr3
 have y1:=g3.cellv x1 (by simp)
 have y2:=g3.cellv x2 (by simp)
 have hg3:=hg1.then g3
 have hl3:(([]:List Value)++bts (be m 1)).length=1:=by rw [be_one];rfl
 rw [hl3]
 clear x0 x1 x2 g3 hg1 r3 kk hl3
 go_wp2_with fail
 refine (put_any a3 1 c3 (bts [UInt8.ofNat m]) kl 1 _ hr3 rfl (bts_one _) (by omega) (by omega) (by omega) (by omega)).mono ?_
 rintro e w4 ⟨a4,c4,rfl,r4,g4⟩
 rw [be_one] at r4
 have hl4:(bts [UInt8.ofNat m]++bts (be kl 1)).length=2:=by rw [be_one];rfl
 rw [hl4]
 have hl5:(bts [UInt8.ofNat m]++bts [UInt8.ofNat kl]).length=2:=rfl
 rw [hl5] at r4
 have z1:=g4.cellv y1 (by simp)
 have z2:=g4.cellv y2 (by simp)
 have hg4:=hg3.then g4
 have hform:formN lf K V=[UInt8.ofNat m,UInt8.ofNat kl]++pairsN K V:=by
  unfold formN
  rw [← HM.out,← HK.out]
  cases lf <;> rfl
 have e2:bts [UInt8.ofNat m]++bts [UInt8.ofNat kl]=bts [UInt8.ofNat m,UInt8.ofNat kl]:=rfl
 rw [e2] at r4
 have hb4:b≤w3.heap.size:=by have:=hg3.size;have:=HBB.out;omega
 have hR4:=r4.mono hb4
 generalize [UInt8.ofNat m,UInt8.ofNat kl]=hd at *
 have HF:=mkHid hform
 clear hform e2 r4 hr3 g4 hg3 y1 y2 hl4 hl5
 go_wp2_with fail
 go_loopw [4,23] (fun v iv wr => ∃ (k n:Nat) (a:Option Addr) (c:Nat),iv=.int .i64 k∧v=.slice a n c∧n=2+16 * k∧k≤kl∧Room wr b a n c (bts (hd++pairsN (K.take k) (V.take k)))∧wr.cell? ⟨b,1,none⟩=some (.slice ka kl kc)∧wr.cell? ⟨b,2,none⟩=some (.slice va vl vc)∧Chg [] w wr) (fun _ iv _ => kl - (Go.RowKit.intOf iv).toNat)
 case atStart => exact ⟨0,2,a4,c4,rfl,rfl,rfl,Nat.zero_le _,by simpa [pairsN] using hR4,z1,z2,hg4⟩
 case round =>
  clear hR4 z1 z2 hg4 hb4
  obtain ⟨k,n,a,c,rfl,rfl,hnk,hkk,hR,x1,x2,hg⟩:=hrel
  by_cases hlt:k < kl
  ·have hd1:decide (k < kl)=true:=decide_eq_true hlt
   have hd2:decide ((k:Int) < (kl:Int))=true:=decide_eq_true (by omega)
   have hkK:k < K.length:=by rw [HK.out];exact hlt
   have hkV:k < V.length:=by rw [HV.out,HVK.out];exact hlt
   have hkv:k < vl:=by rw [HVK.out];exact hlt
   obtain ⟨x,hx⟩:∃ x,K[k]?=some x:=⟨_,List.getElem?_eq_getElem hkK⟩
   obtain ⟨y,hy⟩:∃ y,V[k]?=some y:=⟨_,List.getElem?_eq_getElem hkV⟩
   have hxb:=hbK x (List.mem_of_getElem? hx)
   have hyb:=hbV y (List.mem_of_getElem? hy)
   obtain ⟨kb,ko,rfl,cx,_⟩:=reads_lt ((h.keep hg).rk) k _ (uvs_get hx)
   obtain ⟨vb,vo,rfl,cy,_⟩:=reads_lt ((h.keep hg).rv) k _ (uvs_get hy)
   have hpt:=pairs_take HL.out hx hy
   have HP:=mkHid hpt
   have hlen:=hR.len
   have HN:=mkHid hnk
   have hn200:n≤200:=by omega
   have l8:∀ q,(bts (be q 8)).length=8:=fun q => by rw [bts_length,be_length]
   have hx5:(bts (hd++pairsN (K.take k) (V.take k))++bts (be x 8)).length=n+8:=by rw [List.length_append,l8,hlen]
   have hx6:((bts (hd++pairsN (K.take k) (V.take k))++bts (be x 8))++bts (be y 8)).length=n+8+8:=by rw [List.length_append,l8,hx5]
   have H56:=mkHid (And.intro hx5 hx6)
   have HLN:=mkHid hlen
   have one5:∀ u∈bts (hd++pairsN (K.take k) (V.take k)),u.oneCell'=true:=bts_one _
   have one6:∀ u∈bts (hd++pairsN (K.take k) (V.take k))++bts (be x 8),u.oneCell'=true:=fun u hu => (List.mem_append.1 hu).elim (bts_one _ u) (bts_one _ u)
   have ONE:=mkHid (And.intro one5 one6)
   have hrd:=hR.reads
   have HRD:=mkHid hrd
   clear hx hy hpt hnk hkK hkV l8 hx5 hx6 hlen hR one5 one6 hrd
   go_wp2_with fail
   refine (put_any a n c _ x 8 _ HRD.out HLN.out ONE.out.1 (by omega) (by omega) (by omega) hxb).mono ?_
   rintro e w5 ⟨a5,c5,rfl,r5,g5⟩
   rw [H56.out.1]
   rw [H56.out.1] at r5
   have hr5:=r5.reads
   have R5:=mkHid (And.intro r5 hr5)
   have cy5:=g5.cellv cy (by simp)
   have x15:=g5.cellv x1 (by simp)
   have x25:=g5.cellv x2 (by simp)
   have hg5:=hg.then g5
   clear r5 hr5 g5 hg cy cx x1 x2
   go_wp2_with fail
   refine (put_any a5 (n+8) c5 _ y 8 _ R5.out.2 H56.out.1 ONE.out.2 (by omega) (by omega) (by omega) hyb).mono ?_
   rintro e w6 ⟨a6,c6,rfl,r6,g6⟩
   rw [H56.out.2]
   rw [H56.out.2] at r6
   have x16:=g6.cellv x15 (by simp)
   have x26:=g6.cellv x25 (by simp)
   have hg6:=hg5.then g6
   have hb6:b≤w5.heap.size:=by have:=hg5.size;have:=HBB.out;omega
   have R6:=mkHid (r6.mono hb6)
   clear r6 g6 cy5 x15 x25
   go_wp2_with fail
   refine ⟨⟨k+1,n+8+8,a6,c6,by first | rfl | go_num,rfl,by have:=HN.out;omega,by omega,?_,x16,x26,hg6⟩,by simp [Go.RowKit.intOf];omega⟩
   have e:=R6.out
   rw [HP.out]
   simpa only [bts_append,List.append_assoc] using e
  ·have hke:k=kl:=by omega
   subst hke
   have hd1:decide (k < k)=false:=by simp
   have e1:K.take k=K:=List.take_of_length_le (by rw [HK.out];exact Nat.le_refl _)
   have e3:V.take k=V:=List.take_of_length_le (by rw [HV.out,HVK.out];exact Nat.le_refl _)
   rw [e1,e3] at hR
   clear e1 e3
   have HR:=mkHid hR
   have HN:=mkHid hnk
   clear hR hnk
   go_wp2_with fail
   go_ret2
   have hl:=HR.out.len
   rw [bts_length] at hl
   rw [HF.out,hl]
   exact ⟨a,c,rfl,by rw [HBB.out];exact HR.out,hg⟩
theorem put_node_no (lf:Bool) (ka:Option Addr) (kl kc:Nat) (va:Option Addr) (vl vc:Nat) (K V:List Nat) (w:World) (h:RdN w ka kc va vc K V) (hk:K.length=kl) (hv:V.length=vl) (hm:mayB K V=false) :
  Calls Tryz.prog 47 #[.agg #[.bool lf,.slice ka kl kc,.slice va vl vc]] w fun e w' => e=.returned (.tuple #[.slice none 0 0,.int .i64 1])∧Chg [] w w':=by
 have g0:=Chg.alloc [] w (.cells #[.bool lf,.slice ka kl kc,.slice va vl vc] 53)
 have cM:=may_any lf ka kl kc va vl vc K V (w.alloc (.cells #[.bool lf,.slice ka kl kc,.slice va vl vc] 53)) (h.keep g0) hk hv
 rw [hm] at cM
 have CM:=mkHid cM
 clear cM hk hv hm
 go_enter Tryz.func47,Tryz.ntmps47
 go_wp2_with fail
 refine CM.out.mono ?_
 rintro e w1 ⟨rfl,g1⟩
 go_wp2_with fail
 go_ret2
 exact ⟨rfl,g0.then g1⟩
end
section
open Go.RowKit
attribute [local go_sem ↓] Go.wp_at_zero Go.wp_at_succ
structure Rdr (w:World) (rb:Nat) (ao:Option Addr) (n c:Nat) (l:List UInt8) (e:Int):Prop where
 c0:w.cell? ⟨rb,0,none⟩=some (.slice ao n c)
 c1:w.cell? ⟨rb,1,none⟩=some (.int .i64 e)
 f0:w.frozen? ⟨rb,0,none⟩=false
 f1:w.frozen? ⟨rb,1,none⟩=false
 rd:Reads w ao (bts l)
 ln:l.length=n
 le:n≤c
 mx:c≤maxLen
 ap:0 < n→∀ k,k∈blk ao→k ≠ rb
theorem Rdr.keep {w w':World} {rb:Nat} {ao:Option Addr} {n c:Nat} {l:List UInt8} {e:Int} {S:List Nat} (h:Rdr w rb ao n c l e) (g:Chg S w w') (hs:rb ∉ S) (ha:0 < n→∀ k,k∈blk ao→k ∉ S):Rdr w' rb ao n c l e:=
 ⟨g.cellv h.c0 hs,g.cellv h.c1 hs,(g.frozen (block_lt_of_cell h.c0) hs).trans h.f0,(g.frozen (block_lt_of_cell h.c1) hs).trans h.f1,h.rd.chg0 g (fun hp => ha (by rw [bts_length,h.ln] at hp;exact hp)),h.ln,h.le,h.mx,h.ap⟩
theorem Rdr.err {w:World} {rb:Nat} {ao:Option Addr} {n c:Nat} {l:List UInt8} {e:Int} (h:Rdr w rb ao n c l e) (e':Int):Rdr (w.setCell ⟨rb,1,none⟩ (.int .i64 e')) rb ao n c l e':=by
 have g:=Chg.setCell w ⟨rb,1,none⟩ (.int .i64 e')
 refine ⟨?_,?_,?_,?_,h.rd.chg0 g (fun hp => by simpa using h.ap (by rw [bts_length,h.ln] at hp;exact hp)),h.ln,h.le,h.mx,h.ap⟩
 ·rw [World.cell?_setCell_other _ _ _ _ (by simp)];exact h.c0
 ·exact World.cell?_setCell_same _ _ _ h.c1
 ·rw [World.frozen?_setCell];exact h.f0
 ·rw [World.frozen?_setCell];exact h.f1
theorem Rdr.next {w:World} {rb:Nat} {ao:Option Addr} {n c:Nat} {l:List UInt8} {e:Int} (h:Rdr w rb ao n c l e) (s:Nat) (hs:s≤n):Rdr (w.setCell ⟨rb,0,none⟩ (.slice (cut ao c s) (n - s) (c - s))) rb (cut ao c s) (n - s) (c - s) (l.drop s) e:=by
 have g:=Chg.setCell w ⟨rb,0,none⟩ (.slice (cut ao c s) (n - s) (c - s))
 have hle:=h.le
 have hmx:=h.mx
 refine ⟨World.cell?_setCell_same _ _ _ h.c0,?_,?_,?_,?_,by rw [List.length_drop,h.ln],by omega,by omega,fun hp k hk => h.ap (by omega) k (by rwa [blk_cut] at hk)⟩
 ·rw [World.cell?_setCell_other _ _ _ _ (by simp)];exact h.c1
 ·rw [World.frozen?_setCell];exact h.f0
 ·rw [World.frozen?_setCell];exact h.f1
 ·have h1:=h.rd.chg0 g (fun hp => by simpa using h.ap (by rw [bts_length,h.ln] at hp;exact hp))
  have h2:=h1.cut c s (by rw [bts_length,h.ln];exact h.le)
  have e2:bts (l.drop s)=(bts l).drop s:=by simp [bts,List.map_drop]
  rw [e2]
  exact h2
def numN (f:Nat→Bool) (s:Nat) (l:List UInt8) (e:Int):Nat × List UInt8 × Int:=
 if e ≠ 0 then (0,l,e) else if l.length < s then (0,l,4) else if f (val (l.take s))=true then (val (l.take s),l.drop s,0) else (0,l,5)
theorem numN_err {f:Nat→Bool} {s:Nat} {l:List UInt8} {e:Int} (h:e ≠ 0):numN f s l e=(0,l,e):=if_pos h
theorem numN_short {f:Nat→Bool} {s:Nat} {l:List UInt8} (h:l.length < s):numN f s l 0=(0,l,4):=by unfold numN;rw [if_neg (by simp),if_pos h]
theorem numN_yes {f:Nat→Bool} {s:Nat} {l:List UInt8} (h:¬ l.length < s) (hf:f (val (l.take s))=true):numN f s l 0=(val (l.take s),l.drop s,0):=by unfold numN;rw [if_neg (by simp),if_neg h,if_pos hf]
theorem numN_no {f:Nat→Bool} {s:Nat} {l:List UInt8} (h:¬ l.length < s) (hf:f (val (l.take s))=false):numN f s l 0=(0,l,5):=by unfold numN;rw [if_neg (by simp),if_neg h,if_neg (by simp [hf])]
def NumPost (w:World) (rb:Nat) (ao0:Option Addr) (n0:Nat) (r:Nat × List UInt8 × Int) (e:Ending) (w':World):Prop:=
 ∃ ao n c,e=.returned (.int .u64 (r.1:Int))∧Rdr w' rb ao n c r.2.1 r.2.2∧Chg [rb] w w'∧w'.heap.size=w.heap.size∧r.1 < 2 ^ 64∧n≤n0∧blk ao=blk ao0
section
variable {w:World} {rb:Nat} {ao:Option Addr} {n c:Nat} {l:List UInt8} {er:Int} (h:Rdr w rb ao n c l er) (s:Nat) (h1:1≤s) (h8:s≤8)
include h
theorem number_err (hne:er ≠ 0) (z:Int) (v:Value):Calls Tryz.prog 98 #[.pointer (some ⟨rb,0,none⟩),.int .i64 z,v] w fun e w' => e=.returned (.int .u64 0)∧w=w':=by
 have c1:=h.c1
 have d1:(er != 0)=true:=by simp;exact hne
 go_enter Tryz.func98,Tryz.ntmps98
 go_wp2
 go_ret
 exact ⟨rfl,rfl⟩
include h1 h8
theorem number_short (he:er=0) (hl:n < s) (v:Value):Calls Tryz.prog 98 #[.pointer (some ⟨rb,0,none⟩),.int .i64 (s:Int),v] w fun e w' => e=.returned (.int .u64 0)∧w'=w.setCell ⟨rb,1,none⟩ (.int .i64 4):=by
 subst he
 have c1:=h.c1
 have c0:=h.c0
 have f1:=h.f1
 have cG:=get_short ao n c s w h1 h8 hl
 go_enter Tryz.func98,Tryz.ntmps98
 go_wp2_with (first | (go_at_call 144;refine cG.mono ?_;rintro e w' ⟨rfl,rfl⟩))
 go_ret
 exact ⟨rfl,rfl⟩
theorem number_known_no (he:er=0) (hl:¬ n < s) (hf:knownB (val (l.take s))=false):Calls Tryz.prog 98 #[.pointer (some ⟨rb,0,none⟩),.int .i64 (s:Int),.func (.func 145) #[] #[]] w fun e w' => e=.returned (.int .u64 0)∧w'=w.setCell ⟨rb,1,none⟩ (.int .i64 5):=by
 subst he
 have c1:=h.c1
 have c0:=h.c0
 have f1:=h.f1
 have cG:=get_yes ao n c l s w h.rd h.ln h.le h.mx h1 h8 (by omega)
 have cF:=known_any (val (l.take s)) w
 rw [hf] at cF
 unfold GetPost at cG
 generalize val (l.take s)=x at *
 clear hf
 go_enter Tryz.func98,Tryz.ntmps98
 go_wp2_with (first | (go_at_call 144;refine cG.mono ?_;rintro e w' ⟨rfl,rfl⟩) | (go_at_call 145;refine cF.mono ?_;rintro e w' ⟨rfl,rfl⟩))
 go_ret
 exact ⟨rfl,rfl⟩
theorem number_known_yes (he:er=0) (hl:¬ n < s) (hf:knownB (val (l.take s))=true):Calls Tryz.prog 98 #[.pointer (some ⟨rb,0,none⟩),.int .i64 (s:Int),.func (.func 145) #[] #[]] w fun e w' => e=.returned (.int .u64 (val (l.take s):Int))∧w'=w.setCell ⟨rb,0,none⟩ (.slice (cut ao c s) (n - s) (c - s)):=by
 subst he
 have c1:=h.c1
 have c0:=h.c0
 have f0:=h.f0
 have hle:=h.le
 have hmx:=h.mx
 unfold maxLen at hmx
 have cG:=get_yes ao n c l s w h.rd h.ln h.le h.mx h1 h8 (by omega)
 have hrs:(Instr.slice 27 (.slice ao n c) (some (.int .i64 (s:Int))) none none).run Tryz.prog w=.ok (.slice (cut ao c s) (n - s) (c - s)) w:=run_from_k (e:=5) ao n c s Tryz.underlying27 (by kernel_rfl) (by omega) w
 have cF:=known_any (val (l.take s)) w
 rw [hf] at cF
 unfold GetPost at cG
 generalize val (l.take s)=x at *
 generalize cut ao c s=ac at *
 clear hf
 go_enter Tryz.func98,Tryz.ntmps98
 go_wp2_with (first | (go_at_call 144;refine cG.mono ?_;rintro e w' ⟨rfl,rfl⟩) | (go_at_call 145;refine cF.mono ?_;rintro e w' ⟨rfl,rfl⟩))
 go_ret
 exact ⟨rfl,rfl⟩
theorem number_known:Calls Tryz.prog 98 #[.pointer (some ⟨rb,0,none⟩),.int .i64 (s:Int),.func (.func 145) #[] #[]] w (NumPost w rb ao n (numN knownB s l er)):=by
 have hlen:=h.ln
 by_cases he:er=0
 ·by_cases hl:n < s
  ·refine (number_short h s h1 h8 he hl _).mono ?_
   rintro e w' ⟨rfl,rfl⟩
   rw [he,numN_short (by omega)]
   exact ⟨ao,n,c,rfl,h.err 4,Chg.setCell w ⟨rb,1,none⟩ _,by simp,by show (0:Nat) < 2 ^ 64;decide,Nat.le_refl _,rfl⟩
  ·have hx:val (l.take s) < 2 ^ 64:=Nat.lt_of_lt_of_le (val_lt _) (by
    have h9:(l.take s).length≤8:=by rw [List.length_take];omega
    exact Nat.le_trans (Nat.pow_le_pow_right (by decide) h9) (by decide))
   cases hf:knownB (val (l.take s)) with
   | false =>
    refine (number_known_no h s h1 h8 he hl hf).mono ?_
    rintro e w' ⟨rfl,rfl⟩
    rw [he,numN_no (by omega) hf]
    exact ⟨ao,n,c,rfl,h.err 5,Chg.setCell w ⟨rb,1,none⟩ _,by simp,by show (0:Nat) < 2 ^ 64;decide,Nat.le_refl _,rfl⟩
   | true =>
    refine (number_known_yes h s h1 h8 he hl hf).mono ?_
    rintro e w' ⟨rfl,rfl⟩
    rw [he,numN_yes (by omega) hf]
    subst he
    exact ⟨_,_,_,rfl,h.next s (by omega),Chg.setCell w ⟨rb,0,none⟩ _,by simp,hx,Nat.sub_le _ _,blk_cut _ _ _⟩
 ·refine (number_err h he _ _).mono ?_
  rintro e w' ⟨rfl,rfl⟩
  rw [numN_err he]
  exact ⟨ao,n,c,rfl,h,Chg.refl _ _,rfl,by show (0:Nat) < 2 ^ 64;decide,Nat.le_refl _,rfl⟩
theorem number_few_no (he:er=0) (hl:¬ n < s) (hf:fewB (val (l.take s))=false):Calls Tryz.prog 98 #[.pointer (some ⟨rb,0,none⟩),.int .i64 (s:Int),.func (.func 100) #[] #[]] w fun e w' => e=.returned (.int .u64 0)∧w'=w.setCell ⟨rb,1,none⟩ (.int .i64 5):=by
 subst he
 have c1:=h.c1
 have c0:=h.c0
 have f1:=h.f1
 have cG:=get_yes ao n c l s w h.rd h.ln h.le h.mx h1 h8 (by omega)
 have cF:=few_any (val (l.take s)) w
 rw [hf] at cF
 unfold GetPost at cG
 generalize val (l.take s)=x at *
 clear hf
 go_enter Tryz.func98,Tryz.ntmps98
 go_wp2_with (first | (go_at_call 144;refine cG.mono ?_;rintro e w' ⟨rfl,rfl⟩) | (go_at_call 100;refine cF.mono ?_;rintro e w' ⟨rfl,rfl⟩))
 go_ret
 exact ⟨rfl,rfl⟩
theorem number_few_yes (he:er=0) (hl:¬ n < s) (hf:fewB (val (l.take s))=true):Calls Tryz.prog 98 #[.pointer (some ⟨rb,0,none⟩),.int .i64 (s:Int),.func (.func 100) #[] #[]] w fun e w' => e=.returned (.int .u64 (val (l.take s):Int))∧w'=w.setCell ⟨rb,0,none⟩ (.slice (cut ao c s) (n - s) (c - s)):=by
 subst he
 have c1:=h.c1
 have c0:=h.c0
 have f0:=h.f0
 have hle:=h.le
 have hmx:=h.mx
 unfold maxLen at hmx
 have cG:=get_yes ao n c l s w h.rd h.ln h.le h.mx h1 h8 (by omega)
 have hrs:(Instr.slice 27 (.slice ao n c) (some (.int .i64 (s:Int))) none none).run Tryz.prog w=.ok (.slice (cut ao c s) (n - s) (c - s)) w:=run_from_k (e:=5) ao n c s Tryz.underlying27 (by kernel_rfl) (by omega) w
 have cF:=few_any (val (l.take s)) w
 rw [hf] at cF
 unfold GetPost at cG
 generalize val (l.take s)=x at *
 generalize cut ao c s=ac at *
 clear hf
 go_enter Tryz.func98,Tryz.ntmps98
 go_wp2_with (first | (go_at_call 144;refine cG.mono ?_;rintro e w' ⟨rfl,rfl⟩) | (go_at_call 100;refine cF.mono ?_;rintro e w' ⟨rfl,rfl⟩))
 go_ret
 exact ⟨rfl,rfl⟩
theorem number_few:Calls Tryz.prog 98 #[.pointer (some ⟨rb,0,none⟩),.int .i64 (s:Int),.func (.func 100) #[] #[]] w (NumPost w rb ao n (numN fewB s l er)):=by
 have hlen:=h.ln
 by_cases he:er=0
 ·by_cases hl:n < s
  ·refine (number_short h s h1 h8 he hl _).mono ?_
   rintro e w' ⟨rfl,rfl⟩
   rw [he,numN_short (by omega)]
   exact ⟨ao,n,c,rfl,h.err 4,Chg.setCell w ⟨rb,1,none⟩ _,by simp,by show (0:Nat) < 2 ^ 64;decide,Nat.le_refl _,rfl⟩
  ·have hx:val (l.take s) < 2 ^ 64:=Nat.lt_of_lt_of_le (val_lt _) (by
    have h9:(l.take s).length≤8:=by rw [List.length_take];omega
    exact Nat.le_trans (Nat.pow_le_pow_right (by decide) h9) (by decide))
   cases hf:fewB (val (l.take s)) with
   | false =>
    refine (number_few_no h s h1 h8 he hl hf).mono ?_
    rintro e w' ⟨rfl,rfl⟩
    rw [he,numN_no (by omega) hf]
    exact ⟨ao,n,c,rfl,h.err 5,Chg.setCell w ⟨rb,1,none⟩ _,by simp,by show (0:Nat) < 2 ^ 64;decide,Nat.le_refl _,rfl⟩
   | true =>
    refine (number_few_yes h s h1 h8 he hl hf).mono ?_
    rintro e w' ⟨rfl,rfl⟩
    rw [he,numN_yes (by omega) hf]
    subst he
    exact ⟨_,_,_,rfl,h.next s (by omega),Chg.setCell w ⟨rb,0,none⟩ _,by simp,hx,Nat.sub_le _ _,blk_cut _ _ _⟩
 ·refine (number_err h he _ _).mono ?_
  rintro e w' ⟨rfl,rfl⟩
  rw [numN_err he]
  exact ⟨ao,n,c,rfl,h,Chg.refl _ _,rfl,by show (0:Nat) < 2 ^ 64;decide,Nat.le_refl _,rfl⟩
theorem number_points_no (he:er=0) (hl:¬ n < s) (hf:pointsB (val (l.take s))=false):Calls Tryz.prog 98 #[.pointer (some ⟨rb,0,none⟩),.int .i64 (s:Int),.func (.func 102) #[] #[]] w fun e w' => e=.returned (.int .u64 0)∧w'=w.setCell ⟨rb,1,none⟩ (.int .i64 5):=by
 subst he
 have c1:=h.c1
 have c0:=h.c0
 have f1:=h.f1
 have cG:=get_yes ao n c l s w h.rd h.ln h.le h.mx h1 h8 (by omega)
 have cF:=points_any (val (l.take s)) w
 rw [hf] at cF
 unfold GetPost at cG
 generalize val (l.take s)=x at *
 clear hf
 go_enter Tryz.func98,Tryz.ntmps98
 go_wp2_with (first | (go_at_call 144;refine cG.mono ?_;rintro e w' ⟨rfl,rfl⟩) | (go_at_call 102;refine cF.mono ?_;rintro e w' ⟨rfl,rfl⟩))
 go_ret
 exact ⟨rfl,rfl⟩
theorem number_points_yes (he:er=0) (hl:¬ n < s) (hf:pointsB (val (l.take s))=true):Calls Tryz.prog 98 #[.pointer (some ⟨rb,0,none⟩),.int .i64 (s:Int),.func (.func 102) #[] #[]] w fun e w' => e=.returned (.int .u64 (val (l.take s):Int))∧w'=w.setCell ⟨rb,0,none⟩ (.slice (cut ao c s) (n - s) (c - s)):=by
 subst he
 have c1:=h.c1
 have c0:=h.c0
 have f0:=h.f0
 have hle:=h.le
 have hmx:=h.mx
 unfold maxLen at hmx
 have cG:=get_yes ao n c l s w h.rd h.ln h.le h.mx h1 h8 (by omega)
 have hrs:(Instr.slice 27 (.slice ao n c) (some (.int .i64 (s:Int))) none none).run Tryz.prog w=.ok (.slice (cut ao c s) (n - s) (c - s)) w:=run_from_k (e:=5) ao n c s Tryz.underlying27 (by kernel_rfl) (by omega) w
 have cF:=points_any (val (l.take s)) w
 rw [hf] at cF
 unfold GetPost at cG
 generalize val (l.take s)=x at *
 generalize cut ao c s=ac at *
 clear hf
 go_enter Tryz.func98,Tryz.ntmps98
 go_wp2_with (first | (go_at_call 144;refine cG.mono ?_;rintro e w' ⟨rfl,rfl⟩) | (go_at_call 102;refine cF.mono ?_;rintro e w' ⟨rfl,rfl⟩))
 go_ret
 exact ⟨rfl,rfl⟩
theorem number_points:Calls Tryz.prog 98 #[.pointer (some ⟨rb,0,none⟩),.int .i64 (s:Int),.func (.func 102) #[] #[]] w (NumPost w rb ao n (numN pointsB s l er)):=by
 have hlen:=h.ln
 by_cases he:er=0
 ·by_cases hl:n < s
  ·refine (number_short h s h1 h8 he hl _).mono ?_
   rintro e w' ⟨rfl,rfl⟩
   rw [he,numN_short (by omega)]
   exact ⟨ao,n,c,rfl,h.err 4,Chg.setCell w ⟨rb,1,none⟩ _,by simp,by show (0:Nat) < 2 ^ 64;decide,Nat.le_refl _,rfl⟩
  ·have hx:val (l.take s) < 2 ^ 64:=Nat.lt_of_lt_of_le (val_lt _) (by
    have h9:(l.take s).length≤8:=by rw [List.length_take];omega
    exact Nat.le_trans (Nat.pow_le_pow_right (by decide) h9) (by decide))
   cases hf:pointsB (val (l.take s)) with
   | false =>
    refine (number_points_no h s h1 h8 he hl hf).mono ?_
    rintro e w' ⟨rfl,rfl⟩
    rw [he,numN_no (by omega) hf]
    exact ⟨ao,n,c,rfl,h.err 5,Chg.setCell w ⟨rb,1,none⟩ _,by simp,by show (0:Nat) < 2 ^ 64;decide,Nat.le_refl _,rfl⟩
   | true =>
    refine (number_points_yes h s h1 h8 he hl hf).mono ?_
    rintro e w' ⟨rfl,rfl⟩
    rw [he,numN_yes (by omega) hf]
    subst he
    exact ⟨_,_,_,rfl,h.next s (by omega),Chg.setCell w ⟨rb,0,none⟩ _,by simp,hx,Nat.sub_le _ _,blk_cut _ _ _⟩
 ·refine (number_err h he _ _).mono ?_
  rintro e w' ⟨rfl,rfl⟩
  rw [numN_err he]
  exact ⟨ao,n,c,rfl,h,Chg.refl _ _,rfl,by show (0:Nat) < 2 ^ 64;decide,Nat.le_refl _,rfl⟩
omit h h1 h8
theorem above_any (w:World) (nb:Nat) (ka:Option Addr) (kl kc:Nat) (K:List Nat) (x:Nat) (c1:w.cell? ⟨nb,1,none⟩=some (.slice ka kl kc)) (hr:Reads w ka (uvs K)) (hl:K.length=kl) (hc:kl≤kc) (hm:kc≤maxLen):Calls Tryz.prog 146 #[.int .u64 (x:Int),.pointer (some ⟨nb,0,none⟩)] w fun e w' => e=.returned (.bool (!lowK K x))∧w=w':=by
 have cR:=rises_any ka kl kc K x w hr hl hc hm
 go_enter Tryz.func146,Tryz.ntmps146
 go_wp2_with (first | (go_at_call 101;refine cR.mono ?_;rintro e w' ⟨rfl,rfl⟩))
 go_ret
 exact ⟨rfl,rfl⟩
include h h1 h8 in
theorem number_above_no (he:er=0) (hl:¬ n < s) {nb:Nat} {ka:Option Addr} {kl kc:Nat} {K:List Nat} (k1:w.cell? ⟨nb,1,none⟩=some (.slice ka kl kc)) (hr:Reads w ka (uvs K)) (hkl:K.length=kl) (hkc:kl≤kc) (hkm:kc≤maxLen) (hf:(!lowK K (val (l.take s)))=false):Calls Tryz.prog 98 #[.pointer (some ⟨rb,0,none⟩),.int .i64 (s:Int),.func (.func 146) #[] #[.pointer (some ⟨nb,0,none⟩)]] w fun e w' => e=.returned (.int .u64 0)∧w'=w.setCell ⟨rb,1,none⟩ (.int .i64 5):=by
 subst he
 have c1:=h.c1
 have c0:=h.c0
 have f1:=h.f1
 have cG:=get_yes ao n c l s w h.rd h.ln h.le h.mx h1 h8 (by omega)
 have cF:=above_any w nb ka kl kc K (val (l.take s)) k1 hr hkl hkc hkm
 rw [hf] at cF
 unfold GetPost at cG
 generalize val (l.take s)=x at *
 clear hf
 go_enter Tryz.func98,Tryz.ntmps98
 go_wp2_with (first | (go_at_call 144;refine cG.mono ?_;rintro e w' ⟨rfl,rfl⟩) | (go_at_call 146;refine cF.mono ?_;rintro e w' ⟨rfl,rfl⟩))
 go_ret
 exact ⟨rfl,rfl⟩
include h h1 h8 in
theorem number_above_yes (he:er=0) (hl:¬ n < s) {nb:Nat} {ka:Option Addr} {kl kc:Nat} {K:List Nat} (k1:w.cell? ⟨nb,1,none⟩=some (.slice ka kl kc)) (hr:Reads w ka (uvs K)) (hkl:K.length=kl) (hkc:kl≤kc) (hkm:kc≤maxLen) (hf:(!lowK K (val (l.take s)))=true):Calls Tryz.prog 98 #[.pointer (some ⟨rb,0,none⟩),.int .i64 (s:Int),.func (.func 146) #[] #[.pointer (some ⟨nb,0,none⟩)]] w fun e w' => e=.returned (.int .u64 (val (l.take s):Int))∧w'=w.setCell ⟨rb,0,none⟩ (.slice (cut ao c s) (n - s) (c - s)):=by
 subst he
 have c1:=h.c1
 have c0:=h.c0
 have f0:=h.f0
 have hle:=h.le
 have hmx:=h.mx
 unfold maxLen at hmx
 have cG:=get_yes ao n c l s w h.rd h.ln h.le h.mx h1 h8 (by omega)
 have hrs:(Instr.slice 27 (.slice ao n c) (some (.int .i64 (s:Int))) none none).run Tryz.prog w=.ok (.slice (cut ao c s) (n - s) (c - s)) w:=run_from_k (e:=5) ao n c s Tryz.underlying27 (by kernel_rfl) (by omega) w
 have cF:=above_any w nb ka kl kc K (val (l.take s)) k1 hr hkl hkc hkm
 rw [hf] at cF
 unfold GetPost at cG
 generalize val (l.take s)=x at *
 generalize cut ao c s=ac at *
 clear hf
 go_enter Tryz.func98,Tryz.ntmps98
 go_wp2_with (first | (go_at_call 144;refine cG.mono ?_;rintro e w' ⟨rfl,rfl⟩) | (go_at_call 146;refine cF.mono ?_;rintro e w' ⟨rfl,rfl⟩))
 go_ret
 exact ⟨rfl,rfl⟩
include h h1 h8 in
theorem number_above {nb:Nat} {ka:Option Addr} {kl kc:Nat} {K:List Nat} (k1:w.cell? ⟨nb,1,none⟩=some (.slice ka kl kc)) (hr:Reads w ka (uvs K)) (hkl:K.length=kl) (hkc:kl≤kc) (hkm:kc≤maxLen):Calls Tryz.prog 98 #[.pointer (some ⟨rb,0,none⟩),.int .i64 (s:Int),.func (.func 146) #[] #[.pointer (some ⟨nb,0,none⟩)]] w (NumPost w rb ao n (numN (fun x => !lowK K x) s l er)):=by
 have hlen:=h.ln
 by_cases he:er=0
 ·by_cases hl:n < s
  ·refine (number_short h s h1 h8 he hl _).mono ?_
   rintro e w' ⟨rfl,rfl⟩
   rw [he,numN_short (by omega)]
   exact ⟨ao,n,c,rfl,h.err 4,Chg.setCell w ⟨rb,1,none⟩ _,by simp,by show (0:Nat) < 2 ^ 64;decide,Nat.le_refl _,rfl⟩
  ·have hx:val (l.take s) < 2 ^ 64:=Nat.lt_of_lt_of_le (val_lt _) (by
    have h9:(l.take s).length≤8:=by rw [List.length_take];omega
    exact Nat.le_trans (Nat.pow_le_pow_right (by decide) h9) (by decide))
   cases hf:(fun x => !lowK K x) (val (l.take s)) with
   | false =>
    refine (number_above_no h s h1 h8 he hl k1 hr hkl hkc hkm hf).mono ?_
    rintro e w' ⟨rfl,rfl⟩
    rw [he,numN_no (by omega) hf]
    exact ⟨ao,n,c,rfl,h.err 5,Chg.setCell w ⟨rb,1,none⟩ _,by simp,by show (0:Nat) < 2 ^ 64;decide,Nat.le_refl _,rfl⟩
   | true =>
    refine (number_above_yes h s h1 h8 he hl k1 hr hkl hkc hkm hf).mono ?_
    rintro e w' ⟨rfl,rfl⟩
    rw [he,numN_yes (by omega) hf]
    subst he
    exact ⟨_,_,_,rfl,h.next s (by omega),Chg.setCell w ⟨rb,0,none⟩ _,by simp,hx,Nat.sub_le _ _,blk_cut _ _ _⟩
 ·refine (number_err h he _ _).mono ?_
  rintro e w' ⟨rfl,rfl⟩
  rw [numN_err he]
  exact ⟨ao,n,c,rfl,h,Chg.refl _ _,rfl,by show (0:Nat) < 2 ^ 64;decide,Nat.le_refl _,rfl⟩
end
end
section
open Go.RowKit
def Stands (c:Nat) (K V:List Nat) (l:List UInt8) (e:Int) (R:Int × List Nat × List Nat):Prop:=(e=0→takeK c K V l=R)∧(e ≠ 0→R=(e,[],[]))
theorem Stands.step {c:Nat} {K V:List Nat} {l:List UInt8} {e:Int} {R:Int × List Nat × List Nat} (h:Stands (c+1) K V l e R) {a b:Nat × List UInt8 × Int} (ha:numN (fun x => !lowK K x) 8 l e=a) (hb:numN pointsB 8 a.2.1 a.2.2=b):Stands c (K++[a.1]) (V++[b.1]) b.2.1 b.2.2 R:=by
 subst ha
 by_cases he:e=0
 ·have h1:=h.1 he
  subst he
  rw [takeK] at h1
  by_cases hs:l.length < 8
  ·rw [if_pos hs] at h1
   rw [numN_short hs,numN_err (show (4:Int) ≠ 0 by decide)] at hb
   subst hb
   exact ⟨fun h => absurd h (show ¬ (4:Int)=0 by decide),fun _ => h1.symm⟩
  ·rw [if_neg hs] at h1
   cases hl:lowK K (val (l.take 8)) with
   | true =>
    rw [hl,if_pos rfl] at h1
    rw [numN_no hs (by rw [hl];rfl),numN_err (show (5:Int) ≠ 0 by decide)] at hb
    subst hb
    exact ⟨fun h => absurd h (show ¬ (5:Int)=0 by decide),fun _ => h1.symm⟩
   | false =>
    rw [hl,if_neg (by decide)] at h1
    rw [takeV] at h1
    rw [numN_yes hs (by rw [hl];rfl)]
    rw [numN_yes hs (by rw [hl];rfl)] at hb
    dsimp only at hb ⊢
    by_cases hs2:(l.drop 8).length < 8
    ·rw [if_pos hs2] at h1
     rw [numN_short hs2] at hb
     subst hb
     exact ⟨fun h => absurd h (show ¬ (4:Int)=0 by decide),fun _ => h1.symm⟩
    ·rw [if_neg hs2] at h1
     by_cases hz:val ((l.drop 8).take 8)=0
     ·rw [if_pos hz] at h1
      rw [numN_no hs2 (by rw [hz];rfl)] at hb
      subst hb
      exact ⟨fun h => absurd h (show ¬ (5:Int)=0 by decide),fun _ => h1.symm⟩
     ·rw [if_neg hz] at h1
      rw [numN_yes hs2 (by unfold pointsB;rw [decide_eq_false hz];rfl)] at hb
      subst hb
      exact ⟨fun _ => h1,fun h => absurd rfl h⟩
 ·rw [numN_err he] at hb
  dsimp only at hb
  rw [numN_err he] at hb
  subst hb
  exact ⟨fun h => absurd h he,fun _ => h.2 he⟩
def withKind (lf:Bool) (R:Int × List Nat × List Nat):Int × Bool × List Nat × List Nat:=if R.1=0 then (0,lf,R.2) else (R.1,false,[],[])
theorem val_single (a:UInt8):val [a]=a.toNat:=by simp [val]
theorem u8_is {a:UInt8} {m k:Nat} (h:a.toNat=m) (hk:k < 256):a=UInt8.ofNat k ↔ m=k:=by
 rw [← h]
 constructor
 ·intro e;rw [e];simp;omega
 ·intro e;exact UInt8.toNat_inj.1 (by rw [e];simp;omega)
theorem marks_yes {l:List UInt8} {a b:Nat × List UInt8 × Int} (ha:numN knownB 1 l 0=a) (hb:numN fewB 1 a.2.1 a.2.2=b) (h0:b.2.2=0):takeN l=withKind (decide (a.1=1)) (takeK b.1 [] [] b.2.1)∧b.1≤8:=by
 cases l with
 | nil =>
  rw [numN_short (by decide)] at ha
  subst ha
  rw [numN_err (show (4:Int) ≠ 0 by decide)] at hb
  subst hb
  cases h0
 | cons x r =>
  have hx:(x :: r).take 1=[x]:=rfl
  by_cases hk:knownB x.toNat=true
  ·rw [numN_yes (by simp) (by rw [hx,val_single];exact hk)] at ha
   subst ha
   rw [hx,val_single]
   have h1:¬ (x ≠ 0∧x ≠ 1):=by
    have e0:=u8_is (a:=x) (k:=0) rfl (by decide)
    have e1:=u8_is (a:=x) (k:=1) rfl (by decide)
    unfold knownB at hk
    simp at hk
    intro ⟨p,q⟩
    rcases hk with h | h
    ·exact q (e1.2 h)
    ·exact p (e0.2 h)
   have e1:=u8_is (a:=x) (k:=1) rfl (by decide)
   have e2:decide (x.toNat=1)=decide (x=1):=decide_eq_decide.2 e1.symm
   dsimp only at hb ⊢
   rw [e2]
   cases r with
   | nil =>
    rw [show ([x]:List UInt8).drop 1=[] from rfl,numN_short (by decide)] at hb
    subst hb
    cases h0
   | cons y s =>
    have hy:(y :: s).take 1=[y]:=rfl
    rw [show (x :: y :: s).drop 1=y :: s from rfl] at hb
    by_cases hf:fewB y.toNat=true
    ·rw [numN_yes (by simp) (by rw [hy,val_single];exact hf)] at hb
     subst hb
     rw [hy,val_single]
     have h2:¬ (y.toNat=0 ∨ 8 < y.toNat):=by unfold fewB at hf;simp at hf;omega
     refine ⟨?_,by unfold fewB at hf;simp at hf;dsimp only;omega⟩
     unfold takeN withKind
     dsimp only
     rw [if_neg h1,if_neg h2]
     rfl
    ·rw [numN_no (by simp) (by rw [hy,val_single];simpa using hf)] at hb
     subst hb
     cases h0
  ·rw [numN_no (by simp) (by rw [hx,val_single];simpa using hk)] at ha
   subst ha
   rw [numN_err (show (5:Int) ≠ 0 by decide)] at hb
   subst hb
   cases h0
theorem marks_no {l:List UInt8} {a b:Nat × List UInt8 × Int} (ha:numN knownB 1 l 0=a) (hb:numN fewB 1 a.2.1 a.2.2=b) (h0:b.2.2 ≠ 0):takeN l=(b.2.2,false,[],[])∧b.1=0:=by
 cases l with
 | nil =>
  rw [numN_short (by decide)] at ha
  subst ha
  rw [numN_err (show (4:Int) ≠ 0 by decide)] at hb
  subst hb
  exact ⟨rfl,rfl⟩
 | cons x r =>
  have hx:(x :: r).take 1=[x]:=rfl
  by_cases hk:knownB x.toNat=true
  ·rw [numN_yes (by simp) (by rw [hx,val_single];exact hk)] at ha
   subst ha
   have h1:¬ (x ≠ 0∧x ≠ 1):=by
    have e0:=u8_is (a:=x) (k:=0) rfl (by decide)
    have e1:=u8_is (a:=x) (k:=1) rfl (by decide)
    unfold knownB at hk
    simp at hk
    intro ⟨p,q⟩
    rcases hk with h | h
    ·exact q (e1.2 h)
    ·exact p (e0.2 h)
   dsimp only at hb ⊢
   cases r with
   | nil =>
    rw [show ([x]:List UInt8).drop 1=[] from rfl,numN_short (by decide)] at hb
    subst hb
    refine ⟨?_,rfl⟩
    unfold takeN
    dsimp only
    rw [if_neg h1]
   | cons y s =>
    have hy:(y :: s).take 1=[y]:=rfl
    rw [show (x :: y :: s).drop 1=y :: s from rfl] at hb
    by_cases hf:fewB y.toNat=true
    ·rw [numN_yes (by simp) (by rw [hy,val_single];exact hf)] at hb
     subst hb
     exact absurd rfl h0
    ·rw [numN_no (by simp) (by rw [hy,val_single];simpa using hf)] at hb
     subst hb
     have h2:y.toNat=0 ∨ 8 < y.toNat:=by unfold fewB at hf;simp at hf;omega
     refine ⟨?_,rfl⟩
     unfold takeN
     dsimp only
     rw [if_neg h1,if_pos h2]
  ·rw [numN_no (by simp) (by rw [hx,val_single];simpa using hk)] at ha
   subst ha
   rw [numN_err (show (5:Int) ≠ 0 by decide)] at hb
   subst hb
   have h1:x ≠ 0∧x ≠ 1:=by
    have e0:=u8_is (a:=x) (k:=0) rfl (by decide)
    have e1:=u8_is (a:=x) (k:=1) rfl (by decide)
    unfold knownB at hk
    simp at hk
    exact ⟨fun e => hk.2 (e0.1 e),fun e => hk.1 (e1.1 e)⟩
   refine ⟨?_,rfl⟩
   unfold takeN
   dsimp only
   rw [if_pos h1]
theorem ended {l l':List UInt8} {a b:Nat × List UInt8 × Int} {K V:List Nat} {e:Int} (ha:numN knownB 1 l 0=a) (hb:numN fewB 1 a.2.1 a.2.2=b) (hs:b.2.2=0→Stands 0 K V l' e (takeK b.1 [] [] b.2.1)) (hn:b.2.2 ≠ 0→e=b.2.2) :
  (e=0→takeN l=if l'.all (· == 0) then (0,decide (a.1=1),K,V) else (5,false,[],[]))∧(e ≠ 0→takeN l=(e,false,[],[])):=by
 by_cases h0:b.2.2=0
 ·obtain ⟨h1,_⟩:=marks_yes ha hb h0
  obtain ⟨s1,s2⟩:=hs h0
  refine ⟨fun he => ?_,fun he => ?_⟩
  ·have h3:=s1 he
   rw [takeK] at h3
   rw [h1,← h3]
   cases l'.all (· == 0) <;> rfl
  ·rw [h1,s2 he]
   unfold withKind
   rw [if_neg he]
 ·obtain ⟨h1,_⟩:=marks_no ha hb h0
  have:=hn h0
  subst this
  exact ⟨fun h => absurd h h0,fun _ => h1⟩
end
end Go.Proofs.YtdgkbicelnnfpaaGreatDoor
