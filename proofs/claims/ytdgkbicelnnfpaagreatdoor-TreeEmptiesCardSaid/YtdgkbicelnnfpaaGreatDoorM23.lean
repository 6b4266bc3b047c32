/- Texts Ip, Iq of the library, joined. -/
import Derived.Test.YtdgkbicelnnfpaaGreatDoorM22
set_option linter.unusedVariables false
set_option linter.unusedSimpArgs false
namespace Go.Proofs.YtdgkbicelnnfpaaGreatDoor
section
open Go.RowKit
attribute [local go_sem ↓] Go.wp_at_zero Go.wp_at_succ
theorem ch_out {B:Nat} {lf:Bool} {X Y:List Nat} {e:Ending} {w':World} (h:ChOut B lf (RL X) (RL Y) e w'):NOut B lf X Y e w':=by
 obtain ⟨x,y,lo,hi,lo',hi',rfl,⟨a,c,rfl,r,m⟩,⟨a',c',rfl,r',m'⟩,⟨b1,b2,b3,b4⟩,d⟩:=h
 exact ⟨a,c,a',c',rfl,⟨r.mono b1,r'.mono b2,fun q hq hm => by have:=(r.lt q hq).1;have:=m q hq;have:=(r'.lt q hm).1;have:=m' q hm;omega⟩⟩
theorem rd_take {w:World} {ka:Option Addr} {kc:Nat} {va:Option Addr} {vc:Nat} {K V:List Nat} (h:RdN w ka kc va vc K V) (t:Nat):Reads w ka (uvs (K.take t))∧Reads w va (uvs (V.take t)):=by
 have h1:=h.rk.take t
 have h2:=h.rv.take t
 rw [uvs_take] at h1 h2
 exact ⟨h1,h2⟩
theorem enters_join:Enters Tryz.prog 191:=enters_of Tryz.func191 (by kernel_rfl) rfl
theorem enters_ins:Enters Tryz.prog 153:=enters_of Tryz.func153 (by kernel_rfl) rfl
theorem enters_rep:Enters Tryz.prog 188:=enters_of Tryz.func188 (by kernel_rfl) rfl
theorem enters_part:Enters Tryz.prog 190:=enters_of Tryz.func190 (by kernel_rfl) rfl
section
variable (lf:Bool) (ka:Option Addr) (kl kc:Nat) (va:Option Addr) (vl vc:Nat) (K V:List Nat) (lf':Bool) (ka':Option Addr) (kl' kc':Nat) (va':Option Addr) (vl' vc':Nat) (K' V':List Nat) (w:World) (h:RdN w ka kc va vc K V) (hk:K.length=kl) (hv:V.length=vl) (h':RdN w ka' kc' va' vc' K' V') (hk':K'.length=kl') (hv':V'.length=vl')
include h hk hv h' hk' hv'
theorem changed_join (hb:np K V+np K' V'≤1000000000):Calls Tryz.prog 151 #[.agg #[.bool lf,.slice ka kl kc,.slice va vl vc],.agg #[.bool lf',.slice ka' kl' kc',.slice va' vl' vc'],.func (.func 191) #[] #[]] w fun e w' => NOut w.heap.size lf (tkK K V++tkK K' V') (tkV K V++tkV K' V') e w'∧Chg [] w w':=by
 obtain ⟨P,hP⟩:∃ P,np K V=P:=⟨_,rfl⟩
 obtain ⟨P',hP'⟩:∃ P,np K' V'=P:=⟨_,rfl⟩
 have l1:=tk_lens (K:=K) (V:=V)
 have l2:=tk_lens (K:=K') (V:=V')
 have n1:=np_le (K:=K) (V:=V)
 have n2:=np_le (K:=K') (V:=V')
 have ck:=h.ck
 have cv:=h.cv
 have ck':=h'.ck
 have cv':=h'.cv
 refine (changed_any lf ka kl kc va vl vc lf' ka' kl' kc' va' vl' vc' _ _ enters_join P P' (RL (tkK K V++tkK K' V')) (RL (tkV K V++tkV K' V')) w (by rw [min_np hk hv,hP]) (by rw [min_np hk' hv',hP']) (by omega) (by omega) (by omega) (by omega) (staysR _ _) (staysR _ _) (fun u g => ?_) (fun u g => ?_)).mono ?_
 ·exact joinclo_any ka P kc (tkK K V) ka' P' kc' (tkK K' V') u (rd_take (h.keep g) _).1 (by omega) (rd_take (h'.keep g) _).1 (by omega) (by omega)
 ·exact joinclo_any va P vc (tkV K V) va' P' vc' (tkV K' V') u (rd_take (h.keep g) _).2 (by omega) (rd_take (h'.keep g) _).2 (by omega) (by omega)
 ·rintro e w' ⟨hc,hg⟩
  exact ⟨ch_out hc,hg⟩
theorem changed_ins (a xb:Nat) (hx:w.cell? ⟨xb,0,none⟩=some (.int .i64 (a:Int))) (ha:a≤np K V) (hb:np K V+np K' V'≤1000000000):Calls Tryz.prog 151 #[.agg #[.bool lf,.slice ka kl kc,.slice va vl vc],.agg #[.bool lf',.slice ka' kl' kc',.slice va' vl' vc'],.func (.func 153) #[] #[.pointer (some ⟨xb,0,none⟩)]] w fun e w' => NOut w.heap.size lf (sub K 0 a++(tkK K' V'++sub K a (np K V))) (sub V 0 a++(tkV K' V'++sub V a (np K V))) e w'∧Chg [] w w':=by
 obtain ⟨P,hP⟩:∃ P,np K V=P:=⟨_,rfl⟩
 obtain ⟨P',hP'⟩:∃ P,np K' V'=P:=⟨_,rfl⟩
 have l1:=tk_lens (K:=K) (V:=V)
 have l2:=tk_lens (K:=K') (V:=V')
 have n1:=np_le (K:=K) (V:=V)
 have n2:=np_le (K:=K') (V:=V')
 have ck:=h.ck
 have cv:=h.cv
 have ck':=h'.ck
 have cv':=h'.cv
 have eK:sub K 0 a=(tkK K V).take a:=by unfold tkK;rw [sub_zero,List.take_take,Nat.min_eq_left ha]
 have eV:sub V 0 a=(tkV K V).take a:=by unfold tkV;rw [sub_zero,List.take_take,Nat.min_eq_left ha]
 rw [eK,eV]
 refine (changed_any lf ka kl kc va vl vc lf' ka' kl' kc' va' vl' vc' _ _ enters_ins P P' (RL ((tkK K V).take a++(tkK K' V'++sub K a (np K V)))) (RL ((tkV K V).take a++(tkV K' V'++sub V a (np K V)))) w (by rw [min_np hk hv,hP]) (by rw [min_np hk' hv',hP']) (by omega) (by omega) (by omega) (by omega) (staysR _ _) (staysR _ _) (fun u g => ?_) (fun u g => ?_)).mono ?_
 ·exact insclo_any ka P kc (tkK K V) ka' P' kc' (tkK K' V') a xb u (rd_take (h.keep g) _).1 (by omega) (by omega) h.xk (rd_take (h'.keep g) _).1 (by omega) (g.cellv hx (by simp)) (by omega) (by omega)
 ·exact insclo_any va P vc (tkV K V) va' P' vc' (tkV K' V') a xb u (rd_take (h.keep g) _).2 (by omega) (by omega) h.xv (rd_take (h'.keep g) _).2 (by omega) (g.cellv hx (by simp)) (by omega) (by omega)
 ·rintro e w' ⟨hc,hg⟩
  exact ⟨ch_out hc,hg⟩
theorem changed_rep (a xb:Nat) (hx:w.cell? ⟨xb,0,none⟩=some (.int .i64 (a:Int))) (ha:a < np K V) (hb:np K V+np K' V'≤1000000000):Calls Tryz.prog 151 #[.agg #[.bool lf,.slice ka kl kc,.slice va vl vc],.agg #[.bool lf',.slice ka' kl' kc',.slice va' vl' vc'],.func (.func 188) #[] #[.pointer (some ⟨xb,0,none⟩)]] w fun e w' => NOut w.heap.size lf (sub K 0 a++(tkK K' V'++sub K (a+1) (np K V))) (sub V 0 a++(tkV K' V'++sub V (a+1) (np K V))) e w'∧Chg [] w w':=by
 obtain ⟨P,hP⟩:∃ P,np K V=P:=⟨_,rfl⟩
 obtain ⟨P',hP'⟩:∃ P,np K' V'=P:=⟨_,rfl⟩
 have l1:=tk_lens (K:=K) (V:=V)
 have l2:=tk_lens (K:=K') (V:=V')
 have n1:=np_le (K:=K) (V:=V)
 have n2:=np_le (K:=K') (V:=V')
 have ck:=h.ck
 have cv:=h.cv
 have ck':=h'.ck
 have cv':=h'.cv
 have eK:sub K 0 a=(tkK K V).take a:=by unfold tkK;rw [sub_zero,List.take_take,Nat.min_eq_left (Nat.le_of_lt ha)]
 have eV:sub V 0 a=(tkV K V).take a:=by unfold tkV;rw [sub_zero,List.take_take,Nat.min_eq_left (Nat.le_of_lt ha)]
 rw [eK,eV]
 refine (changed_any lf ka kl kc va vl vc lf' ka' kl' kc' va' vl' vc' _ _ enters_rep P P' (RL ((tkK K V).take a++(tkK K' V'++sub K (a+1) (np K V)))) (RL ((tkV K V).take a++(tkV K' V'++sub V (a+1) (np K V)))) w (by rw [min_np hk hv,hP]) (by rw [min_np hk' hv',hP']) (by omega) (by omega) (by omega) (by omega) (staysR _ _) (staysR _ _) (fun u g => ?_) (fun u g => ?_)).mono ?_
 ·exact repclo_any ka P kc (tkK K V) ka' P' kc' (tkK K' V') a xb u (rd_take (h.keep g) _).1 (by omega) (by omega) h.xk (rd_take (h'.keep g) _).1 (by omega) (g.cellv hx (by simp)) (by omega) (by omega)
 ·exact repclo_any va P vc (tkV K V) va' P' vc' (tkV K' V') a xb u (rd_take (h.keep g) _).2 (by omega) (by omega) h.xv (rd_take (h'.keep g) _).2 (by omega) (g.cellv hx (by simp)) (by omega) (by omega)
 ·rintro e w' ⟨hc,hg⟩
  exact ⟨ch_out hc,hg⟩
end
theorem nil_rd (w:World):RdN w none 0 none 0 [] []:=⟨Reads.nil _ _,Reads.nil _ _,by decide,by decide,by decide,by decide,by decide,by decide⟩
theorem tk_nil:tkK [] []=[]∧tkV [] []=[]:=⟨rfl,rfl⟩
set_option maxRecDepth 20000 in
set_option maxHeartbeats 1000000 in
theorem join_any (lf:Bool) (ka:Option Addr) (kl kc:Nat) (va:Option Addr) (vl vc:Nat) (K V:List Nat) (lf':Bool) (ka':Option Addr) (kl' kc':Nat) (va':Option Addr) (vl' vc':Nat) (K' V':List Nat) (w:World) (h:RdN w ka kc va vc K V) (hk:K.length=kl) (hv:V.length=vl) (h':RdN w ka' kc' va' vc' K' V') (hk':K'.length=kl') (hv':V'.length=vl') (hb:np K V+np K' V'≤1000000000) :
  Calls Tryz.prog 182 #[.agg #[.bool lf,.slice ka kl kc,.slice va vl vc],.agg #[.bool lf',.slice ka' kl' kc',.slice va' vl' vc']] w fun e w' => NOut w.heap.size lf (tkK K V++tkK K' V') (tkV K V++tkV K' V') e w'∧Chg [] w w':=by
 obtain ⟨w1,hw1⟩:∃ w1,w1=(((w.alloc (.cells #[.bool lf,.slice ka kl kc,.slice va vl vc] 53)).alloc (.cells #[.bool lf',.slice ka' kl' kc',.slice va' vl' vc'] 53)).alloc (.cells #[.bool false,.slice none 0 0,.slice none 0 0] 53)):=⟨_,rfl⟩
 have a0:w1.cell? ⟨w.heap.size,0,none⟩=some (.bool lf):=by rw [hw1];simp [go_sem]
 have a1:w1.cell? ⟨w.heap.size,1,none⟩=some (.slice ka kl kc):=by rw [hw1];simp [go_sem]
 have a2:w1.cell? ⟨w.heap.size,2,none⟩=some (.slice va vl vc):=by rw [hw1];simp [go_sem]
 have b0:w1.cell? ⟨w.heap.size+1,0,none⟩=some (.bool lf'):=by rw [hw1];simp [go_sem]
 have b1:w1.cell? ⟨w.heap.size+1,1,none⟩=some (.slice ka' kl' kc'):=by rw [hw1];simp [go_sem]
 have b2:w1.cell? ⟨w.heap.size+1,2,none⟩=some (.slice va' vl' vc'):=by rw [hw1];simp [go_sem]
 have t0:w1.there (w.heap.size+1+1) 0 3:=fun j hj => by
  rw [hw1]
  match j,hj with
  | 0,_ => simp [go_sem]
  | 1,_ => simp [go_sem]
  | 2,_ => simp [go_sem]
 have g0:Chg [] w w1:=by rw [hw1];exact ((Chg.alloc [] w _).then (Chg.alloc [] _ _)).then (Chg.alloc [] _ _)
 have hz:w1.heap.size=w.heap.size+3:=by rw [hw1];simp
 have HE:=mkHid (And.intro a0 (And.intro a1 (And.intro a2 (And.intro b0 (And.intro b1 (And.intro b2 (And.intro t0 (And.intro g0 (hz)))))))))
 clear a0 a1 a2 b0 b1 b2 t0 g0 hz
 have cC:=fun (u:World) (g:Chg [] w u) => changed_join lf ka kl kc va vl vc K V lf' ka' kl' kc' va' vl' vc' K' V' u (h.keep g) hk hv (h'.keep g) hk' hv' hb
 generalize tkK K V++tkK K' V'=X at *
 generalize tkV K V++tkV K' V'=Y at *
 have CC:=mkHid cC
 clear cC h hk hv h' hk' hv' hb
 go_enter Tryz.func182,Tryz.ntmps182
 go_wp2_with fail
 rw [← hw1]
 clear hw1
 obtain ⟨a0,a1,a2,b0,b1,b2,t0,g0,hz⟩:=HE.out
 clear HE
 obtain ⟨B1,hB1⟩:∃ b,w.heap.size+1=b:=⟨_,rfl⟩
 rw [hB1] at b0 b1 b2 t0 ⊢
 obtain ⟨R,hR⟩:∃ b,B1+1=b:=⟨_,rfl⟩
 rw [hR] at t0 ⊢
 have HR:=mkHid (show w.heap.size+1=B1∧B1+1=R∧R+1=w1.heap.size by omega)
 clear hz hB1 hR
 go_wp2_with fail
 refine (CC.out w1 g0).mono ?_
 rintro e w2 ⟨⟨pa,pc,qa,qc,rfl,hr⟩,gW⟩
 obtain ⟨v0,v1,v2,i0,i1,i2,j0,j1,j2⟩:=there3 (there_chg t0 gW (by simp))
 have gZ:=three_chg w2 R (.bool lf) (.slice pa (X).length pc) (.slice qa (Y).length qc)
 have hR1:=HR.out
 have hZ:=hr.chg gZ (fun q hq => by simp at hq;have:=g0.size;skip;omega)
 have gF:=(g0.then gW).trans gZ (U:=[]) (by simp) (fun q hq hlt => by simp at hq;omega)
 have HF:=mkHid (And.intro hZ gF)
 clear hZ gF gZ hr gW
 go_wp2_with fail
 refine bodyPost_ret (v:=.agg #[.bool lf,.slice pa (X).length pc,.slice qa (Y).length qc]) (by simp [results,Tryz.results182,go_sem,i0,i1,i2]) rfl ⟨⟨pa,pc,qa,qc,rfl,HF.out.1.mono (by have:=g0.size;skip;omega)⟩,HF.out.2⟩
set_option maxRecDepth 20000 in
set_option maxHeartbeats 1000000 in
theorem copied_any (lf:Bool) (ka:Option Addr) (kl kc:Nat) (va:Option Addr) (vl vc:Nat) (K V:List Nat) (w:World) (h:RdN w ka kc va vc K V) (hk:K.length=kl) (hv:V.length=vl) (hb:np K V≤1000000000) :
  Calls Tryz.prog 180 #[.agg #[.bool lf,.slice ka kl kc,.slice va vl vc]] w fun e w' => NOut w.heap.size lf (tkK K V) (tkV K V) e w'∧Chg [] w w':=by
 obtain ⟨w1,hw1⟩:∃ w1,w1=((w.alloc (.cells #[.bool lf,.slice ka kl kc,.slice va vl vc] 53)).alloc (.cells #[.bool false,.slice none 0 0,.slice none 0 0] 53)):=⟨_,rfl⟩
 have a0:w1.cell? ⟨w.heap.size,0,none⟩=some (.bool lf):=by rw [hw1];simp [go_sem]
 have a1:w1.cell? ⟨w.heap.size,1,none⟩=some (.slice ka kl kc):=by rw [hw1];simp [go_sem]
 have a2:w1.cell? ⟨w.heap.size,2,none⟩=some (.slice va vl vc):=by rw [hw1];simp [go_sem]
 have t0:w1.there (w.heap.size+1) 0 3:=fun j hj => by
  rw [hw1]
  match j,hj with
  | 0,_ => simp [go_sem]
  | 1,_ => simp [go_sem]
  | 2,_ => simp [go_sem]
 have g0:Chg [] w w1:=by rw [hw1];exact (Chg.alloc [] w _).then (Chg.alloc [] _ _)
 have hz:w1.heap.size=w.heap.size+2:=by rw [hw1];simp
 have HE:=mkHid (And.intro a0 (And.intro a1 (And.intro a2 (And.intro t0 (And.intro g0 (hz))))))
 clear a0 a1 a2 t0 g0 hz
 have cC:=fun (u:World) (g:Chg [] w u) => join_any lf ka kl kc va vl vc K V false none 0 0 none 0 0 [] [] u (h.keep g) hk hv (nil_rd u) rfl rfl (by have:np [] []=0:=rfl;omega)
 rw [tk_nil.1,tk_nil.2,List.append_nil,List.append_nil] at cC
 generalize tkK K V=X at *
 generalize tkV K V=Y at *
 have CC:=mkHid cC
 clear cC h hk hv hb
 go_enter Tryz.func180,Tryz.ntmps180
 go_wp2_with fail
 rw [← hw1]
 clear hw1
 obtain ⟨a0,a1,a2,t0,g0,hz⟩:=HE.out
 clear HE
 obtain ⟨R,hR⟩:∃ b,w.heap.size+1=b:=⟨_,rfl⟩
 rw [hR] at t0 ⊢
 have HR:=mkHid (show w.heap.size+1=R∧R+1=w1.heap.size by omega)
 clear hz hR
 go_wp2_with fail
 refine (CC.out w1 g0).mono ?_
 rintro e w2 ⟨⟨pa,pc,qa,qc,rfl,hr⟩,gW⟩
 obtain ⟨v0,v1,v2,i0,i1,i2,j0,j1,j2⟩:=there3 (there_chg t0 gW (by simp))
 have gZ:=three_chg w2 R (.bool lf) (.slice pa (X).length pc) (.slice qa (Y).length qc)
 have hR1:=HR.out
 have hZ:=hr.chg gZ (fun q hq => by simp at hq;have:=g0.size;skip;omega)
 have gF:=(g0.then gW).trans gZ (U:=[]) (by simp) (fun q hq hlt => by simp at hq;omega)
 have HF:=mkHid (And.intro hZ gF)
 clear hZ gF gZ hr gW
 go_wp2_with fail
 refine bodyPost_ret (v:=.agg #[.bool lf,.slice pa (X).length pc,.slice qa (Y).length qc]) (by simp [results,Tryz.results180,go_sem,i0,i1,i2]) rfl ⟨⟨pa,pc,qa,qc,rfl,HF.out.1.mono (by have:=g0.size;skip;omega)⟩,HF.out.2⟩
set_option maxRecDepth 20000 in
set_option maxHeartbeats 1000000 in
theorem part_anyK (lf:Bool) (ka:Option Addr) (kl kc:Nat) (va:Option Addr) (vl vc:Nat) (f t d:Nat) (w:World) (hft:f≤t) (htk:t≤kl) (htv:t≤vl) (hkc:kl≤kc) (hvc:vl≤vc) (hd:t - f=d) :
  Calls Tryz.prog 181 #[.agg #[.bool lf,.slice ka kl kc,.slice va vl vc],.int .i64 (f:Int),.int .i64 (t:Int)] w fun e w' => e=.returned (.agg #[.bool lf,.slice (cut ka t f) d d,.slice (cut va t f) d d])∧Chg [] w w':=by
 obtain ⟨w1,hw1⟩:∃ w1,w1=((((w.alloc (.cells #[.bool lf,.slice ka kl kc,.slice va vl vc] 53)).alloc (.cells #[.int .i64 (f:Int)] 3)).alloc (.cells #[.int .i64 (t:Int)] 3)).alloc (.cells #[.bool false,.slice none 0 0,.slice none 0 0] 53)):=⟨_,rfl⟩
 have a0:w1.cell? ⟨w.heap.size,0,none⟩=some (.bool lf):=by rw [hw1];simp [go_sem]
 have a1:w1.cell? ⟨w.heap.size,1,none⟩=some (.slice ka kl kc):=by rw [hw1];simp [go_sem]
 have a2:w1.cell? ⟨w.heap.size,2,none⟩=some (.slice va vl vc):=by rw [hw1];simp [go_sem]
 have b0:w1.cell? ⟨w.heap.size+1,0,none⟩=some (.int .i64 (f:Int)):=by rw [hw1];simp [go_sem]
 have c0:w1.cell? ⟨w.heap.size+1+1,0,none⟩=some (.int .i64 (t:Int)):=by rw [hw1];simp [go_sem]
 have t0:w1.there (w.heap.size+1+1+1) 0 3:=fun j hj => by
  rw [hw1]
  match j,hj with
  | 0,_ => simp [go_sem]
  | 1,_ => simp [go_sem]
  | 2,_ => simp [go_sem]
 have g0:Chg [] w w1:=by rw [hw1];exact (((Chg.alloc [] w _).then (Chg.alloc [] _ _)).then (Chg.alloc [] _ _)).then (Chg.alloc [] _ _)
 have hz:w1.heap.size=w.heap.size+4:=by rw [hw1];simp
 have HE:=mkHid (And.intro a0 (And.intro a1 (And.intro a2 (And.intro b0 (And.intro c0 (And.intro t0 (And.intro g0 (hz))))))))
 clear a0 a1 a2 b0 c0 t0 g0 hz
 have cC:∀ (xb yb:Nat) (u:World),w.heap.size≤u.heap.size→u.cell? ⟨xb,0,none⟩=some (.int .i64 (f:Int))→u.cell? ⟨yb,0,none⟩=some (.int .i64 (t:Int))→Calls Tryz.prog 151 #[.agg #[.bool lf,.slice ka kl kc,.slice va vl vc],.agg #[.bool false,.slice none 0 0,.slice none 0 0],.func (.func 190) #[] #[.pointer (some ⟨xb,0,none⟩),.pointer (some ⟨yb,0,none⟩)]] u fun e u' => e=.returned (.agg #[.bool lf,.slice (cut ka t f) d d,.slice (cut va t f) d d])∧Chg [] u u':=by
  intro xb yb u _ hx hy
  refine (changed_any lf ka kl kc va vl vc false none 0 0 none 0 0 _ _ enters_part (min kl vl) 0 (IsV (.slice (cut ka t f) (t - f) (t - f))) (IsV (.slice (cut va t f) (t - f) (t - f))) u rfl rfl (by omega) (by omega) (by omega) (by omega) (staysV _ _ _ _) (staysV _ _ _ _) (fun u2 g => ?_) (fun u2 g => ?_)).mono ?_
  ·exact partclo_any ka (min kl vl) kc none 0 0 f t xb yb u2 hft (by omega) (g.cellv hx (by simp)) (g.cellv hy (by simp))
  ·exact partclo_any va (min kl vl) vc none 0 0 f t xb yb u2 hft (by omega) (g.cellv hx (by simp)) (g.cellv hy (by simp))
  ·rintro e w' ⟨⟨x,y,_,_,_,_,rfl,ex,ey,-⟩,hg⟩
   exact ⟨by rw [show x=_ from ex,show y=_ from ey,hd],hg⟩
 have CC:=mkHid cC
 clear cC htk htv hkc hvc hd
 go_enter Tryz.func181,Tryz.ntmps181
 go_wp2_with fail
 rw [← hw1]
 clear hw1
 obtain ⟨a0,a1,a2,b0,c0,t0,g0,hz⟩:=HE.out
 clear HE
 obtain ⟨B1,hB1⟩:∃ b,w.heap.size+1=b:=⟨_,rfl⟩
 rw [hB1] at b0 c0 t0 ⊢
 obtain ⟨B2,hB2⟩:∃ b,B1+1=b:=⟨_,rfl⟩
 rw [hB2] at c0 t0 ⊢
 obtain ⟨R,hR⟩:∃ b,B2+1=b:=⟨_,rfl⟩
 rw [hR] at t0 ⊢
 have HR:=mkHid (show w.heap.size+1=B1∧B1+1=B2∧B2+1=R∧R+1=w1.heap.size by omega)
 clear hz hB1 hB2 hR
 go_wp2_with fail
 refine (CC.out B1 B2 w1 g0.size b0 c0).mono ?_
 rintro e w2 ⟨rfl,gW⟩
 obtain ⟨v0,v1,v2,i0,i1,i2,j0,j1,j2⟩:=there3 (there_chg t0 gW (by simp))
 have gZ:=three_chg w2 R (.bool lf) (.slice (cut ka t f) d d) (.slice (cut va t f) d d)
 have hR1:=HR.out
 have gF:=(g0.then gW).trans gZ (U:=[]) (by simp) (fun q hq hlt => by simp at hq;omega)
 clear gZ gW
 go_wp2_with fail
 exact bodyPost_ret (v:=.agg #[.bool lf,.slice (cut ka t f) d d,.slice (cut va t f) d d]) (by simp [results,Tryz.results181,go_sem,i0,i1,i2]) rfl ⟨rfl,gF⟩
end
section
open Go.RowKit
attribute [local go_sem ↓] Go.wp_at_zero Go.wp_at_succ
def repO (z:Int) (M:List Nat) (P:Nat) (L:List Nat):List Nat:=if 0≤z∧z < (P:Int) then sub L 0 z.toNat++(M++sub L (z.toNat+1) P) else sub L 0 P
theorem tk_sub (K V:List Nat):tkK K V=sub K 0 (np K V)∧tkV K V=sub V 0 (np K V):=⟨rfl,rfl⟩
set_option maxRecDepth 20000 in
set_option maxHeartbeats 4000000 in
theorem replaced_any (lf:Bool) (ka:Option Addr) (kl kc:Nat) (va:Option Addr) (vl vc:Nat) (K V:List Nat) (lf':Bool) (ka':Option Addr) (kl' kc':Nat) (va':Option Addr) (vl' vc':Nat) (K' V':List Nat) (w:World) (h:RdN w ka kc va vc K V) (hk:K.length=kl) (hv:V.length=vl) (h':RdN w ka' kc' va' vc' K' V') (hk':K'.length=kl') (hv':V'.length=vl') (z:Int) (hb:np K V+np K' V'≤1000000000) :
  Calls Tryz.prog 177 #[.agg #[.bool lf,.slice ka kl kc,.slice va vl vc],.int .i64 z,.agg #[.bool lf',.slice ka' kl' kc',.slice va' vl' vc']] w fun e w' => NOut w.heap.size lf (repO z (tkK K' V') (np K V) K) (repO z (tkV K' V') (np K V) V) e w'∧Chg [] w w':=by
 obtain ⟨P,hP⟩:∃ P,np K V=P:=⟨_,rfl⟩
 have cP:=pairs_any lf ka kl kc va vl vc P (by rw [min_np hk hv,hP])
 have cD:=fun (u:World) (g:Chg [] w u) => copied_any lf ka kl kc va vl vc K V u (h.keep g) hk hv (by omega)
 rw [(tk_sub K V).1,(tk_sub K V).2,hP] at cD
 have cR:=fun (a xb:Nat) (u:World) (g:Chg [] w u) (hx:u.cell? ⟨xb,0,none⟩=some (.int .i64 (a:Int))) (ha:a < np K V) => changed_rep lf ka kl kc va vl vc K V lf' ka' kl' kc' va' vl' vc' K' V' u (h.keep g) hk hv (h'.keep g) hk' hv' a xb hx ha hb
 rw [hP] at cR ⊢
 have CP:=mkHid cP
 have CD:=mkHid cD
 have CR:=mkHid cR
 clear cP cD cR h hk hv h' hk' hv' hP hb
 obtain ⟨w1,hw1⟩:∃ w1,w1=((((w.alloc (.cells #[.bool lf,.slice ka kl kc,.slice va vl vc] 53)).alloc (.cells #[.int .i64 z] 3)).alloc (.cells #[.bool lf',.slice ka' kl' kc',.slice va' vl' vc'] 53)).alloc (.cells #[.bool false,.slice none 0 0,.slice none 0 0] 53)):=⟨_,rfl⟩
 have a0:w1.cell? ⟨w.heap.size,0,none⟩=some (.bool lf):=by rw [hw1];simp [go_sem]
 have a1:w1.cell? ⟨w.heap.size,1,none⟩=some (.slice ka kl kc):=by rw [hw1];simp [go_sem]
 have a2:w1.cell? ⟨w.heap.size,2,none⟩=some (.slice va vl vc):=by rw [hw1];simp [go_sem]
 have c0:w1.cell? ⟨w.heap.size+1,0,none⟩=some (.int .i64 z):=by rw [hw1];simp [go_sem]
 have b0:w1.cell? ⟨w.heap.size+1+1,0,none⟩=some (.bool lf'):=by rw [hw1];simp [go_sem]
 have b1:w1.cell? ⟨w.heap.size+1+1,1,none⟩=some (.slice ka' kl' kc'):=by rw [hw1];simp [go_sem]
 have b2:w1.cell? ⟨w.heap.size+1+1,2,none⟩=some (.slice va' vl' vc'):=by rw [hw1];simp [go_sem]
 have t0:w1.there (w.heap.size+1+1+1) 0 3:=fun j hj => by
  rw [hw1]
  match j,hj with
  | 0,_ => simp [go_sem]
  | 1,_ => simp [go_sem]
  | 2,_ => simp [go_sem]
 have g0:Chg [] w w1:=by rw [hw1];exact (((Chg.alloc [] w _).then (Chg.alloc [] _ _)).then (Chg.alloc [] _ _)).then (Chg.alloc [] _ _)
 have hz:w1.heap.size=w.heap.size+4:=by rw [hw1];simp
 have HE:=mkHid (And.intro a0 (And.intro a1 (And.intro a2 (And.intro c0 (And.intro b0 (And.intro b1 (And.intro b2 (And.intro t0 (And.intro g0 (hz))))))))))
 clear a0 a1 a2 c0 b0 b1 b2 t0 g0 hz
 by_cases h1:z < 0
 ·have d1:decide (z < 0)=true:=decide_eq_true h1
  rw [show repO z (tkK K' V') P K=sub K 0 P from if_neg (by omega),show repO z (tkV K' V') P V=sub V 0 P from if_neg (by omega)]
  generalize sub K 0 P=X at *
  generalize sub V 0 P=Y at *
  go_enter Tryz.func177,Tryz.ntmps177
  go_wp2_with fail
  rw [← hw1]
  clear hw1
  obtain ⟨a0,a1,a2,c0,b0,b1,b2,t0,g0,hz⟩:=HE.out
  clear HE
  obtain ⟨B1,hB1⟩:∃ b,w.heap.size+1=b:=⟨_,rfl⟩
  rw [hB1] at c0 b0 b1 b2 t0 ⊢
  obtain ⟨B2,hB2⟩:∃ b,B1+1=b:=⟨_,rfl⟩
  rw [hB2] at b0 b1 b2 t0 ⊢
  obtain ⟨R,hR⟩:∃ b,B2+1=b:=⟨_,rfl⟩
  rw [hR] at t0 ⊢
  have HR:=mkHid (show w.heap.size+1=B1∧B1+1=B2∧B2+1=R∧R+1=w1.heap.size by omega)
  clear hz hB1 hB2 hR
  go_wp2_with fail
  refine wp_region_held_drew (S:=fun u => u.cell? ⟨B1,0,none⟩=some (.int .i64 z)∧Chg [] w1 u) (by kernel_rfl) ?_ (fun hH => ?_)
  ·exact ⟨(Chg.drew [] _).cellv c0 (by simp),Chg.drew [] _⟩
  refine wpAnyH_take (i:=0) (oi:={ dst:=some 7,op:=_,type:=_,pos:=_,after:=_,guard:=none }) (v:=?_) rfl (by kernel_rfl) (by kernel_rfl) (by kernel_rfl) (fun _ _ _ h => h) (Or.inl ⟨by rfl,?_⟩) hH ?_
  rotate_left
  ·intro u hSu
   try dsimp only at hSu
   go_simp
   try with_reducible rfl
  try simp only [Act.put,zqf,zqg,zqh]
  refine wpAnyH_take (i:=1) (oi:={ dst:=some 8,op:=_,type:=_,pos:=_,after:=_,guard:=none }) (v:=?_) rfl (by kernel_rfl) (by kernel_rfl) (by kernel_rfl) (fun _ _ _ h => h) (Or.inl ⟨by rfl,?_⟩) hH ?_
  rotate_left
  ·intro u hSu
   try dsimp only at hSu
   go_simp
   try with_reducible rfl
  try simp only [Act.put,zqf,zqg,zqh]
  refine wpAnyH_take (i:=2) (oi:={ dst:=some 9,op:=_,type:=_,pos:=_,after:=_,guard:=none }) (v:=?_) rfl (by kernel_rfl) (by kernel_rfl) (by kernel_rfl) (fun _ _ _ h => h) (Or.inl ⟨by rfl,?_⟩) hH ?_
  rotate_left
  ·intro u hSu
   try dsimp only at hSu
   go_simp
   try with_reducible rfl
  try simp only [Act.put,zqf,zqg,zqh]
  refine wpAnyH_take (i:=3) (oi:={ dst:=some 10,op:=_,type:=_,pos:=_,after:=_,guard:=some (2,false) }) (v:=undef) rfl (by kernel_rfl) (by kernel_rfl) (by kernel_rfl) (fun _ _ _ h => h) (Or.inr ⟨by rfl,rfl⟩) hH ?_
  try simp only [Act.put,zqf,zqg,zqh]
  refine wpAnyH_take (i:=4) (oi:={ dst:=some 11,op:=_,type:=_,pos:=_,after:=_,guard:=some (2,false) }) (v:=undef) rfl (by kernel_rfl) (by kernel_rfl) (by kernel_rfl) (fun _ _ _ h => h) (Or.inr ⟨by rfl,rfl⟩) hH ?_
  try simp only [Act.put,zqf,zqg,zqh]
  refine wpAnyH_take (i:=5) (oi:={ dst:=some 12,op:=_,type:=_,pos:=_,after:=_,guard:=some (2,false) }) (v:=undef) rfl (by kernel_rfl) (by kernel_rfl) (by kernel_rfl) (fun _ _ _ h => h) (Or.inr ⟨by rfl,rfl⟩) hH ?_
  try simp only [Act.put,zqf,zqg,zqh]
  refine wpAnyH_take (i:=6) (oi:={ dst:=some 13,op:=_,type:=_,pos:=_,after:=_,guard:=some (2,false) }) (v:=undef) rfl (by kernel_rfl) (by kernel_rfl) (by kernel_rfl) (fun _ _ _ h => h) (Or.inr ⟨by rfl,rfl⟩) hH ?_
  try simp only [Act.put,zqf,zqg,zqh]
  refine wpAnyH_take (i:=7) (oi:={ dst:=some 14,op:=_,type:=_,pos:=_,after:=_,guard:=none }) (v:=?_) rfl (by kernel_rfl) (by kernel_rfl) (by kernel_rfl) (fun _ _ _ h => h) (Or.inl ⟨by rfl,?_⟩) hH ?_
  rotate_left
  ·intro u hSu
   try dsimp only at hSu
   go_simp
   try with_reducible rfl
  try simp only [Act.put,zqf,zqg,zqh]
  refine wpAnyH_done (by kernel_rfl) ?_ _
  have gX:=Chg.drew [] w1
  have x0:=gX.cellv a0 (by simp)
  have x1:=gX.cellv a1 (by simp)
  have x2:=gX.cellv a2 (by simp)
  go_wp2_with fail
  refine (CD.out w1.drew (g0.then gX)).mono ?_
  rintro e w2 ⟨⟨pa,pc,qa,qc,rfl,hr⟩,gV⟩
  have gW:=gX.then gV
  have hsz:w1.heap.size≤w1.drew.heap.size:=gX.size
  obtain ⟨v0,v1,v2,i0,i1,i2,j0,j1,j2⟩:=there3 (there_chg t0 gW (by simp))
  have gZ:=three_chg w2 R (.bool lf) (.slice pa (X).length pc) (.slice qa (Y).length qc)
  have hR1:=HR.out
  have hZ:=hr.chg gZ (fun q hq => by simp at hq;have:=g0.size;have:=hsz;omega)
  have gF:=(g0.then gW).trans gZ (U:=[]) (by simp) (fun q hq hlt => by simp at hq;omega)
  have HF:=mkHid (And.intro hZ gF)
  clear hZ gF gZ hr gW
  go_wp2_with fail
  refine bodyPost_ret (v:=.agg #[.bool lf,.slice pa (X).length pc,.slice qa (Y).length qc]) (by simp [results,Tryz.results177,go_sem,i0,i1,i2]) rfl ⟨⟨pa,pc,qa,qc,rfl,HF.out.1.mono (by have:=g0.size;have:=hsz;omega)⟩,HF.out.2⟩
 have d1:decide (z < 0)=false:=decide_eq_false h1
 obtain ⟨a,rfl⟩:∃ a:Nat,z=(a:Int):=⟨z.toNat,by omega⟩
 clear h1
 by_cases h2:P≤a
 ·have d2:decide ((a:Int) ≥ (P:Int))=true:=decide_eq_true (by omega)
  have d3:decide ((P:Int)≤(a:Int))=true:=decide_eq_true (by omega)
  have d4:decide (a ≥ P)=true:=decide_eq_true (by omega)
  have d5:decide (P≤a)=true:=decide_eq_true (by omega)
  rw [show repO (a:Int) (tkK K' V') P K=sub K 0 P from if_neg (by omega),show repO (a:Int) (tkV K' V') P V=sub V 0 P from if_neg (by omega)]
  generalize sub K 0 P=X at *
  generalize sub V 0 P=Y at *
  go_enter Tryz.func177,Tryz.ntmps177
  go_wp2_with fail
  rw [← hw1]
  clear hw1
  obtain ⟨a0,a1,a2,c0,b0,b1,b2,t0,g0,hz⟩:=HE.out
  clear HE
  obtain ⟨B1,hB1⟩:∃ b,w.heap.size+1=b:=⟨_,rfl⟩
  rw [hB1] at c0 b0 b1 b2 t0 ⊢
  obtain ⟨B2,hB2⟩:∃ b,B1+1=b:=⟨_,rfl⟩
  rw [hB2] at b0 b1 b2 t0 ⊢
  obtain ⟨R,hR⟩:∃ b,B2+1=b:=⟨_,rfl⟩
  rw [hR] at t0 ⊢
  have HR:=mkHid (show w.heap.size+1=B1∧B1+1=B2∧B2+1=R∧R+1=w1.heap.size by omega)
  clear hz hB1 hB2 hR
  go_wp2_with fail
  go_region_held3 (fun u => u.cell? ⟨w.heap.size,0,none⟩=some (.bool lf)∧u.cell? ⟨w.heap.size,1,none⟩=some (.slice ka kl kc)∧u.cell? ⟨w.heap.size,2,none⟩=some (.slice va vl vc)∧u.cell? ⟨B1,0,none⟩=some (.int .i64 (a:Int))∧Chg [] w1 u)
   (first | exact ⟨(Chg.drew [] _).cellv a0 (by simp),(Chg.drew [] _).cellv a1 (by simp),(Chg.drew [] _).cellv a2 (by simp),(Chg.drew [] _).cellv c0 (by simp),Chg.drew [] _⟩ | exact step4 (by assumption) (by assumption) | assumption)
   (first | (go_at_call 150;refine (CP.out _).mono ?_;rintro e w3 ⟨rfl,g3⟩))
  have gX:Chg [] w1 w3:=pick4 (by assumption)
  have x0:=gX.cellv a0 (by simp)
  have x1:=gX.cellv a1 (by simp)
  have x2:=gX.cellv a2 (by simp)
  go_wp2_with fail
  refine (CD.out w3 (g0.then gX)).mono ?_
  rintro e w2 ⟨⟨pa,pc,qa,qc,rfl,hr⟩,gV⟩
  have gW:=gX.then gV
  have hsz:w1.heap.size≤w3.heap.size:=gX.size
  obtain ⟨v0,v1,v2,i0,i1,i2,j0,j1,j2⟩:=there3 (there_chg t0 gW (by simp))
  have gZ:=three_chg w2 R (.bool lf) (.slice pa (X).length pc) (.slice qa (Y).length qc)
  have hR1:=HR.out
  have hZ:=hr.chg gZ (fun q hq => by simp at hq;have:=g0.size;have:=hsz;omega)
  have gF:=(g0.then gW).trans gZ (U:=[]) (by simp) (fun q hq hlt => by simp at hq;omega)
  have HF:=mkHid (And.intro hZ gF)
  clear hZ gF gZ hr gW
  go_wp2_with fail
  refine bodyPost_ret (v:=.agg #[.bool lf,.slice pa (X).length pc,.slice qa (Y).length qc]) (by simp [results,Tryz.results177,go_sem,i0,i1,i2]) rfl ⟨⟨pa,pc,qa,qc,rfl,HF.out.1.mono (by have:=g0.size;have:=hsz;omega)⟩,HF.out.2⟩
 have d2:decide ((a:Int) ≥ (P:Int))=false:=decide_eq_false (by omega)
 have d3:decide ((P:Int)≤(a:Int))=false:=decide_eq_false (by omega)
 have d4:decide (a ≥ P)=false:=decide_eq_false (by omega)
 have d5:decide (P≤a)=false:=decide_eq_false (by omega)
 have haP:a < P:=by omega
 rw [show repO (a:Int) (tkK K' V') P K=sub K 0 a++(tkK K' V'++sub K (a+1) P) from if_pos (by omega),show repO (a:Int) (tkV K' V') P V=sub V 0 a++(tkV K' V'++sub V (a+1) P) from if_pos (by omega)]
 have cR1:=CR.out a
 generalize sub K 0 a++(tkK K' V'++sub K (a+1) P)=X at *
 generalize sub V 0 a++(tkV K' V'++sub V (a+1) P)=Y at *
 have CR1:=mkHid cR1
 clear cR1
 go_enter Tryz.func177,Tryz.ntmps177
 go_wp2_with fail
 rw [← hw1]
 clear hw1
 obtain ⟨a0,a1,a2,c0,b0,b1,b2,t0,g0,hz⟩:=HE.out
 clear HE
 obtain ⟨B1,hB1⟩:∃ b,w.heap.size+1=b:=⟨_,rfl⟩
 rw [hB1] at c0 b0 b1 b2 t0 ⊢
 obtain ⟨B2,hB2⟩:∃ b,B1+1=b:=⟨_,rfl⟩
 rw [hB2] at b0 b1 b2 t0 ⊢
 obtain ⟨R,hR⟩:∃ b,B2+1=b:=⟨_,rfl⟩
 rw [hR] at t0 ⊢
 have HR:=mkHid (show w.heap.size+1=B1∧B1+1=B2∧B2+1=R∧R+1=w1.heap.size by omega)
 clear hz hB1 hB2 hR
 go_wp2_with fail
 go_region_held3 (fun u => u.cell? ⟨w.heap.size,0,none⟩=some (.bool lf)∧u.cell? ⟨w.heap.size,1,none⟩=some (.slice ka kl kc)∧u.cell? ⟨w.heap.size,2,none⟩=some (.slice va vl vc)∧u.cell? ⟨B1,0,none⟩=some (.int .i64 (a:Int))∧Chg [] w1 u)
  (first | exact ⟨(Chg.drew [] _).cellv a0 (by simp),(Chg.drew [] _).cellv a1 (by simp),(Chg.drew [] _).cellv a2 (by simp),(Chg.drew [] _).cellv c0 (by simp),Chg.drew [] _⟩ | exact step4 (by assumption) (by assumption) | assumption)
  (first | (go_at_call 150;refine (CP.out _).mono ?_;rintro e w3 ⟨rfl,g3⟩))
 have gX:Chg [] w1 w3:=pick4 (by assumption)
 have x0:=gX.cellv a0 (by simp)
 have x1:=gX.cellv a1 (by simp)
 have x2:=gX.cellv a2 (by simp)
 have x3:=gX.cellv b0 (by simp)
 have x4:=gX.cellv b1 (by simp)
 have x5:=gX.cellv b2 (by simp)
 have x6:=gX.cellv c0 (by simp)
 go_wp2_with fail
 refine (CR1.out B1 w3 (g0.then gX) x6 haP).mono ?_
 rintro e w2 ⟨⟨pa,pc,qa,qc,rfl,hr⟩,gV⟩
 have gW:=gX.then gV
 have hsz:w1.heap.size≤w3.heap.size:=gX.size
 obtain ⟨v0,v1,v2,i0,i1,i2,j0,j1,j2⟩:=there3 (there_chg t0 gW (by simp))
 have gZ:=three_chg w2 R (.bool lf) (.slice pa (X).length pc) (.slice qa (Y).length qc)
 have hR1:=HR.out
 have hZ:=hr.chg gZ (fun q hq => by simp at hq;have:=g0.size;have:=hsz;omega)
 have gF:=(g0.then gW).trans gZ (U:=[]) (by simp) (fun q hq hlt => by simp at hq;omega)
 have HF:=mkHid (And.intro hZ gF)
 clear hZ gF gZ hr gW
 go_wp2_with fail
 refine bodyPost_ret (v:=.agg #[.bool lf,.slice pa (X).length pc,.slice qa (Y).length qc]) (by simp [results,Tryz.results177,go_sem,i0,i1,i2]) rfl ⟨⟨pa,pc,qa,qc,rfl,HF.out.1.mono (by have:=g0.size;have:=hsz;omega)⟩,HF.out.2⟩
theorem rep_nil (z:Int) (P:Nat) (L:List Nat):repO z [] P L=remO z P L:=by unfold repO remO remL;rw [List.nil_append]
theorem rep_one (z:Int) (x P:Nat) (L:List Nat):repO z [x] P L=setO z x P L:=by unfold repO setO setL;rfl
set_option maxRecDepth 20000 in
set_option maxHeartbeats 1000000 in
theorem remove_any (lf:Bool) (ka:Option Addr) (kl kc:Nat) (va:Option Addr) (vl vc:Nat) (K V:List Nat) (w:World) (h:RdN w ka kc va vc K V) (hk:K.length=kl) (hv:V.length=vl) (z:Int) (hb:np K V≤1000000000) :
  Calls Tryz.prog 149 #[.agg #[.bool lf,.slice ka kl kc,.slice va vl vc],.int .i64 z] w fun e w' => NOut w.heap.size lf (remO z (np K V) K) (remO z (np K V) V) e w'∧Chg [] w w':=by
 obtain ⟨w1,hw1⟩:∃ w1,w1=((w.alloc (.cells #[.bool lf,.slice ka kl kc,.slice va vl vc] 53)).alloc (.cells #[.bool false,.slice none 0 0,.slice none 0 0] 53)):=⟨_,rfl⟩
 have a0:w1.cell? ⟨w.heap.size,0,none⟩=some (.bool lf):=by rw [hw1];simp [go_sem]
 have a1:w1.cell? ⟨w.heap.size,1,none⟩=some (.slice ka kl kc):=by rw [hw1];simp [go_sem]
 have a2:w1.cell? ⟨w.heap.size,2,none⟩=some (.slice va vl vc):=by rw [hw1];simp [go_sem]
 have t0:w1.there (w.heap.size+1) 0 3:=fun j hj => by
  rw [hw1]
  match j,hj with
  | 0,_ => simp [go_sem]
  | 1,_ => simp [go_sem]
  | 2,_ => simp [go_sem]
 have g0:Chg [] w w1:=by rw [hw1];exact (Chg.alloc [] w _).then (Chg.alloc [] _ _)
 have hz:w1.heap.size=w.heap.size+2:=by rw [hw1];simp
 have HE:=mkHid (And.intro a0 (And.intro a1 (And.intro a2 (And.intro t0 (And.intro g0 (hz))))))
 clear a0 a1 a2 t0 g0 hz
 have cC:=fun (u:World) (g:Chg [] w u) => replaced_any lf ka kl kc va vl vc K V false none 0 0 none 0 0 [] [] u (h.keep g) hk hv (nil_rd u) rfl rfl z (by have:np [] []=0:=rfl;omega)
 rw [tk_nil.1,tk_nil.2,rep_nil,rep_nil] at cC
 generalize remO z (np K V) K=X at *
 generalize remO z (np K V) V=Y at *
 have CC:=mkHid cC
 clear cC h hk hv hb
 go_enter Tryz.func149,Tryz.ntmps149
 go_wp2_with fail
 rw [← hw1]
 clear hw1
 obtain ⟨a0,a1,a2,t0,g0,hz⟩:=HE.out
 clear HE
 obtain ⟨R,hR⟩:∃ b,w.heap.size+1=b:=⟨_,rfl⟩
 rw [hR] at t0 ⊢
 have HR:=mkHid (show w.heap.size+1=R∧R+1=w1.heap.size by omega)
 clear hz hR
 go_wp2_with fail
 refine (CC.out w1 g0).mono ?_
 rintro e w2 ⟨⟨pa,pc,qa,qc,rfl,hr⟩,gW⟩
 obtain ⟨v0,v1,v2,i0,i1,i2,j0,j1,j2⟩:=there3 (there_chg t0 gW (by simp))
 have gZ:=three_chg w2 R (.bool lf) (.slice pa (X).length pc) (.slice qa (Y).length qc)
 have hR1:=HR.out
 have hZ:=hr.chg gZ (fun q hq => by simp at hq;have:=g0.size;skip;omega)
 have gF:=(g0.then gW).trans gZ (U:=[]) (by simp) (fun q hq hlt => by simp at hq;omega)
 have HF:=mkHid (And.intro hZ gF)
 clear hZ gF gZ hr gW
 go_wp2_with fail
 refine bodyPost_ret (v:=.agg #[.bool lf,.slice pa (X).length pc,.slice qa (Y).length qc]) (by simp [results,Tryz.results149,go_sem,i0,i1,i2]) rfl ⟨⟨pa,pc,qa,qc,rfl,HF.out.1.mono (by have:=g0.size;skip;omega)⟩,HF.out.2⟩
theorem pair_as (x y:Nat) (w:World):Calls Tryz.prog 152 #[.int .u64 (x:Int),.int .u64 (y:Int)] w fun e w' => (∃ ka kc va vc,e=.returned (.agg #[.bool false,.slice ka 1 kc,.slice va 1 vc])∧RmN w' w.heap.size ka kc va vc [x] [y])∧Chg [] w w':=pair_any x y w
def IsOne (x y:Nat):Pr:=fun v lo hi u => ∃ ka kc va vc,v=.agg #[.bool false,.slice ka 1 kc,.slice va 1 vc]∧RmN u lo ka kc va vc [x] [y]
theorem keepOne (x y:Nat):Keeps (IsOne x y):=fun _ _ _ _ _ g h => by
 obtain ⟨ka,kc,va,vc,e,r⟩:=h
 exact ⟨ka,kc,va,vc,e,r.keep g⟩
theorem tk_one (x y:Nat):tkK [x] [y]=[x]∧tkV [x] [y]=[y]∧np [x] [y]=1:=⟨rfl,rfl,rfl⟩
set_option maxRecDepth 20000 in
set_option maxHeartbeats 2000000 in
theorem set_any (lf:Bool) (ka:Option Addr) (kl kc:Nat) (va:Option Addr) (vl vc:Nat) (K V:List Nat) (w:World) (h:RdN w ka kc va vc K V) (hk:K.length=kl) (hv:V.length=vl) (z:Int) (x y:Nat) (hb:np K V≤100000000) :
  Calls Tryz.prog 176 #[.agg #[.bool lf,.slice ka kl kc,.slice va vl vc],.int .i64 z,.int .u64 (x:Int),.int .u64 (y:Int)] w fun e w' => NOut w.heap.size lf (setO z x (np K V) K) (setO z y (np K V) V) e w'∧Chg [] w w':=by
 obtain ⟨w1,hw1⟩:∃ w1,w1=((w.alloc (.cells #[.bool lf,.slice ka kl kc,.slice va vl vc] 53)).alloc (.cells #[.bool false,.slice none 0 0,.slice none 0 0] 53)):=⟨_,rfl⟩
 have a0:w1.cell? ⟨w.heap.size,0,none⟩=some (.bool lf):=by rw [hw1];simp [go_sem]
 have a1:w1.cell? ⟨w.heap.size,1,none⟩=some (.slice ka kl kc):=by rw [hw1];simp [go_sem]
 have a2:w1.cell? ⟨w.heap.size,2,none⟩=some (.slice va vl vc):=by rw [hw1];simp [go_sem]
 have t0:w1.there (w.heap.size+1) 0 3:=fun j hj => by
  rw [hw1]
  match j,hj with
  | 0,_ => simp [go_sem]
  | 1,_ => simp [go_sem]
  | 2,_ => simp [go_sem]
 have g0:Chg [] w w1:=by rw [hw1];exact (Chg.alloc [] w _).then (Chg.alloc [] _ _)
 have hz:w1.heap.size=w.heap.size+2:=by rw [hw1];simp
 have HE:=mkHid (And.intro a0 (And.intro a1 (And.intro a2 (And.intro t0 (And.intro g0 (hz))))))
 clear a0 a1 a2 t0 g0 hz
 have cC:=fun (u:World) (oa:Option Addr) (oc:Nat) (ob:Option Addr) (od:Nat) (g:Chg [] w u) {B:Nat} (r:RmN u B oa oc ob od [x] [y]) => replaced_any lf ka kl kc va vl vc K V false oa 1 oc ob 1 od [x] [y] u (h.keep g) hk hv (r.rd (by simp) (by simp)) rfl rfl z (by have:=(tk_one x y).2.2;omega)
 simp only [(tk_one x y).1,(tk_one x y).2.1,rep_one] at cC
 generalize setO z x (np K V) K=X at *
 generalize setO z y (np K V) V=Y at *
 have CC:=mkHid @cC
 clear cC h hk hv hb
 go_enter Tryz.func176,Tryz.ntmps176
 go_wp2_with fail
 rw [← hw1]
 clear hw1
 obtain ⟨a0,a1,a2,t0,g0,hz⟩:=HE.out
 clear HE
 obtain ⟨R,hR⟩:∃ b,w.heap.size+1=b:=⟨_,rfl⟩
 rw [hR] at t0 ⊢
 have HR:=mkHid (show w.heap.size+1=R∧R+1=w1.heap.size by omega)
 clear hz hR
 refine region_made 6 [IsV (.agg #[.bool lf,.slice ka kl kc,.slice va vl vc]),IsV (.int .i64 z),IsV (.int .u64 (x:Int)),IsV (.int .u64 (y:Int)),IsOne x y,IsN lf (X) (Y)] (by kernel_rfl) (by kernel_rfl) (by kernel_rfl) (by decide) (of_decide_eq_true (by kernel_rfl)) ⟨keepV _,keepV _,keepV _,keepV _,keepOne _ _,keepNK _ _ _,trivial⟩ ?_ ?_
 ·refine ⟨?_,?_,?_,?_,?_,?_,trivial⟩
  ·intro v u hg hd K hK
   have hz:=(Chg.drew [] w1).then hg
   have x0:=hz.cellv a0 (by simp)
   have x1:=hz.cellv a1 (by simp)
   have x2:=hz.cellv a2 (by simp)
   clear hd
   have hk:=hK.out (.agg #[.bool lf,.slice ka kl kc,.slice va vl vc]) u (Chg.refl _ _) rfl
   clear hK
   simp only [zqa,zqb,zqc,zqd,zqe,putAll,Act.put,zqf,zqg,zqh,Nat.zero_add,Nat.reduceAdd] at hk ⊢
   go_simp
   exact hk
  ·intro v u hg hd K hK
   clear hd
   have hk:=hK.out (.int .i64 z) u (Chg.refl _ _) rfl
   clear hK
   simp only [zqa,zqb,zqc,zqd,zqe,putAll,Act.put,zqf,zqg,zqh,Nat.zero_add,Nat.reduceAdd] at hk ⊢
   go_simp
   exact hk
  ·intro v u hg hd K hK
   clear hd
   have hk:=hK.out (.int .u64 (x:Int)) u (Chg.refl _ _) rfl
   clear hK
   simp only [zqa,zqb,zqc,zqd,zqe,putAll,Act.put,zqf,zqg,zqh,Nat.zero_add,Nat.reduceAdd] at hk ⊢
   go_simp
   exact hk
  ·intro v u hg hd K hK
   clear hd
   have hk:=hK.out (.int .u64 (y:Int)) u (Chg.refl _ _) rfl
   clear hK
   simp only [zqa,zqb,zqc,zqd,zqe,putAll,Act.put,zqf,zqg,zqh,Nat.zero_add,Nat.reduceAdd] at hk ⊢
   go_simp
   exact hk
  ·intro v u hg hd K hK
   have h2:∃ lo hi,IsV (.int .u64 (x:Int)) (v 2) lo hi u:=dep hd 2 (by kernel_rfl)
   have e2:v 2=.int .u64 (x:Int):=depV h2
   have h3:∃ lo hi,IsV (.int .u64 (y:Int)) (v 3) lo hi u:=dep hd 3 (by kernel_rfl)
   have e3:v 3=.int .u64 (y:Int):=depV h3
   clear hd
   simp only [zqa,zqb,zqc,zqd,zqe,putAll,Act.put,zqf,zqg,zqh,Nat.zero_add,Nat.reduceAdd,e2,e3] at hK ⊢
   go_simp
   refine (pair_as x y u).mono ?_
   rintro e u' ⟨⟨qa,qc,qa',qc',rfl,hr⟩,g'⟩
   have hk:=hK.out (_) u' g' ⟨_,_,_,_,rfl,hr⟩
   exact hk
  ·intro v u hg hd K hK
   have h0:∃ lo hi,IsV (.agg #[.bool lf,.slice ka kl kc,.slice va vl vc]) (v 0) lo hi u:=dep hd 0 (by kernel_rfl)
   have e0:v 0=.agg #[.bool lf,.slice ka kl kc,.slice va vl vc]:=depV h0
   have h1:∃ lo hi,IsV (.int .i64 z) (v 1) lo hi u:=dep hd 1 (by kernel_rfl)
   have e1:v 1=.int .i64 z:=depV h1
   have h4:∃ lo hi,IsOne x y (v 4) lo hi u:=dep hd 4 (by kernel_rfl)
   obtain ⟨_,_,oa,oc,ob,od,e4,hr1⟩:=h4
   clear hd
   simp only [zqa,zqb,zqc,zqd,zqe,putAll,Act.put,zqf,zqg,zqh,Nat.zero_add,Nat.reduceAdd,e0,e1,e4] at hK ⊢
   go_simp
   refine (CC.out u oa oc ob od (g0.then ((Chg.drew [] w1).then hg)) hr1).mono ?_
   rintro e u' ⟨⟨qa,qc,qa',qc',rfl,hr⟩,g'⟩
   have hk:=hK.out _ u' g' (isN_out ⟨_,_,_,_,rfl,hr⟩)
   exact hk
 ·intro v u lo hi hg hall hbd hdj
  have e0:v 0=.agg #[.bool lf,.slice ka kl kc,.slice va vl vc]:=hall 0 (by decide)
  have e1:v 1=.int .i64 z:=hall 1 (by decide)
  have e2:v 2=.int .u64 (x:Int):=hall 2 (by decide)
  have e3:v 3=.int .u64 (y:Int):=hall 3 (by decide)
  obtain ⟨oa,oc,ob,od,e4,-⟩:IsOne x y (v 4) (lo 4) (hi 4) u:=hall 4 (by decide)
  obtain ⟨pa,pc,qa,qc,e5,hr0,m1,m2⟩:IsN lf (X) (Y) (v 5) (lo 5) (hi 5) u:=hall 5 (by decide)
  have bb:=(hbd 5 (by decide)).1
  have hr:=hr0.mono bb
  have gW:=(Chg.drew [] w1).then hg
  clear hall hbd hdj hr0 m1 m2 bb hg
  simp only [zqa,zqb,zqc,zqd,zqe,putAll,Act.put,zqf,zqg,zqh,Nat.zero_add,Nat.reduceAdd,e0,e1,e2,e3,e4,e5]
  clear e0 e1 e2 e3 e4 e5 v lo hi
  obtain ⟨v0,v1,v2,i0,i1,i2,j0,j1,j2⟩:=there3 (there_chg t0 gW (by simp))
  have gZ:=three_chg u R (.bool lf) (.slice pa (X).length pc) (.slice qa (Y).length qc)
  have hR1:=HR.out
  have hZ:=hr.chg gZ (fun q hq => by simp at hq;have:=g0.size;skip;omega)
  have gF:=(g0.then gW).trans gZ (U:=[]) (by simp) (fun q hq hlt => by simp at hq;omega)
  have HF:=mkHid (And.intro hZ gF)
  clear hZ gF gZ hr gW
  go_wp2_with fail
  refine bodyPost_ret (v:=.agg #[.bool lf,.slice pa (X).length pc,.slice qa (Y).length qc]) (by simp [results,Tryz.results176,go_sem,i0,i1,i2]) rfl ⟨⟨pa,pc,qa,qc,rfl,HF.out.1.mono (by have:=g0.size;skip;omega)⟩,HF.out.2⟩
end
end Go.Proofs.YtdgkbicelnnfpaaGreatDoor
