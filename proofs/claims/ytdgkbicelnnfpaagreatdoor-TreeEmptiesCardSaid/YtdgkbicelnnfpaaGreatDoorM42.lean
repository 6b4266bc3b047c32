/- Texts Wr, Ws of the library, joined. -/
import Derived.Deep.RegionLaw
import Derived.Test.YtdgkbicelnnfpaaGreatDoorM41
import Derived.Deep.DeepCutAuto
import Derived.Deep.CutBlock
set_option linter.unusedVariables false
set_option linter.unusedSimpArgs false
namespace Go.Proofs.YtdgkbicelnnfpaaGreatDoor
section
def Ei (n:Nat) (N:List UInt8) (X:Nat→Option Nd) (root:Nat) (P:Prs):Prop:=∃ B H,RemT X root P B H∧Used n N (B++(0 :: 1 :: P.map Prod.snd))∧(B++(0 :: 1 :: P.map Prod.snd)).Nodup∧Srt P∧∀ a,a∈P→0 < a.2
theorem low_of {X:Nat→Option Nd} {root:Nat} {P:Prs} {B:List Nat} {H:Nat} (T:RemT X root P B H) (hP:P.length < 512):∃ H',RemT X root P B H'∧H'≤3:=by
 rcases T.low hP with h | h
 ·refine ⟨0,?_,by omega⟩
  rcases T with h1 | h1
  ·exact Or.inl h1
  ·exact absurd h h1.1
 ·exact ⟨H,T,h⟩
theorem ei_ins {N C:List UInt8} {X:Nat→Option Nd} {root key:Nat} {P:Prs} (E:Ei 500 N X root P) (hC:C.length=500) (hc:∀ b:Nat,b < 500→at0 C (b:Int) ≠ 0→b∈[0,1]) (hP:P.length < 150) :
  ∃ (v:Nat) (N1 N2:List UInt8) (X':Nat→Option Nd) (rt:Nat),allocN N C=((v:Int),0,N1)∧v < 500∧insertA N1 C X root key v=.ok (N2,X',rt,(getP P key).1,(getP P key).2)∧rt < 500∧(getP P key).1 < 500 ∧
   ((getP P key).2=false→Ei 500 N2 X' rt (insP key v P)∧remP key P=P)∧((getP P key).2=true→(decN N2 ((getP P key).1:Int)).2.1=0∧Ei 500 (decN N2 ((getP P key).1:Int)).2.2 X' rt (insP key v P)):=by
 obtain ⟨B,H,T,hU,hN,hs,hp⟩:=E
 obtain ⟨H,T,hH⟩:=low_of T (by omega)
 have hB:=T.sizes.1
 have hmem:∀ {b:Nat} {l:List Nat},b∈([0,1]:List Nat)→b∈l++(0 :: 1 :: P.map Prod.snd):=fun {b l} h => by
  simp at h ⊢
  rcases h with h | h <;> simp [h]
 rcases hU.alloc hC with ⟨h1,-⟩ | ⟨a0,v,a1,a2,a3,a4,a5⟩
 ·exact absurd (room_of hU (fun b hb h => hmem (hc b hb h)) (fun b hb => hb) (by simp;omega)) h1
 have hv:0 < v:=by
  have:v ≠ 0:=fun e => a3 (by rw [e];simp)
  omega
 have hpm:(v :: (B++(0 :: 1 :: P.map Prod.snd))).Perm (B++(v :: 0 :: 1 :: P.map Prod.snd)):=List.perm_middle.symm
 have hN1:=hpm.nodup_iff.1 (List.nodup_cons.2 ⟨a3,hN⟩)
 rcases insertA_ex (key:=key) (val:=v) (D:=v :: 0 :: 1 :: P.map Prod.snd) hC hv (by simp) T (by omega) (a5.perm hpm) hN1 hs hp with ⟨-,N',W,w1,w2,w3⟩ | ⟨N2,X',rt,B',H',e1,e2,e3,e4,e5,e6⟩
 ·refine absurd (room_of (Y:=W++(v :: 0 :: 1 :: P.map Prod.snd)) w1 (fun b hb h => ?_) (fun b hb => hb) (by simp;omega)) w3
  have:=hc b hb h
  simp at this ⊢
  rcases this with h | h <;> simp [h]
 have hrt:rt < 500:=by
  rcases e2 with ⟨h,-,-⟩ | ⟨-,m,b,-,-,-,h⟩
  ·omega
  ·exact e3.2.1 rt (by rw [h];simp)
 have hsI:=insP_srt hs key v
 have hpI:=pos_ins (key:=key) hp hv
 have hip:(insP key v P).map Prod.snd |>.Perm (v :: (remP key P).map Prod.snd):=(ins_perm hs key v).map Prod.snd
 refine ⟨v,_,N2,X',rt,Prod.ext a1 (Prod.ext a0 rfl),a2,e1,hrt,?_,fun hf => ?_,fun ht => ?_⟩
 ·cases hg:(getP P key).2 with
  | false => rw [(rem_absent hg).2];decide
  | true =>
   have hm:=getP_mem (show getP P key=((getP P key).1,true) from Prod.ext rfl hg)
   exact hU.2.1 _ (List.mem_append_right _ (List.mem_cons_of_mem _ (List.mem_cons_of_mem _ (List.mem_map_of_mem (f:=Prod.snd) hm))))
 ·obtain ⟨r1,r2⟩:=rem_absent hf
  rw [r1] at hip
  have hq:(B'++(v :: 0 :: 1 :: P.map Prod.snd)).Perm (B'++(0 :: 1 :: (insP key v P).map Prod.snd)):=List.Perm.append_left _ (List.perm_iff_count.2 fun a => by
   have:=hip.count_eq a
   simp only [List.count_cons] at this ⊢
   omega)
  exact ⟨⟨B',H',e2,e3.perm hq,hq.nodup_iff.1 e4,hsI,hpI⟩,r1⟩
 ·have hg:getP P key=((getP P key).1,true):=Prod.ext rfl ht
  generalize (getP P key).1=o at *
  have hrp:=(rem_perm hs hg).map Prod.snd
  have hq:(B'++(v :: 0 :: 1 :: P.map Prod.snd)).Perm (o :: (B'++(0 :: 1 :: (insP key v P).map Prod.snd))):=List.perm_iff_count.2 fun a => by
   have h1:=hip.count_eq a
   have h2:=hrp.count_eq a
   simp only [List.map_cons,List.count_cons,List.count_append] at h1 h2 ⊢
   omega
  have hu:=e3.perm hq
  obtain ⟨d1,d2⟩:=hu.dec
  exact ⟨d1,B',H',e2,d2,(List.nodup_cons.1 (hq.nodup_iff.1 e4)).2,hsI,hpI⟩
theorem ei_rem {N C:List UInt8} {X:Nat→Option Nd} {root key v:Nat} {P:Prs} {Y0:List Nat} (E:Ei 500 N X root P) (hC:C.length=500) (hc:∀ b:Nat,b < 500→at0 C (b:Int) ≠ 0→b∈Y0) (hY:Y0.length≤302) (h01:0∈Y0∧1∈Y0∧∀ a,a∈P→a.2∈Y0) (hP:P.length≤150) (hg:getP P key=(v,true)) :
  lookA X root key=some (v,true)∧∃ (N2:List UInt8) (X':Nat→Option Nd) (rt:Nat),removedA N C X root key=.ok (N2,X',rt,v,true)∧rt < 500∧v < 500∧(decN N2 (v:Int)).2.1=0∧Ei 500 (decN N2 (v:Int)).2.2 X' rt (remP key P):=by
 obtain ⟨B,H,T,hU,hN,hs,hp⟩:=E
 obtain ⟨H,T,hH⟩:=low_of T (by omega)
 have hB:=T.sizes.1
 obtain ⟨l1,l2⟩:=removeA_ex hC (by decide) (by simp) T (by omega) hU hN hs hp hg
 refine ⟨l1,?_⟩
 rcases l2 with ⟨-,N',W,w1,w2,w3⟩ | ⟨N2,X',rt,B',H',e1,e2,e3,e4,e5,e6⟩
 ·refine absurd (room_of (Y:=W++Y0) w1 (fun b hb h => List.mem_append_right _ (hc b hb h)) (fun b hb => ?_) (by simp;omega)) w3
  rcases List.mem_append.1 hb with h | h
  ·exact List.mem_append_left _ h
  ·refine List.mem_append_right _ ?_
   rcases List.mem_cons.1 h with rfl | h
   ·exact h01.1
   ·rcases List.mem_cons.1 h with rfl | h
    ·exact h01.2.1
    ·obtain ⟨a,ha,rfl⟩:=List.mem_map.1 h
     exact h01.2.2 a ha
 ·have hrt:rt < 500:=by
   rcases e2 with ⟨h,-,-⟩ | ⟨-,m,b,-,-,-,h⟩
   ·omega
   ·exact e3.2.1 rt (by rw [h];simp)
  have hrp:=(rem_perm hs hg).map Prod.snd
  have hq:(B'++(0 :: 1 :: P.map Prod.snd)).Perm (v :: (B'++(0 :: 1 :: (remP key P).map Prod.snd))):=List.perm_iff_count.2 fun a => by
   have h2:=hrp.count_eq a
   simp only [List.map_cons,List.count_cons,List.count_append] at h2 ⊢
   omega
  have hu:=e3.perm hq
  obtain ⟨d1,d2⟩:=hu.dec
  exact ⟨N2,X',rt,e1,hrt,hu.2.1 v (by simp),d1,B',H',e2,d2,(List.nodup_cons.1 (hq.nodup_iff.1 e4)).2,remP_srt hs key,fun a ha => hp a (List.mem_filter.1 ha).1⟩
theorem ei_end {N:List UInt8} {X:Nat→Option Nd} {root:Nat} (E:Ei 500 N X root []):root=0∧N.length=500∧∀ b:Nat,b < 500→(at0 N (b:Int)).toNat=[0,1].count b:=by
 obtain ⟨B,H,T,hU,hN,hs,hp⟩:=E
 have hB:=T.sizes.1
 have hB0:B=[]:=List.length_eq_zero_iff.1 (by simpa using hB)
 subst hB0
 refine ⟨?_,hU.1,fun b hb => hU.2.2 b hb⟩
 rcases T with ⟨h,-,-⟩ | ⟨-,m,b,-,-,-,h⟩
 ·exact h
 ·cases h
theorem ei_start:Ei 500 (cnt0 500) (fun _ => none) 0 []:=by
 refine ⟨[],0,Or.inl ⟨rfl,rfl,rfl⟩,⟨by decide +kernel,by simp,?_⟩,by simp,List.Pairwise.nil,by simp⟩
 have h:(List.range 500).all (fun b => (at0 (cnt0 500) ((b:Nat):Int)).toNat == ([0,1]:List Nat).count b)=true:=by decide +kernel
 intro b hb
 have:=List.all_eq_true.1 h b (List.mem_range.2 hb)
 simpa using this
end
section
set_option maxRecDepth 200000
open Go.RowKit
attribute [local go_sem ↓] Go.wp_at_zero Go.wp_at_succ
section
variable {w0 w:World} {tag:Nat→Nat} {sb rb n:Nat} {N C:List UInt8} {X:Nat→Option Nd} {u:Nat}
theorem x_free (h:HasX w0 w tag sb rb n N C X u):Calls Tryz.prog 30 #[.pointer (some ⟨rb,0,none⟩)] w fun e w' => e=.returned (.int .i64 (freeL (freeI N C)).length)∧w=w':=by
 obtain ⟨Y,h1,h2⟩:=h
 exact r_free h1.r
theorem x_commit (h:HasX w0 w tag sb rb n N C X u):Calls Tryz.prog 28 #[.pointer (some ⟨rb,0,none⟩)] w fun e w' => e=.returned (.int .i64 0)∧∃ tag',HasX w0 w' tag' sb rb n N N X u∧Mv tag tag' w w':=by
 obtain ⟨Y,h1,h2⟩:=h
 refine (f_commit h1).mono ?_
 rintro e w' ⟨he,tag',h3,m⟩
 exact ⟨he,tag',⟨Y,h3,h2⟩,m⟩
end
theorem cov0:∀ b:Nat,b < 500→at0 (cnt0 500) (b:Int) ≠ 0→b∈([0,1]:List Nat):=by
 have h:(List.range 500).all (fun b => at0 (cnt0 500) ((b:Nat):Int) == 0 || decide (b∈([0,1]:List Nat)))=true:=by decide +kernel
 intro b hb h0
 have h1:=List.all_eq_true.1 h b (List.mem_range.2 hb)
 simp only [Bool.or_eq_true,beq_iff_eq,decide_eq_true_eq] at h1
 exact h1.resolve_left h0
theorem Ei.srt {n:Nat} {N:List UInt8} {X:Nat→Option Nd} {rt:Nat} {P:Prs} (h:Ei n N X rt P):Srt P:=by
 obtain ⟨B,H,-,-,-,hs,-⟩:=h
 exact hs
theorem keys_old {P:Prs} {key v o:Nat} (hs:Srt P) (h:getP P key=(o,true)):((insP key v P).map Prod.fst).Perm (P.map Prod.fst)∧(insP key v P).length=P.length:=by
 have h1:=ins_perm hs key v
 have h2:=rem_perm hs h
 refine ⟨(h1.map Prod.fst).trans ?_,by rw [h1.length_eq,h2.length_eq];simp⟩
 exact (List.Perm.symm (h2.map Prod.fst))
theorem keys_new {P:Prs} {key v:Nat} (hs:Srt P) (h:remP key P=P) {Ts:List Nat} (hT:Ts.Perm (P.map Prod.fst)):(Ts++[key]).Perm ((insP key v P).map Prod.fst)∧(insP key v P).length=P.length+1:=by
 have h1:=ins_perm hs key v
 rw [h] at h1
 refine ⟨?_,by rw [h1.length_eq];simp⟩
 exact (List.perm_append_comm.trans (List.Perm.cons key hT)).trans (h1.map Prod.fst).symm
theorem ei_cover {N:List UInt8} {X:Nat→Option Nd} {rt:Nat} {P:Prs} (E:Ei 500 N X rt P) (hP:P.length≤150):∃ Y0:List Nat,(∀ b:Nat,b < 500→at0 N (b:Int) ≠ 0→b∈Y0)∧Y0.length≤302∧0∈Y0∧1∈Y0∧∀ a,a∈P→a.2∈Y0:=by
 obtain ⟨B,H,T,hU,hN,hs,hp⟩:=E
 have hB:=T.sizes.1
 refine ⟨B++(0 :: 1 :: P.map Prod.snd),fun b hb h0 => ?_,by simp;omega,by simp,by simp,fun a ha => ?_⟩
 ·have h1:=hU.2.2 b hb
  refine List.count_pos_iff.1 ?_
  rw [← h1]
  refine Nat.pos_of_ne_zero fun e => h0 ?_
  exact UInt8.toNat_inj.1 e
 ·exact List.mem_append_right _ (List.mem_cons_of_mem _ (List.mem_cons_of_mem _ (List.mem_map_of_mem ha)))
theorem getP_key {P:Prs} {key:Nat} (h:key∈P.map Prod.fst):∃ v,getP P key=(v,true):=by
 unfold getP
 cases hf:P.find? (fun a => a.1 == key) with
 | some a => exact ⟨a.2,rfl⟩
 | none =>
  obtain ⟨a,ha,rfl⟩:=List.mem_map.1 h
  exact absurd (List.find?_eq_none.1 hf a ha) (by simp)
theorem keys_less {P:Prs} {key v:Nat} (hs:Srt P) (h:getP P key=(v,true)) {Ts:List Nat} (hT:Ts.Perm (P.map Prod.fst)) {k:Nat} (hk:Ts[k]?=some key):(Ts.take k++Ts.drop (k+1)).Perm ((remP key P).map Prod.fst)∧P.length=(remP key P).length+1:=by
 have h2:=rem_perm hs h
 refine ⟨?_,by rw [h2.length_eq];simp⟩
 have e:Ts=Ts.take k++key :: Ts.drop (k+1):=by
  obtain ⟨hl,e1⟩:=List.getElem?_eq_some_iff.1 hk
  rw [← e1,← List.drop_eq_getElem_cons hl,List.take_append_drop]
 have h3:(key :: (Ts.take k++Ts.drop (k+1))).Perm (key :: (remP key P).map Prod.fst):=by
  refine (List.perm_middle.symm).trans ?_
  rw [← e]
  exact hT.trans (h2.map Prod.fst)
 exact h3.cons_inv
theorem run_kk {ao:Addr} (h0:ao.add 0=ao) {n c a:Nat} (hac:a≤c) (u:World):(Instr.slice 35 (.slice (some ao) n c) none (some (.int .i64 (a:Int))) (some (.int .i64 (a:Int)))).run Tryz.prog u=.ok (.slice (some ao) a a) u:=by
 have hs:(Tryz.prog.info? 34).map (·.size)=some 1:=by kernel_rfl
 obtain ⟨i,hi,hi1⟩:=Option.map_eq_some_iff.1 hs
 have he:Tryz.prog.elem 35=34:=by simp [Program.elem,Tryz.underlying35]
 rw [run_slice_hm u 35 _ n c (by rw [he];exact Tryz.underlying35) .i64 .i64 (a:Int) (a:Int) (by omega) (by omega) (by omega),he]
 simp [sizeOf,typeInfo,hi,hi1,sliced,h0]
theorem Room.kk {w:World} {B:Nat} {ao:Option Addr} {n c:Nat} {xs:List Value} (h:Room w B ao n c xs) {k:Nat} (hk:k≤n):Room w B ao k k (xs.take k):=by
 have h1:=h.len
 have h2:=h.le
 have h3:=h.max
 refine ⟨by simp;omega,Nat.le_refl _,by omega,fun hc => ?_⟩
 obtain ⟨b,o,e,hB,hs,hv⟩:=h.at_ (by omega)
 refine ⟨b,o,e,hB,fun j hj => hs j (by omega),fun j u hu => hv j u ?_⟩
 rw [List.getElem?_take] at hu
 split at hu
 ·exact hu
 ·cases hu
theorem cnt0_of {N:List UInt8} (hl:N.length=500) (h:∀ b:Nat,b < 500→(at0 N (b:Int)).toNat=[0,1].count b):N=cnt0 500:=by
 have h2:(List.range 500).all (fun b => (at0 (cnt0 500) ((b:Nat):Int)).toNat == ([0,1]:List Nat).count b)=true:=by decide +kernel
 refine List.ext_getElem? fun b => ?_
 by_cases hb:b < 500
 ·have e1:=h b hb
  have e2:=List.all_eq_true.1 h2 b (List.mem_range.2 hb)
  simp only [beq_iff_eq] at e2
  rw [← e2] at e1
  have e3:=UInt8.toNat_inj.1 e1
  unfold at0 at e3
  rw [Int.toNat_natCast,List.getElem?_eq_getElem (by omega),List.getElem?_eq_getElem (by rw [cnt0_len];omega)] at e3
  rw [List.getElem?_eq_getElem (by omega),List.getElem?_eq_getElem (by rw [cnt0_len];omega)]
  exact congrArg some e3
 ·rw [List.getElem?_eq_none (by omega),List.getElem?_eq_none (by rw [cnt0_len];omega)]
set_option maxHeartbeats 4000000 in
theorem empties_core {w:World} (hT:Tab w) (ao bo:Option Addr) (c d:Nat) (KS TS:List Nat) (hk:Reads w ao (uvs KS)) (ht:Reads w bo (TS.map fun (x:Nat) => Value.int .u16 (x:Int))) (bK:∀ x,x∈KS→x < 2 ^ 64) (bT:∀ x,x∈TS→x < 65536) (lK:KS.length≤maxLen) (lT:TS.length≤maxLen) :
  Calls Tryz.prog 6 #[.slice ao KS.length c,.slice bo TS.length d] w fun e w' => e=.returned (.bool true)∧Chg [] w w':=by
 have cM:Calls Tryz.prog 9 #[.int .i64 500,.int .i64 6] w (MadeOut w [] 500):=made_bench [] 500 6 (by omega) (by omega) w
 go_enter Tryz.func6,Tryz.ntmps6
 go_wp2_with fail
 refine cM.mono ?_
 rintro e w1 ⟨xb,sb,rb,rfl,x0,x1,hxb,tag,t4,-,h1⟩
 have cA:=awake_yes (hT.then h1.chg)
 clear cM
 go_wp2_with fail
 refine cA.mono ?_
 rintro e w2 ⟨rfl,g2⟩
 have h2:=h1.keep g2
 have x0:=g2.cellv x0 (by simp)
 have x1:=g2.cellv x1 (by simp)
 have cF:=x_free h2
 obtain ⟨F,hF⟩:∃ F:Nat,(freeL (freeI (cnt0 500) (cnt0 500))).length=F:=⟨_,rfl⟩
 rw [hF] at cF
 have HF:=mkHid hF
 clear hF
 go_wp2_with fail
 refine cF.mono ?_
 rintro e w' ⟨rfl,rfl⟩
 have H1:=mkHid (And.intro h2 (And.intro x0 (And.intro x1 t4)))
 clear cA cF h1 h2 g2 x0 x1 t4
 go_wp2_with fail
 go_loopw [7,8,9,10,11,12,13,14,15,16,37] (fun root there _ _ _ _ _ _ _ _ key wr => ∃ (k rt:Nat) (N:List UInt8) (X:Nat→Option Nd) (tg:Nat→Nat) (P:Prs) (Ts:List Nat) (so:Option Addr) (sc:Nat),key=.int .i64 k∧root=.int .u64 rt∧there=.slice so Ts.length sc∧k≤KS.length∧k≤150∧rt < 500∧HasX w wr tg sb rb 500 N (cnt0 500) X (5000 * k)∧Ei 500 N X rt P∧P.length≤k∧(∀ x,x∈Ts→x < 2 ^ 64)∧Ts.Perm (P.map Prod.fst)∧Room wr w.heap.size so Ts.length sc (uvs Ts)∧(∀ q,q∈fp so sc→tg q=4)∧tg xb=4∧xb ∉ fp so sc ∧
   wr.cell? ⟨xb,0,none⟩=some (.pointer (some ⟨rb,0,none⟩))∧wr.cell? ⟨xb,1,none⟩=some (.pointer (some ⟨sb,0,none⟩))) (fun _ _ _ _ _ _ _ _ _ _ key _ => 151 - natAt key)
 case atStart =>
  obtain ⟨h2,x0,x1,t4⟩:=H1.out
  exact ⟨0,0,_,_,tag,[],[],none,0,rfl,rfl,rfl,by omega,by omega,by omega,h2,ei_start,by simp,by simp,by simp,Room.nil _ _ _,by simp [fp_zero],t4,by simp [fp_zero],x0,x1⟩
 case round =>
  obtain ⟨k,rt,N,X,tg,P,Ts,so,sc,rfl,rfl,rfl,hk1,hk2,hrt,hX,hE,hP,hBd,hTs,hR,hRt,tx,hxf,y0,y1⟩:=hrel
  by_cases hlt:k < KS.length∧k ≠ 150
  ·have dlt:decide ((k:Int) < (KS.length:Int))=true:=decide_eq_true (by omega)
   have d150:((k:Int) == 150)=false:=by simp;omega
   obtain ⟨kb,ko,hka,hc⟩:=(hk.keep hX.chg) (by simp only [uvs_len];omega)
   subst hka
   obtain ⟨kv,hkv⟩:∃ kv,KS[k]?=some kv:=⟨_,List.getElem?_eq_getElem hlt.1⟩
   have ck:=hc k _ (uvs_get hkv)
   have hkB:=bK kv (List.mem_of_getElem? hkv)
   obtain ⟨v,N1,N2,X2,rt2,hal,hv,hin,hrt2,ho,hno,hyes⟩:=ei_ins (key:=kv) hE (cnt0_len 500) cov0 (by omega)
   obtain ⟨old,hold⟩:∃ old,(getP P kv).1=old:=⟨_,rfl⟩
   obtain ⟨had,hhad⟩:∃ had,(getP P kv).2=had:=⟨_,rfl⟩
   rw [hold] at ho hyes hin
   rw [hhad] at hno hyes hin
   have cL:=x_alloc hX _ hal
   dsimp only at cL
   have hcv:IntKind.u64.wrap (v:Int)=(v:Int):=Go.IntWalk.u64_in _ (by omega)
   have hco:IntKind.i64.wrap (old:Int)=(old:Int):=Go.IntWalk.i64_in _ (by omega)
   have lx:=block_lt_of_cell y0
   have hkK:(k:Int) < (KS.length:Int):=by omega
   have hsP:=hE.srt
   have HE:=mkHid (And.intro hno (And.intro hyes (And.intro hP (And.intro hTs (And.intro hold (And.intro hhad hsP))))))
   clear hno hyes hP hTs hold hhad hc hsP
   go_wp2_with fail
   refine cL.mono ?_
   rintro e w3 ⟨rfl,tg3,h3,m3⟩
   have z0:=m3.cellv y0 (kt4 tx)
   have z1:=m3.cellv y1 (kt4 tx)
   have tx3:=m3.four tx lx
   have lx3:=block_lt_of_cell z0
   have hR3:=m3.room hR (fun q hq => kt4 (hRt q hq))
   have hRt3:∀ q,q∈fp so sc→tg3 q=4:=fun q hq => m3.four (hRt q hq) (hR.lt q hq).2
   have cI:=insert_ok hT h3 rt kv v hkB (by omega) (by omega) (by omega) N2 X2 rt2 old had hin
   clear cL m3 y0 y1 hX hE ck hR hRt
   go_wp2_with fail
   refine cI.mono ?_
   rintro e w4 ⟨rfl,tg4,h4,m4⟩
   have y0:=m4.cellv z0 (kt4 tx3)
   have y1:=m4.cellv z1 (kt4 tx3)
   have tx4:=m4.four tx3 lx3
   have hR4:=m4.room hR3 (fun q hq => kt4 (hRt3 q hq))
   have hRt4:∀ q,q∈fp so sc→tg4 q=4:=fun q hq => m4.four (hRt3 q hq) (hR3.lt q hq).2
   clear cI m4 z0 z1 h3 hR3 hRt3 hin hal
   cases had with
   | true =>
    have cD:=x_dec h4 (old:Int) _ rfl
    have HK:=mkHid (And.intro hR4 (And.intro hRt4 (And.intro tx4 hxf)))
    have lx4:=block_lt_of_cell y0
    clear h4
    go_wp2_with fail
    refine cD.mono ?_
    rintro e w5 ⟨rfl,tg5,h5,m5⟩
    obtain ⟨hR4,hRt4,tx4,hxf⟩:=HK.out
    have z0:=m5.cellv y0 (kt4 tx4)
    have z1:=m5.cellv y1 (kt4 tx4)
    have H5:=mkHid (And.intro h5 (And.intro z0 (And.intro z1 (And.intro (m5.four tx4 lx4) (And.intro (m5.room hR4 (fun q hq => kt4 (hRt4 q hq))) (fun q (hq:q∈fp so sc) => m5.four (hRt4 q hq) (hR4.lt q hq).2))))))
    clear h5 z0 z1 m5 hR4 hRt4 y0 y1 cD
    go_wp2_with fail
    go_roundw
    case rel =>
     obtain ⟨-,hyes,hP,hTs,hold,hhad,hsP⟩:=HE.out
     obtain ⟨h5,z0,z1,tx5,hR5,hRt5⟩:=H5.out
     obtain ⟨k1,k2⟩:=keys_old (v:=v) hsP (Prod.ext hold hhad)
     exact ⟨k+1,rt2,_,X2,tg5,insP kv v P,Ts,so,sc,by go_num,rfl,rfl,by omega,by omega,hrt2,h5.mono (by omega),(hyes trivial).2,by omega,hBd,hTs.trans k1.symm,hR5,hRt5,tx5,hxf,z0,z1⟩
    case measure => simp [natAt];omega
   | false =>
    have hB4:w.heap.size≤w4.heap.size:=h4.chg.size
    obtain ⟨hno,-,hP,hTs,hold,hhad,hsP⟩:=HE.out
    have hle:Ts.length≤150:=by rw [hTs.length_eq,List.length_map];omega
    obtain ⟨e1,e2⟩:=hno rfl
    obtain ⟨k1,k2⟩:=keys_new (v:=v) hsP e2 hTs
    have HK:=mkHid (And.intro e1 (And.intro k1 (And.intro k2 (And.intro hP hle))))
    have HX:=mkHid hxf
    clear hno hP hTs hold hhad hsP e1 e2 k1 k2 hxf
    have lx4:=block_lt_of_cell y0
    go_wp2_with (first | (at_builtin;refine wpList_append_1 w4 rfl (.tmp 76) (.tmp 78) 35 rfl 34 8 eltU w.heap.size so Ts.length sc (uvs Ts) rfl hR4 hB4 (.int .u64 (kv:Int)) 1 rfl rfl (by unfold maxLen;omega) (by omega) ?_;intro so' sc' w5 hR5 hg5 hf5))
    go_roundw
    case rel =>
     obtain ⟨e1,k1,k2,hP,hle⟩:=HK.out
     have hBd2:∀ x,x∈Ts++[kv]→x < 2 ^ 64:=fun x hx => by
      rcases List.mem_append.1 hx with h | h
      ·exact hBd x h
      ·have:x=kv:=by simpa using h
       subst this
       exact hkB
     have h5:=(h4.wrote hg5 hRt4).mono (u':=5000 * (k+1)) (by omega)
     have hfour:∀ q,q∈fp so' sc'→tg4 q=4∧xb ≠ q:=fun q hq => by
      rcases hf5 with hf | ⟨m,hm,hf⟩
      ·rw [hf] at hq
       exact ⟨hRt4 q hq,fun e => HX.out (by rw [e];exact hq)⟩
      ·rw [hf] at hq
       have:q=m:=by simpa using hq
       subst this
       exact ⟨h4.hi q hm,by omega⟩
     exact ⟨k+1,rt2,N2,X2,tg4,insP kv v P,Ts++[kv],so',sc',by go_num,rfl,by simp,by omega,by omega,hrt2,h5,e1,by omega,hBd2,k1,by simpa [uvs] using hR5,fun q hq => (hfour q hq).1,tx4,fun hq => (hfour xb hq).2 rfl,hg5.cellv y0 HX.out,hg5.cellv y1 HX.out⟩
    case measure => simp [natAt];omega
  ·have hle:Ts.length≤150:=by rw [hTs.length_eq,List.length_map];omega
   have hex:(decide ((k:Int) < (KS.length:Int))=false∧decide (k < KS.length)=false) ∨ (decide ((k:Int) < (KS.length:Int))=true∧((k:Int) == 150)=true∧(k:Int) < (KS.length:Int)∧k < KS.length∧∃ (kb ko x:Nat),ao=some ⟨kb,ko,none⟩∧wr.cell? ⟨kb,ko+k,none⟩=some (.int .u64 (x:Int))):=by
    by_cases h1:k < KS.length
    ·have h2:k=150:=by omega
     obtain ⟨kb,ko,hka,hc⟩:=(hk.keep hX.chg) (by simp only [uvs_len];omega)
     exact Or.inr ⟨decide_eq_true (by omega),by simp;omega,by omega,h1,kb,ko,_,hka,hc k _ (uvs_get (List.getElem?_eq_getElem h1))⟩
    ·exact Or.inl ⟨decide_eq_false (by omega),decide_eq_false h1⟩
   have cC:=x_commit hX
   have hNl:=hX.lens.1
   have HI:=mkHid (And.intro (ei_cover hE (by omega)) (And.intro hE (And.intro hTs (And.intro hR hP))))
   have lx:=block_lt_of_cell y0
   clear hX hE hTs hlt hR hP
   rcases hex with ⟨dlt,dlt2⟩ | ⟨dlt,d150,hkI,hkN,kb,ko,x0,rfl,ck⟩
   all_goals
    go_wp2_with fail
    refine cC.mono ?_
    rintro e w3 ⟨rfl,tg3,h3,m3⟩
    obtain ⟨hcov,hE,hTs,hR,hP⟩:=HI.out
    have z0:=m3.cellv y0 (kt4 tx)
    have z1:=m3.cellv y1 (kt4 tx)
    have tx3:=m3.four tx lx
    have hR3:=m3.room hR (fun q hq => kt4 (hRt q hq))
    have hRt3:∀ q,q∈fp so sc→tg3 q=4:=fun q hq => m3.four (hRt q hq) (hR.lt q hq).2
    have H3:=mkHid (And.intro (h3.mono (u':=750000) (by omega)) (And.intro hE (And.intro hTs (And.intro hR3 (And.intro hRt3 (And.intro tx3 (And.intro hxf (And.intro z0 z1))))))))
    obtain ⟨Y0,hcov⟩:=hcov
    have HY:=mkHid hcov
    clear cC m3 y0 y1 z0 z1 h3 hE hTs hR hR3 hRt hRt3 tx hxf hcov HI
    go_wp2_with fail
    go_loopw [7,8,17,18,19,20,21,22] (fun root there key _ _ _ _ _ wr => ∃ (i r:Nat) (M:List UInt8) (Z:Nat→Option Nd) (tq:Nat→Nat) (Q:Prs) (L:List Nat) (lo:Option Addr) (lc:Nat),key=.int .i64 i∧root=.int .u64 r∧there=.slice lo L.length lc∧i+L.length≤150∧r < 500∧(∀ a,a∈Q→a.2∈Y0)∧HasX w wr tq sb rb 500 M N Z (750000+5000 * i)∧Ei 500 M Z r Q∧(∀ x,x∈L→x < 2 ^ 64)∧L.Perm (Q.map Prod.fst)∧Room wr w.heap.size lo L.length lc (uvs L)∧(∀ q,q∈fp lo lc→tq q=4)∧tq xb=4∧xb ∉ fp lo lc ∧
     wr.cell? ⟨xb,0,none⟩=some (.pointer (some ⟨rb,0,none⟩))∧wr.cell? ⟨xb,1,none⟩=some (.pointer (some ⟨sb,0,none⟩))) (fun _ _ key _ _ _ _ _ _ => 151 - natAt key)
    case atStart =>
     obtain ⟨h3,hE,hTs,hR3,hRt3,tx3,hxf,z0,z1⟩:=H3.out
     exact ⟨0,rt,N,X,tg3,P,Ts,so,sc,rfl,rfl,rfl,by omega,hrt,HY.out.2.2.2.2,h3,hE,hBd,hTs,hR3,hRt3,tx3,hxf,z0,z1⟩
    case round =>
     clear lx hrt hk1 hk2 H3
     obtain ⟨i,r,M,Z,tq,Q,L,lo,lc,rfl,rfl,rfl,hi,hr,hQY,hX,hE,hBl,hL,hR,hRt,tx,hxf,y0,y1⟩:=hrel
     have lx:=block_lt_of_cell y0
     by_cases hne:0 < L.length
     ·have p1:decide ((L.length:Int) > 0)=true:=decide_eq_true (by omega)
      have p2:decide (0 < (L.length:Int))=true:=decide_eq_true (by omega)
      have p3:decide (0 < L.length)=true:=decide_eq_true hne
      have p4:((L.length:Int) == 0)=false:=beq_eq_false_iff_ne.2 (by omega)
      have hRl:=hR.le
      obtain ⟨b,o,rfl,hBb,-,-⟩:=hR.at_ (by omega)
      go_upto_if 95 with fail
      go_cut [18] (fun v wx => ∃ kx:Nat,v=.int .i64 kx∧kx < L.length∧wr=wx)
      case first =>
       by_cases h1:i < TS.length
       ·obtain ⟨tb,to_,hbo,hc⟩:=(ht.keep hX.chg) (by simp;omega)
        have htv:=bT _ (List.getElem_mem h1)
        have ct:=hc i _ (by simp [h1];rfl)
        obtain ⟨tv,htv2⟩:∃ tv,TS[i]=tv:=⟨_,rfl⟩
        rw [htv2] at htv ct
        subst hbo
        have t1:decide ((i:Int) < (TS.length:Int))=true:=decide_eq_true (by omega)
        have t2:decide (i < TS.length)=true:=decide_eq_true h1
        have t3:(i:Int) < (TS.length:Int):=by omega
        have tw:IntKind.i64.wrap (tv:Int)=(tv:Int):=Go.IntWalk.i64_in _ (by omega)
        have tmd:(tv:Int).tmod (L.length:Int)=((tv % L.length:Nat):Int):=rfl
        have tlt:tv % L.length < L.length:=Nat.mod_lt _ hne
        generalize tv % L.length=kx at tmd tlt
        have tw2:IntKind.i64.wrap (kx:Int)=(kx:Int):=Go.IntWalk.i64_in _ (by omega)
        clear hX hE hL hR hRt hBl hQY hc htv2 htv
        go_wp2_with fail
        go_meet
        exact ⟨kx,rfl,tlt,rfl⟩
       ·have t1:decide ((i:Int) < (TS.length:Int))=false:=decide_eq_false (by omega)
        have t2:decide (i < TS.length)=false:=decide_eq_false h1
        clear hX hE hL hR hRt hBl hQY
        go_wp2_with fail
        go_meet
        exact ⟨0,rfl,hne,rfl⟩
      case rest =>
       obtain ⟨kx,rfl,hkx,rfl⟩:=hcut
       obtain ⟨x,hx⟩:∃ x,L[kx]?=some x:=⟨_,List.getElem?_eq_getElem hkx⟩
       have hxm:x∈Q.map Prod.fst:=hL.subset (List.mem_of_getElem? hx)
       obtain ⟨v,hg⟩:=getP_key hxm
       have hQl:Q.length=L.length:=by rw [hL.length_eq,List.length_map]
       obtain ⟨hlk,M2,X2,rt2,hrm,hrt2,hv,hd0,hE2⟩:=ei_rem hE hNl HY.out.1 HY.out.2.1 ⟨HY.out.2.2.1,HY.out.2.2.2.1,hQY⟩ (by omega) hg
       obtain ⟨n1,n2⟩:=keys_less hE.srt hg hL hx
       have hQ2:∀ a,a∈remP x Q→a.2∈Y0:=fun a ha => hQY a (List.mem_filter.1 ha).1
       have hbx:=hBl x (List.mem_of_getElem? hx)
       have cR:=remove_ok hT (hX.keep (Chg.drew [] wr)) r x hbx (by omega) v hlk M2 X2 rt2 v true hrm
       have ckx:=hR.reads.cell kx _ (uvs_get hx)
       have hcv:IntKind.i64.wrap (v:Int)=(v:Int):=Go.IntWalk.i64_in _ (by omega)
       have hkw:IntKind.i64.wrap ((kx:Int)+1)=(kx:Int)+1:=Go.IntWalk.i64_in _ (by omega)
       have hkL:(kx:Int) < (L.length:Int):=by omega
       have hfpb:b∈fp (some ⟨b,o,none⟩) lc:=by rw [fp_some _ _ _ (by omega)];simp
       have HE:=mkHid (And.intro hE2 (And.intro n1 (And.intro n2 (And.intro hQ2 (And.intro hQl hxf)))))
       have HR:=mkHid (And.intro (hR.chg (Chg.drew [] wr) (by simp)) (And.intro hRt (And.intro tx (And.intro hBl (And.intro hfpb (And.intro ((Chg.drew [] wr).cellv y1 (by simp)) ((Chg.drew [] wr).cellv ckx (by simp))))))))
       have y0:=(Chg.drew [] wr).cellv y0 (by simp)
       clear hE2 n1 n2 hQ2 hQl hR hRt hBl hlk hrm hg hxm hx hL hE hQY hX hfpb hxf
       go_wp2_with fail
       go_region_held3 (fun u => u.cell? ⟨xb,1,none⟩=some (.pointer (some ⟨sb,0,none⟩))∧u.cell? ⟨b,o+kx,none⟩=some (.int .u64 (x:Int)))
        (first | exact ⟨y1,ckx⟩ | assumption)
        (first | (go_at_call 25;refine cR.mono ?_;rintro e w4 ⟨rfl,tg4,h4,m4⟩;have hS4:=And.intro (m4.cellv HR.out.2.2.2.2.2.1 (kt4 HR.out.2.2.1)) (m4.cellv HR.out.2.2.2.2.2.2 (kt4 (HR.out.2.1 b HR.out.2.2.2.2.1)))))
       obtain ⟨hRd,hRt,tx,hBl,hfpb,y1d,-⟩:=HR.out
       have lxd:=block_lt_of_cell y0
       have z0:=m4.cellv y0 (kt4 tx)
       have z1:=m4.cellv y1d (kt4 tx)
       have tx4:=m4.four tx lxd
       have hR4:=m4.room hRd (fun q hq => kt4 (hRt q hq))
       have hRt4:∀ q,q∈fp (some ⟨b,o,none⟩) lc→tg4 q=4:=fun q hq => m4.four (hRt q hq) (hRd.lt q hq).2
       have lx4:=block_lt_of_cell z0
       have cD:=x_dec h4 (v:Int) _ rfl
       have HD:=mkHid (And.intro hR4 (And.intro hRt4 (And.intro tx4 (And.intro lx4 (And.intro hBl (And.intro hfpb hd0))))))
       clear hRd hRt tx hBl hfpb y1d y0 y1 hR4 hRt4 tx4 m4 h4 hd0 HR hS4 ckx cR lx lxd lx4
       go_wp2_with fail
       refine cD.mono ?_
       rintro e w5 ⟨rfl,tg5,h5,m5⟩
       obtain ⟨hR4,hRt4,tx4,lx4,hBl,hfpb,-⟩:=HD.out
       have hg0:=Chg.drew [] w5
       have hR5:=(m5.room hR4 (fun q hq => kt4 (hRt4 q hq))).chg hg0 (by simp)
       have hRt5:∀ q,q∈fp (some ⟨b,o,none⟩) lc→tg5 q=4:=fun q hq => m5.four (hRt4 q hq) (hR4.lt q hq).2
       have tx5:=m5.four tx4 lx4
       have y0:=hg0.cellv (m5.cellv z0 (kt4 tx4)) (by simp)
       have y1:=hg0.cellv (m5.cellv z1 (kt4 tx4)) (by simp)
       have hRk:=hR5.kk (k:=kx) (by omega)
       have h5d:=h5.keep hg0
       have hB5:w.heap.size≤w5.drew.heap.size:=h5d.chg.size
       have hsk:∀ u,(Instr.slice 35 (.slice (some ⟨b,o,none⟩) L.length lc) none (some (.int .i64 (kx:Int))) (some (.int .i64 (kx:Int)))).run Tryz.prog u=.ok (.slice (some ⟨b,o,none⟩) kx kx) u:=fun u => run_kk rfl (by omega) u
       have hsl:∀ u,(Instr.slice 35 (.slice (some ⟨b,o,none⟩) L.length lc) (some (.int .i64 ((kx:Int)+1))) none none).run Tryz.prog u=.ok (.slice (cut (some ⟨b,o,none⟩) lc (kx+1)) (L.length - (kx+1)) (lc - (kx+1))) u:=fun u => by
        have:=run_from_k (P:=Tryz.prog) (t:=35) (e:=34) (some ⟨b,o,none⟩) L.length lc (kx+1) Tryz.underlying35 (by kernel_rfl) (by omega) u
        rwa [show ((kx+1:Nat):Int)=(kx:Int)+1 by omega] at this
       have rd2:Reads w5.drew (cut (some ⟨b,o,none⟩) lc (kx+1)) (uvs (L.drop (kx+1))):=by
        have:=hR5.reads.cut lc (kx+1) (by rw [uvs_len];omega)
        rwa [show (uvs L).drop (kx+1)=uvs (L.drop (kx+1)) by simp [uvs]] at this
       have hl2:(uvs (L.drop (kx+1))).length=L.length - (kx+1):=by rw [uvs_len];simp
       rw [show (uvs L).take kx=uvs (L.take kx) by simp [uvs]] at hRk
       have hlen:(L.take kx++L.drop (kx+1)).length=kx+(L.length - (kx+1)):=by simp;omega
       have HL:=mkHid hlen
       have HF5:=mkHid (And.intro hRk (And.intro rd2 (And.intro hl2 (And.intro hRt5 (And.intro tx5 (And.intro y0 (And.intro y1 (And.intro h5d (And.intro hBl hfpb)))))))))
       generalize cut (some ⟨b,o,none⟩) lc (kx+1)=uu at *
       clear hlen hRk rd2 hl2 hRt5 tx5 y0 y1 h5d hBl hfpb hR5 hg0 hR4 hRt4 tx4 m5 h5 z0 z1 cD HD
       go_wp2_with fail
       go_region_held3 (fun u:World => True)
        (first | exact trivial)
        (first | (refine step_append_row rfl (.tmp 136) (.tmp 140) 35 rfl 34 8 eltU w.heap.size (some ⟨b,o,none⟩) kx kx (uvs (L.take kx)) rfl HF5.out.1 hB5 uu (L.length - (kx+1)) (lc - (kx+1)) (uvs (L.drop (kx+1))) rfl HF5.out.2.1 HF5.out.2.2.1 (uvs_one _) (by unfold maxLen;omega) (by omega) ?_;intro a8 c8 w8 hr8 hg8 hf8))
       obtain ⟨-,-,-,hRt5,tx5,y0,y1,h5d,hBl,hfpb⟩:=HF5.out
       obtain ⟨hE2,n1,n2,hQ2,hQl,hxf⟩:=HE.out
       have h8:=(h5d.wrote hg8 (fun q hq => by
        rcases Nat.eq_zero_or_pos kx with h0 | h0
        ·subst h0
         simp [fp_zero] at hq
        ·rw [fp_some _ _ _ h0] at hq
         obtain rfl:q=b:=by simpa using hq
         exact hRt5 q hfpb)).mono (u':=750000+5000 * (i+1)) (by omega)
       have hnb:xb ≠ b:=fun e => hxf (by rw [e];exact hfpb)
       have hnk:xb ∉ fp (some ⟨b,o,none⟩) kx:=fun hq => by
        rcases Nat.eq_zero_or_pos kx with h0 | h0
        ·subst h0
         simp [fp_zero] at hq
        ·rw [fp_some _ _ _ h0] at hq
         exact hnb (by simpa using hq)
       have lx5:=block_lt_of_cell y0
       have hfour:∀ q,q∈fp a8 c8→tg5 q=4∧xb ≠ q:=fun q hq => by
        rcases hf8 with hf | hf
        ·rw [hf] at hq
         rcases Nat.eq_zero_or_pos kx with h0 | h0
         ·subst h0
          simp [fp_zero] at hq
         ·rw [fp_some _ _ _ h0] at hq
          obtain rfl:q=b:=by simpa using hq
          exact ⟨hRt5 q hfpb,hnb⟩
        ·rw [hf] at hq
         obtain rfl:q=w5.drew.heap.size:=by simpa using hq
         exact ⟨h5d.hi _ (Nat.le_refl _),by dsimp only at lx5;omega⟩
       have hBl2:∀ z,z∈L.take kx++L.drop (kx+1)→z < 2 ^ 64:=fun z hz => by
        rcases List.mem_append.1 hz with h | h
        ·exact hBl z (List.mem_of_mem_take h)
        ·exact hBl z (List.mem_of_mem_drop h)
       have hr9:Room w8 w.heap.size a8 (kx+(L.length - (kx+1))) c8 (uvs (L.take kx++L.drop (kx+1))):=by rw [uvs_append];exact hr8
       have y08:=hg8.cellv y0 hnk
       have y18:=hg8.cellv y1 hnk
       have HZ:=mkHid (And.intro h8 (And.intro hfour (And.intro hBl2 (And.intro hr9 (And.intro y08 (And.intro y18 (And.intro hE2 (And.intro n1 (And.intro hQ2 (And.intro hrt2 tx5))))))))))
       clear h8 hfour hBl2 hr9 y08 y18 hE2 n1 hQ2 hRt5 tx5 y0 y1 h5d hBl hfpb hxf hr8 hf8 HF5 HE hnb hnk lx5 hg8
       go_wp2_with fail
       go_roundw
       case rel =>
        obtain ⟨h8,hfour,hBl2,hr9,y08,y18,hE2,n1,hQ2,hrt2,tx5⟩:=HZ.out
        exact ⟨i+1,rt2,_,X2,tg5,remP x Q,L.take kx++L.drop (kx+1),a8,c8,by go_num,rfl,by rw [HL.out],by rw [HL.out];omega,hrt2,hQ2,h8,hE2,hBl2,n1,by rw [HL.out];exact hr9,fun q hq => (hfour q hq).1,tx5,fun hq => (hfour xb hq).2 rfl,y08,y18⟩
       case measure => simp [natAt];omega
     ·have hL0:L=[]:=List.eq_nil_of_length_eq_zero (by omega)
      subst hL0
      have hQ0:Q=[]:=by
       have:=hL.length_eq
       rw [List.length_map] at this
       exact List.eq_nil_of_length_eq_zero this.symm
      subst hQ0
      obtain ⟨r0,m0,mc⟩:=ei_end hE
      subst r0
      have hM:=cnt0_of m0 mc
      subst hM
      have cC2:=x_commit hX
      have hz0:(([]:List Nat).length:Int)=0:=rfl
      have p1:decide ((([]:List Nat).length:Int) > 0)=false:=rfl
      clear hX hE hL hR hRt hBl hQY hxf lx
      go_wp2_with fail
      refine cC2.mono ?_
      rintro e w5 ⟨rfl,tg5,h5,m5⟩
      have z0:=m5.cellv y0 (kt4 tx)
      have cF2:=x_free h5
      rw [HF.out] at cF2
      clear m5 y0 y1
      go_wp2_with fail
      refine cF2.mono ?_
      rintro e w6 ⟨rfl,rfl⟩
      go_wp2_with fail
      go_ret
      exact ⟨by simp,h5.chg⟩
end
end Go.Proofs.YtdgkbicelnnfpaaGreatDoor
