/- Texts Nr, Ns, Nu, Ta of the library, joined. -/
import Derived.Test.YtdgkbicelnnfpaaGreatDoorM16
set_option linter.unusedVariables false
set_option linter.unusedSimpArgs false
namespace Go.Proofs.YtdgkbicelnnfpaaGreatDoor
section
open Go.RowKit
attribute [local go_sem ↓] Go.wp_at_zero Go.wp_at_succ
theorem three_chg (wr:World) (R:Nat) (x y z:Value):Chg [R] wr (((wr.setCell ⟨R,0,none⟩ x).setCell ⟨R,1,none⟩ y).setCell ⟨R,2,none⟩ z):=
 ((Chg.setCell wr ⟨R,0,none⟩ x).trans (Chg.setCell _ ⟨R,1,none⟩ y) (fun _ h _ => h) (fun _ h _ => h)).trans (Chg.setCell _ ⟨R,2,none⟩ z) (fun _ h _ => h) (fun _ h _ => h)
set_option maxRecDepth 20000 in
set_option maxHeartbeats 1000000 in
theorem take_any (ao:Option Addr) (n c:Nat) (l:List UInt8) (w:World) (hx:Reads w ao (bts l)) (hn:l.length=n) (hc:n≤c) (hm:c≤maxLen) :
  Calls Tryz.prog 52 #[.slice ao n c] w fun e w' => NodeRes w.heap.size e w' (takeN l)∧Chg [] w w':=by
 have t0:=start_there w
 have g0:=Chg.alloc [] w (.cells #[.bool false,.slice none 0 0,.slice none 0 0] 53)
 have hz0:(w.alloc (.cells #[.bool false,.slice none 0 0,.slice none 0 0] 53)).heap.size=w.heap.size+1:=by simp
 have hold:0 < n→∀ k,k∈blk ao→k < w.heap.size:=fun hp => hx.lt (by rw [bts_length,hn];exact hp)
 have g1:=Chg.alloc [] (w.alloc (.cells #[.bool false,.slice none 0 0,.slice none 0 0] 53)) (.cells #[.slice ao n c,.int .i64 0] 180)
 have hl1:=heap_alloc_last (w.alloc (.cells #[.bool false,.slice none 0 0,.slice none 0 0] 53)) (.cells #[.slice ao n c,.int .i64 0] 180)
 have hR:Rdr ((w.alloc (.cells #[.bool false,.slice none 0 0,.slice none 0 0] 53)).alloc (.cells #[.slice ao n c,.int .i64 0] 180)) (w.heap.size+1) ao n c l 0:=by
  rw [hz0] at hl1
  refine ⟨?_,?_,frozen_of_row _ _ _ _ _ hl1,frozen_of_row _ _ _ _ _ hl1,(hx.keep g0).keep g1,hn,hc,hm,fun hp k hk => by have:=hold hp k hk;omega⟩
  ·rw [cell_of_row _ _ _ _ _ _ hl1];rfl
  ·rw [cell_of_row _ _ _ _ _ _ hl1];rfl
 have t1:=there_chg t0 g1 (by simp)
 have G1:=g0.then g1
 have hz1:((w.alloc (.cells #[.bool false,.slice none 0 0,.slice none 0 0] 53)).alloc (.cells #[.slice ao n c,.int .i64 0] 180)).heap.size=w.heap.size+2:=by simp
 have HO:=mkHid (And.intro hz1 hold)
 clear hz0 hz1 hold hl1 g0 g1 t0 hx hn
 go_enter Tryz.func52,Tryz.ntmps52
 go_wp2_with fail
 generalize (w.alloc (.cells #[.bool false,.slice none 0 0,.slice none 0 0] 53)).alloc (.cells #[.slice ao n c,.int .i64 0] 180)=w1 at *
 refine (taken_any w1 (w.heap.size+1) ao n c l hR).mono ?_
 rintro e w2 ⟨lf,K,V,ka,va,kc,vc,a2,n2,c2,l2,er,rfl,rk,rv,dj,h2,g2,hend⟩
 have G2:Chg [] w w2:=G1.trans g2 (by simp) (fun q hq hlt => by simp at hq;omega)
 have t2:=there_chg t1 g2 (by simp)
 have gA:=Chg.alloc [] w2 (.cells #[.bool lf,.slice ka K.length kc,.slice va V.length vc] 53)
 have G3:=G2.then gA
 have t3:=there_chg t2 gA (by simp)
 have h3:=h2.keep gA (by simp) (by simp)
 have hsz:w1.heap.size≤w2.heap.size:=g2.size
 have hb:w.heap.size+2≤w1.heap.size:=by have:=HO.out.1;omega
 have rk3:=rk.chg gA (by simp)
 have rv3:=rv.chg gA (by simp)
 have hl3:=heap_alloc_last w2 (.cells #[.bool lf,.slice ka K.length kc,.slice va V.length vc] 53)
 have d0:=cell_of_row _ w2.heap.size 0 _ _ _ hl3
 have d1:=cell_of_row _ w2.heap.size 1 _ _ _ hl3
 have d2:=cell_of_row _ w2.heap.size 2 _ _ _ hl3
 simp only [List.getElem?_toArray,List.getElem?_cons_succ,List.getElem?_cons_zero] at d0 d1 d2
 have HE:=mkHid hend
 have HR:=mkHid (And.intro rk3 (And.intro rv3 dj))
 have HS:=mkHid (And.intro hsz hb)
 clear hl3 hend rk rv rk3 rv3 dj h2 g2 t2 t1 G1 G2 gA hR hsz hb
 have e0:=h3.c0
 have e1:=h3.c1
 have cO:=noughts_any a2 n2 c2 l2 (w2.alloc (.cells #[.bool lf,.slice ka K.length kc,.slice va V.length vc] 53)) h3.rd h3.ln h3.le h3.mx
 obtain ⟨v0,r0⟩:=Option.isSome_iff_exists.1 (t3 0 (by decide)).1
 obtain ⟨v1,r1⟩:=Option.isSome_iff_exists.1 (t3 1 (by decide)).1
 obtain ⟨v2,r2⟩:=Option.isSome_iff_exists.1 (t3 2 (by decide)).1
 have q0:=(t3 0 (by decide)).2
 have q1:=(t3 1 (by decide)).2
 have q2:=(t3 2 (by decide)).2
 simp only [Nat.zero_add] at r0 r1 r2 q0 q1 q2
 clear t3 h3
 by_cases he:er=0
 ·subst he
  have hall:=HE.out.1 rfl
  generalize hq:l2.all (· == 0)=q at *
  have HQ:=mkHid hall
  clear hall hq HE
  cases q with
  | false =>
   go_wp2_with (first | (go_at_call 99;refine cO.mono ?_;rintro e w' ⟨rfl,rfl⟩))
   refine bodyPost_ret (v:=.tuple #[.agg #[.bool false,.slice none 0 0,.slice none 0 0],.int .i64 5]) (by simp [results,Tryz.results52,go_sem,r0,r1,r2]) rfl ⟨?_,G3.trans (three_chg _ w.heap.size _ _ _) (by simp) (fun q hq hlt => by simp at hq;omega)⟩
   rw [HQ.out,if_neg (by decide)]
   exact NodeRes.none _ _ _
  | true =>
   go_wp2_with (first | (go_at_call 99;refine cO.mono ?_;rintro e w' ⟨rfl,rfl⟩))
   refine bodyPost_ret (v:=.tuple #[.agg #[.bool lf,.slice ka K.length kc,.slice va V.length vc],.int .i64 0]) (by simp [results,Tryz.results52,go_sem,r0,r1,r2]) rfl ⟨?_,G3.trans (three_chg _ w.heap.size _ _ _) (by simp) (fun q hq hlt => by simp at hq;omega)⟩
   rw [HQ.out,if_pos trivial]
   obtain ⟨rk,rv,dj⟩:=HR.out
   obtain ⟨hsz,hb⟩:=HS.out
   exact ⟨ka,kc,va,vc,rfl,(rk.mono (by omega)).chg (three_chg _ w.heap.size _ _ _) (fun q hq hm => by have:=(rk.lt q hq).1;simp at hm;omega),(rv.mono (by omega)).chg (three_chg _ w.heap.size _ _ _) (fun q hq hm => by have:=(rv.lt q hq).1;simp at hm;omega),dj⟩
 ·have hd:(er != 0)=true:=by simp;exact he
  have hall:=HE.out.2 he
  have HQ:=mkHid hall
  clear hall HE cO
  go_wp2_with fail
  clear d0 d1 d2 e0
  generalize w2.alloc (.cells #[.bool lf,.slice ka K.length kc,.slice va V.length vc] 53)=w3 at *
  have r0d:w3.drew.cell? ⟨w.heap.size,0,none⟩=some v0:=r0
  have r1d:w3.drew.cell? ⟨w.heap.size,1,none⟩=some v1:=r1
  have r2d:w3.drew.cell? ⟨w.heap.size,2,none⟩=some v2:=r2
  have q0d:w3.drew.frozen? ⟨w.heap.size,0,none⟩=false:=q0
  have q1d:w3.drew.frozen? ⟨w.heap.size,1,none⟩=false:=q1
  have q2d:w3.drew.frozen? ⟨w.heap.size,2,none⟩=false:=q2
  have e1d:w3.drew.cell? ⟨w.heap.size+1,1,none⟩=some (.int .i64 er):=e1
  clear e1
  go_region_held3 (fun u => u.cell? ⟨w.heap.size+1,1,none⟩=some (.int .i64 er)) (first | exact e1d | exact (three_chg w3.drew w.heap.size _ _ _).cellv e1d (by simp)) (fail)
  go_wp2_with fail
  refine bodyPost_ret (v:=.tuple #[.agg #[.bool false,.slice none 0 0,.slice none 0 0],.int .i64 er]) (by simp [results,Tryz.results52,go_sem,r0,r1,r2]) rfl ⟨?_,(G3.then (Chg.drew [] w3)).trans (three_chg _ w.heap.size _ _ _) (by simp) (fun q hq hlt => by simp at hq;omega)⟩
  rw [HQ.out]
  exact NodeRes.none _ _ _
end
section
set_option maxRecDepth 200000
open Go.ChangeShapes Go.WideShapes Go.ChangeAt Go.RowKit
attribute [local go_sem ↓] Go.wp_at_zero Go.wp_at_succ
section
variable {H:Type} {enc:TypeId × Value→H} {P:Program} {w:World} {base:Nat} {spare:Nat→Bool} {held:Bool}
end
theorem wf_u64 {z:Int} (h:(Lit.int .u64 z).wf=true):0≤z∧z < 18446744073709551616:=by
 have:=Go.bounds_u64 h
 omega
theorem uvs_of_ints (zs:List Int) (h:∀ z∈zs,(Lit.int .u64 z).wf=true):∃ L:List Nat,zs.map (Value.int .u64)=uvs L∧L.length=zs.length∧∀ x∈L,x < 2 ^ 64:=by
 refine ⟨zs.map Int.toNat,?_,by simp,fun x hx => ?_⟩
 ·simp only [uvs,List.map_map]
  apply List.map_congr_left
  intro z hz
  have:=wf_u64 (h z hz)
  simp
  omega
 ·obtain ⟨z,hz,rfl⟩:=List.mem_map.1 hx
  have:=wf_u64 (h z hz)
  omega
theorem there3 {w:World} {R:Nat} (t:w.there R 0 3):∃ v0 v1 v2,w.cell? ⟨R,0,none⟩=some v0∧w.cell? ⟨R,1,none⟩=some v1∧w.cell? ⟨R,2,none⟩=some v2∧w.frozen? ⟨R,0,none⟩=false∧w.frozen? ⟨R,1,none⟩=false∧w.frozen? ⟨R,2,none⟩=false:=by
 obtain ⟨v0,r0⟩:=Option.isSome_iff_exists.1 (t 0 (by decide)).1
 obtain ⟨v1,r1⟩:=Option.isSome_iff_exists.1 (t 1 (by decide)).1
 obtain ⟨v2,r2⟩:=Option.isSome_iff_exists.1 (t 2 (by decide)).1
 have q0:=(t 0 (by decide)).2
 have q1:=(t 1 (by decide)).2
 have q2:=(t 2 (by decide)).2
 simp only [Nat.zero_add] at r0 r1 r2 q0 q1 q2
 exact ⟨v0,v1,v2,r0,r1,r2,q0,q1,q2⟩
end
section
open Go.RowKit
theorem val_be8 {x:Nat} (h:x < 2 ^ 64):val (be x 8)=x:=by
 rw [val_be];exact Nat.mod_eq_of_lt (by simpa using h)
theorem be8_take {x:Nat} (r:List UInt8):(be x 8++r).take 8=be x 8:=by
 rw [List.take_append_of_le_length (by rw [be_length];exact Nat.le_refl _)]
 exact List.take_of_length_le (by rw [be_length];exact Nat.le_refl _)
theorem be8_drop {x:Nat} (r:List UInt8):(be x 8++r).drop 8=r:=by
 rw [List.drop_append_of_le_length (by rw [be_length];exact Nat.le_refl _),List.drop_of_length_le (by rw [be_length];exact Nat.le_refl _)]
 rfl
theorem be8_len {x:Nat} (r:List UInt8):¬ (be x 8++r).length < 8:=by rw [List.length_append,be_length];omega
theorem takeK_pair {c x y:Nat} {K V:List Nat} {r:List UInt8} (hx:x < 2 ^ 64) (hy:y < 2 ^ 64) (hl:lowK K x=false) (h0:y ≠ 0):takeK (c+1) K V (be x 8++(be y 8++r))=takeK c (K++[x]) (V++[y]) r:=by
 rw [takeK_succ,if_neg (be8_len _),be8_take,val_be8 hx,if_neg (by rw [hl];decide),be8_drop,takeV_eq,if_neg (be8_len _),be8_take,val_be8 hy,if_neg h0,be8_drop]
def Follows:List Nat→List Nat→List Nat→Prop
 | K0,k :: K,v :: V => lowK K0 k=false∧v ≠ 0∧k < 2 ^ 64∧v < 2 ^ 64∧Follows (K0++[k]) K V
 | _,[],[] => True
 | _,_,_ => False
theorem Follows.len:∀ {K0 K V:List Nat},Follows K0 K V→V.length=K.length
 | _,[],[],_ => rfl
 | K0,k :: K,v :: V,h => by
  unfold Follows at h
  have:=h.2.2.2.2.len
  simp [this]
 | _,[],_ :: _,h => by simp [Follows] at h
 | _,_ :: _,[],h => by simp [Follows] at h
theorem take_pairs:∀ {K0 V0 K V:List Nat} (r:List UInt8),Follows K0 K V→takeK K.length K0 V0 (pairsN K V++r)=takeK 0 (K0++K) (V0++V) r
 | K0,V0,[],[],r,_ => by simp [pairsN]
 | K0,V0,k :: K,v :: V,r,h => by
  unfold Follows at h
  obtain ⟨h1,h2,h3,h4,h5⟩:=h
  rw [pairsN,List.append_assoc,List.append_assoc,List.length_cons,takeK_pair h3 h4 h1 h2,take_pairs r h5]
  simp
 | _,_,[],_ :: _,_,h => by simp [Follows] at h
 | _,_,_ :: _,[],_,h => by simp [Follows] at h
theorem follows_of {K V:List Nat} (hm:mayB K V=true) (bK:∀ x∈K,x < 2 ^ 64) (bV:∀ x∈V,x < 2 ^ 64):Follows [] K V:=by
 obtain ⟨l1,l2,l3⟩:=may_len hm
 have hall:(List.range K.length).all (okAt K V)=true:=by
  unfold mayB at hm
  simp only [Bool.and_eq_true] at hm
  exact hm.2
 have key:∀ (m i:Nat),K.length=i+m→Follows (K.take i) (K.drop i) (V.drop i):=by
  intro m
  induction m with
  | zero =>
   intro i hi
   rw [List.drop_of_length_le (by omega),List.drop_of_length_le (by omega)]
   simp [Follows]
  | succ m ih =>
   intro i hi
   have hk:i < K.length:=by omega
   have hv:i < V.length:=by omega
   have ho:=ok_at (K:=K) (V:=V) (i:=i) (List.getElem?_eq_getElem hk) (List.getElem?_eq_getElem hv)
   have ho2:okAt K V i=true:=(List.all_eq_true.1 hall) i (by simp;omega)
   rw [ho2] at ho
   have ho3:=ho.symm
   simp only [Bool.and_eq_true,Bool.not_eq_true',pointsB] at ho3
   rw [List.drop_eq_getElem_cons hk,List.drop_eq_getElem_cons hv]
   unfold Follows
   refine ⟨ho3.1,by simpa using ho3.2,bK _ (List.getElem_mem _),bV _ (List.getElem_mem _),?_⟩
   have:=ih (i+1) (by omega)
   rwa [List.take_succ_eq_append_getElem hk] at this
 simpa using key K.length 0 (by omega)
theorem len_byte {n:Nat} (h:n≤8):(UInt8.ofNat n).toNat=n:=by simp;omega
theorem mark_kind (lf:Bool):¬ ((if lf=true then (1:UInt8) else 0) ≠ 0∧(if lf=true then (1:UInt8) else 0) ≠ 1)∧decide ((if lf=true then (1:UInt8) else 0)=1)=lf:=by cases lf <;> decide
theorem take_form {lf:Bool} {K V:List Nat} (hm:mayB K V=true) (bK:∀ x∈K,x < 2 ^ 64) (bV:∀ x∈V,x < 2 ^ 64) (z:List UInt8):takeN (formN lf K V++z)=if z.all (· == 0) then (0,lf,K,V) else (5,false,[],[]):=by
 obtain ⟨l1,l2,l3⟩:=may_len hm
 unfold formN
 rw [List.cons_append,List.cons_append,takeN_cons,if_neg (mark_kind lf).1]
 dsimp only
 rw [len_byte l2,if_neg (by omega),take_pairs z (follows_of hm bK bV),takeK_zero,(mark_kind lf).2]
 cases z.all (· == 0) <;> simp
theorem val_bound {l:List UInt8}:val (l.take 8) < 2 ^ 64:=Nat.lt_of_lt_of_le (val_lt _) (by
 have h9:(l.take 8).length≤8:=by rw [List.length_take];omega
 exact Nat.le_trans (Nat.pow_le_pow_right (by decide) h9) (by decide))
theorem val_inj:∀ {a b:List UInt8},a.length=b.length→val a=val b→a=b
 | [],[],_,_ => rfl
 | x :: a,y :: b,hl,h => by
  have hl2:a.length=b.length:=by simpa using hl
  rw [val_cons,val_cons,hl2] at h
  have h1:=val_lt a
  have h2:=val_lt b
  rw [hl2] at h1
  have hp:0 < 256 ^ b.length:=Nat.pow_pos (by decide)
  have e1:x.toNat=y.toNat:=by
   have q1:(x.toNat * 256 ^ b.length+val a) / 256 ^ b.length=x.toNat:=by
    rw [Nat.mul_comm,Nat.mul_add_div hp,Nat.div_eq_of_lt h1,Nat.add_zero]
   have q2:(y.toNat * 256 ^ b.length+val b) / 256 ^ b.length=y.toNat:=by
    rw [Nat.mul_comm,Nat.mul_add_div hp,Nat.div_eq_of_lt h2,Nat.add_zero]
   rw [← q1,← q2,h]
  rw [e1] at h
  have e2:=val_inj hl2 (Nat.add_left_cancel h)
  rw [UInt8.toNat_inj.1 e1,e2]
 | [],_ :: _,hl,_ => by simp at hl
 | _ :: _,[],hl,_ => by simp at hl
theorem be_val {l:List UInt8} (h:¬ l.length < 8):l=be (val (l.take 8)) 8++l.drop 8:=by
 have e:l.take 8=be (val (l.take 8)) 8:=val_inj (by rw [be_length,List.length_take];omega) (by rw [val_be8 val_bound])
 rw [← e,List.take_append_drop]
theorem took:∀ (c:Nat) (K0 V0:List Nat) (l:List UInt8) (K2 V2:List Nat),takeK c K0 V0 l=(0,K2,V2)→∃ K V z,K2=K0++K∧V2=V0++V∧K.length=c∧Follows K0 K V∧l=pairsN K V++z∧z.all (· == 0)=true
 | 0,K0,V0,l,K2,V2,h => by
  rw [takeK_zero] at h
  cases hz:l.all (· == 0) with
  | true =>
   rw [hz,if_pos rfl] at h
   simp at h
   exact ⟨[],[],l,by simp [h.1],by simp [h.2],rfl,by simp [Follows],by simp [pairsN],hz⟩
  | false =>
   rw [hz,if_neg (by decide)] at h
   simp at h
 | c+1,K0,V0,l,K2,V2,h => by
  rw [takeK_succ] at h
  by_cases h8:l.length < 8
  ·rw [if_pos h8] at h;simp at h
  ·rw [if_neg h8] at h
   cases hl:lowK K0 (val (l.take 8)) with
   | true => rw [hl,if_pos rfl] at h;simp at h
   | false =>
    rw [hl,if_neg (by decide),takeV_eq] at h
    by_cases h9:(l.drop 8).length < 8
    ·rw [if_pos h9] at h;simp at h
    ·rw [if_neg h9] at h
     by_cases h0:val ((l.drop 8).take 8)=0
     ·rw [if_pos h0] at h;simp at h
     ·rw [if_neg h0] at h
      obtain ⟨K,V,z,e1,e2,e3,e4,e5,e6⟩:=took c _ _ _ _ _ h
      refine ⟨val (l.take 8) :: K,val ((l.drop 8).take 8) :: V,z,by simp [e1],by simp [e2],by simp [e3],?_,?_,e6⟩
      ·unfold Follows
       exact ⟨hl,h0,val_bound,val_bound,e4⟩
      ·rw [pairsN,List.append_assoc,List.append_assoc,← e5,← be_val h9,← be_val h8]
theorem Follows.all:∀ {K0 V0 K V:List Nat},V0.length=K0.length→(List.range K0.length).all (okAt (K0++K) (V0++V))=true→Follows K0 K V→(List.range (K0++K).length).all (okAt (K0++K) (V0++V))=true
 | K0,V0,[],[],_,h,_ => by simpa using h
 | K0,V0,k :: K,v :: V,hl,h,hf => by
  unfold Follows at hf
  obtain ⟨h1,h2,h3,h4,h5⟩:=hf
  have ek:K0++k :: K=(K0++[k])++K:=by simp
  have ev:V0++v :: V=(V0++[v])++V:=by simp
  have hx:(K0++k :: K)[K0.length]?=some k:=by simp
  have hy:(V0++v :: V)[K0.length]?=some v:=by rw [← hl];simp
  have ho:=ok_at hx hy
  rw [List.take_left,h1] at ho
  have ho2:okAt (K0++k :: K) (V0++v :: V) K0.length=true:=by rw [ho];simp [pointsB,h2]
  have hnext:(List.range (K0++[k]).length).all (okAt (K0++k :: K) (V0++v :: V))=true:=by
   rw [List.length_append,List.length_singleton,all_range_succ,h,ho2];rfl
  rw [ek,ev] at hnext ⊢
  exact Follows.all (by simp [hl]) hnext h5
 | _,_,[],_ :: _,_,_,h => by simp [Follows] at h
 | _,_,_ :: _,[],_,_,h => by simp [Follows] at h
theorem Follows.bounds:∀ {K0 K V:List Nat},Follows K0 K V→(∀ x∈K,x < 2 ^ 64)∧∀ x∈V,x < 2 ^ 64
 | _,[],[],_ => ⟨by simp,by simp⟩
 | K0,k :: K,v :: V,hf => by
  unfold Follows at hf
  obtain ⟨h1,h2,h3,h4,h5⟩:=hf
  obtain ⟨b1,b2⟩:=h5.bounds
  exact ⟨fun x hx => (List.mem_cons.1 hx).elim (fun e => e ▸ h3) (b1 x),fun x hx => (List.mem_cons.1 hx).elim (fun e => e ▸ h4) (b2 x)⟩
 | _,[],_ :: _,h => by simp [Follows] at h
 | _,_ :: _,[],h => by simp [Follows] at h
theorem took_node {l:List UInt8} {lf:Bool} {K V:List Nat} (h:takeN l=(0,lf,K,V)):mayB K V=true∧(∀ x∈K,x < 2 ^ 64)∧(∀ x∈V,x < 2 ^ 64)∧∃ z,l=formN lf K V++z∧z.all (· == 0)=true:=by
 match l,h with
 | [],h => simp [takeN] at h
 | a :: r,h =>
  rw [takeN_cons] at h
  by_cases ha:a ≠ 0∧a ≠ 1
  ·rw [if_pos ha] at h;simp at h
  ·rw [if_neg ha] at h
   match r,h with
   | [],h => simp at h
   | b :: s,h =>
    dsimp only at h
    by_cases hb:b.toNat=0 ∨ 8 < b.toNat
    ·rw [if_pos hb] at h;simp at h
    ·rw [if_neg hb] at h
     by_cases h0:(takeK b.toNat [] [] s).1=0
     ·rw [if_pos h0] at h
      simp only [Prod.mk.injEq] at h
      obtain ⟨_,e1,e2⟩:=h
      have e3:takeK b.toNat [] [] s=(0,K,V):=by rw [← h0,← e2]
      obtain ⟨K',V',z,q1,q2,q3,q4,q5,q6⟩:=took _ _ _ _ _ _ e3
      rw [List.nil_append] at q1 q2
      subst q1 q2
      have hbd:=q4.bounds
      have hlen:=q4.len
      have hall:=Follows.all (K0:=[]) (V0:=[]) rfl (by simp) q4
      simp only [List.nil_append] at hall
      refine ⟨?_,hbd.1,hbd.2,z,?_,q6⟩
      ·unfold mayB
       rw [hall,hlen,decide_eq_true rfl,decide_eq_true (show 1≤K.length by omega),decide_eq_true (show K.length≤8 by omega)]
       rfl
      ·unfold formN
       rw [List.cons_append,List.cons_append,← q5]
       have eb:UInt8.ofNat K.length=b:=by rw [q3];exact UInt8.toNat_inj.1 (by simp)
       have ea:(if lf=true then (1:UInt8) else 0)=a:=by
        have ha2:a=0 ∨ a=1:=by
         by_cases e:a=0
         ·exact Or.inl e
         ·exact Or.inr (Decidable.not_not.1 fun e1 => ha ⟨e,e1⟩)
        rcases ha2 with rfl | rfl
        ·rw [← e1];decide
        ·rw [← e1];decide
       rw [ea,eb]
     ·rw [if_neg h0] at h
      simp only [Prod.mk.injEq] at h
      exact absurd h.1 h0
theorem took_not {l:List UInt8} {e:Int} {lf:Bool} {K V:List Nat} (h:takeN l=(e,lf,K,V)) (he:e ≠ 0):lf=false∧K=[]∧V=[]:=by
 match l,h with
 | [],h => simp [takeN] at h;simp [h]
 | a :: r,h =>
  rw [takeN_cons] at h
  by_cases ha:a ≠ 0∧a ≠ 1
  ·rw [if_pos ha] at h;simp at h;simp [h]
  ·rw [if_neg ha] at h
   match r,h with
   | [],h => simp at h;simp [h]
   | b :: s,h =>
    dsimp only at h
    by_cases hb:b.toNat=0 ∨ 8 < b.toNat
    ·rw [if_pos hb] at h;simp at h;simp [h]
    ·rw [if_neg hb] at h
     by_cases h0:(takeK b.toNat [] [] s).1=0
     ·rw [if_pos h0] at h
      simp only [Prod.mk.injEq] at h
      exact absurd h.1.symm he
     ·rw [if_neg h0] at h
      simp only [Prod.mk.injEq] at h
      exact ⟨h.2.1.symm,h.2.2.1.symm,h.2.2.2.symm⟩
end
section
open Go.RowKit Go.Maps
attribute [local go_sem ↓] Go.wp_at_zero Go.wp_at_succ
structure Mv (tag tag':Nat→Nat) (w w':World):Prop where
 c:∃ S,Chg S w w'∧∀ k,k∈S→tag k=1 ∨ tag k=2
 o:∀ k,k < w.heap.size→tag' k=tag k
 d:∀ k,w'.heap.size≤k→tag' k=4
theorem Mv.size {tag tag':Nat→Nat} {w w':World} (h:Mv tag tag' w w'):w.heap.size≤w'.heap.size:=by
 obtain ⟨S,hS,-⟩:=h.c
 exact hS.size
theorem Mv.trans {t t' t'':Nat→Nat} {a b c:World} (h:Mv t t' a b) (g:Mv t' t'' b c):Mv t t'' a c:=by
 obtain ⟨S,hS,h1⟩:=h.c
 obtain ⟨T,hT,g1⟩:=g.c
 refine ⟨⟨S++T.filter (fun k => decide (k < a.heap.size)),hS.trans hT (fun k hk _ => List.mem_append_left _ hk) (fun k hk hlt => List.mem_append_right _ (List.mem_filter.2 ⟨hk,by simpa using hlt⟩)),fun k hk => ?_⟩,fun k hk => (g.o k (Nat.lt_of_lt_of_le hk hS.size)).trans (h.o k hk),g.d⟩
 rcases List.mem_append.1 hk with h9 | h9
 ·exact h1 k h9
 ·obtain ⟨h8,h7⟩:=List.mem_filter.1 h9
  rw [← h.o k (by simpa using h7)]
  exact g1 k h8
theorem Mv.made {tag:Nat→Nat} {w w':World} (c:Chg [] w w') (d:∀ k,w.heap.size≤k→tag k=4):Mv tag tag w w':=
 ⟨⟨[],c,by simp⟩,fun _ _ => rfl,fun k hk => d k (Nat.le_trans c.size hk)⟩
theorem Mv.then {t t':Nat→Nat} {a b c:World} (h:Mv t t' a b) (g:Chg [] b c):Mv t t' a c:=h.trans (Mv.made g h.d)
def Kt (tag:Nat→Nat) (k:Nat):Prop:=tag k ≠ 1∧tag k ≠ 2
theorem Mv.cellv {tag tag':Nat→Nat} {w w':World} (m:Mv tag tag' w w') {p:Addr} {v:Value} (h:w.cell? p=some v) (hp:Kt tag p.block):w'.cell? p=some v:=by
 obtain ⟨S,hS,h1⟩:=m.c
 exact hS.cellv h (fun hm => (h1 _ hm).elim hp.1 hp.2)
theorem Mv.reads {tag tag':Nat→Nat} {w w':World} (m:Mv tag tag' w w') {ao:Option Addr} {xs:List Value} (h:Reads w ao xs) (hp:0 < xs.length→∀ k,k∈blk ao→Kt tag k):Reads w' ao xs:=by
 obtain ⟨S,hS,h1⟩:=m.c
 exact h.chg0 hS (fun hx k hk hm => (h1 _ hm).elim (hp hx k hk).1 (hp hx k hk).2)
theorem Mv.room {tag tag':Nat→Nat} {w w':World} (m:Mv tag tag' w w') {B:Nat} {ao:Option Addr} {n c:Nat} {xs:List Value} (h:Room w B ao n c xs) (hp:∀ k,k∈fp ao c→Kt tag k):Room w' B ao n c xs:=by
 obtain ⟨S,hS,h1⟩:=m.c
 exact h.chg hS (fun k hk hm => (h1 _ hm).elim (hp k hk).1 (hp k hk).2)
theorem reads_ltT {w:World} {ao:Option Addr} {xs:List Value} (h:Reads w ao xs) (hx:0 < xs.length):∀ k,k∈blk ao→k < w.heap.size:=by
 intro k hk
 obtain ⟨b,o,rfl,hc⟩:=h hx
 obtain ⟨x,hx0⟩:∃ x,xs[0]?=some x:=⟨xs[0],by rw [List.getElem?_eq_getElem hx]⟩
 have:=hc 0 x hx0
 simp [blk] at hk
 subst hk
 exact block_lt_of_cell this
def HasK (w0 w:World) (tag:Nat→Nat) (cb n:Nat) (Y:Nat→List UInt8) (u:Nat):Prop:=
 ∃ db g fa cf st mb la cl E L most uses,Pair w0 w (fun k => k < w.heap.size∧tag k ≠ 2) db g fa cf st cb mb la cl E L most uses∧Good n (L.map absE) st∧1≤most∧L.length≤most∧uses≤u∧st.L.length≤4 * u∧(∀ a,a < n→kval (L.map absE) st a=Y a)∧∀ a,a < n→(Y a).length=256
structure Low (w0 w:World) (tag:Nat→Nat):Prop where
 lo:∀ k,k < w0.heap.size→tag k=0 ∨ tag k=5
 hi:∀ k,w.heap.size≤k→tag k=4
theorem Low.keep {w0 w w':World} {tag:Nat→Nat} (h:Low w0 w tag) (c:Chg [] w w'):Low w0 w' tag:=⟨h.lo,fun k hk => h.hi k (Nat.le_trans c.size hk)⟩
theorem HasK.keep {w0 w w':World} {tag:Nat→Nat} {cb n:Nat} {Y:Nat→List UInt8} {u:Nat} (h:HasK w0 w tag cb n Y u) (c:Chg [] w w'):HasK w0 w' tag cb n Y u:=by
 obtain ⟨db,g,fa,cf,st,mb,la,cl,E,L,most,uses,hp,hr⟩:=h
 refine ⟨db,g,fa,cf,st,mb,la,cl,E,L,most,uses,hp.add c (fun k hk => ?_),hr⟩
 by_cases h9:k < w.heap.size
 ·exact Or.inl ⟨h9,hk.2⟩
 ·exact Or.inr ⟨by omega,hk.1⟩
theorem HasK.size {w0 w:World} {tag:Nat→Nat} {cb n:Nat} {Y:Nat→List UInt8} {u:Nat} (h:HasK w0 w tag cb n Y u):Chg [] w0 w:=by
 obtain ⟨db,g,fa,cf,st,mb,la,cl,E,L,most,uses,hp,hr⟩:=h
 exact hp.c
theorem HasK.mono {w0 w:World} {tag:Nat→Nat} {cb n:Nat} {Y:Nat→List UInt8} {u u':Nat} (h:HasK w0 w tag cb n Y u) (hu:u≤u'):HasK w0 w tag cb n Y u':=by
 obtain ⟨db,g,fa,cf,st,mb,la,cl,E,L,most,uses,h1,h2,h3,h4,h5,h6,h7⟩:=h
 exact ⟨db,g,fa,cf,st,mb,la,cl,E,L,most,uses,h1,h2,h3,h4,by omega,by omega,h7⟩
theorem HasK.stay {w0 w w':World} {tag tag':Nat→Nat} {cb n:Nat} {Y:Nat→List UInt8} {u:Nat} (h:HasK w0 w tag cb n Y u) {S:List Nat} (c:Chg S w w') (hS:∀ k,k∈S→tag k ≠ 2∧w0.heap.size≤k∧k < w.heap.size) (ho:∀ k,k < w.heap.size→tag' k=tag k):HasK w0 w' tag' cb n Y u:=by
 obtain ⟨db,g,fa,cf,st,mb,la,cl,E,L,most,uses,hp,hr⟩:=h
 have h1:=hp.chg c (fun k hk => ⟨⟨(hS k hk).2.2,(hS k hk).1⟩,(hS k hk).2.1⟩)
 refine ⟨db,g,fa,cf,st,mb,la,cl,E,L,most,uses,⟨h1.d,h1.k,h1.u,h1.c,h1.W,h1.x,fun k hk => ?_⟩,hr⟩
 by_cases h9:k < w.heap.size
 ·rw [ho k h9] at hk
  exact h1.r k ⟨h9,hk.2⟩
 ·exact ⟨fun hm => by have:=(hp.k.lt k hm).2;omega,fun hm => by have:=(hp.d.lt k hm).2;omega,hk.1⟩
theorem retag {w0 w w':World} {tag:Nat→Nat} {R':Nat→Prop} {db:Nat} {g:DG} {fa:Option Addr} {cf:Nat} {st:RS} {cb mb:Nat} {la:Option Addr} {cl:Nat} {E L:List Ent} {most uses:Nat} (hl:Low w0 w tag)
  (hp:Pair w0 w' R' db g fa cf st cb mb la cl E L most uses) (hR:∀ k,k < w.heap.size→tag k ≠ 2→R' k) (o:Off (fun k => k < w.heap.size∧tag k ≠ 2) w w') :
  ∃ tag',Pair w0 w' (fun k => k < w'.heap.size∧tag' k ≠ 2) db g fa cf st cb mb la cl E L most uses∧Mv tag tag' w w'∧Low w0 w' tag'∧Turn w0.heap.size tag tag' 2 w w'∧∀ k,w.heap.size≤k→R' k→tag' k=4:=by
 obtain ⟨S,hS,h1⟩:=o
 have hc:Chg (S.filter (fun k => decide (k < w.heap.size))) w w':=hS.mono (fun k hk hlt => List.mem_filter.2 ⟨hk,by simpa using hlt⟩)
 have h2:∀ k,k∈S.filter (fun k => decide (k < w.heap.size))→tag k=2:=by
  intro k hk
  obtain ⟨h8,h7⟩:=List.mem_filter.1 hk
  by_cases h9:tag k=2
  ·exact h9
  ·exact absurd ⟨by simpa using h7,h9⟩ (h1 k h8)
 refine ⟨fun k => if k < w.heap.size then tag k else if k∈CF cb mb la cl E++DF db g fa cf then 2 else 4,⟨hp.d,hp.k,hp.u,hp.c,hp.W,hp.x,fun k hk => ?_⟩,⟨⟨_,hc,fun k hk => Or.inr (h2 k hk)⟩,fun k hk => if_pos hk,fun k hk => ?_⟩,⟨fun k hk => ?_,fun k hk => ?_⟩,⟨⟨_,hc,fun k hk => ⟨h2 k hk,?_⟩⟩,fun k hk => if_pos hk⟩,fun k hk hRk => ?_⟩
 ·obtain ⟨ha,hb⟩:=hk
  by_cases h9:k < w.heap.size
  ·dsimp only at hb;rw [if_pos h9] at hb
   exact hp.r k (hR k h9 hb)
  ·dsimp only at hb;rw [if_neg h9] at hb
   by_cases h8:k∈CF cb mb la cl E++DF db g fa cf
   ·rw [if_pos h8] at hb;exact absurd rfl hb
   ·exact ⟨fun hm => h8 (List.mem_append_left _ hm),fun hm => h8 (List.mem_append_right _ hm),ha⟩
 ·have h9:¬ k < w.heap.size:=by have:=hS.size;omega
  rw [if_neg h9,if_neg]
  intro hm
  rcases List.mem_append.1 hm with hm | hm
  ·have:=(hp.k.lt k hm).2;omega
  ·have:=(hp.d.lt k hm).2;omega
 ·by_cases h9:k < w.heap.size
  ·rw [if_pos h9];exact hl.lo k hk
  ·rw [if_neg h9,if_neg]
   ·have:=hl.hi k (by omega);have:=hl.lo k hk;omega
   ·intro hm
    rcases List.mem_append.1 hm with hm | hm
    ·have:=(hp.k.lt k hm).1;omega
    ·have:=(hp.d.lt k hm).1;omega
 ·have h9:¬ k < w.heap.size:=by have:=hS.size;omega
  rw [if_neg h9,if_neg]
  intro hm
  rcases List.mem_append.1 hm with hm | hm
  ·have:=(hp.k.lt k hm).2;omega
  ·have:=(hp.d.lt k hm).2;omega
 ·by_cases h9:w0.heap.size≤k
  ·exact h9
  ·have:=hl.lo k (by omega);have:=h2 k hk;omega
 ·dsimp only
  rw [if_neg (by omega),if_neg]
  intro hm
  rcases List.mem_append.1 hm with hm | hm
  ·exact (hp.r k hRk).1 hm
  ·exact (hp.r k hRk).2.1 hm
section
variable {w0 w:World} {tag:Nat→Nat} {cb n:Nat} {Y:Nat→List UInt8} {u:Nat} (h:HasK w0 w tag cb n Y u) (hl:Low w0 w tag)
include h hl
theorem k_get (a:Nat) (ha:a < n) (hu:u≤100000000):Calls Tryz.prog 50 #[.pointer (some ⟨cb,0,none⟩),.int .i64 (a:Int)] w fun e w' => ∃ ao c,e=.returned (.tuple #[.slice ao 256 c,.int .i64 0])∧Room w' w.heap.size ao 256 c (bts (Y a))∧∃ tag',HasK w0 w' tag' cb n Y (u+1)∧Low w0 w' tag'∧Turn w0.heap.size tag tag' 2 w w'∧Mv tag tag' w w'∧∀ k,k∈fp ao c→tag' k=4:=by
 obtain ⟨db,g,fa,cf,st,mb,la,cl,E,L,most,uses,hp,hg,hm,hL,hus,hst,hv,hy⟩:=h
 have hrl:(reads st a 4).length=256:=by
  have hW:=hp.W
  have hc:=hg.c
  exact reads_len st a 4 (by have:=hW.1;omega) hp.d.lS (fun f hf => (hp.d.lL f hf).1)
 obtain ⟨K',st',e1,hg',hl',hv',hst'⟩:=hg.get most hm (by simpa using hL) ha hrl
 refine (pair_get w0 w _ db g fa cf st cb mb la cl E L most uses hp _ K' 0 a 256 _ st' rfl e1 (by omega) (by omega) (by rw [hv a ha];exact hy a ha)).mono ?_
 rintro e w' ⟨ao,c,rfl,hr,fa',cf',la',cl',E',L',uses',hp',hLK,hu',ho⟩
 obtain ⟨tag',t1,t2,t3,t4,t5⟩:=retag hl hp' (fun k h1 h2 => Or.inl ⟨h1,h2⟩) ho
 rw [hv a ha] at hr
 refine ⟨ao,c,rfl,hr,tag',⟨db,g,fa',cf',st',mb,la',cl',E',L',most,uses',t1,by rw [hLK];exact hg',hm,by rw [← List.length_map (f:=absE),hLK];exact hl',by omega,by omega,fun x hx => by rw [hLK,hv'];exact hv x hx,hy⟩,t3,t4,t2,fun k hk => t5 k (hr.lt k hk).1 (Or.inr hk)⟩
theorem k_put (a:Nat) (ha:a < n) (hu:u≤100000000) (ab:Option Addr) (c:Nat) (b:List UInt8) (hb:b.length=256) (gb:Reads w ab (bts b)) (hab:∀ k,k∈blk ab→k < w.heap.size∧tag k ≠ 2):Calls Tryz.prog 49 #[.pointer (some ⟨cb,0,none⟩),.int .i64 (a:Int),.slice ab 256 c] w fun e w' => e=.returned (.int .i64 0)∧∃ tag',HasK w0 w' tag' cb n (fun x => if x=a then b else Y x) (u+1)∧Low w0 w' tag'∧Turn w0.heap.size tag tag' 2 w w'∧Mv tag tag' w w':=by
 obtain ⟨db,g,fa,cf,st,mb,la,cl,E,L,most,uses,hp,hg,hm,hL,hus,hst,hv,hy⟩:=h
 obtain ⟨K',st',e1,hg',hl',hv',hst'⟩:=hg.put most hm (by simpa using hL) ha hb
 refine (pair_put w0 w _ db g fa cf st cb mb la cl E L most uses hp _ K' 0 a ab 256 c b st' rfl e1 (by omega) (by omega) gb hb (fun k hk => Or.inl (hab k hk))).mono ?_
 rintro e w' ⟨rfl,fa',cf',la',cl',E',L',uses',hp',hLK,hu',ho⟩
 obtain ⟨tag',t1,t2,t3,t4,t5⟩:=retag hl hp' (fun k h1 h2 => ⟨h1,h2⟩) ho
 refine ⟨rfl,tag',⟨db,g,fa',cf',st',mb,la',cl',E',L',most,uses',t1,by rw [hLK];exact hg',hm,by rw [← List.length_map (f:=absE),hLK];exact hl',by omega,by omega,fun x hx => ?_,fun x hx => ?_⟩,t3,t4,t2⟩
 ·rw [hLK,hv']
  dsimp only
  by_cases e:x=a
  ·rw [if_pos e,if_pos e]
  ·rw [if_neg e,if_neg e];exact hv x hx
 ·dsimp only
  by_cases e:x=a
  ·rw [if_pos e];exact hb
  ·rw [if_neg e];exact hy x hx
theorem k_get_no (z:Int) (hz:z < 0 ∨ (n:Int)≤z) (hu:u≤100000000):Calls Tryz.prog 50 #[.pointer (some ⟨cb,0,none⟩),.int .i64 z] w fun e w' => ∃ ao c,e=.returned (.tuple #[.slice ao 0 c,.int .i64 6])∧∃ tag',HasK w0 w' tag' cb n Y (u+1)∧Low w0 w' tag'∧Turn w0.heap.size tag tag' 2 w w'∧Mv tag tag' w w':=by
 obtain ⟨db,g,fa,cf,st,mb,la,cl,E,L,most,uses,hp,hg,hm,hL,hus,hst,hv,hy⟩:=h
 have hw:whyN st z=6:=by
  unfold whyN
  have h1:=hg.g
  have h2:=hg.l
  have h3:=hg.c
  simp only [h1,h3]
  split <;> simp_all <;> omega
 have e1:kget most (L.map absE) st z=(6,[],L.map absE,st):=by unfold kget;rw [hw];rfl
 refine (pair_get w0 w _ db g fa cf st cb mb la cl E L most uses hp _ _ 6 z 0 _ st rfl e1 (by omega) (by omega) rfl).mono ?_
 rintro e w' ⟨ao,c,rfl,hr,fa',cf',la',cl',E',L',uses',hp',hLK,hu',ho⟩
 obtain ⟨tag',t1,t2,t3,t4,t5⟩:=retag hl hp' (fun k h1 h2 => Or.inl ⟨h1,h2⟩) ho
 exact ⟨ao,c,rfl,tag',⟨db,g,fa',cf',st,mb,la',cl',E',L',most,uses',t1,by rw [hLK];exact hg,hm,by rw [← List.length_map (f:=absE),hLK,List.length_map];exact hL,by omega,by omega,fun x hx => by rw [hLK];exact hv x hx,hy⟩,t3,t4,t2⟩
theorem k_put_no (z:Int) (hz:z < 0 ∨ (n:Int)≤z) (hu:u≤100000000) (ab:Option Addr) (c:Nat) (b:List UInt8) (hb:b.length=256) (gb:Reads w ab (bts b)) (hab:∀ k,k∈blk ab→k < w.heap.size∧tag k ≠ 2):Calls Tryz.prog 49 #[.pointer (some ⟨cb,0,none⟩),.int .i64 z,.slice ab 256 c] w fun e w' => e=.returned (.int .i64 6)∧∃ tag',HasK w0 w' tag' cb n Y (u+1)∧Low w0 w' tag'∧Turn w0.heap.size tag tag' 2 w w'∧Mv tag tag' w w':=by
 obtain ⟨db,g,fa,cf,st,mb,la,cl,E,L,most,uses,hp,hg,hm,hL,hus,hst,hv,hy⟩:=h
 have hw:whyN st z=6:=by
  unfold whyN
  have h1:=hg.g
  have h2:=hg.l
  have h3:=hg.c
  simp only [h1,h3]
  split <;> simp_all <;> omega
 have e1:kput most (L.map absE) st z b=(6,L.map absE,st):=by unfold kput;rw [hw];rfl
 refine (pair_put w0 w _ db g fa cf st cb mb la cl E L most uses hp _ _ 6 z ab 256 c b st rfl e1 (by omega) (by omega) gb hb (fun k hk => Or.inl (hab k hk))).mono ?_
 rintro e w' ⟨rfl,fa',cf',la',cl',E',L',uses',hp',hLK,hu',ho⟩
 obtain ⟨tag',t1,t2,t3,t4,t5⟩:=retag hl hp' (fun k h1 h2 => ⟨h1,h2⟩) ho
 exact ⟨rfl,tag',⟨db,g,fa',cf',st,mb,la',cl',E',L',most,uses',t1,by rw [hLK];exact hg,hm,by rw [← List.length_map (f:=absE),hLK,List.length_map];exact hL,by omega,by omega,fun x hx => by rw [hLK];exact hv x hx,hy⟩,t3,t4,t2⟩
end
structure HasF (w0 w:World) (tag:Nat→Nat) (sb rb n:Nat) (N C:List UInt8) (Y:Nat→List UInt8) (u:Nat):Prop where
 r:HasR w0.heap.size w tag 1 rb n N C
 k:∃ cb,HasK w0 w tag cb n Y u∧w.cell? ⟨sb,1,none⟩=some (.pointer (some ⟨cb,0,none⟩))
 s0:w.cell? ⟨sb,0,none⟩=some (.pointer (some ⟨rb,0,none⟩))
 ts:tag sb=3
 l:Low w0 w tag
section
variable {w0 w w':World} {tag tag':Nat→Nat} {sb rb n:Nat} {N C:List UInt8} {Y:Nat→List UInt8} {u:Nat}
theorem HasF.chg (h:HasF w0 w tag sb rb n N C Y u):Chg [] w0 w:=by
 obtain ⟨cb,hk,-⟩:=h.k
 exact hk.size
theorem HasF.mono (h:HasF w0 w tag sb rb n N C Y u) {u':Nat} (hu:u≤u'):HasF w0 w tag sb rb n N C Y u':=by
 obtain ⟨cb,hk,h1⟩:=h.k
 exact ⟨h.r,⟨cb,hk.mono hu,h1⟩,h.s0,h.ts,h.l⟩
theorem HasF.keep (h:HasF w0 w tag sb rb n N C Y u) (c:Chg [] w w'):HasF w0 w' tag sb rb n N C Y u:=by
 obtain ⟨cb,hk,h1⟩:=h.k
 exact ⟨h.r.still (Still.of c),⟨cb,hk.keep c,c.cellv h1 (by simp)⟩,c.cellv h.s0 (by simp),h.ts,h.l.keep c⟩
theorem HasF.wrote (h:HasF w0 w tag sb rb n N C Y u) {S:List Nat} (c:Chg S w w') (hS:∀ k,k∈S→tag k=4):HasF w0 w' tag sb rb n N C Y u:=by
 obtain ⟨cb,hk,h1⟩:=h.k
 obtain ⟨nb,c2,sp,Fs,r1,r2⟩:=h.r
 have hc:Chg (S.filter (fun k => decide (k < w.heap.size))) w w':=c.mono (fun k hk hlt => List.mem_filter.2 ⟨hk,by simpa using hlt⟩)
 have h2:∀ k,k∈S.filter (fun k => decide (k < w.heap.size))→tag k ≠ 2∧w0.heap.size≤k∧k < w.heap.size:=by
  intro k hk
  obtain ⟨h8,h7⟩:=List.mem_filter.1 hk
  have h6:=hS k h8
  refine ⟨by omega,?_,by simpa using h7⟩
  by_cases h9:w0.heap.size≤k
  ·exact h9
  ·have:=h.l.lo k (by omega);omega
 have hsb:sb ∉ S:=fun hm => by have:=hS sb hm;have:=h.ts;omega
 refine ⟨⟨nb,c2,sp,Fs,r1.chg c (fun k hk hm => by have:=hS k hm;have:=r2 k hk;omega),r2⟩,⟨cb,hk.stay hc h2 (fun _ _ => rfl),c.cellv h1 hsb⟩,c.cellv h.s0 hsb,h.ts,h.l.lo,fun k hk => h.l.hi k (Nat.le_trans c.size hk)⟩
theorem HasF.set (h:HasF w0 w tag sb rb n N C Y u) {b i:Nat} {v:Value} (hb:tag b=4):HasF w0 (w.setCell ⟨b,i,none⟩ v) tag sb rb n N C Y u:=
 h.wrote (Chg.setCell w ⟨b,i,none⟩ v) (fun k hk => by simp at hk;subst hk;exact hb)
theorem Mv.wrote {a b c:World} (h:Mv tag tag' a b) {S:List Nat} (g:Chg S b c) (hS:∀ k,k∈S→a.heap.size≤k):Mv tag tag' a c:=by
 obtain ⟨T,hT,h1⟩:=h.c
 exact ⟨⟨T,hT.trans g (fun _ hk _ => hk) (fun k hk hlt => by have:=hS k hk;omega),h1⟩,h.o,fun k hk => h.d k (Nat.le_trans g.size hk)⟩
theorem Mv.four {a b:World} (m:Mv tag tag' a b) {k:Nat} (h:tag k=4) (hk:k < a.heap.size):tag' k=4:=by
 rw [m.o k hk];exact h
theorem kt4 {k:Nat} (h:tag k=4):Kt tag k:=⟨by omega,by omega⟩
theorem HasF.refs (h:HasF w0 w tag sb rb n N C Y u) {f:Nat} {args:Array Value} {post:Ending→Prop} {N' C':List UInt8}
  (hc:Calls Tryz.prog f args w fun e w' => post e∧∃ tag',HasR w0.heap.size w' tag' 1 rb n N' C'∧Turn w0.heap.size tag tag' 1 w w') :
  Calls Tryz.prog f args w fun e w' => post e∧∃ tag',HasF w0 w' tag' sb rb n N' C' Y u∧Mv tag tag' w w':=by
 refine hc.mono ?_
 rintro e w' ⟨hp,tag',⟨nb,c2,sp,Fs,r1,r2⟩,⟨S,hS,t1⟩,t2⟩
 obtain ⟨cb,hk,h1⟩:=h.k
 have hS':Chg (S.filter (fun k => decide (k < w.heap.size))) w w':=hS.mono (fun k hk hlt => List.mem_filter.2 ⟨hk,by simpa using hlt⟩)
 have hm:∀ k,k∈S.filter (fun k => decide (k < w.heap.size))→tag k=1∧w0.heap.size≤k∧k < w.heap.size:=fun k hk => by
  obtain ⟨h8,h7⟩:=List.mem_filter.1 hk
  exact ⟨(t1 k h8).1,(t1 k h8).2,by simpa using h7⟩
 have hsb:sb ∉ S:=fun hm => by have:=(t1 sb hm).1;have:=h.ts;omega
 have hsz:sb < w.heap.size:=block_lt_of_cell h.s0
 have ho:∀ k,k < w.heap.size→(fun k => if k < w'.heap.size then tag' k else 4) k=tag k:=fun k hk => by
  dsimp only
  rw [if_pos (Nat.lt_of_lt_of_le hk hS.size)]
  exact t2 k hk
 refine ⟨hp,fun k => if k < w'.heap.size then tag' k else 4,⟨⟨nb,c2,sp,Fs,r1,fun k hk => ?_⟩,⟨cb,hk.stay hS' (fun k hk => ⟨by rw [(hm k hk).1];decide,(hm k hk).2⟩) ho,hS.cellv h1 hsb⟩,hS.cellv h.s0 hsb,(ho sb hsz).trans h.ts,⟨fun k hk => ?_,fun k hk => if_neg (by omega)⟩⟩,⟨⟨_,hS',fun k hk => Or.inl (hm k hk).1⟩,ho,fun k hk => if_neg (by omega)⟩⟩
 ·dsimp only
  rw [if_pos (r1.lt k hk).2]
  exact r2 k hk
 ·have hw:=h.chg.size
  have h9:(if k < w'.heap.size then tag' k else 4)=tag k:=ho k (by omega)
  rw [h9];exact h.l.lo k hk
theorem HasF.cache (h:HasF w0 w tag sb rb n N C Y u) {cb:Nat} {Y':Nat→List UInt8} {u':Nat} (hk:HasK w0 w' tag' cb n Y' u') (hl:Low w0 w' tag') (t:Turn w0.heap.size tag tag' 2 w w') (hc:w.cell? ⟨sb,1,none⟩=some (.pointer (some ⟨cb,0,none⟩))):HasF w0 w' tag' sb rb n N C Y' u':=by
 have hsz:sb < w.heap.size:=block_lt_of_cell h.s0
 have h1:=t.cellv hc h.ts (by decide)
 have h2:=t.cellv h.s0 h.ts (by decide)
 exact ⟨h.r.stay t (by decide),⟨cb,hk,h1.1⟩,h2.1,h2.2,hl⟩
end
section
variable {w0 w:World} {tag:Nat→Nat} {sb rb n:Nat} {N C:List UInt8} {Y:Nat→List UInt8} {u:Nat} (h:HasF w0 w tag sb rb n N C Y u)
include h
theorem f_alloc:Calls Tryz.prog 22 #[.pointer (some ⟨rb,0,none⟩)] w fun e w' => e=.returned (.tuple #[.int .i64 (allocN N C).1,.int .i64 (allocN N C).2.1])∧∃ tag',HasF w0 w' tag' sb rb n (allocN N C).2.2 C Y u∧Mv tag tag' w w':=h.refs (r_alloc h.r)
theorem f_inc (z:Int):Calls Tryz.prog 27 #[.pointer (some ⟨rb,0,none⟩),.int .i64 z] w fun e w' => e=.returned (.int .i64 (incN N z).1)∧∃ tag',HasF w0 w' tag' sb rb n (incN N z).2 C Y u∧Mv tag tag' w w':=h.refs (r_inc h.r z)
theorem f_dec (z:Int):Calls Tryz.prog 24 #[.pointer (some ⟨rb,0,none⟩),.int .i64 z] w fun e w' => e=.returned (.tuple #[.bool (decN N z).1,.int .i64 (decN N z).2.1])∧∃ tag',HasF w0 w' tag' sb rb n (decN N z).2.2 C Y u∧Mv tag tag' w w':=h.refs (r_dec h.r z)
theorem f_commit:Calls Tryz.prog 28 #[.pointer (some ⟨rb,0,none⟩)] w fun e w' => e=.returned (.int .i64 0)∧∃ tag',HasF w0 w' tag' sb rb n N N Y u∧Mv tag tag' w w':=h.refs (r_commit h.r)
end
end
end Go.Proofs.YtdgkbicelnnfpaaGreatDoor
