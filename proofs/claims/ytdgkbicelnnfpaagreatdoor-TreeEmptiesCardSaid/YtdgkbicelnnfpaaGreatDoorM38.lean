/- Texts Tw, Tza, Tub, Wa, Wb, Wc of the library, joined. -/
import Derived.Test.YtdgkbicelnnfpaaGreatDoorM36
import Derived.Test.YtdgkbicelnnfpaaGreatDoorM37
set_option linter.unusedVariables false
set_option linter.unusedSimpArgs false
namespace Go.Proofs.YtdgkbicelnnfpaaGreatDoor
section
set_option maxRecDepth 200000
open Go.RowKit
attribute [local go_sem ↓] Go.wp_at_zero Go.wp_at_succ
def okI (r:Out (List UInt8 × (Nat→Option Nd) × Nat × Nat × Bool)):List UInt8 × (Nat→Option Nd) × Nat × Nat × Bool:=match r with | .ok r => r | _ => ([],fun _ => none,0,0,false)
def isI (r:Out (List UInt8 × (Nat→Option Nd) × Nat × Nat × Bool)) (t o:Nat) (h:Bool):Bool:=match r with | .ok r => r.2.2.1 == t && r.2.2.2.1 == o && r.2.2.2.2 == h | _ => false
theorem isI_ok {r:Out (List UInt8 × (Nat→Option Nd) × Nat × Nat × Bool)} {t o:Nat} {h:Bool} (e:isI r t o h=true):r=.ok ((okI r).1,(okI r).2.1,t,o,h):=by
 match r,e with
 | .ok (a,b,c,d,f),e =>
  simp only [isI,Bool.and_eq_true,beq_iff_eq] at e
  obtain ⟨⟨rfl,rfl⟩,rfl⟩:=e
  rfl
 | .stuck,e => cases e
 | .full,e => cases e
def aw0:Out (List UInt8 × (Nat→Option Nd) × Nat × Nat × Bool):=insertA (cnt0 40) (cnt0 40) (fun _ => none) 0 5 1
def awN1:List UInt8:=(okI aw0).1
def awN2:List UInt8:=(incN awN1 2).2
def awN3:List UInt8:=(incN awN2 1).2
def aw3:Out (List UInt8 × (Nat→Option Nd) × Nat × Nat × Bool):=insertA awN3 (cnt0 40) (okI aw0).2.1 2 5 1
theorem aw0_ok:isI aw0 2 0 false=true:=by decide +kernel
theorem aw1_ok:(incN awN1 2).1=0:=by decide +kernel
theorem aw2_ok:(incN awN2 1).1=0:=by decide +kernel
theorem aw3_ok:isI aw3 3 1 true=true:=by decide +kernel
theorem aw4_ok:lookA (okI aw3).2.1 2 5=some (1,true):=by decide +kernel
theorem aw5_ok:lookA (okI aw3).2.1 3 6=some (0,false):=by decide +kernel
set_option maxHeartbeats 2000000 in
theorem awake_yes {w:World} (hT:Tab w):Calls Tryz.prog 8 #[] w fun e w' => e=.returned (.bool true)∧Chg [] w w':=by
 have cM:Calls Tryz.prog 9 #[.int .i64 40,.int .i64 4] w (MadeOut w [] 40):=made_bench [] 40 4 (by omega) (by omega) w
 go_enter Tryz.func8,Tryz.ntmps8
 go_wp2_with fail
 refine cM.mono ?_
 rintro e w1 ⟨xb,sb,rb,rfl,x0,x1,hxb,tag,t4,-,h1⟩
 have lx:=block_lt_of_cell x0
 have c1:Calls Tryz.prog 23 #[.pointer (some ⟨sb,0,none⟩),.int .u64 0,.int .u64 5,.int .u64 1] w1 (InsOut w w1 tag sb rb 40 (cnt0 40) 4000 awN1 (okI aw0).2.1 2 0 false):=insert_ok hT h1 0 5 1 (by omega) (by omega) (by omega) (by omega) _ _ 2 0 false (isI_ok aw0_ok)
 clear cM
 go_wp2_with fail
 refine c1.mono ?_
 rintro e w2 ⟨he,tag2,h2,m2⟩
 have he:e=.returned (.tuple #[.int .u64 2,.int .u64 0,.bool false,.int .i64 0]):=he
 subst he
 have x0:=m2.cellv x0 (kt4 t4)
 have x1:=m2.cellv x1 (kt4 t4)
 have t4:=m2.four t4 lx
 have lx:=block_lt_of_cell x0
 have c2:=x_inc h2 2 (0,awN2) (Prod.ext aw1_ok rfl)
 dsimp only at c2
 clear c1 m2
 go_wp2_with fail
 refine c2.mono ?_
 rintro e w3 ⟨rfl,tag3,h3,m3⟩
 have x0:=m3.cellv x0 (kt4 t4)
 have x1:=m3.cellv x1 (kt4 t4)
 have t4:=m3.four t4 lx
 have lx:=block_lt_of_cell x0
 have c3:=x_inc h3 1 (0,awN3) (Prod.ext aw2_ok rfl)
 dsimp only at c3
 clear c2 m3
 go_wp2_with fail
 refine c3.mono ?_
 rintro e w4 ⟨rfl,tag4,h4,m4⟩
 have x0:=m4.cellv x0 (kt4 t4)
 have x1:=m4.cellv x1 (kt4 t4)
 have t4:=m4.four t4 lx
 have lx:=block_lt_of_cell x0
 have c4:Calls Tryz.prog 23 #[.pointer (some ⟨sb,0,none⟩),.int .u64 2,.int .u64 5,.int .u64 1] w4 (InsOut w w4 tag4 sb rb 40 (cnt0 40) 8000 (okI aw3).1 (okI aw3).2.1 3 1 true):=insert_ok hT h4 2 5 1 (by omega) (by omega) (by omega) (by omega) _ _ 3 1 true (isI_ok aw3_ok)
 clear c3 m4
 go_wp2_with fail
 refine c4.mono ?_
 rintro e w5 ⟨he,tag5,h5,m5⟩
 have he:e=.returned (.tuple #[.int .u64 3,.int .u64 1,.bool true,.int .i64 0]):=he
 subst he
 have x0:=m5.cellv x0 (kt4 t4)
 have x1:=m5.cellv x1 (kt4 t4)
 have t4:=m5.four t4 lx
 have lx:=block_lt_of_cell x0
 have c5:Calls Tryz.prog 26 #[.pointer (some ⟨sb,0,none⟩),.int .u64 2,.int .u64 5] w5 (LookOut w w5 tag5 sb rb 40 (okI aw3).1 (cnt0 40) (okI aw3).2.1 8012 1 true):=lookup_any hT h5 2 5 (by omega) 1 true aw4_ok
 clear c4 m5
 go_wp2_with fail
 refine c5.mono ?_
 rintro e w6 ⟨he,tag6,h6,m6⟩
 have he:e=.returned (.tuple #[.int .u64 1,.bool true,.int .i64 0]):=he
 subst he
 have x0:=m6.cellv x0 (kt4 t4)
 have x1:=m6.cellv x1 (kt4 t4)
 have t4:=m6.four t4 lx
 have c6:Calls Tryz.prog 26 #[.pointer (some ⟨sb,0,none⟩),.int .u64 3,.int .u64 6] w6 (LookOut w w6 tag6 sb rb 40 (okI aw3).1 (cnt0 40) (okI aw3).2.1 8024 0 false):=lookup_any hT h6 3 6 (by omega) 0 false aw5_ok
 clear c5 m6
 go_wp2_with fail
 refine c6.mono ?_
 rintro e w7 ⟨he,tag7,h7,m7⟩
 have he:e=.returned (.tuple #[.int .u64 0,.bool false,.int .i64 0]):=he
 subst he
 clear c6
 go_wp2_with fail
 go_ret
 exact ⟨rfl,h7.chg⟩
end
section
set_option maxRecDepth 200000
open Go.RowKit
attribute [local go_sem ↓] Go.wp_at_zero Go.wp_at_succ
def boxes3 (w:World) (x0 x1 x2:Value) (t0 t1 t2:TypeId):World:=((w.alloc (.cells #[x0] t0)).alloc (.cells #[x1] t1)).alloc (.cells #[x2] t2)
theorem boxes3_all (w:World) (x0 x1 x2:Value) (t0 t1 t2:TypeId):Chg [] w (boxes3 w x0 x1 x2 t0 t1 t2)∧(boxes3 w x0 x1 x2 t0 t1 t2).cell? ⟨w.heap.size,0,none⟩=some x0∧(boxes3 w x0 x1 x2 t0 t1 t2).cell? ⟨w.heap.size+1,0,none⟩=some x1∧(boxes3 w x0 x1 x2 t0 t1 t2).cell? ⟨w.heap.size+2,0,none⟩=some x2:=by
 unfold boxes3
 obtain ⟨wa,hwa⟩:∃ wa,wa=w.alloc (.cells #[x0] t0):=⟨_,rfl⟩
 obtain ⟨wb,hwb⟩:∃ wb,wb=wa.alloc (.cells #[x1] t1):=⟨_,rfl⟩
 obtain ⟨wc,hwc⟩:∃ wc,wc=wb.alloc (.cells #[x2] t2):=⟨_,rfl⟩
 rw [← hwa,← hwb,← hwc]
 have ga:Chg [] w wa:=by rw [hwa];exact Chg.alloc [] w _
 have gb:Chg [] wa wb:=by rw [hwb];exact Chg.alloc [] wa _
 have gc:Chg [] wb wc:=by rw [hwc];exact Chg.alloc [] wb _
 have sa:wa.heap.size=w.heap.size+1:=by rw [hwa];simp
 have sB:wb.heap.size=w.heap.size+2:=by rw [hwb];simp [sa]
 have la:=cell_of_row wa w.heap.size 0 #[x0] _ _ (by rw [hwa];exact heap_alloc_last w _)
 have lb:=cell_of_row wb wa.heap.size 0 #[x1] _ _ (by rw [hwb];exact heap_alloc_last wa _)
 have lc:=cell_of_row wc wb.heap.size 0 #[x2] _ _ (by rw [hwc];exact heap_alloc_last wb _)
 rw [sa] at lb
 rw [sB] at lc
 exact ⟨(ga.then gb).then gc,gc.cellv (gb.cellv la (by simp)) (by simp),gc.cellv lb (by simp),lc⟩
section
variable {w0 w:World} {tag:Nat→Nat} {sb rb n:Nat} {N C:List UInt8} {X:Nat→Option Nd} {u:Nat}
end
end
section
set_option maxRecDepth 200000
open Go.RowKit
attribute [local go_sem ↓] Go.wp_at_zero Go.wp_at_succ
section
variable {w0 w:World} {tag:Nat→Nat} {sb rb n:Nat} {N C:List UInt8} {X:Nat→Option Nd} {u:Nat}
set_option maxHeartbeats 1000000 in
theorem remclo_ok (hT:Tab w0) (h:HasX w0 w tag sb rb n N C X u) (b0 b1 b2 root key:Nat) (c0:w.cell? ⟨b0,0,none⟩=some (.pointer (some ⟨sb,0,none⟩))) (c1:w.cell? ⟨b1,0,none⟩=some (.int .u64 (root:Int))) (c2:w.cell? ⟨b2,0,none⟩=some (.int .u64 (key:Int))) (hkey:key < 2 ^ 64) (hu:u≤70000000)
  (N':List UInt8) (X':Nat→Option Nd) (rt od:Nat) (th:Bool) (hr:removedA N C X root key=.ok (N',X',rt,od,th)) :
  Calls Tryz.prog 62 #[.pointer (some ⟨b0,0,none⟩),.pointer (some ⟨b1,0,none⟩),.pointer (some ⟨b2,0,none⟩)] w (InsPost w0 w tag sb rb n C (u+4000) (.ok (N',X',rt,od,th))):=by
 have l0:=block_lt_of_cell c0
 have l1:=block_lt_of_cell c1
 have l2:=block_lt_of_cell c2
 dsimp only at l0 l1 l2
 have g0:=Chg.alloc [] w (.cells wayZ 124)
 have h0:=h.keep g0
 have t0:=new6 w 124
 have tb:=h.hi _ (Nat.le_refl _)
 have M0:=Mv.made g0 h.hi
 have cI:=removed_any hT h0 root key hkey hu _ hr (by simp)
 have d0:=g0.cellv c0 (by simp)
 have d1:=g0.cellv c1 (by simp)
 have d2:=g0.cellv c2 (by simp)
 unfold wayZ at g0 h0 t0 M0 cI d0 d1 d2
 go_enter Tryz.func62,Tryz.ntmps62
 go_wp2_with fail
 generalize hb:w.heap.size=b at *
 have HB:=mkHid hb
 clear hb
 generalize (w.alloc (.cells #[.pointer none,.slice none 0 0,.slice none 0 0,.int .u64 0,.int .u64 0,.bool false] 124))=w1 at *
 refine cI.mono ?_
 rintro e w2 ⟨a1,k1,q1,a2,k2,q2,rfl,tag2,h2,m2⟩
 have t2:=m2.there t0 tb
 have b2':=m2.four tb (there_lt t0 (by decide))
 have M2:=M0.trans m2
 obtain ⟨⟨v0,v1,v2,v3,v4,v5,r0,r1,r2,r3,r4,r5⟩,y0,y1,y2,y3,y4,y5⟩:=cells6 t2
 have H2:=mkHid (And.intro h2 (And.intro M2 b2'))
 clear h2 M2 m2 h0 M0 t0 t2
 unfold wayV
 go_wp2_with fail
 refine bodyPost_ret (v:=wayV sb a1 k1 q1 a2 k2 q2 rt od th) (by simp [results,Tryz.results62,go_sem,r0,r1,r2,r3,r4,r5,wayV]) rfl ?_
 obtain ⟨h2,M2,b2'⟩:=H2.out
 have G:=six_chg w2 b (.pointer (some ⟨sb,0,none⟩)) (.slice a1 k1 q1) (.slice a2 k2 q2) (.int .u64 (rt:Int)) (.int .u64 (od:Int)) (.bool th)
 exact ⟨a1,k1,q1,a2,k2,q2,rfl,tag2,h2.wrote G (fun j hj => by simp at hj;subst hj;exact b2'),M2.wrote G (fun j hj => by simp at hj;have:=HB.out;omega)⟩
theorem remclo_enters:∀ (args:Array Value) (w:World),(callFunc 62 args).run Tryz.prog w=.ok (.enter 62 args) w:=enters_of Tryz.func62 (by kernel_rfl) rfl
set_option maxHeartbeats 1000000 in
theorem remove_ok (hT:Tab w0) (h:HasX w0 w tag sb rb n N C X u) (root key:Nat) (hkey:key < 2 ^ 64) (hu:u≤60000000) (v:Nat) (hl:lookA X root key=some (v,true)) (N':List UInt8) (X':Nat→Option Nd) (rt od:Nat) (th:Bool) (hr:removedA N C X root key=.ok (N',X',rt,od,th)) :
  Calls Tryz.prog 25 #[.pointer (some ⟨sb,0,none⟩),.int .u64 (root:Int),.int .u64 (key:Int)] w (InsOut w0 w tag sb rb n C (u+4012) N' X' rt od th):=by
 obtain ⟨G0,k0,k1,k2⟩:=boxes3_all w (.pointer (some ⟨sb,0,none⟩)) (.int .u64 (root:Int)) (.int .u64 (key:Int)) 43 34 34
 have b0:=h.hi w.heap.size (by omega)
 have b1:=h.hi (w.heap.size+1) (by omega)
 have b2:=h.hi (w.heap.size+2) (by omega)
 have cL:=lookup_any hT (h.keep G0) root key (by omega) v true hl
 have l0:=block_lt_of_cell k0
 have l1:=block_lt_of_cell k1
 have l2:=block_lt_of_cell k2
 dsimp only at l0 l1 l2
 have hmf:∀ (fn:Fn) (first cap:Array Value) (w:World),(Instr.makeFunc fn first cap).run Tryz.prog w=.ok (.func fn first cap) w:=fun _ _ _ _ => rfl
 unfold boxes3 at G0 k0 k1 k2 cL l0 l1 l2
 have M0:=Mv.made G0 h.hi
 go_enter Tryz.func25,Tryz.ntmps25
 go_wp2_with fail
 generalize (((w.alloc (.cells #[.pointer (some ⟨sb,0,none⟩)] 43)).alloc (.cells #[.int .u64 (root:Int)] 34)).alloc (.cells #[.int .u64 (key:Int)] 34))=w1 at *
 refine cL.mono ?_
 rintro e w1' ⟨rfl,tag1,h1,m1⟩
 have k0:=m1.cellv k0 (kt4 b0)
 have k1:=m1.cellv k1 (kt4 b1)
 have k2:=m1.cellv k2 (kt4 b2)
 have b0:=m1.four b0 l0
 have b1:=m1.four b1 l1
 have b2:=m1.four b2 l2
 have M1:=M0.trans m1
 clear cL m1 l0 l1 l2 G0 M0
 have cW:=whole_ok h1 (by omega) 62 #[.pointer (some ⟨w.heap.size,0,none⟩),.pointer (some ⟨w.heap.size+1,0,none⟩),.pointer (some ⟨w.heap.size+2,0,none⟩)] remclo_enters N' X' rt od th (u+12+4000) (fun w9 tg9 h9 m9 => remclo_ok hT h9 _ _ _ root key (m9.cellv k0 (kt4 b0)) (m9.cellv k1 (kt4 b1)) (m9.cellv k2 (kt4 b2)) hkey (by omega) N' X' rt od th hr)
 go_wp2_with fail
 refine cW.mono ?_
 rintro e w2 ⟨a1,l1,c1,a2,l2,c2,rfl,tag2,h2,m2⟩
 have M2:=M1.trans m2
 have gx:=Chg.alloc [] w2 (.cells #[.pointer (some ⟨sb,0,none⟩),.slice a1 l1 c1,.slice a2 l2 c2,.int .u64 (rt:Int),.int .u64 (od:Int),.bool th] 124)
 have hl:=heap_alloc_last w2 (.cells #[.pointer (some ⟨sb,0,none⟩),.slice a1 l1 c1,.slice a2 l2 c2,.int .u64 (rt:Int),.int .u64 (od:Int),.bool th] 124)
 have q3:=cell_of_row _ w2.heap.size 3 _ _ _ hl
 have q4:=cell_of_row _ w2.heap.size 4 _ _ _ hl
 have q5:=cell_of_row _ w2.heap.size 5 _ _ _ hl
 simp only [List.getElem?_toArray,List.getElem?_cons_succ,List.getElem?_cons_zero] at q3 q4 q5
 have h3:=h2.keep gx
 have M3:=M2.then gx
 have H3:=mkHid (And.intro h3 M3)
 clear h2 m2 M2 gx hl h3 M3 cW
 unfold wayV
 go_wp2_with fail
 generalize (w2.alloc (.cells #[.pointer (some ⟨sb,0,none⟩),.slice a1 l1 c1,.slice a2 l2 c2,.int .u64 (rt:Int),.int .u64 (od:Int),.bool th] 124))=w3 at *
 go_quiet (fail)
 go_wp2_with fail
 refine bodyPost_ret (v:=.tuple #[.int .u64 (rt:Int),.int .u64 (od:Int),.bool th,.int .i64 0]) (by simp [results,Tryz.results25,go_sem]) rfl ?_
 obtain ⟨h3,M3⟩:=H3.out
 exact ⟨rfl,tag2,(h3.keep (Chg.drewN w3 _)).mono (by omega),M3.then (Chg.drewN w3 _)⟩
end
end
section
abbrev Prs:=List (Nat × Nat)
inductive Kids (R:Nat→Prs→List Nat→Prop):List Nat→List Nat→Prs→List Nat→Prop
 | nil:Kids R [] [] [] []
 | cons {k v:Nat} {K V:List Nat} {p P:Prs} {b B:List Nat}:R v p b→(∃ x,p.head?=some (k,x))→Kids R K V P B→Kids R (k :: K) (v :: V) (p++P) (b++B)
namespace Kids
variable {R R':Nat→Prs→List Nat→Prop} {K K1 K2 V V1 V2:List Nat} {P P1 P2:Prs} {B B1 B2:List Nat}
theorem len (h:Kids R K V P B):K.length=V.length:=by
 induction h with
 | nil => rfl
 | cons _ _ _ ih => simp [ih]
theorem append (h1:Kids R K1 V1 P1 B1) (h2:Kids R K2 V2 P2 B2):Kids R (K1++K2) (V1++V2) (P1++P2) (B1++B2):=by
 induction h1 with
 | nil => exact h2
 | cons r hk _ ih => rw [List.append_assoc,List.append_assoc];exact cons r hk ih
theorem one {k v:Nat} {p:Prs} {b:List Nat} (r:R v p b) (hk:∃ x,p.head?=some (k,x)):Kids R [k] [v] p b:=by
 have h:=cons r hk nil
 rwa [List.append_nil,List.append_nil] at h
theorem split:∀ {K1 V1:List Nat} {P:Prs} {B:List Nat},K1.length=V1.length→Kids R (K1++K2) (V1++V2) P B→∃ P1 P2 B1 B2,Kids R K1 V1 P1 B1∧Kids R K2 V2 P2 B2∧P=P1++P2∧B=B1++B2
 | [],[],P,B,_,h => ⟨[],P,[],B,nil,h,rfl,rfl⟩
 | [],_ :: _,_,_,hl,_ => by simp at hl
 | _ :: _,[],_,_,hl,_ => by simp at hl
 | k :: K1,v :: V1,P,B,hl,h => by
  cases h with
  | cons r hk h =>
   obtain ⟨P1,P2,B1,B2,h1,h2,e1,e2⟩:=split (by simpa using hl) h
   exact ⟨_,P2,_,B2,cons r hk h1,h2,by rw [e1,List.append_assoc],by rw [e2,List.append_assoc]⟩
theorem one' {k v:Nat} (h:Kids R [k] [v] P B):R v P B∧∃ x,P.head?=some (k,x):=by
 cases h with
 | cons r hk h =>
  cases h
  rw [List.append_nil,List.append_nil]
  exact ⟨r,hk⟩
theorem mono (h:Kids R K V P B) (f:∀ v p b,(∀ z,z∈b→z∈B)→R v p b→R' v p b):Kids R' K V P B:=by
 induction h with
 | nil => exact nil
 | cons r hk _ ih => exact cons (f _ _ _ (fun z hz => List.mem_append_left _ hz) r) hk (ih fun v p b hb hr => f v p b (fun z hz => List.mem_append_right _ (hb z hz)) hr)
theorem at_ (h:Kids R K V P B) {i k v:Nat} (hk:K[i]?=some k) (hv:V[i]?=some v):∃ P1 p P2 B1 b B2,Kids R (K.take i) (V.take i) P1 B1∧R v p b∧(∃ x,p.head?=some (k,x))∧Kids R (K.drop (i+1)) (V.drop (i+1)) P2 B2∧P=P1++(p++P2)∧B=B1++(b++B2):=by
 obtain ⟨hi,he⟩:=List.getElem?_eq_some_iff.1 hk
 obtain ⟨hj,hf⟩:=List.getElem?_eq_some_iff.1 hv
 have e1:K=K.take i++(k :: K.drop (i+1)):=by rw [← he,List.getElem_cons_drop,List.take_append_drop]
 have e2:V=V.take i++(v :: V.drop (i+1)):=by rw [← hf,List.getElem_cons_drop,List.take_append_drop]
 rw [e1,e2] at h
 obtain ⟨P1,P2,B1,B2,h1,h2,rfl,rfl⟩:=split (by rw [List.length_take,List.length_take];omega) h
 cases h2 with
 | cons r hk h3 => exact ⟨_,_,_,_,_,_,h1,r,hk,h3,rfl,rfl⟩
theorem head (h:Kids R K V P B) {k:Nat} (hk:K[0]?=some k):∃ x,P.head?=some (k,x):=by
 cases h with
 | nil => simp at hk
 | cons r hx h =>
  obtain ⟨x,hx⟩:=hx
  simp only [List.getElem?_cons_zero,Option.some.injEq] at hk
  subst hk
  rename_i p P b B
  cases p with
  | nil => simp at hx
  | cons y p => exact ⟨x,by simpa using hx⟩
theorem ne (h:Kids R K V P B) (hK:K ≠ []):P ≠ []:=by
 cases h with
 | nil => exact absurd rfl hK
 | cons r hx h =>
  obtain ⟨x,hx⟩:=hx
  intro e
  rw [List.append_eq_nil_iff] at e
  rw [e.1] at hx
  simp at hx
theorem vals (h:Kids R K V P B) (f:∀ v p b,R v p b→v∈b):∀ v,v∈V→v∈B:=by
 induction h with
 | nil => simp
 | cons r hk _ ih =>
  intro v hv
  rcases List.mem_cons.1 hv with rfl | hv
  ·exact List.mem_append_left _ (f _ _ _ r)
  ·exact List.mem_append_right _ (ih v hv)
end Kids
def TN (X:Nat→Option Nd):Nat→Nd→Prs→List Nat→Prop
 | 0,m,P,B => m.lf=true∧m.K.length=m.V.length∧P=m.K.zip m.V∧B=[]
 | h+1,m,P,B => m.lf=false∧Kids (fun v p b => ∃ m' b',X v=some m'∧(4≤m'.K.length∧m'.K.length≤8)∧TN X h m' p b'∧b=v :: b') m.K m.V P B
def T4 (X:Nat→Option Nd) (h v:Nat) (p:Prs) (b:List Nat):Prop:=∃ m' b',X v=some m'∧(4≤m'.K.length∧m'.K.length≤8)∧TN X h m' p b'∧b=v :: b'
theorem TN.succ {X:Nat→Option Nd} {h:Nat} {m:Nd} {P:Prs} {B:List Nat}:TN X (h+1) m P B ↔ m.lf=false∧Kids (T4 X h) m.K m.V P B:=Iff.rfl
theorem TN.len {X:Nat→Option Nd} {h:Nat} {m:Nd} {P:Prs} {B:List Nat} (t:TN X h m P B):m.K.length=m.V.length:=by
 cases h with
 | zero => exact t.2.1
 | succ h => exact t.2.len
theorem TN.frame {X X':Nat→Option Nd}:∀ {h:Nat} {m:Nd} {P:Prs} {B:List Nat},TN X h m P B→(∀ z,z∈B→X' z=X z)→TN X' h m P B
 | 0,_,_,_,t,_ => t
 | h+1,m,P,B,t,f => ⟨t.1,t.2.mono fun v p b hb ⟨m',b',e,hs,t',e'⟩ => ⟨m',b',by rw [f v (hb v (by rw [e'];simp))];exact e,hs,TN.frame t' (fun z hz => f z (hb z (by rw [e'];exact List.mem_cons_of_mem _ hz))),e'⟩⟩
theorem T4.frame {X X':Nat→Option Nd} {h v:Nat} {p:Prs} {b:List Nat} (t:T4 X h v p b) (f:∀ z,z∈b→X' z=X z):T4 X' h v p b:=by
 obtain ⟨m',b',e,hs,t',rfl⟩:=t
 exact ⟨m',b',by rw [f v (by simp)];exact e,hs,t'.frame fun z hz => f z (List.mem_cons_of_mem _ hz),rfl⟩
theorem TN.head {X:Nat→Option Nd} {h:Nat} {m:Nd} {P:Prs} {B:List Nat} (t:TN X h m P B) {k:Nat} (hk:m.K[0]?=some k):∃ x,P.head?=some (k,x):=by
 cases h with
 | succ h => exact t.2.head hk
 | zero =>
  obtain ⟨-,hl,rfl,-⟩:=t
  obtain ⟨lf,K,V⟩:=m
  dsimp only at *
  match K,V,hl,hk with
  | k' :: K,v :: V,_,hk => cases hk;exact ⟨v,rfl⟩
theorem TN.ne {X:Nat→Option Nd} {h:Nat} {m:Nd} {P:Prs} {B:List Nat} (t:TN X h m P B) (hk:0 < m.K.length):P ≠ []:=by
 obtain ⟨k,hk⟩:∃ k,m.K[0]?=some k:=⟨_,List.getElem?_eq_getElem hk⟩
 obtain ⟨x,hx⟩:=t.head hk
 intro e
 rw [e] at hx
 simp at hx
def Srt (P:Prs):Prop:=P.Pairwise fun a b => a.1 < b.1
theorem Srt.parts {P Q:Prs} (h:Srt (P++Q)):Srt P∧Srt Q∧∀ a,a∈P→∀ b,b∈Q→a.1 < b.1:=List.pairwise_append.1 h
theorem Srt.join {P Q:Prs} (h1:Srt P) (h2:Srt Q) (h:∀ a,a∈P→∀ b,b∈Q→a.1 < b.1):Srt (P++Q):=List.pairwise_append.2 ⟨h1,h2,h⟩
theorem Srt.head {P:Prs} {k x:Nat} (h:Srt P) (hx:P.head?=some (k,x)):∀ a,a∈P→k≤a.1:=by
 cases P with
 | nil => simp at hx
 | cons y P =>
  simp only [List.head?_cons,Option.some.injEq] at hx
  subst hx
  intro a ha
  rcases List.mem_cons.1 ha with rfl | ha
  ·exact Nat.le_refl _
  ·exact Nat.le_of_lt ((List.pairwise_cons.1 h).1 a ha)
theorem Kids.rising {R:Nat→Prs→List Nat→Prop} {K V:List Nat} {P:Prs} {B:List Nat} (h:Kids R K V P B) (hs:Srt P):K.Pairwise (· < ·)∧∀ k,k∈K→∃ x,(k,x)∈P:=by
 induction h with
 | nil => exact ⟨List.Pairwise.nil,by simp⟩
 | cons r hx h ih =>
  obtain ⟨s1,s2,s3⟩:=hs.parts
  obtain ⟨h1,h2⟩:=ih s2
  obtain ⟨x,hx⟩:=hx
  have hm:=List.mem_of_head? hx
  refine ⟨List.pairwise_cons.2 ⟨fun k hk => ?_,h1⟩,fun k hk => ?_⟩
  ·obtain ⟨y,hy⟩:=h2 k hk
   exact s3 _ hm _ hy
  ·rcases List.mem_cons.1 hk with rfl | hk
   ·exact ⟨x,List.mem_append_left _ hm⟩
   ·obtain ⟨y,hy⟩:=h2 k hk
    exact ⟨y,List.mem_append_right _ hy⟩
theorem tw_all (p:Nat→Bool):∀ (K:List Nat) (x:Nat),x∈K.takeWhile p→p x=true
 | [],x,h => by simp at h
 | a :: K,x,h => by
  rw [List.takeWhile_cons] at h
  split at h
  ·rename_i ha
   rcases List.mem_cons.1 h with rfl | h
   ·exact ha
   ·exact tw_all p K x h
  ·simp at h
theorem dw_drop (p:Nat→Bool):∀ (K:List Nat),K.dropWhile p=K.drop (K.takeWhile p).length
 | [] => rfl
 | a :: K => by
  rw [List.takeWhile_cons,List.dropWhile_cons]
  split
  ·rw [List.length_cons,List.drop_succ_cons];exact dw_drop p K
  ·rfl
theorem child_is {K V:List Nat} (hl:K.length=V.length) (h0:K ≠ []) (hr:K.Pairwise (· < ·)) (key:Nat):childN key K V < K.length∧(∀ k,K[childN key K V+1]?=some k→key < k)∧(childN key K V=0 ∨ ∃ k,K[childN key K V]?=some k∧k≤key)∧(∀ k,K[0]?=some k→k≤key→∃ k',K[childN key K V]?=some k'∧k'≤key):=by
 have e:childN key K V=(K.takeWhile (fun k => decide (k≤key))).length - 1:=by
  unfold childN runN np
  rw [show min K.length V.length=K.length by omega,List.take_length]
 rw [e]
 have hle:(K.takeWhile (fun k => decide (k≤key))).length≤K.length:=by
  have:=List.takeWhile_prefix (fun k => decide (k≤key)) (l:=K)
  exact this.length_le
 have hget:∀ i,i < (K.takeWhile (fun k => decide (k≤key))).length→∃ k,K[i]?=some k∧k≤key:=fun i hi => by
  have hp:=List.takeWhile_prefix (fun k => decide (k≤key)) (l:=K)
  obtain ⟨t,ht⟩:=hp
  refine ⟨(K.takeWhile (fun k => decide (k≤key)))[i],?_,?_⟩
  ·have:K[i]?=(K.takeWhile (fun k => decide (k≤key))++t)[i]?:=by rw [ht]
   rw [this,List.getElem?_append_left hi,List.getElem?_eq_getElem hi]
  ·have:=tw_all _ K _ (List.getElem_mem hi)
   simpa using this
 have hpos:0 < K.length:=List.length_pos_iff.2 h0
 refine ⟨by omega,fun k hk => ?_,?_,fun k hk hle0 => ?_⟩
 ·by_cases hz:(K.takeWhile (fun k => decide (k≤key))).length=0
  ·
   rw [hz] at hk
   have h0':∀ k0,K[0]?=some k0→key < k0:=fun k0 h9 => by
    cases K with
    | nil => simp at h9
    | cons a K =>
     simp only [List.getElem?_cons_zero,Option.some.injEq] at h9
     subst h9
     by_cases hc:a≤key
     ·simp [List.takeWhile_cons,hc] at hz
     ·omega
   obtain ⟨k0,hk0⟩:∃ k0,K[0]?=some k0:=⟨_,List.getElem?_eq_getElem hpos⟩
   have h1:=h0' k0 hk0
   have h2:k0 < k:=by
    obtain ⟨i0,e0⟩:=List.getElem?_eq_some_iff.1 hk0
    obtain ⟨i1,e1⟩:=List.getElem?_eq_some_iff.1 hk
    have:=List.pairwise_iff_getElem.1 hr 0 1 i0 i1 (by decide)
    simp only [Nat.zero_sub,Nat.zero_add] at *
    omega
   omega
  ·rw [show (K.takeWhile (fun k => decide (k≤key))).length - 1+1=(K.takeWhile (fun k => decide (k≤key))).length by omega] at hk
   have hd:=dw_drop (fun k => decide (k≤key)) K
   have h1:(K.dropWhile (fun k => decide (k≤key))).head?=some k:=by
    rw [hd,List.head?_drop]
    exact hk
   have:=List.head?_dropWhile_not (fun k => decide (k≤key)) K
   rw [h1] at this
   simpa using this
 ·by_cases hz:(K.takeWhile (fun k => decide (k≤key))).length=0
  ·exact Or.inl (by omega)
  ·exact Or.inr (hget _ (by omega))
 ·have hz:0 < (K.takeWhile (fun k => decide (k≤key))).length:=by
   cases K with
   | nil => simp at hk
   | cons a K =>
    simp only [List.getElem?_cons_zero,Option.some.injEq] at hk
    subst hk
    simp [List.takeWhile_cons,hle0]
  exact hget _ (by omega)
end
section
theorem locate {X:Nat→Option Nd} {h:Nat} {K V:List Nat} {P:Prs} {B:List Nat} (t:Kids (T4 X h) K V P B) (hs:Srt P) (h0:K ≠ []) (key:Nat) :
  ∃ k v P1 p P2 B1 b B2,K[childN key K V]?=some k∧V[childN key K V]?=some v∧Kids (T4 X h) (K.take (childN key K V)) (V.take (childN key K V)) P1 B1∧T4 X h v p b∧(∃ x,p.head?=some (k,x))∧Kids (T4 X h) (K.drop (childN key K V+1)) (V.drop (childN key K V+1)) P2 B2 ∧
   P=P1++(p++P2)∧B=B1++(b++B2)∧(∀ a,a∈P1→a.1 < key)∧(∀ a,a∈P2→key < a.1)∧(childN key K V ≠ 0→k≤key):=by
 obtain ⟨c1,c2,c3,-⟩:=child_is t.len h0 (t.rising hs).1 key
 generalize childN key K V=i at *
 obtain ⟨k,hk⟩:∃ k,K[i]?=some k:=⟨_,List.getElem?_eq_getElem c1⟩
 obtain ⟨v,hv⟩:∃ v,V[i]?=some v:=⟨_,List.getElem?_eq_getElem (by rw [← t.len];exact c1)⟩
 obtain ⟨P1,p,P2,B1,b,B2,h1,r,hx,h2,rfl,rfl⟩:=t.at_ hk hv
 obtain ⟨x,hx'⟩:=hx
 have hm:=List.mem_of_head? hx'
 obtain ⟨s1,s2,s3⟩:=hs.parts
 obtain ⟨s4,s5,s6⟩:=s2.parts
 have hkk:i ≠ 0→k≤key:=fun hi => by
  rcases c3 with h9 | ⟨k',h9,h8⟩
  ·exact absurd h9 hi
  ·rw [hk] at h9;cases h9;exact h8
 refine ⟨k,v,P1,p,P2,B1,b,B2,hk,hv,h1,r,⟨x,hx'⟩,h2,rfl,rfl,fun a ha => ?_,fun a ha => ?_,hkk⟩
 ·by_cases hi:i=0
  ·subst hi
   rw [List.take_zero,List.take_zero] at h1
   cases h1
   simp at ha
  ·have:=s3 a ha _ (List.mem_append_left _ hm)
   have:=hkk hi
   dsimp only at *
   omega
 ·cases hd:K.drop (i+1) with
  | nil =>
   rw [hd] at h2
   have hl:=h2.len
   rw [List.length_nil] at hl
   rw [List.length_eq_zero_iff.1 hl.symm] at h2
   cases h2
   simp at ha
  | cons k2 K2 =>
   have hk2:(K.drop (i+1))[0]?=some k2:=by rw [hd];rfl
   obtain ⟨y,hy⟩:=h2.head hk2
   have h9:K[i+1]?=some k2:=by rw [List.getElem?_drop] at hk2;simpa using hk2
   have h8:=c2 k2 h9
   have h7:=s5.head hy a ha
   omega
def getP (P:Prs) (key:Nat):Nat × Bool:=match P.find? (fun a => a.1 == key) with
 | some a => (a.2,true)
 | none => (0,false)
theorem getP_mid {P1 p P2:Prs} {key:Nat} (h1:∀ a,a∈P1→a.1 < key) (h2:∀ a,a∈P2→key < a.1):getP (P1++(p++P2)) key=getP p key:=by
 unfold getP
 have e1:P1.find? (fun a => a.1 == key)=none:=List.find?_eq_none.2 fun a ha => by have:=h1 a ha;simp;omega
 have e2:P2.find? (fun a => a.1 == key)=none:=List.find?_eq_none.2 fun a ha => by have:=h2 a ha;simp;omega
 rw [List.find?_append,e1,Option.none_or,List.find?_append,e2,Option.or_none]
def insP (key val:Nat) (P:Prs):Prs:=P.filter (fun a => decide (a.1 < key))++(key,val) :: P.filter (fun a => decide (key < a.1))
def remP (key:Nat) (P:Prs):Prs:=P.filter (fun a => a.1 != key)
theorem insP_mid {P1 p P2:Prs} {key:Nat} (val:Nat) (h1:∀ a,a∈P1→a.1 < key) (h2:∀ a,a∈P2→key < a.1):insP key val (P1++(p++P2))=P1++(insP key val p++P2):=by
 have a1:P1.filter (fun a => decide (a.1 < key))=P1:=List.filter_eq_self.2 fun a ha => by simpa using h1 a ha
 have a2:P1.filter (fun a => decide (key < a.1))=[]:=List.filter_eq_nil_iff.2 fun a ha => by have:=h1 a ha;simp;omega
 have a3:P2.filter (fun a => decide (a.1 < key))=[]:=List.filter_eq_nil_iff.2 fun a ha => by have:=h2 a ha;simp;omega
 have a4:P2.filter (fun a => decide (key < a.1))=P2:=List.filter_eq_self.2 fun a ha => by simpa using h2 a ha
 unfold insP
 simp only [List.filter_append,a1,a2,a3,a4,List.append_nil,List.nil_append,List.append_assoc,List.cons_append]
theorem remP_mid {P1 p P2:Prs} {key:Nat} (h1:∀ a,a∈P1→a.1 < key) (h2:∀ a,a∈P2→key < a.1):remP key (P1++(p++P2))=P1++(remP key p++P2):=by
 have a1:P1.filter (fun a => a.1 != key)=P1:=List.filter_eq_self.2 fun a ha => by have:=h1 a ha;simp;omega
 have a4:P2.filter (fun a => a.1 != key)=P2:=List.filter_eq_self.2 fun a ha => by have:=h2 a ha;simp;omega
 unfold remP
 simp only [List.filter_append,a1,a4]
theorem insP_srt {P:Prs} (h:Srt P) (key val:Nat):Srt (insP key val P):=by
 unfold insP
 refine Srt.join (h.filter _) (List.pairwise_cons.2 ⟨fun a ha => ?_,h.filter _⟩) fun a ha b hb => ?_
 ·simpa using (List.mem_filter.1 ha).2
 ·have h1:a.1 < key:=by simpa using (List.mem_filter.1 ha).2
  rcases List.mem_cons.1 hb with rfl | hb
  ·exact h1
  ·have h2:key < b.1:=by simpa using (List.mem_filter.1 hb).2
   omega
theorem remP_srt {P:Prs} (h:Srt P) (key:Nat):Srt (remP key P):=h.filter _
theorem zip_rising:∀ {K V:List Nat},Srt (K.zip V)→K.length=V.length→K.Pairwise (· < ·)
 | [],_,_,_ => List.Pairwise.nil
 | k :: K,[],_,hl => by simp at hl
 | k :: K,v :: V,h,hl => by
  rw [List.zip_cons_cons] at h
  obtain ⟨h1,h2⟩:=List.pairwise_cons.1 h
  refine List.pairwise_cons.2 ⟨fun x hx => ?_,zip_rising h2 (by simpa using hl)⟩
  obtain ⟨i,hi,rfl⟩:=List.getElem_of_mem hx
  have hl':K.length=V.length:=by simpa using hl
  have:(K[i],V[i]'(by omega))∈K.zip V:=by
   rw [← List.getElem_zip (h:=by simp;omega)]
   exact List.getElem_mem _
  exact h1 _ this
theorem leaf_parts {K V:List Nat} (hl:K.length=V.length) (hs:Srt (K.zip V)) (key:Nat) :
  findN key K V≤K.length∧(K.zip V).filter (fun a => decide (a.1 < key))=(K.take (findN key K V)).zip (V.take (findN key K V)) ∧
   (isN key K V=true→findN key K V < K.length∧getP (K.zip V) key=(V.getD (findN key K V) 0,true)∧(K.zip V).filter (fun a => decide (key < a.1))=(K.drop (findN key K V+1)).zip (V.drop (findN key K V+1))) ∧
   (isN key K V=false→getP (K.zip V) key=(0,false)∧(K.zip V).filter (fun a => decide (key < a.1))=(K.drop (findN key K V)).zip (V.drop (findN key K V))):=by
 have e:findN key K V=(K.takeWhile (fun k => decide (k < key))).length:=by
  unfold findN runN np
  rw [show min K.length V.length=K.length by omega,List.take_length]
 have e2:isN key K V=decide (K[findN key K V]?=some key):=by
  unfold isN np
  rw [show min K.length V.length=K.length by omega,List.take_length]
 rw [e2,e]
 clear e e2
 induction K generalizing V with
 | nil =>
  cases V with
  | nil => simp [getP]
  | cons v V => simp at hl
 | cons k K ih =>
  cases V with
  | nil => simp at hl
  | cons v V =>
   rw [List.zip_cons_cons] at hs ⊢
   obtain ⟨h1,h2⟩:=List.pairwise_cons.1 hs
   obtain ⟨i1,i2,i3,i4⟩:=ih (by simpa using hl) h2
   by_cases hk:k < key
   ·have hk1:¬ key < k:=by omega
    have hk2:¬ k=key:=by omega
    have hg:getP ((k,v) :: K.zip V) key=getP (K.zip V) key:=by
     unfold getP
     rw [List.find?_cons_of_neg (by simpa using hk2)]
    rw [hg]
    simp only [List.takeWhile_cons,hk,decide_true,if_true,List.length_cons,List.filter_cons,hk1,decide_false,zqb,List.zip_cons_cons,List.getElem?_cons_succ,List.getD_cons_succ,zqd]
    refine ⟨by omega,by rw [i2],fun hi => ?_,fun hi => ?_⟩
    ·obtain ⟨j1,j2,j3⟩:=i3 hi
     exact ⟨by omega,j2,by simpa using j3⟩
    ·obtain ⟨j2,j3⟩:=i4 hi
     exact ⟨j2,by simpa using j3⟩
   ·have ha:∀ a,a∈K.zip V→¬ a.1 < key:=fun a ha => by have:=h1 a ha;dsimp only at this;omega
    have hf:(K.zip V).filter (fun a => decide (a.1 < key))=[]:=List.filter_eq_nil_iff.2 fun a h9 => by simpa using ha a h9
    simp only [List.takeWhile_cons,hk,decide_false,Bool.false_eq_true,if_false,List.length_nil,List.filter_cons,hf,zqc,List.zip_nil_left,List.getElem?_cons_zero,Option.some.injEq,List.getD_cons_zero,zqe,zqd,Nat.zero_add,List.length_cons,decide_eq_true_eq,decide_eq_false_iff_not]
    refine ⟨by omega,trivial,fun hi => ?_,fun hi => ?_⟩
    ·subst hi
     refine ⟨by omega,by unfold getP;simp,?_⟩
     rw [if_neg (by simp)]
     exact List.filter_eq_self.2 fun a h9 => by simpa using h1 a h9
    ·have hlt:key < k:=by omega
     refine ⟨?_,?_⟩
     ·unfold getP
      rw [List.find?_eq_none.2 (fun a h9 => by
       rcases List.mem_cons.1 h9 with rfl | h9
       ·simpa using hi
       ·have:=h1 a h9;dsimp only at this;simp;omega)]
     ·rw [if_pos (by simpa using hlt),List.zip_cons_cons]
      congr 1
      exact List.filter_eq_self.2 fun a h9 => by have:=h1 a h9;dsimp only at this;simp;omega
theorem look_tn {X:Nat→Option Nd} {key:Nat}:∀ {h f a:Nat} {m:Nd} {P:Prs} {B:List Nat},X a=some m→TN X h m P B→Srt P→0 < m.K.length→h≤f→lookL X key (f+1) a=some (getP P key)
 | 0,f,a,m,P,B,hX,t,hs,hK,hf => by
  obtain ⟨h1,h2,rfl,-⟩:=t
  unfold lookL
  rw [hX]
  dsimp only
  rw [if_pos h1]
  obtain ⟨-,-,q3,q4⟩:=leaf_parts h2 hs key
  unfold Nd.at_ Nd.is Nd.find
  cases hi:isN key m.K m.V with
  | true => rw [if_pos rfl,(q3 hi).2.1]
  | false => rw [if_neg (by simp),(q4 hi).1]
 | h+1,f,a,m,P,B,hX,t,hs,hK,hf => by
  obtain ⟨f,rfl⟩:∃ g,f=g+1:=⟨f - 1,by omega⟩
  obtain ⟨h1,h2⟩:=t
  obtain ⟨k,v,P1,p,P2,B1,b,B2,e1,e2,-,⟨m',b',r1,r2,r3,r4⟩,-,-,rfl,rfl,l1,l2,-⟩:=locate h2 hs (fun e => by rw [e] at hK;simp at hK) key
  unfold lookL
  rw [hX]
  dsimp only
  rw [if_neg (by rw [h1];simp),show m.child key=childN key m.K m.V from rfl,e2]
  dsimp only
  rw [look_tn r1 r3 hs.parts.2.1.parts.1 (by omega) (by omega),getP_mid l1 l2]
end
section
theorem insA_erase {L:List Nat} {f:Nat} (hf:f < L.length) (x:Nat):insA (L.eraseIdx f) f x=L.take f++x :: L.drop (f+1):=by
 unfold insA
 rw [List.eraseIdx_eq_take_drop_succ,List.take_left' (by simp;omega),List.drop_left' (by simp;omega)]
theorem zip_mid {A C B D:List Nat} (h:A.length=C.length) (x y:Nat):(A++x :: B).zip (C++y :: D)=A.zip C++(x,y) :: B.zip D:=by rw [List.zip_append h];rfl
theorem remP_parts {P:Prs} (h:Srt P) (key:Nat):remP key P=P.filter (fun a => decide (a.1 < key))++P.filter (fun a => decide (key < a.1)):=by
 unfold remP
 induction P with
 | nil => rfl
 | cons a P ih =>
  obtain ⟨h1,h2⟩:=List.pairwise_cons.1 h
  have ih:=ih h2
  rw [List.filter_cons,List.filter_cons,List.filter_cons]
  by_cases hlt:a.1 < key
  ·rw [if_pos (by simp;omega),if_pos (by simpa using hlt),if_neg (by simp;omega),ih];rfl
  ·have e:P.filter (fun a => decide (a.1 < key))=[]:=List.filter_eq_nil_iff.2 fun b hb => by have:=h1 b hb;simp;omega
   rw [e] at ih ⊢
   by_cases heq:a.1=key
   ·rw [if_neg (by simpa using heq),if_neg (by simp;omega),if_neg (by simp;omega),ih]
   ·rw [if_pos (by simpa using heq),if_neg (by simp;omega),if_pos (by simp;omega),ih];rfl
theorem remP_none {P:Prs} {key:Nat} (h:getP P key=(0,false)):remP key P=P:=by
 unfold getP at h
 cases hf:P.find? (fun a => a.1 == key) with
 | some a => rw [hf] at h;simp at h
 | none =>
  exact List.filter_eq_self.2 fun a ha => by
   have:=List.find?_eq_none.1 hf a ha
   simpa using this
theorem leaf_ins {m:Nd} (hl:m.K.length=m.V.length) (hs:Srt (m.K.zip m.V)) (key val:Nat) :
  let q:=(if m.is key=true then m.rem (m.find key) else m).ins (m.find key) key val
  q.lf=m.lf∧q.K.length=q.V.length∧q.K.zip q.V=insP key val (m.K.zip m.V)∧q.K.length≤m.K.length+1∧m.K.length≤q.K.length∧1≤q.K.length:=by
 obtain ⟨f1,f2,f3,f4⟩:=leaf_parts hl hs key
 unfold Nd.is Nd.find
 generalize findN key m.K m.V=f at *
 cases hi:isN key m.K m.V with
 | true =>
  obtain ⟨g1,g2,g3⟩:=f3 hi
  rw [if_pos rfl]
  have e1:=insA_erase g1 key
  have e2:=insA_erase (L:=m.V) (by omega:f < m.V.length) val
  unfold Nd.rem Nd.ins
  dsimp only
  rw [e1,e2]
  refine ⟨rfl,by simp;omega,?_,by simp;omega,by simp;omega,by simp;omega⟩
  rw [zip_mid (by simp;omega)]
  unfold insP
  rw [f2,g3]
 | false =>
  obtain ⟨g2,g3⟩:=f4 hi
  rw [if_neg (by simp)]
  unfold Nd.ins insA
  dsimp only
  refine ⟨rfl,by simp;omega,?_,by simp;omega,by simp;omega,by simp;omega⟩
  rw [zip_mid (by simp;omega)]
  unfold insP
  rw [f2,g3]
theorem leaf_rem {m:Nd} (hl:m.K.length=m.V.length) (hs:Srt (m.K.zip m.V)) (key:Nat) :
  let q:=(if m.is key=true then m.rem (m.find key) else m)
  q.lf=m.lf∧q.K.length=q.V.length∧q.K.zip q.V=remP key (m.K.zip m.V)∧q.K.length≤m.K.length∧m.K.length≤q.K.length+1:=by
 obtain ⟨f1,f2,f3,f4⟩:=leaf_parts hl hs key
 unfold Nd.is Nd.find
 generalize findN key m.K m.V=f at *
 cases hi:isN key m.K m.V with
 | true =>
  obtain ⟨g1,g2,g3⟩:=f3 hi
  rw [if_pos rfl,remP_parts hs,f2,g3]
  unfold Nd.rem
  dsimp only
  rw [List.eraseIdx_eq_take_drop_succ,List.eraseIdx_eq_take_drop_succ]
  refine ⟨rfl,by simp;omega,?_,by simp;omega,by simp;omega⟩
  rw [List.zip_append (by simp;omega)]
 | false =>
  rw [if_neg (by simp),remP_none (f4 hi).1]
  exact ⟨rfl,hl,rfl,Nat.le_refl _,by omega⟩
theorem leaf_told {m:Nd} (hl:m.K.length=m.V.length) (hs:Srt (m.K.zip m.V)) (key:Nat):((if m.is key=true then m.V.getD (m.find key) 0 else 0),m.is key)=getP (m.K.zip m.V) key:=by
 obtain ⟨f1,f2,f3,f4⟩:=leaf_parts hl hs key
 unfold Nd.is Nd.find
 cases hi:isN key m.K m.V with
 | true => rw [if_pos rfl,(f3 hi).2.1]
 | false => rw [if_neg (by simp),(f4 hi).1]
theorem head_ins {P:Prs} {k x:Nat} (h:Srt P) (hx:P.head?=some (k,x)) (key val:Nat):∃ y,(insP key val P).head?=some (min key k,y):=by
 cases P with
 | nil => simp at hx
 | cons a P =>
  simp only [List.head?_cons,Option.some.injEq] at hx
  subst hx
  obtain ⟨h1,h2⟩:=List.pairwise_cons.1 h
  unfold insP
  rw [List.filter_cons]
  by_cases hlt:k < key
  ·rw [if_pos (by simpa using hlt),Nat.min_eq_right (by omega)]
   exact ⟨x,rfl⟩
  ·have e:P.filter (fun a => decide (a.1 < key))=[]:=List.filter_eq_nil_iff.2 fun b hb => by have:=h1 b hb;dsimp only at this;simp;omega
   rw [if_neg (by simpa using hlt),e,Nat.min_eq_left (by omega)]
   exact ⟨val,rfl⟩
end
end Go.Proofs.YtdgkbicelnnfpaaGreatDoor
