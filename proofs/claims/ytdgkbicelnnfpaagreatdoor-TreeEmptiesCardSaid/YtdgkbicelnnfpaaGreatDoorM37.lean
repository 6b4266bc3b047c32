/- Texts Ts, Tt, Tu, Tv of the library, joined. -/
import Derived.Test.YtdgkbicelnnfpaaGreatDoorM33
import Derived.Recover
set_option linter.unusedVariables false
set_option linter.unusedSimpArgs false
namespace Go.Proofs.YtdgkbicelnnfpaaGreatDoor
section
set_option maxRecDepth 200000
open Go.RowKit
attribute [local go_sem ↓] Go.wp_at_zero Go.wp_at_succ
section
variable {w0 w:World} {tag:Nat→Nat} {sb rb n:Nat} {N C:List UInt8} {X:Nat→Option Nd} {u:Nat}
theorem x_copy (h:HasX w0 w tag sb rb n N C X u):Calls Tryz.prog 105 #[.pointer (some ⟨rb,0,none⟩)] w fun e w' => ∃ xb,e=.returned (.pointer (some ⟨xb,0,none⟩))∧Chg [] w w':=by
 obtain ⟨Y,h1,h2⟩:=h
 obtain ⟨nb,cb,sp,Fs,r1,-⟩:=h1.r
 refine (rcopy_any w0.heap.size rb nb cb sp Fs n N C w r1).mono ?_
 rintro e w' ⟨rb',nb',cb',sb',Fs',he,hr,hg⟩
 exact ⟨rb',he,hg⟩
theorem catch_idle (a b c:Option Addr) (w:World):CallsD Tryz.prog 106 #[.pointer a,.pointer b,.pointer c] .returning w fun e u' w' => e=.returned (.tuple #[])∧u'=.returning∧w'=w:=by
 refine callsD_of_wpS Tryz.func106 rfl fun c₀ cs hu => ?_
 apply wpS_seq
 apply wpS_region
 simp [wpOpsS,go_sem,recoverD,hu,Tryz.ntmps106,Exit.thenS]
 apply wpS_seq
 apply wpS_region
 simp [wpOpsS,go_sem,Exit.thenS]
 refine wpS_cond (t:=false) (by simp [Act.eval]) ?_
 simp only [Bool.false_eq_true,if_false]
 refine wpS_of_wp (wp_skip ?_)
 cases c₀
 simp_all [bodyPostS,results,Tryz.results106]
set_option maxHeartbeats 1000000 in
theorem whole_ok (h:HasX w0 w tag sb rb n N C X u) (hu:u≤80000000) (g:Nat) (caps:Array Value) (hg:∀ (args:Array Value) (w:World),(callFunc g args).run Tryz.prog w=.ok (.enter g args) w) (N':List UInt8) (X':Nat→Option Nd) (rt od:Nat) (th:Bool) (u':Nat)
  (hdo:∀ (w1:World) (tg:Nat→Nat),HasX w0 w1 tg sb rb n N C X u→Mv tag tg w w1→Calls Tryz.prog g caps w1 (InsPost w0 w1 tg sb rb n C u' (.ok (N',X',rt,od,th)))) :
  Calls Tryz.prog 57 #[.pointer (some ⟨sb,0,none⟩),.func (.func g) #[] caps] w fun e w' => ∃ (a1:Option Addr) (l1 c1:Nat) (a2:Option Addr) (l2 c2:Nat),e=.returned (.tuple #[wayV sb a1 l1 c1 a2 l2 c2 rt od th,.int .i64 0])∧∃ (tag':Nat→Nat),HasX w0 w' tag' sb rb n N' C X' u'∧Mv tag tag' w w':=by
 have hmf:∀ (fn:Fn) (first cap:Array Value) (w:World),(Instr.makeFunc fn first cap).run Tryz.prog w=.ok (.func fn first cap) w:=fun _ _ _ _ => rfl
 have HD:=mkHid hdo
 have HG:=mkHid hg
 have HH:=mkHid h
 clear hdo hg h
 go_enter_defers Tryz.func57,Tryz.ntmps57
 go_wp2_with fail
 obtain ⟨wa,hwa⟩:∃ wa,wa=w.alloc (.cells #[.pointer (some ⟨sb,0,none⟩)] 43):=⟨_,rfl⟩
 obtain ⟨wb,hwb⟩:∃ wb,wb=wa.alloc (.cells wayZ 124):=⟨_,rfl⟩
 obtain ⟨wc,hwc⟩:∃ wc,wc=wb.alloc (.cells #[.int .i64 0] 55):=⟨_,rfl⟩
 have ga:Chg [] w wa:=by rw [hwa];exact Chg.alloc [] w _
 have gb:Chg [] wa wb:=by rw [hwb];exact Chg.alloc [] wa _
 have gc:Chg [] wb wc:=by rw [hwc];exact Chg.alloc [] wb _
 have sa:wa.heap.size=w.heap.size+1:=by rw [hwa];simp
 have sB:wb.heap.size=w.heap.size+2:=by rw [hwb];simp [sa]
 have sc:wc.heap.size=w.heap.size+3:=by rw [hwc];simp [sB]
 have la:=cell_of_row wa w.heap.size 0 #[.pointer (some ⟨sb,0,none⟩)] _ _ (by rw [hwa];exact heap_alloc_last w _)
 have lb:=new6 wa 124
 rw [← hwb,sa] at lb
 have lc:=cell_of_row wc wb.heap.size 0 #[.int .i64 0] _ _ (by rw [hwc];exact heap_alloc_last wb _)
 have lcf:=frozen_of_row wc wb.heap.size 0 #[.int .i64 0] _ (by rw [hwc];exact heap_alloc_last wb _)
 rw [sB] at lc lcf
 have G:=(ga.then gb).then gc
 have la':wc.cell? ⟨w.heap.size,0,none⟩=some (.pointer (some ⟨sb,0,none⟩)):=gc.cellv (gb.cellv la (by simp)) (by simp)
 have lb':=there_chg lb gc (by simp)
 have lc':wc.cell? ⟨w.heap.size+2,0,none⟩=some (.int .i64 0):=lc
 have h:=HH.out
 have h1:=h.keep G
 have M1:=Mv.made G h.hi
 have t0:=h.hi w.heap.size (Nat.le_refl _)
 have t1:=h.hi (w.heap.size+1) (by omega)
 have t2:=h.hi (w.heap.size+2) (by omega)
 have hsp:((w.alloc (.cells #[.pointer (some ⟨sb,0,none⟩)] 43)).alloc (.cells #[.pointer none,.slice none 0 0,.slice none 0 0,.int .u64 0,.int .u64 0,.bool false] 124)).alloc (.cells #[.int .i64 0] 55)=wc:=by rw [hwc,hwb,hwa];rfl
 rw [hsp]
 have HSZ:=mkHid sc
 clear hsp hwc la lb lc gc
 clear hwb gb
 clear hwa ga sa sB sc
 refine (made_x h1).mono ?_
 rintro e w' ⟨rfl,rfl⟩
 have cC:=x_copy h1
 have s1:=h1.s0
 clear h
 go_wp2_with fail
 refine cC.mono ?_
 rintro e w4 ⟨xb,rfl,g4⟩
 have h4:=h1.keep g4
 have M4:=M1.then g4
 have la4:=g4.cellv la' (by simp)
 have lb4:=there_chg lb' g4 (by simp)
 have lc4:=g4.cellv lc' (by simp)
 have lcf4:=(g4.frozen (p:=⟨w.heap.size+2,0,none⟩) (block_lt_of_cell lc') (by simp)).trans lcf
 have gd:=Chg.alloc [] w4 (.cells #[.pointer (some ⟨xb,0,none⟩)] 42)
 have h5:=h4.keep gd
 have M5:=M4.then gd
 have la5:=gd.cellv la4 (by simp)
 have lb5:=there_chg lb4 gd (by simp)
 have lc5:=gd.cellv lc4 (by simp)
 have lcf5:=(gd.frozen (p:=⟨w.heap.size+2,0,none⟩) (block_lt_of_cell lc4) (by simp)).trans lcf4
 have hsz5:=gd.size
 have hsz4:=g4.size
 have eg:=HG.out
 clear cC h1 M1 la' lb' lc' lcf h4 M4 la4 lb4 lc4 lcf4 s1 g4 gd
 go_wp2_with fail
 generalize (w4.alloc (.cells #[.pointer (some ⟨xb,0,none⟩)] 42))=w5 at *
 refine (HD.out w5 tag h5 M5).mono ?_
 rintro e w6 ⟨a1,l1,c1,a2,l2,c2,rfl,tag6,h6,m6⟩
 have M6:=M5.trans m6
 have lb6:=m6.there lb5 t1
 have lc6:=m6.cellv lc5 (kt4 t2)
 obtain ⟨T6,hT6,hT6'⟩:=m6.c
 have lcf6:=(hT6.frozen (p:=⟨w.heap.size+2,0,none⟩) (block_lt_of_cell lc5) (fun hm => by have h9:=hT6' _ hm;dsimp only at h9;omega)).trans lcf5
 obtain ⟨⟨v0,v1,v2,v3,v4,v5,r0,r1,r2,r3,r4,r5⟩,y0,y1,y2,y3,y4,y5⟩:=cells6 lb6
 have tt1:=m6.four t1 (there_lt lb5 (by decide))
 have tt2:=m6.four t2 (block_lt_of_cell lc5)
 have H6:=mkHid (And.intro h6 (And.intro M6 (And.intro tt1 (And.intro tt2 (And.intro hsz4 hsz5)))))
 clear h6 M6 m6 lb5 lc5 lcf5 la5 h5 M5 hT6 hT6' hsz4 hsz5
 unfold wayV
 go_wp2_with fail
 refine leaves_cons (f:=106) (args:=#[.pointer (some ⟨w.heap.size+1+1,0,none⟩),.pointer (some ⟨w.heap.size,0,none⟩),.pointer (some ⟨w4.heap.size,0,none⟩)]) (by simp) (by simp [go_sem]) ?_
 refine (catch_idle _ _ _ _).mono ?_
 rintro e u9 w'' ⟨rfl,rfl,rfl⟩
 obtain ⟨h6,M6,tt1,tt2,hsz4,hsz5⟩:=H6.out
 have hsz:=HSZ.out
 have G1:=six_chg w6 (w.heap.size+1) (.pointer (some ⟨sb,0,none⟩)) (.slice a1 l1 c1) (.slice a2 l2 c2) (.int .u64 (rt:Int)) (.int .u64 (od:Int)) (.bool th)
 have G2:=Chg.setCell ((((((w6.setCell ⟨w.heap.size+1,0,none⟩ (.pointer (some ⟨sb,0,none⟩))).setCell ⟨w.heap.size+1,1,none⟩ (.slice a1 l1 c1)).setCell ⟨w.heap.size+1,2,none⟩ (.slice a2 l2 c2)).setCell ⟨w.heap.size+1,3,none⟩ (.int .u64 (rt:Int))).setCell ⟨w.heap.size+1,4,none⟩ (.int .u64 (od:Int))).setCell ⟨w.heap.size+1,5,none⟩ (.bool th)) ⟨w.heap.size+2,0,none⟩ (.int .i64 0)
 have hh:=(h6.wrote G1 (fun k hk => by simp at hk;subst hk;exact tt1)).wrote G2 (fun k hk => by simp at hk;subst hk;exact tt2)
 have mm:=(M6.wrote G1 (fun k hk => by simp at hk;omega)).wrote G2 (fun k hk => by simp at hk;omega)
 have lc7:w6.cell? ⟨w.heap.size+1+1,0,none⟩=some (.int .i64 0):=lc6
 refine ⟨_,?_,a1,l1,c1,a2,l2,c2,rfl,tag6,hh,mm⟩
 simp [results,Tryz.results57,go_sem,r0,r1,r2,r3,r4,r5,wayV,lc7]
end
end
section
set_option maxRecDepth 200000
open Go.RowKit
attribute [local go_sem ↓] Go.wp_at_zero Go.wp_at_succ
def insertA (N C:List UInt8) (X:Nat→Option Nd) (root key val:Nat):Out (List UInt8 × (Nat→Option Nd) × Nat × Nat × Bool):=
 if val=0 then .stuck else
 if root=0 then
  match makeA N C X ⟨true,[key],[val]⟩ with
  | .stuck => .stuck
  | .full => .full
  | .ok (N',X',t) => .ok (N',X',t,0,false)
 else insertedA N C X root key val
theorem lit_roomI (w:World) (B:Nat) (hB:B≤w.heap.size) (cs:Array Value) (e:TypeId) (xs:List Value) (n:Nat) (hc:cs.toList=xs) (hn:xs.length=n) (hx:n≤maxLen):Room (w.alloc (.cells cs e)) B (some ⟨w.heap.size,0,none⟩) n n xs:=lit_room w B hB cs e xs n hc hn hx
section
variable {w0 w:World} {tag:Nat→Nat} {sb rb n:Nat} {N C:List UInt8} {X:Nat→Option Nd} {u:Nat}
set_option maxHeartbeats 1000000 in
theorem insclo_any1 (hT:Tab w0) (h:HasX w0 w tag sb rb n N C X u) (b0 b1 b2 b3 root key val:Nat) (c0:w.cell? ⟨b0,0,none⟩=some (.pointer (some ⟨sb,0,none⟩))) (c1:w.cell? ⟨b1,0,none⟩=some (.int .u64 (root:Int))) (c2:w.cell? ⟨b2,0,none⟩=some (.int .u64 (key:Int))) (c3:w.cell? ⟨b3,0,none⟩=some (.int .u64 (val:Int))) (hkey:key < 2 ^ 64) (hval:val < 2 ^ 64) (hu:u≤70000000)
  (N':List UInt8) (X':Nat→Option Nd) (rt od:Nat) (th:Bool) (hr:insertedA N C X root key val=.ok (N',X',rt,od,th)) :
  Calls Tryz.prog 58 #[.pointer (some ⟨b0,0,none⟩),.pointer (some ⟨b1,0,none⟩),.pointer (some ⟨b2,0,none⟩),.pointer (some ⟨b3,0,none⟩)] w (InsPost w0 w tag sb rb n C (u+4000) (.ok (N',X',rt,od,th))):=by
 have l0:=block_lt_of_cell c0
 have l1:=block_lt_of_cell c1
 have l2:=block_lt_of_cell c2
 have l3:=block_lt_of_cell c3
 dsimp only at l0 l1 l2 l3
 have g0:=Chg.alloc [] w (.cells wayZ 124)
 have h0:=h.keep g0
 have t0:=new6 w 124
 have tb:=h.hi _ (Nat.le_refl _)
 have M0:=Mv.made g0 h.hi
 have cI:=inserted_any hT h0 root key val hkey hval hu _ hr (by simp)
 have d0:=g0.cellv c0 (by simp)
 have d1:=g0.cellv c1 (by simp)
 have d2:=g0.cellv c2 (by simp)
 have d3:=g0.cellv c3 (by simp)
 unfold wayZ at g0 h0 t0 M0 cI d0 d1 d2 d3
 go_enter Tryz.func58,Tryz.ntmps58
 go_wp2_with fail
 generalize hb:w.heap.size=b at *
 have HB:=mkHid hb
 clear hb
 generalize (w.alloc (.cells #[.pointer none,.slice none 0 0,.slice none 0 0,.int .u64 0,.int .u64 0,.bool false] 124))=w1 at *
 refine cI.mono ?_
 rintro e w2 ⟨a1,k1,q1,a2,k2,q2,rfl,tag2,h2,m2⟩
 have t2:=m2.there t0 tb
 have b2':=m2.four tb (there_lt t0 (by decide))
 have M2:=M0.trans m2
 obtain ⟨⟨v0,v1,v2,v3,v4,v5,r0,r1,r2,r3,r4,r5⟩,y0,y1,y2,y3,y4,y5⟩:=cells6 t2
 have H2:=mkHid (And.intro h2 (And.intro M2 b2'))
 clear h2 M2 m2 h0 M0 t0 t2
 unfold wayV
 go_wp2_with fail
 refine bodyPost_ret (v:=wayV sb a1 k1 q1 a2 k2 q2 rt od th) (by simp [results,Tryz.results58,go_sem,r0,r1,r2,r3,r4,r5,wayV]) rfl ?_
 obtain ⟨h2,M2,b2'⟩:=H2.out
 have G:=six_chg w2 b (.pointer (some ⟨sb,0,none⟩)) (.slice a1 k1 q1) (.slice a2 k2 q2) (.int .u64 (rt:Int)) (.int .u64 (od:Int)) (.bool th)
 exact ⟨a1,k1,q1,a2,k2,q2,rfl,tag2,h2.wrote G (fun j hj => by simp at hj;subst hj;exact b2'),M2.wrote G (fun j hj => by simp at hj;have:=HB.out;omega)⟩
theorem insclo_enters:∀ (args:Array Value) (w:World),(callFunc 58 args).run Tryz.prog w=.ok (.enter 58 args) w:=enters_of Tryz.func58 (by kernel_rfl) rfl
def boxes4 (w:World) (x0 x1 x2 x3:Value) (t0 t1 t2 t3:TypeId):World:=(((w.alloc (.cells #[x0] t0)).alloc (.cells #[x1] t1)).alloc (.cells #[x2] t2)).alloc (.cells #[x3] t3)
theorem boxes4_all (w:World) (x0 x1 x2 x3:Value) (t0 t1 t2 t3:TypeId):Chg [] w (boxes4 w x0 x1 x2 x3 t0 t1 t2 t3)∧(boxes4 w x0 x1 x2 x3 t0 t1 t2 t3).heap.size=w.heap.size+4∧(boxes4 w x0 x1 x2 x3 t0 t1 t2 t3).cell? ⟨w.heap.size,0,none⟩=some x0∧(boxes4 w x0 x1 x2 x3 t0 t1 t2 t3).cell? ⟨w.heap.size+1,0,none⟩=some x1∧(boxes4 w x0 x1 x2 x3 t0 t1 t2 t3).cell? ⟨w.heap.size+2,0,none⟩=some x2∧(boxes4 w x0 x1 x2 x3 t0 t1 t2 t3).cell? ⟨w.heap.size+3,0,none⟩=some x3:=by
 unfold boxes4
 obtain ⟨wa,hwa⟩:∃ wa,wa=w.alloc (.cells #[x0] t0):=⟨_,rfl⟩
 obtain ⟨wb,hwb⟩:∃ wb,wb=wa.alloc (.cells #[x1] t1):=⟨_,rfl⟩
 obtain ⟨wc,hwc⟩:∃ wc,wc=wb.alloc (.cells #[x2] t2):=⟨_,rfl⟩
 obtain ⟨wd,hwd⟩:∃ wd,wd=wc.alloc (.cells #[x3] t3):=⟨_,rfl⟩
 rw [← hwa,← hwb,← hwc,← hwd]
 have ga:Chg [] w wa:=by rw [hwa];exact Chg.alloc [] w _
 have gb:Chg [] wa wb:=by rw [hwb];exact Chg.alloc [] wa _
 have gc:Chg [] wb wc:=by rw [hwc];exact Chg.alloc [] wb _
 have gd:Chg [] wc wd:=by rw [hwd];exact Chg.alloc [] wc _
 have sa:wa.heap.size=w.heap.size+1:=by rw [hwa];simp
 have sB:wb.heap.size=w.heap.size+2:=by rw [hwb];simp [sa]
 have sc:wc.heap.size=w.heap.size+3:=by rw [hwc];simp [sB]
 have sd:wd.heap.size=w.heap.size+4:=by rw [hwd];simp [sc]
 have la:=cell_of_row wa w.heap.size 0 #[x0] _ _ (by rw [hwa];exact heap_alloc_last w _)
 have lb:=cell_of_row wb wa.heap.size 0 #[x1] _ _ (by rw [hwb];exact heap_alloc_last wa _)
 have lc:=cell_of_row wc wb.heap.size 0 #[x2] _ _ (by rw [hwc];exact heap_alloc_last wb _)
 have ld:=cell_of_row wd wc.heap.size 0 #[x3] _ _ (by rw [hwd];exact heap_alloc_last wc _)
 rw [sa] at lb
 rw [sB] at lc
 rw [sc] at ld
 exact ⟨((ga.then gb).then gc).then gd,sd,gd.cellv (gc.cellv (gb.cellv la (by simp)) (by simp)) (by simp),gd.cellv (gc.cellv lb (by simp)) (by simp),gd.cellv lc (by simp),ld⟩
def InsOut (w0 w:World) (tag:Nat→Nat) (sb rb n:Nat) (C:List UInt8) (u:Nat) (N':List UInt8) (X':Nat→Option Nd) (rt od:Nat) (th:Bool) (e:Ending) (w':World):Prop:=
 e=.returned (.tuple #[.int .u64 (rt:Int),.int .u64 (od:Int),.bool th,.int .i64 0])∧∃ (tag':Nat→Nat),HasX w0 w' tag' sb rb n N' C X' u∧Mv tag tag' w w'
set_option maxHeartbeats 600000 in
theorem insert_ok (hT:Tab w0) (h:HasX w0 w tag sb rb n N C X u) (root key val:Nat) (hkey:key < 2 ^ 64) (hval:val < 2 ^ 64) (hroot:root < 2 ^ 64) (hu:u≤70000000) (N':List UInt8) (X':Nat→Option Nd) (rt od:Nat) (th:Bool) (hr:insertA N C X root key val=.ok (N',X',rt,od,th)) :
  Calls Tryz.prog 23 #[.pointer (some ⟨sb,0,none⟩),.int .u64 (root:Int),.int .u64 (key:Int),.int .u64 (val:Int)] w (InsOut w0 w tag sb rb n C (u+4000) N' X' rt od th):=by
 obtain ⟨G0,S0,k0,k1,k2,k3⟩:=boxes4_all w (.pointer (some ⟨sb,0,none⟩)) (.int .u64 (root:Int)) (.int .u64 (key:Int)) (.int .u64 (val:Int)) 43 34 34 34
 have h1:=h.keep G0
 have M1:=Mv.made G0 h.hi
 have cM:=made_x h1
 have b0:=h.hi w.heap.size (by omega)
 have b1:=h.hi (w.heap.size+1) (by omega)
 have b2:=h.hi (w.heap.size+2) (by omega)
 have b3:=h.hi (w.heap.size+3) (by omega)
 unfold insertA at hr
 by_cases hv:val=0
 ·rw [if_pos hv] at hr;cases hr
 rw [if_neg hv] at hr
 have dv:((val:Int) == 0)=false:=by simpa using hv
 have hS0:=Nat.le_of_eq S0.symm
 clear S0
 unfold boxes4 at G0 hS0 k0 k1 k2 k3 h1 M1 cM
 by_cases hr0:root=0
 ·rw [if_pos hr0] at hr
  have dr:((root:Int) == 0)=true:=by simpa using hr0
  clear hr0
  obtain ⟨mr,hmr⟩:∃ mr,makeA N C X ⟨true,[key],[val]⟩=mr:=⟨_,rfl⟩
  rw [hmr] at hr
  cases mr with
  | stuck => cases hr
  | full => cases hr
  | ok mq =>
  obtain ⟨N1,X1,t1⟩:=mq
  cases hr
  go_enter Tryz.func23,Tryz.ntmps23
  go_wp2_with fail
  generalize ((((w.alloc (.cells #[.pointer (some ⟨sb,0,none⟩)] 43)).alloc (.cells #[.int .u64 (root:Int)] 34)).alloc (.cells #[.int .u64 (key:Int)] 34)).alloc (.cells #[.int .u64 (val:Int)] 34))=w1 at *
  refine cM.mono ?_
  rintro e w' ⟨rfl,rfl⟩
  obtain ⟨wa,hwa⟩:∃ wa,wa=w1.alloc (.cells #[.int .u64 (key:Int)] 34):=⟨_,rfl⟩
  obtain ⟨wb,hwb⟩:∃ wb,wb=wa.alloc (.cells #[.int .u64 (val:Int)] 34):=⟨_,rfl⟩
  have ga:Chg [] w1 wa:=by rw [hwa];exact Chg.alloc [] w1 _
  have gb:Chg [] wa wb:=by rw [hwb];exact Chg.alloc [] wa _
  have sa:wa.heap.size=w1.heap.size+1:=by rw [hwa];simp
  have ra:Room wa w1.heap.size (some ⟨w1.heap.size,0,none⟩) 1 1 (uvs [key]):=by
   rw [hwa];exact lit_roomI w1 w1.heap.size (Nat.le_refl _) #[.int .u64 (key:Int)] _ (uvs [key]) 1 rfl rfl (by unfold maxLen;omega)
  have rb':Room wb w1.heap.size (some ⟨w1.heap.size+1,0,none⟩) 1 1 (uvs [val]):=by
   have:=lit_roomI wa w1.heap.size (by omega) #[.int .u64 (val:Int)] 34 (uvs [val]) 1 rfl rfl (by unfold maxLen;omega)
   rw [← hwb,sa] at this
   exact this
  have rm:RmN wb w1.heap.size (some ⟨w1.heap.size,0,none⟩) 1 (some ⟨w1.heap.size+1,0,none⟩) 1 [key] [val]:=⟨ra.chg gb (by simp),rb',fun q hq hm => by
   rw [fp_some _ _ _ (by decide)] at hq hm
   simp at hq hm
   omega⟩
  obtain ⟨tag2,h2,m2,n2⟩:=kn_of (lf:=true) h1 rm (ga.then gb) (by simp) (by simpa using hkey) (by simpa using hval)
  have cK:=make_any hT h2 ⟨true,some ⟨w1.heap.size,0,none⟩,1,some ⟨w1.heap.size+1,0,none⟩,1,[key],[val]⟩ n2 (by omega) _ hmr (by simp)
  unfold CN.val at cK
  simp only [List.length_singleton] at cK
  have hn3:w.heap.size+3 < w1.heap.size:=by omega
  have hn4:w.heap.size+3 ≠ w1.heap.size:=by omega
  have hn5:¬ w.heap.size+3=w1.heap.size:=by omega
  have hsp:(w1.alloc (.cells #[.int .u64 (key:Int)] 34)).alloc (.cells #[.int .u64 (val:Int)] 34)=wb:=by rw [hwb,hwa]
  have HSP:=mkHid hsp
  have H2:=mkHid (And.intro h2 (And.intro m2 M1))
  clear hsp h2 m2 n2 rm ra rb' ga gb sa hwb h1 M1
  clear hwa
  go_wp2_with fail
  rw [HSP.out]
  refine cK.mono ?_
  rintro e w3 ⟨rfl,ht3,tag3,h3,m3⟩
  go_wp2_with fail
  refine bodyPost_ret (v:=.tuple #[.int .u64 (rt:Int),.int .u64 0,.bool false,.int .i64 0]) (by simp [results,Tryz.results23,go_sem]) rfl ?_
  exact ⟨rfl,tag3,h3.mono (by omega),(H2.out.2.2.trans H2.out.2.1).trans m3⟩
 ·rw [if_neg hr0] at hr
  have dr:((root:Int) == 0)=false:=by simpa using hr0
  have hmf:∀ (fn:Fn) (first cap:Array Value) (w:World),(Instr.makeFunc fn first cap).run Tryz.prog w=.ok (.func fn first cap) w:=fun _ _ _ _ => rfl
  go_enter Tryz.func23,Tryz.ntmps23
  go_wp2_with fail
  generalize ((((w.alloc (.cells #[.pointer (some ⟨sb,0,none⟩)] 43)).alloc (.cells #[.int .u64 (root:Int)] 34)).alloc (.cells #[.int .u64 (key:Int)] 34)).alloc (.cells #[.int .u64 (val:Int)] 34))=w1 at *
  refine cM.mono ?_
  rintro e w' ⟨rfl,rfl⟩
  have cW:=whole_ok h1 (by omega) 58 #[.pointer (some ⟨w.heap.size,0,none⟩),.pointer (some ⟨w.heap.size+1,0,none⟩),.pointer (some ⟨w.heap.size+2,0,none⟩),.pointer (some ⟨w.heap.size+3,0,none⟩)] insclo_enters N' X' rt od th (u+4000) (fun w9 tg9 h9 m9 => insclo_any1 hT h9 _ _ _ _ root key val (m9.cellv k0 (kt4 b0)) (m9.cellv k1 (kt4 b1)) (m9.cellv k2 (kt4 b2)) (m9.cellv k3 (kt4 b3)) hkey hval hu N' X' rt od th hr)
  go_wp2_with fail
  refine cW.mono ?_
  rintro e w2 ⟨a1,l1,c1,a2,l2,c2,rfl,tag2,h2,m2⟩
  have M2:=M1.trans m2
  have gx:=Chg.alloc [] w2 (.cells #[.pointer (some ⟨sb,0,none⟩),.slice a1 l1 c1,.slice a2 l2 c2,.int .u64 (rt:Int),.int .u64 (od:Int),.bool th] 124)
  have hl:=heap_alloc_last w2 (.cells #[.pointer (some ⟨sb,0,none⟩),.slice a1 l1 c1,.slice a2 l2 c2,.int .u64 (rt:Int),.int .u64 (od:Int),.bool th] 124)
  have q3:=cell_of_row _ w2.heap.size 3 _ _ _ hl
  have q4:=cell_of_row _ w2.heap.size 4 _ _ _ hl
  have q5:=cell_of_row _ w2.heap.size 5 _ _ _ hl
  simp only [List.getElem?_toArray,List.getElem?_cons_succ,List.getElem?_cons_zero] at q3 q4 q5
  have h3:=h2.keep gx
  have M3:=M2.then gx
  have H3:=mkHid (And.intro h3 M3)
  clear h2 m2 M2 gx hl h3 M3 cW
  unfold wayV
  go_wp2_with fail
  generalize (w2.alloc (.cells #[.pointer (some ⟨sb,0,none⟩),.slice a1 l1 c1,.slice a2 l2 c2,.int .u64 (rt:Int),.int .u64 (od:Int),.bool th] 124))=w3 at *
  go_quiet (fail)
  go_wp2_with fail
  refine bodyPost_ret (v:=.tuple #[.int .u64 (rt:Int),.int .u64 (od:Int),.bool th,.int .i64 0]) (by simp [results,Tryz.results23,go_sem]) rfl ?_
  obtain ⟨h3,M3⟩:=H3.out
  exact ⟨rfl,tag2,h3.keep (Chg.drewN w3 _),M3.then (Chg.drewN w3 _)⟩
end
end
section
set_option maxRecDepth 200000
open Go.RowKit
attribute [local go_sem ↓] Go.wp_at_zero Go.wp_at_succ
def Nd.at_ (m:Nd) (key:Nat):Nat × Bool:=if m.is key=true then (m.V.getD (m.find key) 0,true) else (0,false)
def lookL (X:Nat→Option Nd) (key:Nat):Nat→Nat→Option (Nat × Bool)
 | 0,_ => none
 | f+1,a => match X a with
  | none => none
  | some m => if m.lf=true then some (m.at_ key) else match m.V[m.child key]? with
   | none => none
   | some v => lookL X key f v
def lookA (X:Nat→Option Nd) (root key:Nat):Option (Nat × Bool):=if root=0 then some (0,false) else lookL X key 12 root
section
variable {w0 w:World} {tag:Nat→Nat} {sb rb n:Nat} {N C:List UInt8} {X:Nat→Option Nd} {u:Nat}
theorem found_any (h:HasX w0 w tag sb rb n N C X u) (q:CN) (hq:NdAt w tag q) (key:Nat) (v:Nat) (b:Bool) (hv:q.nd.at_ key=(v,b)):Calls Tryz.prog 64 #[q.val,.int .u64 (key:Int)] w fun e w' => e=.returned (.tuple #[.int .u64 (v:Int),.bool b,.int .i64 0])∧Chg [] w w':=by
 obtain ⟨fi,hfi⟩:∃ fi,q.nd.find key=fi:=⟨_,rfl⟩
 obtain ⟨is,his⟩:∃ is,q.nd.is key=is:=⟨_,rfl⟩
 have HIS:Hid (is=true→fi < q.V.length):=mkHid fun e => by
  have:=is_lt (his.trans e)
  rw [hfi] at this
  exact this.2.1
 unfold Nd.at_ at hv
 rw [hfi,his] at hv
 have h0:=h.keep (Chg.alloc [] w (.cells #[.bool q.lf,.slice q.ka q.K.length q.kc,.slice q.va q.V.length q.vc] 53))
 have n0:=hq.keep (Chg.alloc [] w (.cells #[.bool q.lf,.slice q.ka q.K.length q.kc,.slice q.va q.V.length q.vc] 53))
 have cF:=kfindN h0 q n0 key
 rw [hfi,his] at cF
 obtain ⟨l0,l1,l2⟩:=laid3 w (.bool q.lf) (.slice q.ka q.K.length q.kc) (.slice q.va q.V.length q.vc) 53
 have g0:=Chg.alloc [] w (.cells #[.bool q.lf,.slice q.ka q.K.length q.kc,.slice q.va q.V.length q.vc] 53)
 have HF:=mkHid (And.intro hfi his)
 clear hfi his
 obtain ⟨lf,ka,kc,va,vc,K,V⟩:=q
 unfold CN.val at cF ⊢
 dsimp only at *
 cases is with
 | false =>
  rw [if_neg (by simp)] at hv
  cases hv
  go_enter Tryz.func64,Tryz.ntmps64
  go_wp2_with fail
  generalize (w.alloc (.cells #[.bool lf,.slice ka K.length kc,.slice va V.length vc] 53))=w1 at *
  refine cF.mono ?_
  rintro e w2 ⟨rfl,g2⟩
  go_wp2_with fail
  refine bodyPost_ret (v:=.tuple #[.int .u64 0,.bool false,.int .i64 0]) (by simp [results,Tryz.results64,go_sem]) rfl ?_
  exact ⟨rfl,g0.then g2⟩
 | true =>
  rw [if_pos rfl] at hv
  have hlt:=HIS.out rfl
  have hget:V[fi]?=some V[fi]:=List.getElem?_eq_getElem hlt
  have hvv:V[fi]=v:=by
   have:=congrArg Prod.fst hv
   dsimp only [CN.nd] at this
   rw [List.getD_eq_getElem?_getD,hget] at this
   exact this
  have hbb:true=b:=congrArg Prod.snd hv
  subst hbb
  rw [hvv] at hget
  obtain ⟨vb,vo,rfl,hcell⟩:=n0.rd.rv (by simp only [uvs_len];omega)
  have hx1:=hcell fi _ (uvs_get hget)
  have hcv:V.length≤vc:=n0.rd.cv
  clear hcell hget hvv hv
  go_enter Tryz.func64,Tryz.ntmps64
  go_wp2_with fail
  generalize (w.alloc (.cells #[.bool lf,.slice ka K.length kc,.slice (some ⟨vb,vo,none⟩) V.length vc] 53))=w1 at *
  refine cF.mono ?_
  rintro e w2 ⟨rfl,g2⟩
  have hx2:=g2.cellv hx1 (by simp)
  have m2:=g2.cellv l2 (by simp)
  go_wp2_with fail
  refine bodyPost_ret (v:=.tuple #[.int .u64 (v:Int),.bool true,.int .i64 0]) (by simp [results,Tryz.results64,go_sem]) rfl ?_
  exact ⟨rfl,g0.then g2⟩
def LookOut (w0 w:World) (tag:Nat→Nat) (sb rb n:Nat) (N C:List UInt8) (X:Nat→Option Nd) (u v:Nat) (b:Bool) (e:Ending) (w':World):Prop:=
 e=.returned (.tuple #[.int .u64 (v:Int),.bool b,.int .i64 0])∧∃ (tag':Nat→Nat),HasX w0 w' tag' sb rb n N C X u∧Mv tag tag' w w'
set_option maxHeartbeats 1000000 in
theorem lookup_any (hT:Tab w0) (h:HasX w0 w tag sb rb n N C X u) (root key:Nat) (hu:u≤80000000) (v:Nat) (b:Bool) (hr:lookA X root key=some (v,b)) :
  Calls Tryz.prog 26 #[.pointer (some ⟨sb,0,none⟩),.int .u64 (root:Int),.int .u64 (key:Int)] w (LookOut w0 w tag sb rb n N C X (u+12) v b):=by
 have cM:=made_x h
 unfold lookA at hr
 by_cases hr0:root=0
 ·rw [if_pos hr0] at hr
  have dr:((root:Int) == 0)=true:=by simpa using hr0
  clear hr0
  cases hr
  go_enter Tryz.func26,Tryz.ntmps26
  go_wp2_with (first | (go_at_call 53;refine cM.mono ?_;rintro e w' ⟨rfl,rfl⟩))
  refine bodyPost_ret (v:=.tuple #[.int .u64 0,.bool false,.int .i64 0]) (by simp [results,Tryz.results26,go_sem]) rfl ?_
  exact ⟨rfl,tag,h.mono (by omega),Mv.made (Chg.refl [] w) h.hi⟩
 ·rw [if_neg hr0] at hr
  have dr:((root:Int) == 0)=false:=by simpa using hr0
  have HT:=mkHid hT
  have HR:=mkHid hr
  have HH:=mkHid h
  clear hT hr h
  go_enter Tryz.func26,Tryz.ntmps26
  go_wp2_with (first | (go_at_call 53;refine cM.mono ?_;rintro e w' ⟨rfl,rfl⟩))
  go_loopw [9,10,11,18] (fun at9 _ _ ix wr => ∃ (t a:Nat) (tg:Nat→Nat),ix=.int .i64 t∧at9=.int .u64 a∧t≤12∧HasX w0 wr tg sb rb n N C X (u+t)∧Mv tag tg w wr∧lookL X key (12 - t) a=some (v,b)) (fun _ _ _ ix _ => 12 - natAt ix)
  case atStart => exact ⟨0,root,tag,rfl,rfl,by omega,HH.out,Mv.made (Chg.refl [] w) HH.out.hi,HR.out⟩
  case round =>
   obtain ⟨t,a,tg,rfl,rfl,ht,hX,hM,hl⟩:=hrel
   by_cases hlt:t < 12
   ·obtain ⟨f,hf⟩:∃ f,12 - t=f+1:=⟨11 - t,by omega⟩
    rw [hf] at hl
    unfold lookL at hl
    have dlt:decide ((t:Int) < 12)=true:=decide_eq_true (by omega)
    cases hXa:X a with
    | none => rw [hXa] at hl;cases hl
    | some m =>
    rw [hXa] at hl
    dsimp only at hl
    have cL:=load_x HT.out hX a m hXa (by omega)
    have hgood:=(hX.lt hXa).2
    have HF:=mkHid hf
    clear hf hXa
    go_wp2_with fail
    refine cL.mono ?_
    rintro e w2 ⟨q,rfl,hqm,tg2,h2,m2,n2⟩
    subst hqm
    have M2:=hM.trans m2
    have gx:=Chg.alloc [] w2 (.cells #[.bool q.lf,.slice q.ka q.K.length q.kc,.slice q.va q.V.length q.vc] 53)
    obtain ⟨l0,l1,l2⟩:=laid3 w2 (.bool q.lf) (.slice q.ka q.K.length q.kc) (.slice q.va q.V.length q.vc) 53
    have h3:=h2.keep gx
    have M3:=M2.then gx
    have n3:=n2.keep gx
    unfold CN.val
    obtain ⟨lf,ka,kc,va,vc,K,V⟩:=q
    dsimp only at *
    clear h2 m2 M2 n2 gx hX hM cL cM
    cases lf with
    | true =>
     rw [show (CN.nd ⟨true,ka,kc,va,vc,K,V⟩).lf=true from rfl,if_pos rfl] at hl
     have hl:(CN.nd ⟨true,ka,kc,va,vc,K,V⟩).at_ key=(v,b):=by simpa using hl
     have cF:=found_any h3 ⟨true,ka,kc,va,vc,K,V⟩ n3 key v b hl
     unfold CN.val at cF
     try dsimp only at cF
     have H3:=mkHid (And.intro h3 M3)
     clear h3 M3 n3
     go_wp2_with fail
     generalize (w2.alloc (.cells #[.bool true,.slice ka K.length kc,.slice va V.length vc] 53))=w3 at *
     refine cF.mono ?_
     rintro e w4 ⟨rfl,g4⟩
     go_wp2_with fail
     refine bodyPost_ret (v:=.tuple #[.int .u64 (v:Int),.bool b,.int .i64 0]) (by simp [results,Tryz.results26,go_sem]) rfl ?_
     exact ⟨rfl,tg2,(H3.out.1.keep g4).mono (by omega),H3.out.2.then g4⟩
    | false =>
     rw [show (CN.nd ⟨false,ka,kc,va,vc,K,V⟩).lf=false from rfl,if_neg (by simp)] at hl
     obtain ⟨pl,hpl⟩:∃ pl,(CN.nd ⟨false,ka,kc,va,vc,K,V⟩).child key=pl:=⟨_,rfl⟩
     rw [hpl,show (CN.nd ⟨false,ka,kc,va,vc,K,V⟩).V=V from rfl] at hl
     cases hv:V[pl]? with
     | none => rw [hv] at hl;cases hl
     | some c =>
     rw [hv] at hl
     dsimp only at hl
     obtain ⟨vb,vo,rfl,hcell⟩:=n3.rd.rv (by have:=(List.getElem?_eq_some_iff.1 hv).1;simp only [uvs_len];omega)
     have hx1:=hcell pl _ (uvs_get hv)
     have hcv:V.length≤vc:=n3.rd.cv
     have hpV:pl < V.length:=(List.getElem?_eq_some_iff.1 hv).1
     have cC:=fun (w9:World) (g9:Chg [] _ w9) => kchildN (h3.keep g9) ⟨false,ka,kc,some ⟨vb,vo,none⟩,vc,K,V⟩ (n3.keep g9) key
     have H3:=mkHid (And.intro h3 (And.intro M3 hl))
     unfold CN.val at cC
     try dsimp only at cC
     simp only [hpl] at cC
     clear h3 M3 n3 hl hcell hv hpl
     go_wp2_with fail
     generalize (w2.alloc (.cells #[.bool false,.slice ka K.length kc,.slice (some ⟨vb,vo,none⟩) V.length vc] 53))=w3 at *
     have HC:=mkHid cC
     have HX1:=mkHid (And.intro hx1 l2)
     clear cC
     go_region_law (first
      | (go_simp;go_at_call 65;refine (HC.out _ (by first | exact Chg.drew [] w3 | exact Chg.refl [] w3)).mono ?_;rintro e w5 ⟨rfl,g5⟩;have hx5:=g5.cellv ((Chg.drew [] w3).cellv HX1.out.1 (by simp)) (by simp);have l25:=g5.cellv ((Chg.drew [] w3).cellv HX1.out.2 (by simp)) (by simp)))
     all_goals
      obtain ⟨h3,M3,hl⟩:=H3.out
      have g35:=(Chg.drew [] w3).then g5
      go_wp2_with fail
      go_roundw
      case rel => exact ⟨t+1,c,tg2,by go_num,rfl,by omega,h3.keep g35,M3.then g35,by rw [show 12 - (t+1)=f by have:=HF.out;omega];exact hl⟩
      case measure => simp [natAt];omega
   ·exfalso
    rw [show 12 - t=0 by omega] at hl
    simp [lookL] at hl
end
end
section
set_option maxRecDepth 200000
open Go.RowKit
attribute [local go_sem ↓] Go.wp_at_zero Go.wp_at_succ
theorem tnew_yes (r c:Nat) (w:World):Calls Tryz.prog 32 #[.pointer (some ⟨r,0,none⟩),.pointer (some ⟨c,0,none⟩)] w fun e w' => e=.returned (.pointer (some ⟨w.heap.size,0,none⟩))∧w'=w.alloc (.cells #[.pointer (some ⟨r,0,none⟩),.pointer (some ⟨c,0,none⟩)] 118):=by
 go_enter Tryz.func32,Tryz.ntmps32
 go_wp2
 go_ret
 exact ⟨rfl,rfl⟩
def cnt0 (n:Nat):List UInt8:=((List.replicate n 0).set 0 1).set 1 1
theorem cnt0_len (n:Nat):(cnt0 n).length=n:=by simp [cnt0]
def MadeOut (w:World) (ps:List Nat) (n:Nat) (e:Ending) (w':World):Prop:=
 ∃ xb sb rb,e=.returned (.pointer (some ⟨xb,0,none⟩))∧w'.cell? ⟨xb,0,none⟩=some (.pointer (some ⟨rb,0,none⟩))∧w'.cell? ⟨xb,1,none⟩=some (.pointer (some ⟨sb,0,none⟩))∧w.heap.size≤xb∧∃ (tag:Nat→Nat),tag xb=4∧(∀ k,k∈ps→k < w.heap.size→tag k=5)∧HasX w w' tag sb rb n (cnt0 n) (cnt0 n) (fun _ => none) 0
theorem has_new {w w':World} (ps:List Nat) {n m db:Nat} {g:DG} {cb mb rb nb c2 sp sb:Nat} {Fs:List Nat} (hn:1≤n∧n≤1024) (hm:1≤m) (hp:Pair w w' (fun k => k∈rb :: nb :: c2 :: Fs) db g none 0 (RS.new n) cb mb none 0 [] [] m 0) (hr:RfsAt w' w.heap.size rb nb c2 sp Fs n (cnt0 n) (cnt0 n)) (hs0:w'.cell? ⟨sb,0,none⟩=some (.pointer (some ⟨rb,0,none⟩))) (hs1:w'.cell? ⟨sb,1,none⟩=some (.pointer (some ⟨cb,0,none⟩)))
  (hsb:w.heap.size≤sb) (h1:sb ∉ rb :: nb :: c2 :: Fs) (h2:sb ∉ CF cb mb none 0 []) (h3:sb ∉ DF db g none 0) {xb:Nat} (hxb:w.heap.size≤xb) (x1:xb ∉ rb :: nb :: c2 :: Fs) (x2:xb ∉ CF cb mb none 0 []) (x3:xb ∉ DF db g none 0) (x4:xb ≠ sb) :
  ∃ (tag:Nat→Nat),tag xb=4∧(∀ k,k∈ps→k < w.heap.size→tag k=5)∧HasX w w' tag sb rb n (cnt0 n) (cnt0 n) (fun _ => none) 0:=by
 have hsl:sb < w'.heap.size:=block_lt_of_cell hs0
 refine ⟨fun k => if k < w.heap.size then (if k∈ps then 5 else 0) else if k∈rb :: nb :: c2 :: Fs then 1 else if k∈CF cb mb none 0 []++DF db g none 0 then 2 else if k=sb then 3 else 4,?_,fun k hk hlt => (if_pos hlt).trans (if_pos hk),fun a => reads (RS.new n) a 4,⟨⟨nb,c2,sp,Fs,hr,fun k hk => ?_⟩,⟨cb,⟨db,g,none,0,RS.new n,mb,none,0,[],[],m,0,⟨hp.d,hp.k,hp.u,hp.c,hp.W,hp.x,fun k hk => ?_⟩,⟨by simp,by simp,by simp,by simp,rfl,rfl,rfl⟩,hm,by simp,by simp,by simp [RS.new],fun a ha => ?_,fun a ha => ?_⟩,hs1⟩,hs0,?_,⟨fun k hk => ?_,fun k hk => ?_⟩⟩,fun a q hq => by cases hq⟩
 ·dsimp only
  rw [if_neg (by omega),if_neg x1,if_neg (fun h => (List.mem_append.1 h).elim x2 x3),if_neg x4]
 ·dsimp only
  rw [if_neg (by have:=(hr.lt k hk).1;omega),if_pos hk]
 ·obtain ⟨ha,hb⟩:=hk
  dsimp only at hb
  by_cases h9:k < w.heap.size
  ·exact ⟨fun hm => by have:=(hp.k.lt k hm).1;omega,fun hm => by have:=(hp.d.lt k hm).1;omega,ha⟩
  ·rw [if_neg h9] at hb
   by_cases h8:k∈rb :: nb :: c2 :: Fs
   ·exact hp.r k h8
   ·rw [if_neg h8] at hb
    by_cases h7:k∈CF cb mb none 0 []++DF db g none 0
    ·rw [if_pos h7] at hb;exact absurd rfl hb
    ·exact ⟨fun hm => h7 (List.mem_append_left _ hm),fun hm => h7 (List.mem_append_right _ hm),ha⟩
 ·exact kval_none rfl
 ·have hW:=hp.W
  exact reads_len (RS.new n) a 4 (by have:=hW.1;simp [RS.new] at this ⊢;omega) hp.d.lS (fun f hf => (hp.d.lL f hf).1)
 ·first | rw [if_neg (by omega),if_neg h1,if_neg (fun h => (List.mem_append.1 h).elim h2 h3),if_pos rfl] | (dsimp only;rw [if_neg (by omega),if_neg h1,if_neg (fun h => (List.mem_append.1 h).elim h2 h3),if_pos rfl])
 ·try dsimp only
  rw [if_pos hk]
  by_cases h9:k∈ps
  ·rw [if_pos h9];exact Or.inr rfl
  ·rw [if_neg h9];exact Or.inl rfl
 ·skip
  try dsimp only
  have hww:=hp.c.size
  rw [if_neg (by omega),if_neg (fun hm => by have:=(hr.lt k hm).2;omega),if_neg (fun hm => (List.mem_append.1 hm).elim (fun h => by have:=(hp.k.lt k h).2;omega) (fun h => by have:=(hp.d.lt k h).2;omega)),if_neg (by omega)]
theorem two_cells (w:World) (a b:Value) (e:TypeId):(w.alloc (.cells #[a,b] e)).cell? ⟨w.heap.size,0,none⟩=some a∧(w.alloc (.cells #[a,b] e)).cell? ⟨w.heap.size,1,none⟩=some b:=by
 have hcc:=fun j => cell_of_row (w.alloc (.cells #[a,b] e)) w.heap.size j #[a,b] e (0,0) (heap_alloc_last w (.cells #[a,b] e))
 exact ⟨by rw [hcc 0];rfl,by rw [hcc 1];rfl⟩
theorem made_out (ps:List Nat) {w w4:World} {n m db:Nat} {g:DG} {cb mb rb nb c2 sp:Nat} {Fs:List Nat} (hn:1≤n∧n≤1024) (hm:1≤m) (hp:Pair w w4 (fun k => k∈rb :: nb :: c2 :: Fs) db g none 0 (RS.new n) cb mb none 0 [] [] m 0) (hr:RfsAt w4 w.heap.size rb nb c2 sp Fs n (cnt0 n) (cnt0 n)) :
  MadeOut w ps n (.returned (.pointer (some ⟨w4.heap.size+1,0,none⟩))) ((w4.alloc (.cells #[.pointer (some ⟨rb,0,none⟩),.pointer (some ⟨cb,0,none⟩)] 118)).alloc (.cells #[.pointer (some ⟨rb,0,none⟩),.pointer (some ⟨w4.heap.size,0,none⟩)] 45)):=by
 have g5:=Chg.alloc [] w4 (.cells #[.pointer (some ⟨rb,0,none⟩),.pointer (some ⟨cb,0,none⟩)] 118)
 obtain ⟨s0,s1⟩:=two_cells w4 (.pointer (some ⟨rb,0,none⟩)) (.pointer (some ⟨cb,0,none⟩)) 118
 have z5:(w4.alloc (.cells #[.pointer (some ⟨rb,0,none⟩),.pointer (some ⟨cb,0,none⟩)] 118)).heap.size=w4.heap.size+1:=by simp
 generalize w4.alloc (.cells #[.pointer (some ⟨rb,0,none⟩),.pointer (some ⟨cb,0,none⟩)] 118)=w5 at *
 have g6:=Chg.alloc [] w5 (.cells #[.pointer (some ⟨rb,0,none⟩),.pointer (some ⟨w4.heap.size,0,none⟩)] 45)
 obtain ⟨x0,x1⟩:=two_cells w5 (.pointer (some ⟨rb,0,none⟩)) (.pointer (some ⟨w4.heap.size,0,none⟩)) 45
 have hsz:=hp.c.size
 have hR:∀ k,w4.heap.size≤k→k ∉ rb :: nb :: c2 :: Fs:=fun k hk hm => by have:=(hr.lt k hm).2;omega
 have hC:∀ k,w4.heap.size≤k→k ∉ CF cb mb none 0 []:=fun k hk hm => by have:=(hp.k.lt k hm).2;omega
 have hD:∀ k,w4.heap.size≤k→k ∉ DF db g none 0:=fun k hk hm => by have:=(hp.d.lt k hm).2;omega
 have g56:=g5.then g6
 rw [z5] at x0 x1
 exact ⟨w4.heap.size+1,w4.heap.size,rb,rfl,x0,x1,by omega,has_new ps hn hm (hp.keep g56) (hr.keep g56) (g6.cellv s0 (by simp)) (g6.cellv s1 (by simp)) hsz (hR _ (Nat.le_refl _)) (hC _ (Nat.le_refl _)) (hD _ (Nat.le_refl _)) (by omega) (hR _ (by omega)) (hC _ (by omega)) (hD _ (by omega)) (by omega)⟩
set_option maxHeartbeats 1000000 in
theorem made_bench (ps:List Nat) (n m:Nat) (hn:2≤n∧n < 1000) (hm:1≤m∧m≤1000) (w:World):Calls Tryz.prog 9 #[.int .i64 (n:Int),.int .i64 (m:Int)] w (MadeOut w ps n):=by
 have cD:=dnew_yes n (by omega) (by omega) w
 have hk:=hmk n hn.2
 go_enter Tryz.func9,Tryz.ntmps9
 go_wp2_with fail
 refine cD.mono ?_
 rintro e w1 ⟨db,g,rfl,hd,g1⟩
 have hl:((List.replicate n (Value.int .u8 0)).set 0 (.int .u8 1)).set 1 (.int .u8 1)=bts (cnt0 n):=by
  unfold cnt0
  rw [show (Value.int .u8 1)=.int .u8 (v8 1) from rfl,← bts_rep,bts_set,bts_set]
 have hd0:(0:Int) < (n:Int):=by omega
 have hd1:(1:Int) < (n:Int):=by omega
 have hm2:(((madeCells #[.int .u8 0] n).setIfInBounds 0 (.int .u8 1)).setIfInBounds 1 (.int .u8 1)).toList=bts (cnt0 n):=by
  rw [Array.toList_setIfInBounds,Array.toList_setIfInBounds,toList_madeCells_one,hl]
 have hrm:=lit_room w1 w1.heap.size (Nat.le_refl _) _ 5 _ n hm2 (by rw [bts_length,cnt0_len]) (by unfold maxLen;omega)
 have G2:=Chg.alloc [] w1 (.cells (((madeCells #[.int .u8 0] n).setIfInBounds 0 (.int .u8 1)).setIfInBounds 1 (.int .u8 1)) 5)
 have cR:=rnew_in (some ⟨w1.heap.size,0,none⟩) n n (cnt0 n) _ hrm.reads (cnt0_len n) (by omega) (by omega)
 have hk1:=hk w1
 have hrz:=made_room w1 5 (.int .u8 0) n (by unfold maxLen;omega)
 have f0:(w1.alloc (.cells (madeCells #[.int .u8 0] n) 5)).frozen? ⟨w1.heap.size,0,none⟩=false:=hrz.cell 0 (by omega)
 obtain ⟨bb,oo,eb,-,-,hcc⟩:=hrz.at_ (by omega)
 cases eb
 have c0:(w1.alloc (.cells (madeCells #[.int .u8 0] n) 5)).cell? ⟨w1.heap.size,0,none⟩=some (.int .u8 0):=hcc 0 _ (by rw [List.getElem?_replicate,if_pos (by omega)])
 have hm1:((madeCells #[.int .u8 0] n).setIfInBounds 0 (.int .u8 1)).toList=(List.replicate n (Value.int .u8 0)).set 0 (.int .u8 1):=by
  rw [Array.toList_setIfInBounds,toList_madeCells_one]
 have hr1:=lit_room w1 w1.heap.size (Nat.le_refl _) _ 5 _ n hm1 (by simp) (by unfold maxLen;omega)
 have f1:(w1.alloc (.cells ((madeCells #[.int .u8 0] n).setIfInBounds 0 (.int .u8 1)) 5)).frozen? ⟨w1.heap.size,1,none⟩=false:=hr1.cell 1 (by omega)
 obtain ⟨bb,oo,eb,-,-,hcc1⟩:=hr1.at_ (by omega)
 cases eb
 have c1:(w1.alloc (.cells ((madeCells #[.int .u8 0] n).setIfInBounds 0 (.int .u8 1)) 5)).cell? ⟨w1.heap.size,1,none⟩=some (.int .u8 0):=hcc1 1 _ (by rw [List.getElem?_set_ne (by omega),List.getElem?_replicate,if_pos (by omega)])
 clear hm1 hr1 hcc1
 clear hk hl hm2 hrm hrz hcc
 go_wp2_with fail
 clear c0 c1 f0 f1
 generalize w1.alloc (.cells (((madeCells #[.int .u8 0] n).setIfInBounds 0 (.int .u8 1)).setIfInBounds 1 (.int .u8 1)) 5)=w2 at *
 refine cR.mono ?_
 rintro e w3 ⟨rb,nb,c2,sp,Fs,rfl,hr,g3⟩
 have G3:=(g1.then G2).then g3
 have hd3:=(hd.keep G2).keep g3
 have cC:=cnew_yes m (by omega) w w3 (fun k => k∈rb :: nb :: c2 :: Fs) db g none 0 (RS.new n) hd3 G3 (new_whole n (by omega)) (fun k hk => ⟨fun hm => by have:=(hr.lt k hk).1;have h9:=((hd.keep G2).lt k hm).2;omega,(hr.lt k hk).2⟩)
 clear hk1
 go_wp2_with fail
 refine cC.mono ?_
 rintro e w4 ⟨cb,mb,rfl,hp,g4⟩
 have hr4:=hr.chg g4 (by simp)
 go_wp2_with fail
 refine (tnew_yes rb cb w4).mono ?_
 rintro e w5 ⟨rfl,rfl⟩
 have ho:=made_out ps (by omega) hm.1 hp (hr4.mono (g1.then G2).size)
 go_wp2_with fail
 go_ret
 exact ho
end
end Go.Proofs.YtdgkbicelnnfpaaGreatDoor
