/- Texts Ca, Cb, Cs, Cg, Q, Z, W of the library, joined. -/
import Derived.Test.YtdgkbicelnnfpaaGreatDoorM01
import Derived.Test.YtdgkbicelnnfpaaGreatDoorRows
import Derived.Deep.DeepCutAuto
import Derived.ProofKit
import Derived.OpenShut
import Derived.Lib.LaidTab
import Derived.WalkKit
import Derived.Deep.MidRow
import Derived.Lib.SliceRun
import Derived.Laws.IdiomCopy
set_option linter.unusedVariables false
set_option linter.unusedSimpArgs false
namespace Go.Proofs.YtdgkbicelnnfpaaGreatDoor
section
open Go.RowKit
def tabG:Nat:=0
def Tab (w:World):Prop:=∀ k:Nat,k < 32→w.cell? ⟨tabG,2 ^ k * 125613361 % 4294967296 / 134217728,none⟩=some (.int .u8 (k:Int))
theorem Tab.chg {S:List Nat} {w w':World} (h:Tab w) (g:Chg S w w') (hn:tabG ∉ S):Tab w':=fun k hk => g.cellv (h k hk) hn
theorem Tab.then {w w':World} (h:Tab w) (g:Chg [] w w'):Tab w':=h.chg g (by simp)
theorem tz_key (x a:Nat) (hx:x < 4294967296) (hx0:x ≠ 0) (hlow:x &&& (4294967296 - x)=a) :
  bits .and .u32 (x:Int) (-(x:Int) % 4294967296) * 125613361 % 4294967296 / 134217728=((a * 125613361 % 4294967296 / 134217728:Nat):Int):=by
 have e1 : -(x:Int) % 4294967296=((4294967296 - x:Nat):Int):=by omega
 rw [e1,u32_and_nat x _ hx (by omega),hlow]
 omega
set_option maxHeartbeats 1000000 in
theorem tz_core (X:Int) (k idx:Nat) (w:World) (hx0:(X == 0)=false) (key:bits .and .u32 X (-X % 4294967296) * 125613361 % 4294967296 / 134217728=(idx:Int))
  (hi:idx < 32) (hk:k < 32) (hcell:w.cell? ⟨0,idx,none⟩=some (.int .u8 k)) :
  Calls Tryz.prog 193 #[.int .u32 X] w fun e w' => e=.returned (.int .i64 k)∧w=w':=by
 go_enter Tryz.func193,Tryz.ntmps193
 go_wp2_with (simp only [key])
 go_ret
 exact ⟨rfl,rfl⟩
theorem tz_any (x:BitVec 32) (w:World) (hT:Tab w) (h:x ≠ 0#32) (i:Nat) (hi:i=Lib.ctz 32 x.toNat) :
  Calls Tryz.prog 193 #[.int .u32 (v32 x)] w fun e w' => e=.returned (.int .i64 i)∧w=w':=by
 have hx0:x.toNat ≠ 0:=fun e => h (BitVec.eq_of_toNat_eq (by simpa using e))
 obtain ⟨hlow,hk⟩:=Lib.lowest_bit 32 x.toNat hx0 x.isLt
 rw [← hi] at hlow hk
 exact tz_core (v32 x) i _ w (by unfold v32;simp;omega) (tz_key x.toNat _ x.isLt hx0 hlow) (by omega) hk (hT i hk)
theorem bit_odd (x:BitVec 32) (h:x.getLsbD 0=true):bits .xor .u32 (v32 x / 2) 2197175160=v32 (bit x):=by
 have e:(2197175160:Int)=v32 pol:=by decide +kernel
 rw [half32,e,x32]
 unfold bit
 rw [h];rfl
theorem bit_even (x:BitVec 32) (h:x.getLsbD 0=false):v32 x / 2=v32 (bit x):=by
 rw [half32]
 unfold bit
 rw [h];simp
theorem ret_u32 {a b:Int} (h:a=b):Ending.returned (Value.int .u32 a)=.returned (.int .u32 b):=by rw [h]
theorem shifted_any (x:BitVec 32) (w:World):Calls Tryz.prog 192 #[.int .u32 (v32 x)] w fun e w' => e=.returned (.int .u32 (v32 (bit x)))∧w=w':=by
 have h1:=and1 x
 cases hb:x.getLsbD 0
 ·rw [hb] at h1
  simp only [Bool.false_eq_true,if_false] at h1
  go_enter Tryz.func192,Tryz.ntmps192
  go_wp2
  go_ret
  exact ⟨ret_u32 (bit_even x hb),rfl⟩
 ·rw [hb] at h1
  simp only [if_true] at h1
  go_enter Tryz.func192,Tryz.ntmps192
  go_wp2
  go_ret
  exact ⟨ret_u32 (bit_odd x hb),rfl⟩
end
section
set_option maxRecDepth 200000
open Go.RowKit
theorem arrT:ArrT Tryz.prog 251 214:=⟨Tryz.underlying251,by kernel_rfl⟩
theorem of_any (f:BitVec 32→BitVec 32) (hf:Lin f) (g:Nat→BitVec 32) (hg:∀ j,j < 32→g j=f (tp j)) (x:BitVec 32) (w:World) (hT:Tab w) :
  Calls Tryz.prog 185 #[.agg (arr g),.int .u32 (v32 x)] w fun e w' => e=.returned (.int .u32 (v32 (f x)))∧Chg [] w w':=by
 have Hg:=mkHid hg
 clear hg
 go_enter Tryz.func185,Tryz.ntmps185
 go_wp2_with (refine wpList_box_arr rfl 251 (.tmp 0) rfl g rfl ?_;intro w1 hr1 hg1 hs1)
 have hT1:=hT.then hg1
 have hlt:=hr1.lt
 generalize hb:w.heap.size=b at *
 go_loopw [1,5] (fun n o wr => ∃ (N O:BitVec 32),n=.int .u32 (v32 N)∧o=.int .u32 (v32 O)∧wr=w1∧O ^^^ f N=f x) (fun n _ _ => (Go.RowKit.intOf n).toNat)
 case atStart => exact ⟨x,0#32,rfl,rfl,rfl,by rw [BitVec.zero_xor]⟩
 case round =>
  obtain ⟨N,O,rfl,rfl,rfl,hN⟩:=hrel
  by_cases h0:N=0#32
  ·subst h0
   rw [hf.zero,BitVec.xor_zero] at hN
   subst hN
   go_wp2_with fail
   go_ret
   exact ⟨rfl,hg1⟩
  ·obtain ⟨i,hi,hi32,hand,hlow⟩:=low_bit N h0
   have hne:(v32 N != 0)=true:=by
    simp
    intro e
    exact h0 (v32_inj.1 (by rw [e];rfl))
   have hc:=hr1.cell i hi32
   have Hi:=mkHid hi
   have h1:=x32 O (g i)
   have h2:=sub32 N
   have h3:=a32 N (N - 1#32)
   have Hand:=mkHid hand
   clear hi hand
   go_wp2_with (first | (go_at_call 193;refine (tz_any N _ hT1 h0 i Hi.out).mono ?_;rintro e w' ⟨rfl,rfl⟩))
   go_roundw
   case rel =>
    refine ⟨N ^^^ tp i,O ^^^ g i,by rw [← Hand.out],rfl,by first | rfl | trivial,?_⟩
    rw [hf.xor,Hg.out i hi32,← hN]
    rw [BitVec.xor_assoc,← BitVec.xor_assoc (f (tp i)),BitVec.xor_comm (f (tp i)) (f N),BitVec.xor_assoc,BitVec.xor_self,BitVec.xor_zero]
   case measure =>
    rw [Hand.out]
    simpa [Go.RowKit.intOf,v32] using hlow
theorem it_succ (n:Nat) (x:BitVec 32):it (n+1) x=bit (it n x):=by rw [Nat.add_comm];exact it_add 1 n x
theorem tp_val (k:Nat) (h:k < 32):(2:Int) ^ k % 4294967296=v32 (tp k):=by
 unfold v32 tp
 rw [BitVec.toNat_twoPow]
 exact Int.natCast_emod (2 ^ k) 4294967296 |>.symm ▸ by simp
theorem byteStep_any (w:World):Calls Tryz.prog 184 #[] w fun e w' => e=.returned (.agg (arr fun j => it 8 (tp j)))∧Chg [] w w':=by
 go_enter Tryz.func184,Tryz.ntmps184
 go_wp2_with (first | (refine wpList_alloc_arr (o:=⟨some 0,_,_,_,_,_⟩) rfl 251 214 rfl arrT ?_;intro w1 hr1 hg1 hs1) | (refine wpList_alloc_arr (o:=⟨some 1,_,_,_,_,_⟩) rfl 251 214 rfl arrT ?_;intro w2 hr2 hg2 hs2))
 generalize hb:w.heap.size=b at *
 have hb2:b ≠ b+1:=by omega
 rw [hs1] at hr2
 generalize hc:b+1=c at *
 have hr1':=hr1.chg hg2 (by simp)
 go_loopw [2,3,4] (fun _ _ i wr => ∃ (k:Nat) (g:Nat→BitVec 32),i=.int .i64 k∧k≤32∧Row wr b 251 (fun _ => 0#32)∧Row wr c 251 g∧Chg [c] w2 wr∧∀ j,j < k→g j=it 8 (tp j)) (fun _ _ i _ => 32 - (Go.RowKit.intOf i).toNat)
 case atStart => exact ⟨0,_,rfl,by omega,hr1',hr2,Chg.refl _ _,fun j hj => absurd hj (by omega)⟩
 case round =>
  obtain ⟨k,g,rfl,hk,ha,hcr,hg3,Hj⟩:=hrel
  by_cases hlt:k < 32
  ·have hp:=tp_val k hlt
   have hfz:=hcr.frozen k
   have hcl:=hcr.cell k hlt
   go_wp2_with fail
   have hd:decide ((k:Int) < 32)=true:=by simp;omega
   simp only [hp,hd]
   go_loopw [3,9] (fun n i wx => ∃ j:Nat,n=.int .u32 (v32 (it j (tp k)))∧i=.int .i64 j∧j≤8∧wr=wx) (fun _ i _ => 8 - (Go.RowKit.intOf i).toNat)
   case atStart => exact ⟨0,rfl,rfl,by omega,rfl⟩
   case round =>
    obtain ⟨j,rfl,rfl,hj,rfl⟩:=hrel
    by_cases hl8:j < 8
    ·have hs:=it_succ j (tp k)
     have Hs:=mkHid hs
     clear hs
     go_wp2_with (first | (go_at_call 192;refine (shifted_any _ _).mono ?_;rintro e w' ⟨rfl,rfl⟩))
     go_roundw
     case rel => exact ⟨j+1,by rw [Hs.out],by go_num,by omega,by first | rfl | trivial⟩
     case measure => simp [Go.RowKit.intOf];omega
    ·have:j=8:=by omega
     subst this
     go_wp2_with fail
     go_roundw
     case rel =>
      refine ⟨k+1,upd g k (it 8 (tp k)),by go_num,by omega,ha.chg (Chg.setCell _ _ _) (by simpa using hb2),hcr.set k _ hlt,hg3.trans (Chg.setCell _ _ _) (fun _ h _ => h) (fun _ h _ => h),fun j hj => ?_⟩
      unfold upd
      by_cases he:j=k
      ·rw [if_pos he,he]
      ·rw [if_neg he,Hj j (by omega)]
     case measure => simp [Go.RowKit.intOf];omega
  ·have:k=32:=by omega
   subst this
   go_wp2_with (first | (refine wpList_load_arr rfl 251 214 (.tmp 1) rfl arrT c g hcr rfl ?_) | (refine wpList_store_arr rfl 251 214 (.tmp 0) (.tmp 18) rfl arrT b _ g ha rfl rfl ?_;intro w5 hr5 hg5))
   refine bodyPost_ret (v:=.agg (arr g)) (results_cell_row rfl _ _ b 251 _ _ _ rfl hr5 Tryz.underlying251 rfl (arrT.size g)) rfl ?_
   refine ⟨by rw [arr_congr (g:=g) (h:=fun j => it 8 (tp j)) Hj],?_⟩
   exact ((hg1.then hg2).trans hg3 (fun _ h _ => h) (by simp;omega)).trans hg5 (fun _ h _ => h) (by simp;omega)
end
section
open Go.RowKit
theorem raw_succ (s:BitVec 32) (l:List UInt8) (k:Nat) (h:k < l.length):raw s (l.take (k+1))=stp (raw s (l.take k)) l[k]:=by
 rw [List.take_succ_eq_append_getElem h,raw_append]
 rfl
theorem more_any (S:BitVec 32) (s:Int) (hs:s=v32 S) (ao:Option Addr) (n c:Nat) (l:List UInt8) (w:World) (hT:Tab w) (g:Reads w ao (bts l)) (gn:l.length=n) (hn:n≤maxLen) :
  Calls Tryz.prog 167 #[.int .u32 s,.slice ao n c] w fun e w' => e=.returned (.int .u32 (v32 (more S l)))∧Chg [] w w':=by
 subst hs
 unfold maxLen at hn
 go_enter Tryz.func167,Tryz.ntmps167
 go_wp2_with (first | (go_at_call 184;refine (byteStep_any _).mono ?_;rintro e w1 ⟨rfl,hg1⟩) | (refine wpList_alloc_arr rfl 251 214 rfl arrT ?_;intro w2 hr2 hg2 hs2;have hlt2:=hr2.lt) | (refine wpList_store_arr rfl 251 214 (.tmp 5) (.tmp 9) rfl arrT _ _ _ hr2 rfl rfl ?_;intro w3 hr3 hg3))
 have hpos:tabG < w1.heap.size:=block_lt_of_cell ((hT.then hg1) 0 (by decide))
 have hT3:=((hT.then hg1).then hg2).chg hg3 (by simp;omega)
 have hc3:Chg [] w w3:=(hg1.then hg2).trans hg3 (fun _ h _ => h) (by have:=hg1.size;simp;omega)
 have hnew:w.heap.size≤w1.heap.size:=hg1.size
 generalize hb:w1.heap.size=b at *
 simp only [n32m]
 clear hs2 hlt2 hr2 hg2 hg3 hg1
 go_loopw [6,8,14] (fun v _ i wr => ∃ (k:Nat),i=.int .i64 k∧k≤n∧v=.int .u32 (v32 (raw (~~~ S) (l.take k)))∧Row wr b 251 (fun j => it 8 (tp j))∧Tab wr∧Chg [] w wr) (fun _ _ i _ => n - (Go.RowKit.intOf i).toNat)
 case atStart => exact ⟨0,rfl,by omega,rfl,hr3,hT3,hc3⟩
 case round =>
  obtain ⟨k,rfl,hk,rfl,hr,ht,hc⟩:=hrel
  by_cases hlt:k < n
  ·obtain ⟨b1,o1,rfl,hcell⟩:=(g.keep hc) (by rw [bts_length];omega)
   have hck:=hcell k _ (bts_get l k (by omega))
   clear hcell
   obtain ⟨x,hx⟩:∃ x,x=l[k]'(by omega):=⟨_,rfl⟩
   rw [← hx,conv32] at hck
   obtain ⟨R,hR⟩:∃ R,R=raw (~~~ S) (l.take k):=⟨_,rfl⟩
   rw [← hR]
   have hstep:=raw_succ (~~~ S) l k (by omega)
   rw [← hx,← hR] at hstep
   have Hstep:=mkHid hstep
   clear hstep hx hR
   obtain ⟨X,hX⟩:∃ X,X=BitVec.ofNat 32 x.toNat:=⟨_,rfl⟩
   rw [← hX] at hck
   have h1:=x32 R X
   have h2:=and255 (R ^^^ X)
   have h3:=shr32 (R ^^^ X) 8 256 rfl
   have h4:=x32 ((R ^^^ X) >>> 8) (it 8 ((R ^^^ X) &&& 255#32))
   have hv:=mod32 X
   have HX:=mkHid hX
   clear hX
   go_wp2_with (first | (refine wpList_load_arr rfl 251 214 (.tmp 5) rfl arrT b _ hr rfl ?_) | (go_at_call 185;refine (of_any (it 8) (Lin.it 8) _ (fun _ _ => rfl) ((R ^^^ X) &&& 255#32) _ ht).mono ?_;rintro e w4 ⟨rfl,hc4⟩;have hr4:=hr.chg hc4 (by simp)))
   refine ⟨⟨k+1,by go_num,by omega,?_,hr4,ht.then hc4,hc.then hc4⟩,by simp [Go.RowKit.intOf];omega⟩
   rw [Hstep.out,← it_byte,HX.out]
   rfl
  ·have:k=n:=by omega
   subst this
   rw [List.take_of_length_le (by omega)]
   go_wp2_with fail
   go_ret
   exact ⟨ret_u32 (n32m _),hc⟩
theorem sum_any (ao:Option Addr) (n c:Nat) (l:List UInt8) (w:World) (hT:Tab w) (g:Reads w ao (bts l)) (gn:l.length=n) (hn:n≤maxLen) :
  Calls Tryz.prog 136 #[.slice ao n c] w fun e w' => e=.returned (.int .u32 (v32 (csum l)))∧Chg [] w w':=by
 go_enter Tryz.func136,Tryz.ntmps136
 go_wp2_with (first | (go_at_call 167;refine (more_any 0#32 0 rfl ao n c l w hT g gn hn).mono ?_;rintro e w1 ⟨rfl,hg1⟩))
 go_ret
 exact ⟨rfl,hg1⟩
end
section
open Go.ChangeShapes Go.WideShapes Go.ChangeAt Go.RowKit
theorem gTabType:(Tryz.prog.globals[0]?).map (·.type)=some 261:=by kernel_rfl
def tabInts:List Int:=[0,1,28,2,29,14,24,3,30,22,20,15,25,17,4,8,31,27,13,23,21,19,16,7,26,12,18,6,11,5,10,9]
theorem tab_ints:∀ k:Nat,k < 32→2 ^ k * 125613361 % 4294967296 / 134217728 < 32∧tabInts.getD (2 ^ k * 125613361 % 4294967296 / 134217728) 0=(k:Int):=by decide +kernel
theorem tab_of {name:String} {W:World} (gTab:Tryz.prog.globalNamed name=some 0) (h:laidMetH Tryz.prog [(name,Rows.laid_math_bits_deBruijn32tab)] W):Tab W:=by
 have h2:laidMet Tryz.prog [(name,Lib.tabData .u8 tabInts)] W:=h
 have hT:=Lib.tabIs_of_head (rest:=[]) gTab gTabType Tryz.underlying261 Tryz.underlying5 (by kernel_rfl) (by kernel_rfl) h2
 intro k hk
 obtain ⟨h1,h2⟩:=tab_ints k hk
 have:=hT.cell gTab _ h1
 rw [h2] at this
 exact this
end
section
structure RS where
 S:List (List UInt8)
 L:List (Nat × List UInt8)
 left:Nat
 gone:Bool
 count:Nat
def Whole (st:RS):Prop:=st.S.length=4 * st.count∧st.count≤1024
def whyN (st:RS) (at_:Int):Int:=if st.gone then 9 else if at_ < 0 ∨ (st.count:Int)≤at_ then 6 else 0
def burn (st:RS):Bool × RS:=if st.left=0 then (false,st) else if st.left=1 then (true,{ st with left:=0,gone:=true }) else (false,{ st with left:=st.left - 1 })
def secOf (b:List UInt8) (k:Nat):List UInt8:=(b.drop (64 * k)).take 64
def flies (at_:Nat) (b:List UInt8) (n:Nat):List (Nat × List UInt8):=(List.range n).map fun k => (4 * at_+k,secOf b k)
theorem flies_succ (at_:Nat) (b:List UInt8) (n:Nat):flies at_ b (n+1)=flies at_ b n++[(4 * at_+n,secOf b n)]:=by
 simp [flies,List.range_succ]
def write (st:RS) (at_:Int) (b:List UInt8):Int × RS:=
 if whyN st at_ ≠ 0 then (whyN st at_,st) else if b.length ≠ 256 then (1,st) else if (burn st).1 then (9,(burn st).2)
 else (0,{ (burn st).2 with L:=(burn st).2.L++flies at_.toNat b 4 })
def lastOf (k:Nat) (b:List UInt8) (L:List (Nat × List UInt8)):List UInt8:=L.foldl (fun b f => if f.1=k then f.2 else b) b
def cur (st:RS) (k:Nat):List UInt8:=lastOf k (st.S.getD k []) st.L
def reads (st:RS) (at_ n:Nat):List UInt8:=(List.range n).flatMap fun j => cur st (4 * at_+j)
theorem reads_succ (st:RS) (at_ n:Nat):reads st at_ (n+1)=reads st at_ n++cur st (4 * at_+n):=by simp [reads,List.range_succ]
end
section
open Go.RowKit
structure RoomZ (z:Nat) (w:World) (B:Nat) (ao:Option Addr) (n c:Nat) (xs:List Value):Prop where
 len:xs.length=n * z
 le:n≤c
 max:c≤maxLen
 at_:0 < c→∃ b o,ao=some ⟨b,o,none⟩∧B≤b∧b < w.heap.size∧(∀ j,j < c * z→(w.cell? ⟨b,o+j,none⟩).isSome=true∧w.frozen? ⟨b,o+j,none⟩=false)∧∀ j u,xs[j]?=some u→w.cell? ⟨b,o+j,none⟩=some u
theorem RoomZ.nil (z:Nat) (w:World) (B:Nat) (ao:Option Addr):RoomZ z w B ao 0 0 []:=⟨by simp,Nat.le_refl _,Nat.zero_le _,fun h => absurd h (Nat.lt_irrefl 0)⟩
theorem RoomZ.lt {z:Nat} {w:World} {B:Nat} {ao:Option Addr} {n c:Nat} {xs:List Value} (h:RoomZ z w B ao n c xs):∀ k,k∈fp ao c→B≤k∧k < w.heap.size:=by
 intro k hk
 have hc:0 < c:=by
  rcases Nat.eq_zero_or_pos c with h0 | h0
  ·subst h0;simp [fp_zero] at hk
  ·exact h0
 unfold fp at hk
 rw [if_neg (by omega)] at hk
 obtain ⟨b,o,rfl,hB,hs,_⟩:=h.at_ hc
 simp [blk] at hk
 subst hk
 exact ⟨hB,hs⟩
theorem RoomZ.reads {z:Nat} {w:World} {B:Nat} {ao:Option Addr} {n c:Nat} {xs:List Value} (h:RoomZ z w B ao n c xs):Reads w ao xs:=by
 intro hx
 have hc:0 < c:=by
  rcases Nat.eq_zero_or_pos c with h0 | h0
  ·have:=h.le
   have h1:=h.len
   have:n=0:=by omega
   subst this
   omega
  ·exact h0
 obtain ⟨b,o,e,_,_,_,hv⟩:=h.at_ hc
 exact ⟨b,o,e,hv⟩
theorem RoomZ.chg {z:Nat} {S:List Nat} {w w':World} {B:Nat} {ao:Option Addr} {n c:Nat} {xs:List Value} (h:RoomZ z w B ao n c xs) (g:Chg S w w') (hn:∀ k,k∈fp ao c→k ∉ S):RoomZ z w' B ao n c xs:=by
 refine ⟨h.len,h.le,h.max,fun hc => ?_⟩
 obtain ⟨b,o,rfl,hB,hlt,hs,hv⟩:=h.at_ hc
 have hb:b ∉ S:=hn b (by rw [fp_some _ _ _ hc];simp)
 refine ⟨b,o,rfl,hB,Nat.lt_of_lt_of_le hlt g.size,fun j hj => ?_,fun j u hu => g.cellv (hv j u hu) hb⟩
 obtain ⟨u,hu⟩:=Option.isSome_iff_exists.1 (hs j hj).1
 exact ⟨by rw [g.cellv hu hb];rfl,by rw [g.frozen (block_lt_of_cell hu) hb];exact (hs j hj).2⟩
theorem RoomZ.of_owns {z:Nat} {w:World} {B:Nat} {e:TypeId} {ao:Option Addr} {n c:Nat} {xs:List Value} (h:w.ownsRow B e z (.slice ao n c) n xs):RoomZ z w B ao n c xs:=by
 obtain ⟨hl,h⟩:=h
 rcases h with ⟨hv,hn⟩ | ⟨g,cap,cur,hv,hb,hh,hc,hm,hs,ht⟩
 ·cases hv
  exact ⟨by simpa using hl,Nat.le_refl _,Nat.zero_le _,fun h => absurd h (Nat.lt_irrefl 0)⟩
 ·cases hv
  have hlt:g < w.heap.size:=by
   rcases Nat.lt_or_ge g w.heap.size with h1 | h1
   ·exact h1
   ·rw [Array.getElem?_eq_none h1] at hh;cases hh
  refine ⟨by simpa using hl,hc,hm,fun _ => ⟨g,0,rfl,hb,hlt,fun j hj => ?_,fun j u hu => ?_⟩⟩
  ·have:j < cur.size:=by omega
   exact ⟨by rw [cell_of_row w g _ cur e _ hh];simp [this],frozen_of_row w g _ cur e hh⟩
  ·rw [cell_of_row w g _ cur e _ hh]
   rw [← ht,List.getElem?_take] at hu
   split at hu
   ·simpa using hu
   ·cases hu
def EltZ (P:Program) (t e:TypeId) (z bytes:Nat):Prop:=
 P.underlying t=some (.slice e)∧∃ i v,P.info? e=some i∧i.zero=some v∧i.size=z∧i.bytes=bytes∧v.cells.size=z
theorem EltZ.mk {P:Program} {t e:TypeId} {v:Value} {z bytes:Nat} (ht:P.underlying t=some (.slice e)) (h:(P.info? e).map (fun i => (i.zero,i.size,i.bytes))=some (some v,z,bytes)) (hz:v.cells.size=z):EltZ P t e z bytes:=
 let ⟨i,h1,h2,h3,h4⟩:=info_parts h
 ⟨ht,i,v,h1,h2,h3,h4,hz⟩
section
variable {P:Program} (w:World)
theorem run_append_z (t ty e:TypeId) (z bytes:Nat) (hz0:0 < z) (helt:EltZ P t e z bytes)
  (B:Nat) (ao:Option Addr) (n c:Nat) (xs:List Value) (h:RoomZ z w B ao n c xs) (hB:B≤w.heap.size)
  (ax:Option Addr) (m cx:Nat) (news:List Value) (hx:Reads w ax news) (hm:news.length=m * z) (hone:∀ u∈news,u.oneCell'=true)
  (h63:n+m≤maxLen) (hbytes:(n+m) * bytes≤140737488355328) :
  ∃ ao' c' w',(Builtin.append_ #[t,t] ty #[.slice ao n c,.slice ax m cx]).run P w=.ok (.slice ao' (n+m) c') w'∧RoomZ z w' B ao' (n+m) c' (xs++news)∧Chg (fp ao c) w w'∧(fp ao' c'=fp ao c ∨ fp ao' c'=[w.heap.size]):=by
 obtain ⟨ht,i,v,hi,hz,hsize,hby,hzs⟩:=helt
 subst hby
 have hlen:(xs++news).length=(n+m) * z:=by rw [List.length_append,h.len,hm,Nat.add_mul]
 have hml:maxLen=9223372036854775807:=rfl
 have hf:∀ w0:World,w0.heap=w.heap→(Builtin.firstCells i.size m (.slice ax m cx)).run P w0=.ok news.toArray w0:=by
  intro w0 hw0
  cases ax with
  | none =>
   have:news=[]:=by
    cases hn:news with
    | nil => rfl
    | cons u r => obtain ⟨b,o,e,_⟩:=hx (by rw [hn];simp);cases e
   subst this
   rw [run_firstCells_none]
  | some ad =>
   refine run_firstCells_some (P:=P) w0 i.size m ad m cx news (by simp [hsize,hm]) (fun j u hu => ?_)
   have:=hx.addr ad rfl j u hu
   simpa [World.cell?,hw0] using this
 by_cases hroom:n+m≤c
 ·by_cases hc:c=0
  ·subst hc
   have hn0:n=0:=by omega
   have hm0:m=0:=by omega
   subst hn0 hm0
   have hx0:xs=[]:=List.eq_nil_of_length_eq_zero (by rw [h.len,Nat.zero_mul])
   have hnn:news=[]:=List.eq_nil_of_length_eq_zero (by rw [hm,Nat.zero_mul])
   subst hx0 hnn
   refine ⟨ao,0,w,?_,h,Chg.refl _ _,Or.inl rfl⟩
   have:=hf w rfl
   cases ao <;> simp [Builtin.append_,run_underlying ht,sizeOf,typeInfo,hi,Builtin.lenOf,this,storeCells]
  ·obtain ⟨b,o,rfl,hBb,hlt,hs,hv⟩:=h.at_ (by omega)
   have hnm:(n+m) * z≤c * z:=Nat.mul_le_mul_right z hroom
   have hcell:∀ j,j < news.length→(w.cell? ⟨b,o+n * i.size+0+j,none⟩).isSome=true:=fun j hj => by
    have:=(hs (n * z+j) (by rw [Nat.add_mul] at hnm;omega)).1
    rwa [hsize,Nat.add_zero,Nat.add_assoc]
   have hfr:∀ j,j < news.length→w.frozen? ⟨b,o+n * i.size+0+j,none⟩=false:=fun j hj => by
    have:=(hs (n * z+j) (by rw [Nat.add_mul] at hnm;omega)).2
    rwa [hsize,Nat.add_zero,Nat.add_assoc]
   have hst:=run_storeCells_cells (P:=P) b (o+n * i.size) news 0 w hcell hfr hone
   refine ⟨some ⟨b,o,none⟩,c,w.setCells b (o+n * z) news,?_,⟨hlen,hroom,h.max,fun _ => ⟨b,o,rfl,hBb,Nat.lt_of_lt_of_le hlt (Chg.setCells b news (o+n * z) w).size,fun j hj => ?_,fun j u hu => ?_⟩⟩,by rw [fp_some _ _ _ (by omega)];exact Chg.setCells b news (o+n * z) w,Or.inl rfl⟩
   ·simp only [Nat.add_zero] at hst
    have:=hf w rfl
    simp [Builtin.append_,run_underlying ht,sizeOf,typeInfo,hi,Builtin.lenOf,hroom,this,Addr.add_lit,hst]
    simp [hsize]
   ·obtain ⟨h1,h2⟩:=hs j hj
    refine ⟨?_,by rw [World.frozen?_setCells];exact h2⟩
    by_cases hin:n * z≤j∧j < n * z+news.length
    ·have:=World.cell?_setCells_in b news (o+n * z) w (fun k hk => by rw [Nat.add_assoc];exact (hs (n * z+k) (by rw [Nat.add_mul] at hnm;omega)).1) (j - n * z) (by omega)
     rw [show o+n * z+(j - n * z)=o+j by omega] at this
     rw [this];rfl
    ·rw [World.cell?_setCells_out b news (o+n * z) w _ (fun _ _ => by simp;omega)]
     exact h1
   ·by_cases hj:j < n * z
    ·rw [List.getElem?_append_left (by rw [h.len];exact hj)] at hu
     rw [World.cell?_setCells_out b news (o+n * z) w _ (fun _ _ => by simp;omega)]
     exact hv j u hu
    ·rw [List.getElem?_append_right (by rw [h.len];omega),h.len] at hu
     have hjn:j - n * z < news.length:=(List.getElem?_eq_some_iff.1 hu).1
     have:=World.cell?_setCells_in b news (o+n * z) w (fun k hk => by rw [Nat.add_assoc];exact (hs (n * z+k) (by rw [Nat.add_mul] at hnm;omega)).1) (j - n * z) hjn
     rw [show o+n * z+(j - n * z)=o+j by omega] at this
     rw [this]
     rw [List.getElem?_eq_getElem hjn] at hu
     exact hu
 ·have hfo:(Builtin.firstCells i.size n (.slice ao n c)).run P w.drew=.ok xs.toArray w.drew:=by
   cases ao with
   | none =>
    have hc:c=0:=by
     rcases Nat.eq_zero_or_pos c with h0 | h0
     ·exact h0
     ·obtain ⟨b,o,e,_⟩:=h.at_ h0;cases e
    have hn0:n=0:=by have:=h.le;omega
    subst hn0
    have:xs=[]:=List.eq_nil_of_length_eq_zero (by rw [h.len,Nat.zero_mul])
    subst this
    rw [run_firstCells_none]
   | some ad =>
    exact run_firstCells_some (P:=P) w.drew i.size n ad n c xs (by simp [hsize,h.len]) (fun j u hu => by simpa using h.reads.addr ad rfl j u hu)
  have hfn:=hf w.drew rfl
  have hge:=grownCap_ge w (n+m) c e
  have hcm:=grownCap_le_maxLen w (n+m) c e h63
  have h63':¬ (9223372036854775807 < ((n:Int)+(m:Int))):=by omega
  have h48':¬ (281474976710656 < Builtin.nextslicecap (n+m) c * i.bytes):=by have:=growslice_fits (old:=c) (need:=n+m) (by omega) hbytes;omega
  refine ⟨some ⟨w.heap.size,0,none⟩,grownCap w (n+m) c e,w.drew.alloc (.cells (xs.toArray++news.toArray++Builtin.zeroCells v.cells (grownCap w (n+m) c e - (n+m))) e),?_,?_,⟨rfl,rfl,rfl,by simp,fun k hk _ => Below.heap_alloc w.drew _ k hk⟩,Or.inr (fp_some _ _ _ (by omega))⟩
  ·simp [Builtin.append_,run_underlying ht,sizeOf,typeInfo,zeroValue,hi,hz,Builtin.lenOf,hroom,h63',h48',Question.forced,hfn,hfo,newRow,grownCap]
   congr 2
   apply Array.ext'
   simp [List.append_assoc]
  ·refine RoomZ.of_owns (e:=e) ⟨by rw [hlen],.inr ⟨w.heap.size,_,_,rfl,hB,heap_alloc_new w.drew _,hge,hcm,?_,?_⟩⟩
   ·simp only [Array.size_append,List.size_toArray,size_zeroCells,hzs,h.len,hm]
    rw [← Nat.add_mul,← Nat.add_mul]
    congr 1
    omega
   ·simp only [Array.toList_append,List.append_assoc]
    rw [← List.append_assoc,← hlen]
    exact List.take_left
end
end
section
open Go.RowKit
def Blk (w:World) (b:Nat) (t:TypeId) (cs:List Value):Prop:=w.heap[b]?=some (.cells cs.toArray t (0,0))
theorem Blk.lt {w:World} {b:Nat} {t:TypeId} {cs:List Value} (h:Blk w b t cs):b < w.heap.size:=by
 rcases Nat.lt_or_ge b w.heap.size with h1 | h1
 ·exact h1
 ·unfold Blk at h
  rw [Array.getElem?_eq_none h1] at h
  cases h
theorem Blk.chg {S:List Nat} {w w':World} {b:Nat} {t:TypeId} {cs:List Value} (h:Blk w b t cs) (c:Chg S w w') (hn:b ∉ S):Blk w' b t cs:=by
 unfold Blk
 rw [c.block b h.lt hn]
 exact h
theorem Blk.keep {w w':World} {b:Nat} {t:TypeId} {cs:List Value} (h:Blk w b t cs) (c:Chg [] w w'):Blk w' b t cs:=h.chg c (by simp)
theorem Blk.cell {w:World} {b:Nat} {t:TypeId} {cs:List Value} (h:Blk w b t cs) (j:Nat) (u:Value) (hj:cs[j]?=some u):w.cell? ⟨b,j,none⟩=some u:=by
 rw [cell_of_row w b j _ t _ h]
 simpa using hj
theorem Blk.frozen {w:World} {b:Nat} {t:TypeId} {cs:List Value} (h:Blk w b t cs) (j:Nat):w.frozen? ⟨b,j,none⟩=false:=frozen_of_row w b j _ t h
theorem Blk.range {w:World} {b:Nat} {t:TypeId} {cs:List Value} (h:Blk w b t cs):w.rangeAt b 0 cs:=fun j v hv => by rw [Nat.zero_add];exact h.cell j v hv
theorem Blk.there {w:World} {b:Nat} {t:TypeId} {cs:List Value} (h:Blk w b t cs) (o n:Nat) (hn:o+n≤cs.length):w.there b o n:=fun j hj =>
 ⟨by rw [h.cell (o+j) cs[o+j] (by simp)];rfl,h.frozen _⟩
theorem Blk.set1 {w:World} {b:Nat} {t:TypeId} {cs:List Value} (h:Blk w b t cs) (i:Nat) (v:Value):Blk (w.setCell ⟨b,i,none⟩ v) b t (cs.set i v):=by
 unfold Blk
 rw [setCell_eq_setRow w b i _ t (0,0) _ h]
 rw [setRow_heap w b _ _ t (0,0) h]
 simp
theorem Blk.sets {b:Nat} {t:TypeId}:∀ (vs:List Value) (o:Nat) (w:World) (cs:List Value),Blk w b t cs→o+vs.length≤cs.length→Blk (w.setCells b o vs) b t (cs.take o++(vs++cs.drop (o+vs.length)))
 | [],o,w,cs,h,_ => by simpa [World.setCells] using h
 | v :: r,o,w,cs,h,hl => by
  simp at hl
  have ih:=Blk.sets r (o+1) _ _ (h.set1 o v) (by simp;omega)
  have e:(cs.set o v).take (o+1)++(r++(cs.set o v).drop (o+1+r.length))=cs.take o++(v :: r++cs.drop (o+(v :: r).length)):=by
   rw [List.take_set,List.drop_set_of_lt (by omega),List.take_succ_eq_append_getElem (by omega),List.set_append_right _ _ (by simp [Nat.min_le_left])]
   simp
   rw [show min o cs.length=o by omega,Nat.sub_self]
   simp
   congr 1;omega
  rw [e] at ih
  exact ih
theorem size_setCells (b:Nat):∀ (vs:List Value) (o:Nat) (w:World),(w.setCells b o vs).heap.size=w.heap.size
 | [],_,_ => rfl
 | v :: r,o,w => by
  have:=size_setCells b r (o+1) (w.setCell ⟨b,o,none⟩ v)
  simpa [World.setCells] using this
theorem there_chg {S:List Nat} {w w':World} {b o n:Nat} (h:w.there b o n) (c:Chg S w w') (hn:b ∉ S):w'.there b o n:=fun j hj => by
 obtain ⟨u,hu⟩:=Option.isSome_iff_exists.1 (h j hj).1
 exact ⟨by rw [c.cellv hu hn];rfl,by rw [c.frozen (block_lt_of_cell hu) hn];exact (h j hj).2⟩
theorem Room.there {w:World} {B b o n c:Nat} {xs:List Value} (h:Room w B (some ⟨b,o,none⟩) n c xs) (i m:Nat) (hi:i+m≤c):w.there b (o+i) m:=fun j hj => by
 obtain ⟨b',o',e,_,hs,_⟩:=h.at_ (by omega)
 cases e
 rw [Nat.add_assoc]
 exact hs (i+j) (by omega)
theorem Room.sets {w:World} {B b o n c:Nat} {xs:List Value} (h:Room w B (some ⟨b,o,none⟩) n c xs) (vs:List Value) (i:Nat) (hi:i+vs.length≤n) :
  Room (w.setCells b (o+i) vs) B (some ⟨b,o,none⟩) n c (xs.take i++(vs++xs.drop (i+vs.length))):=by
 have hl:=h.len
 have hle:=h.le
 refine ⟨by simp;omega,h.le,h.max,fun hc => ?_⟩
 obtain ⟨b',o',e,hB,hs,hv⟩:=h.at_ hc
 cases e
 have hin:=World.cell?_setCells_in b vs (o+i) w (fun k hk => by rw [Nat.add_assoc];exact (hs (i+k) (by omega)).1)
 refine ⟨b,o,rfl,hB,fun j hj => ?_,fun j u hu => ?_⟩
 ·obtain ⟨h1,h2⟩:=hs j hj
  refine ⟨?_,by rw [World.frozen?_setCells];exact h2⟩
  by_cases hij:i≤j∧j < i+vs.length
  ·have:=hin (j - i) (by omega)
   rw [show o+i+(j - i)=o+j by omega] at this
   rw [this];rfl
  ·rw [World.cell?_setCells_out b vs (o+i) w _ (fun _ _ => by simp;omega)]
   exact h1
 ·by_cases h1:j < i
  ·rw [List.getElem?_append_left (by simp;omega),List.getElem?_take,if_pos h1] at hu
   rw [World.cell?_setCells_out b vs (o+i) w _ (fun _ _ => by simp;omega)]
   exact hv j u hu
  ·rw [List.getElem?_append_right (by simp;omega)] at hu
   have e1:(xs.take i).length=i:=by simp;omega
   rw [e1] at hu
   by_cases h2:j < i+vs.length
   ·rw [List.getElem?_append_left (by omega)] at hu
    have:=hin (j - i) (by omega)
    rw [show o+i+(j - i)=o+j by omega] at this
    rw [this]
    rw [List.getElem?_eq_getElem (by omega)] at hu
    exact hu
   ·rw [List.getElem?_append_right (by omega),List.getElem?_drop] at hu
    rw [World.cell?_setCells_out b vs (o+i) w _ (fun _ _ => by simp;omega)]
    refine hv j u ?_
    rw [← hu]
    congr 1
    omega
theorem made_room (w:World) (e:TypeId) (z:Value) (n:Nat) (hn:n≤maxLen):Room (w.alloc (.cells (madeCells #[z] n) e)) w.heap.size (some ⟨w.heap.size,0,none⟩) n n (List.replicate n z):=by
 have ht:=toList_madeCells_one z n
 refine ⟨by simp,Nat.le_refl _,hn,fun _ => ⟨w.heap.size,0,rfl,Nat.le_refl _,fun j hj => ⟨?_,frozen_of_row _ _ _ _ _ (heap_alloc_last w _)⟩,fun j u hu => ?_⟩⟩
 ·rw [cell_of_row _ _ _ _ _ _ (heap_alloc_last w _)]
  have:0+j < (madeCells #[z] n).size:=by rw [size_madeCells];omega
  rw [Array.getElem?_eq_getElem this]
  rfl
 ·rw [cell_of_row _ _ _ _ _ _ (heap_alloc_last w _),Nat.zero_add,← Array.getElem?_toList,ht]
  exact hu
theorem run_make_k {P:Program} {t e:TypeId} {bytes:Nat} (T:Elt P t e bytes) (z:Value) (hz:(P.info? e).map (·.zero)=some (some z)) (h1:z.cells=#[z]) (n:Nat) (hn:n * bytes≤281474976710656) (hn2:n≤maxLen) (u:World) :
  (Instr.makeSlice t (.int .i64 (n:Int)) (.int .i64 (n:Int))).run P u=.ok (.slice (some ⟨u.heap.size,0,none⟩) n n) (u.alloc (.cells (madeCells #[z] n) e)):=by
 obtain ⟨a1,i,v,h2,h3,h4,h5,h6⟩:=T
 have hv:v=z:=by
  rw [h2] at hz
  simp [h3] at hz
  exact hz
 subst hv
 have hml:maxLen=9223372036854775807:=rfl
 have h:=run_make (P:=P) u t e i v a1 h2 h3 .i64 .i64 n n (by omega) (by omega) (by rw [h5,Int.mul_comm,← Int.natCast_mul];omega) (by omega)
 rw [h1] at h
 simpa [h4] using h
def WideT (P:Program) (t:TypeId) (zs:List Value):Prop:=(∃ d,P.underlying t=some d∧d.isRow=true)∧(P.info? t).map (fun i => (i.zero,i.size))=some (some (.agg zs.toArray),zs.length)
theorem WideT.size {P:Program} {t:TypeId} {zs:List Value} (h:WideT P t zs) {n:Nat} (hn:n=zs.length):(P.info? t).map (·.size)=some n:=by rw [hn];exact (zero_of_info h.2).2
def thereB (w:World) (b o n:Nat):Bool:=(List.range n).all fun j => (w.cell? ⟨b,o+j,none⟩).isSome
def cellsAt (w:World) (b o n:Nat):List Value:=(List.range n).map fun j => (w.cell? ⟨b,o+j,none⟩).getD undef
def loadFar (P:Program) (w:World) (b o n:Nat):Result (Array Value):=Sem.run P (loadCells ⟨b,o,none⟩ n) w
theorem loadCells_wide {P:Program} (w:World) (b o n:Nat):Sem.run P (loadCells ⟨b,o,none⟩ n) w=if thereB w b o n=true then .ok (cellsAt w b o n).toArray w else loadFar P w b o n:=by
 split
 ·rename_i h
  have:=run_loadCells_list (P:=P) w ⟨b,o,none⟩ (cellsAt w b o n) (fun j v hv => by
   rw [Addr.add_mid]
   have hj:=(List.getElem?_eq_some_iff.1 hv).1
   simp [cellsAt] at hj
   have h1:=List.all_eq_true.1 h j (by simpa using hj)
   obtain ⟨u,hu⟩:=Option.isSome_iff_exists.1 h1
   simp [cellsAt,hj,hu] at hv
   rw [hu,hv])
  simpa [cellsAt] using this
 ·rfl
def wideLoad (a:Addr) (n:Nat):Sem (Array Value):=loadCellsFrom a 0 n #[]
theorem wide65 (a:Addr):loadCellsFrom a 0 65 #[]=wideLoad a 65:=rfl
theorem run_wide {P:Program} (w:World) (b o n:Nat):Sem.run P (wideLoad ⟨b,o,none⟩ n) w=if thereB w b o n=true then .ok (cellsAt w b o n).toArray w else loadFar P w b o n:=loadCells_wide w b o n
theorem there_of_range {w:World} {b o n:Nat} {cs:List Value} (h:w.rangeAt b o cs) (hn:cs.length=n):thereB w b o n=true∧cellsAt w b o n=cs:=by
 subst hn
 have key:∀ j (hj:j < cs.length),w.cell? ⟨b,o+j,none⟩=some cs[j]:=fun j hj => h j _ (by simp)
 refine ⟨List.all_eq_true.2 fun j hj => by rw [key j (by simpa using hj)];rfl,?_⟩
 apply List.ext_getElem
 ·simp [cellsAt]
 ·intro i h1 h2
  simp [cellsAt,key i h2]
section
variable {P:Program} {ops:Array Oper} {rest:List Oper} {o:Oper} {a:Act} {w:World} {K:Act→World→Prop} {Q:Exit→Act→World→Prop} {E:Prop}
theorem wpList_alloc_w (hg:o.guard=none) (t:TypeId) (ho:o.op=.alloc t) (zs:List Value) (T:WideT P t zs)
  (hK:∀ w',Blk w' w.heap.size t zs→Chg [] w w'→w'.heap.size=w.heap.size+1→wpList P ops Q rest (a.put o.dst (.pointer (some ⟨w.heap.size,0,none⟩))) w'):wpList P ops Q (o :: rest) a w:=by
 refine wpList_plain hg fun K hK2 => ?_
 unfold Oper.wp execOp
 simp only [ho,Sem.run_bind,Instr.alloc,newVar,newRow,(zero_of_info T.2).1,run_newObj_alloc,Sem.run_pure,Result.andThen_ok,Value.cells]
 exact hK2 _ _ (hK (w.alloc (.cells zs.toArray t)) (heap_alloc_last w _) (Chg.alloc [] w _) (by simp))
theorem wpList_box_w (hg:o.guard=none) (t:TypeId) (x:Operand) (ho:o.op=.box t x) (cs:List Value) (hx:a.eval x=.agg cs.toArray)
  (hK:∀ w',Blk w' w.heap.size t cs→Chg [] w w'→w'.heap.size=w.heap.size+1→wpList P ops Q rest (a.put o.dst (.pointer (some ⟨w.heap.size,0,none⟩))) w'):wpList P ops Q (o :: rest) a w:=by
 refine wpList_plain hg fun K hK2 => ?_
 unfold Oper.wp execOp
 simp only [ho,hx,Sem.run_bind,Instr.box,newVar,newRow,run_newObj_alloc,Sem.run_pure,Result.andThen_ok,Value.cells]
 exact hK2 _ _ (hK (w.alloc (.cells cs.toArray t)) (heap_alloc_last w _) (Chg.alloc [] w _) (by simp))
theorem wpList_build_w (hg:o.guard=none) (t:TypeId) (parts:Array (Nat × Operand)) (ho:o.op=.build t parts) (cs:List Value) (hb:P.built t (parts.map fun (i,x) => (i,a.eval x)).toList=some cs.toArray)
  (hK:wpList P ops Q rest (a.put o.dst (.agg cs.toArray)) w):wpList P ops Q (o :: rest) a w:=
 wpList_build hg t parts ho (by rw [hb];rfl) (by rw [hb];exact hK)
theorem wpList_store_w (hgd:o.guard=none) (t:TypeId) (x y:Operand) (ho:o.op=.store t x y) (zs:List Value) (T:WideT P t zs) (b:Nat) (cs cs':List Value) (h:Blk w b t cs) (hl:cs.length=zs.length) (hl':cs'.length=zs.length) (h1:∀ u∈cs',u.oneCell'=true)
  (hx:a.eval x=.pointer (some ⟨b,0,none⟩)) (hy:a.eval y=.agg cs'.toArray)
  (hK:∀ w',Blk w' b t cs'→Chg [b] w w'→w'.heap.size=w.heap.size→wpList P ops Q rest (a.put o.dst undef) w'):wpList P ops Q (o :: rest) a w:=by
 refine wpList_store_mid hgd t x y ho b 0 cs'.toArray hx hy (by simpa using h.there 0 cs'.length (by omega)) (by simpa using T.size hl') (all_oneCell_toArray h1) (hK _ ?_ (Chg.setCells b _ 0 w) (size_setCells b _ 0 w))
 have:=Blk.sets cs' 0 w cs h (by omega)
 have e:cs.drop (0+cs'.length)=[]:=List.drop_eq_nil_of_le (by omega)
 rw [e] at this
 simpa using this
theorem run_copy_k (dT sT ty e:TypeId) (hu:P.underlying dT=some (.slice e)) (hs:(P.info? e).map (·.size)=some 1) (b of dLen dCap:Nat) (ax:Option Addr) (sLen sCap:Nat) (cs:List Value)
  (hx:Reads w ax cs) (hn:cs.length=Nat.min sLen dLen) (ht:w.there b of cs.length) (h1:∀ v∈cs,v.oneCell'=true) :
  (Builtin.copy_ #[dT,sT] ty #[.slice (some ⟨b,of,none⟩) dLen dCap,.slice ax sLen sCap]).run P w=.ok (goInt cs.length) (w.setCells b of cs):=by
 by_cases h0:0 < cs.length
 ·obtain ⟨bx,ox,rfl,hc⟩:=hx h0
  exact run_copy_cells w dT sT ty e b of dLen dCap ⟨bx,ox,none⟩ sLen sCap cs hu hs hn (fun j v hv => by rw [Addr.add_lit];exact hc j v hv) (fun j hj => (ht j hj).1) (fun j hj => (ht j hj).2) h1
 ·have:cs=[]:=List.eq_nil_of_length_eq_zero (by omega)
  subst this
  exact run_copy_none w dT sT ty e _ _ dLen dCap sLen sCap hu hs (by simpa using hn.symm)
theorem wp_copy_k (d s:Operand) (dT sT e:TypeId) (ho:o.op=.call { callee:=.builtin .copy,args:=#[d,s],argTypes:=#[dT,sT] })
  (hu:P.underlying dT=some (.slice e)) (hs:(P.info? e).map (·.size)=some 1) (b of dLen dCap:Nat) (ax:Option Addr) (sLen sCap:Nat) (cs:List Value) (hd:a.eval d=.slice (some ⟨b,of,none⟩) dLen dCap) (hsv:a.eval s=.slice ax sLen sCap)
  (hx:Reads w ax cs) (hn:cs.length=Nat.min sLen dLen) (ht:w.there b of cs.length) (h1:∀ v∈cs,v.oneCell'=true)
  (hK:K (a.put o.dst (goInt cs.length)) (w.setCells b of cs)):Oper.wp P o a w K Q:=by
 unfold Oper.wp execOp
 simp only [ho,resolve,invoke,builtin,Sem.run_bind,Sem.run_pure,Result.andThen_ok,List.map_toArray,List.map_cons,List.map_nil,hd,hsv,run_copy_k dT sT o.type e hu hs b of dLen dCap ax sLen sCap cs hx hn ht h1]
 exact hK
theorem wpList_copy_k (hgd:o.guard=none) (d s:Operand) (dT sT e:TypeId) (ho:o.op=.call { callee:=.builtin .copy,args:=#[d,s],argTypes:=#[dT,sT] })
  (hu:P.underlying dT=some (.slice e)) (hs:(P.info? e).map (·.size)=some 1) (b of dLen dCap:Nat) (ax:Option Addr) (sLen sCap:Nat) (cs:List Value) (hd:a.eval d=.slice (some ⟨b,of,none⟩) dLen dCap) (hsv:a.eval s=.slice ax sLen sCap)
  (hx:Reads w ax cs) (hn:cs.length=Nat.min sLen dLen) (ht:w.there b of cs.length) (h1:∀ v∈cs,v.oneCell'=true)
  (hK:wpList P ops Q rest (a.put o.dst (goInt cs.length)) (w.setCells b of cs)):wpList P ops Q (o :: rest) a w:=
 wpList_plain hgd fun K hK2 => wp_copy_k d s dT sT e ho hu hs b of dLen dCap ax sLen sCap cs hd hsv hx hn ht h1 (hK2 _ _ hK)
theorem step_copy_k (hgd:o.guard=none) (d s:Operand) (dT sT e:TypeId) (ho:o.op=.call { callee:=.builtin .copy,args:=#[d,s],argTypes:=#[dT,sT] })
  (hu:P.underlying dT=some (.slice e)) (hs:(P.info? e).map (·.size)=some 1) (b of dLen dCap:Nat) (ax:Option Addr) (sLen sCap:Nat) (cs:List Value) (hd:a.eval d=.slice (some ⟨b,of,none⟩) dLen dCap) (hsv:a.eval s=.slice ax sLen sCap)
  (hx:Reads w ax cs) (hn:cs.length=Nat.min sLen dLen) (ht:w.there b of cs.length) (h1:∀ v∈cs,v.oneCell'=true)
  (hK:K (a.put o.dst (goInt cs.length)) (w.setCells b of cs)):if Region.wanted o (yielded ops a.tmps)=true then Oper.wp P o a w K Q else E:=by
 have hw:Region.wanted o (yielded ops a.tmps)=true:=by simp [Region.wanted,hgd]
 rw [if_pos hw]
 exact wp_copy_k d s dT sT e ho hu hs b of dLen dCap ax sLen sCap cs hd hsv hx hn ht h1 hK
theorem step_append_zz (hg:o.guard=none) (s x:Operand) (t:TypeId) (ho:o.op=.call { callee:=.builtin .append,args:=#[s,x],argTypes:=#[t,t] })
  (e:TypeId) (z bytes:Nat) (hz0:0 < z) (helt:EltZ P t e z bytes)
  (B:Nat) (ao:Option Addr) (n c:Nat) (xs:List Value) (hs:a.eval s=.slice ao n c) (h:RoomZ z w B ao n c xs) (hB:B≤w.heap.size)
  (us:Array Value) (cx:Nat) (hxe:a.eval x=.slice (some ⟨w.heap.size,0,none⟩) 1 cx) (hlen:us.size=z) (hone:∀ u∈us.toList,u.oneCell'=true)
  (h63:n+1≤maxLen) (hbytes:(n+1) * bytes≤140737488355328)
  (hK:∀ ao' c' w',RoomZ z w' B ao' (n+1) c' (xs++us.toList)→Chg (fp ao c) w w'→(fp ao' c'=fp ao c ∨ ∃ k,w.heap.size≤k∧fp ao' c'=[k])→K (a.put o.dst (.slice ao' (n+1) c')) w') :
  if Region.wanted o (yielded ops a.tmps)=true then Oper.wp P o a (w.alloc (.cells us e)) K Q else E:=by
 have hw:Region.wanted o (yielded ops a.tmps)=true:=by simp [Region.wanted,hg]
 rw [if_pos hw]
 obtain ⟨ao',c',w',hr,h2,h3,h4⟩:=run_append_z (P:=P) (w.alloc (.cells us e)) t o.type e z bytes hz0 helt B ao n c xs (h.chg (Chg.alloc [] w _) (by simp)) (by simp;omega) (some ⟨w.heap.size,0,none⟩) 1 cx us.toList (Reads.new w us e) (by simp [hlen]) hone h63 hbytes
 unfold Oper.wp execOp
 simp only [ho,resolve,invoke,builtin,Sem.run_bind,Sem.run_pure,Result.andThen_ok,List.map_toArray,List.map_cons,List.map_nil,hs,hxe,hr]
 exact hK _ _ _ h2 ((Chg.alloc [] w _).trans h3 (by simp) (fun k h _ => h)) (h4.imp id fun h => ⟨_,by simp,h⟩)
end
end
end Go.Proofs.YtdgkbicelnnfpaaGreatDoor
