/- Texts Dh, Dw, Jo, Jp, Jq, Jr of the library, joined. -/
import Derived.Test.YtdgkbicelnnfpaaGreatDoorM07
set_option linter.unusedVariables false
set_option linter.unusedSimpArgs false
namespace Go.Proofs.YtdgkbicelnnfpaaGreatDoor
section
open Go.RowKit
attribute [local go_sem ↓] Go.wp_at_zero Go.wp_at_succ
def RS.new (n:Nat):RS:=⟨List.replicate (4 * n) zero64,[],0,false,n⟩
theorem new_whole (n:Nat) (h:n≤1024):Whole (RS.new n):=⟨by simp [RS.new],h⟩
theorem flat_new (n:Nat):(RS.new n).S.flatten=List.replicate (256 * n) 0:=by
 show (List.replicate (4 * n) zero64).flatten=_
 unfold zero64
 rw [List.flatten_replicate_replicate]
 congr 1
 omega
theorem dnew_close {w w':World} {n lb nb db:Nat} (h1:1≤n) (c0:w'.cell? ⟨db,0,none⟩=some (.slice (some ⟨lb,0,none⟩) (256 * n) (256 * n))) (c1:w'.cell? ⟨db,1,none⟩=some (.slice none 0 0)) (c2:w'.cell? ⟨db,2,none⟩=some (.slice (some ⟨nb,0,none⟩) (4 * n) (4 * n)))
  (c3:w'.cell? ⟨db,3,none⟩=some (.int .i64 0)) (c4:w'.cell? ⟨db,4,none⟩=some (.bool false)) (fz:∀ j,j < 5→w'.frozen? ⟨db,j,none⟩=false)
  (rS:Room w' w.heap.size (some ⟨lb,0,none⟩) (256 * n) (256 * n) (List.replicate (256 * n) (.int .u8 0))) (rN:Room w' w.heap.size (some ⟨nb,0,none⟩) (4 * n) (4 * n) (List.replicate (4 * n) (.int .i64 0)))
  (d1:db ≠ lb) (d2:db ≠ nb) (d3:lb ≠ nb) (dB:w.heap.size≤db):DevAt w' w.heap.size db ⟨lb,0,256 * n,nb,0,4 * n⟩ none 0 (RS.new n):=by
 have e1:64 * (RS.new n).S.length=256 * n:=by simp [RS.new];omega
 have e2:(RS.new n).S.length=4 * n:=by simp [RS.new]
 refine ⟨by rw [e1];exact c0,c1,by rw [e2];exact c2,c3,c4,fz,by rw [e1,flat_new,bts_rep];exact rS,RoomZ.nil _ _ _ _,by rw [e2];show Room w' _ _ _ _ (newC (4 * n) []);rw [newC_nil];exact rN,d1,d2,d3,by simp [fp_zero],by simp [fp_zero],by simp [fp_zero],dB,?_,fun f hf => by simp [RS.new] at hf,by show 0 < _;decide,by rw [e2];omega⟩
 intro l hl
 have:l=zero64:=List.eq_of_mem_replicate hl
 rw [this]
 rfl
theorem dnew_one (n:Nat) (h1:1≤n) (h2:n≤1024) (w:World):DevAt (((w.alloc (.cells (madeCells #[.int .u8 0] (256 * n)) 5)).alloc (.cells (madeCells #[.int .i64 0] (4 * n)) 3)).alloc (.cells #[.slice (some ⟨w.heap.size,0,none⟩) (256 * n) (256 * n),.slice none 0 0,.slice (some ⟨w.heap.size+1,0,none⟩) (4 * n) (4 * n),.int .i64 0,.bool false] 146)).drew w.heap.size (w.heap.size+1+1) ⟨w.heap.size,0,256 * n,w.heap.size+1,0,4 * n⟩ none 0 (RS.new n):=by
 have ra:=made_room w 5 (.int .u8 0) (256 * n) (by unfold maxLen;omega)
 have rb:=made_room (w.alloc (.cells (madeCells #[.int .u8 0] (256 * n)) 5)) 3 (.int .i64 0) (4 * n) (by unfold maxLen;omega)
 have z1:(w.alloc (.cells (madeCells #[.int .u8 0] (256 * n)) 5)).heap.size=w.heap.size+1:=by simp
 generalize w.alloc (.cells (madeCells #[.int .u8 0] (256 * n)) 5)=w1 at *
 have ra2:=ra.chg (Chg.alloc [] w1 (.cells (madeCells #[.int .i64 0] (4 * n)) 3)) (by simp)
 have z2:(w1.alloc (.cells (madeCells #[.int .i64 0] (4 * n)) 3)).heap.size=w.heap.size+1+1:=by simp;omega
 generalize w1.alloc (.cells (madeCells #[.int .i64 0] (4 * n)) 3)=w2 at *
 rw [z1] at rb
 have hg:=(Chg.alloc [] w2 (.cells #[.slice (some ⟨w.heap.size,0,none⟩) (256 * n) (256 * n),.slice none 0 0,.slice (some ⟨w.heap.size+1,0,none⟩) (4 * n) (4 * n),.int .i64 0,.bool false] 146)).then (Chg.drew [] _)
 have hcl:=fun j => cell_of_row (w2.alloc (.cells #[.slice (some ⟨w.heap.size,0,none⟩) (256 * n) (256 * n),.slice none 0 0,.slice (some ⟨w.heap.size+1,0,none⟩) (4 * n) (4 * n),.int .i64 0,.bool false] 146)).drew w2.heap.size j _ _ _ (heap_alloc_last w2 _)
 have hfz:=fun j => frozen_of_row (w2.alloc (.cells #[.slice (some ⟨w.heap.size,0,none⟩) (256 * n) (256 * n),.slice none 0 0,.slice (some ⟨w.heap.size+1,0,none⟩) (4 * n) (4 * n),.int .i64 0,.bool false] 146)).drew w2.heap.size j _ _ (heap_alloc_last w2 _)
 rw [z2] at hcl hfz
 exact dnew_close h1 (hcl 0) (hcl 1) (hcl 2) (hcl 3) (hcl 4) (fun j _ => hfz j) (ra2.chg hg (by simp)) ((rb.mono (by omega)).chg hg (by simp)) (by omega) (by omega) (by omega) (by omega)
theorem dnew_two (n:Nat) (h1:1≤n) (h2:n≤1024) (w:World):DevAt (((w.alloc (.cells (madeCells #[.int .i64 0] (4 * n)) 3)).alloc (.cells (madeCells #[.int .u8 0] (256 * n)) 5)).alloc (.cells #[.slice (some ⟨w.heap.size+1,0,none⟩) (256 * n) (256 * n),.slice none 0 0,.slice (some ⟨w.heap.size,0,none⟩) (4 * n) (4 * n),.int .i64 0,.bool false] 146)).drew w.heap.size (w.heap.size+1+1) ⟨w.heap.size+1,0,256 * n,w.heap.size,0,4 * n⟩ none 0 (RS.new n):=by
 have ra:=made_room w 3 (.int .i64 0) (4 * n) (by unfold maxLen;omega)
 have rb:=made_room (w.alloc (.cells (madeCells #[.int .i64 0] (4 * n)) 3)) 5 (.int .u8 0) (256 * n) (by unfold maxLen;omega)
 have z1:(w.alloc (.cells (madeCells #[.int .i64 0] (4 * n)) 3)).heap.size=w.heap.size+1:=by simp
 generalize w.alloc (.cells (madeCells #[.int .i64 0] (4 * n)) 3)=w1 at *
 have ra2:=ra.chg (Chg.alloc [] w1 (.cells (madeCells #[.int .u8 0] (256 * n)) 5)) (by simp)
 have z2:(w1.alloc (.cells (madeCells #[.int .u8 0] (256 * n)) 5)).heap.size=w.heap.size+1+1:=by simp;omega
 generalize w1.alloc (.cells (madeCells #[.int .u8 0] (256 * n)) 5)=w2 at *
 rw [z1] at rb
 have hg:=(Chg.alloc [] w2 (.cells #[.slice (some ⟨w.heap.size+1,0,none⟩) (256 * n) (256 * n),.slice none 0 0,.slice (some ⟨w.heap.size,0,none⟩) (4 * n) (4 * n),.int .i64 0,.bool false] 146)).then (Chg.drew [] _)
 have hcl:=fun j => cell_of_row (w2.alloc (.cells #[.slice (some ⟨w.heap.size+1,0,none⟩) (256 * n) (256 * n),.slice none 0 0,.slice (some ⟨w.heap.size,0,none⟩) (4 * n) (4 * n),.int .i64 0,.bool false] 146)).drew w2.heap.size j _ _ _ (heap_alloc_last w2 _)
 have hfz:=fun j => frozen_of_row (w2.alloc (.cells #[.slice (some ⟨w.heap.size+1,0,none⟩) (256 * n) (256 * n),.slice none 0 0,.slice (some ⟨w.heap.size,0,none⟩) (4 * n) (4 * n),.int .i64 0,.bool false] 146)).drew w2.heap.size j _ _ (heap_alloc_last w2 _)
 rw [z2] at hcl hfz
 exact dnew_close h1 (hcl 0) (hcl 1) (hcl 2) (hcl 3) (hcl 4) (fun j _ => hfz j) ((rb.mono (by omega)).chg hg (by simp)) (ra2.chg hg (by simp)) (by omega) (by omega) (by omega) (by omega)
set_option maxHeartbeats 1000000 in
theorem dnew_yes (n:Nat) (h1:1≤n) (h2:n≤1024) (w:World):Calls Tryz.prog 33 #[.int .i64 n] w fun e w' => ∃ db g,e=.returned (.tuple #[.pointer (some ⟨db,0,none⟩),.int .i64 0])∧DevAt w' w.heap.size db g none 0 (RS.new n)∧Chg [] w w':=by
 have hd:decide ((n:Int) < 1)=false:=decide_eq_false (by omega)
 have hd2:decide ((1024:Int) < (n:Int))=false:=decide_eq_false (by omega)
 have hm1:∀ u:World,(Instr.makeSlice 27 (.int .i64 ((n:Int) * 256)) (.int .i64 ((n:Int) * 256))).run Tryz.prog u=.ok (.slice (some ⟨u.heap.size,0,none⟩) (256 * n) (256 * n)) (u.alloc (.cells (madeCells #[.int .u8 0] (256 * n)) 5)):=fun u => by
  have:=run_make_k eltB (.int .u8 0) (by kernel_rfl) rfl (256 * n) (by omega) (by unfold maxLen;omega) u
  rwa [show ((256 * n:Nat):Int)=(n:Int) * 256 by omega] at this
 have hm2:∀ u:World,(Instr.makeSlice 79 (.int .i64 ((n:Int) * 4)) (.int .i64 ((n:Int) * 4))).run Tryz.prog u=.ok (.slice (some ⟨u.heap.size,0,none⟩) (4 * n) (4 * n)) (u.alloc (.cells (madeCells #[.int .i64 0] (4 * n)) 3)):=fun u => by
  have:=run_make_k eltN (.int .i64 0) (by kernel_rfl) rfl (4 * n) (by omega) (by unfold maxLen;omega) u
  rwa [show ((4 * n:Nat):Int)=(n:Int) * 4 by omega] at this
 go_enter Tryz.func33,Tryz.ntmps33
 go_wp2_with fail
 go_region
 ·have hD:=dnew_one n h1 h2 w
  have hC:Chg [] w (((w.alloc (.cells (madeCells #[.int .u8 0] (256 * n)) 5)).alloc (.cells (madeCells #[.int .i64 0] (4 * n)) 3)).alloc (.cells #[.slice (some ⟨w.heap.size,0,none⟩) (256 * n) (256 * n),.slice none 0 0,.slice (some ⟨w.heap.size+1,0,none⟩) (4 * n) (4 * n),.int .i64 0,.bool false] 146)).drew:=(((Chg.alloc [] w _).then (Chg.alloc [] _ _)).then (Chg.alloc [] _ _)).then (Chg.drew [] _)
  go_wp2_with fail
  go_ret2
  exact ⟨_,_,rfl,hD,hC⟩
 ·have hD:=dnew_two n h1 h2 w
  have hC:Chg [] w (((w.alloc (.cells (madeCells #[.int .i64 0] (4 * n)) 3)).alloc (.cells (madeCells #[.int .u8 0] (256 * n)) 5)).alloc (.cells #[.slice (some ⟨w.heap.size+1,0,none⟩) (256 * n) (256 * n),.slice none 0 0,.slice (some ⟨w.heap.size,0,none⟩) (4 * n) (4 * n),.int .i64 0,.bool false] 146)).drew:=(((Chg.alloc [] w _).then (Chg.alloc [] _ _)).then (Chg.alloc [] _ _)).then (Chg.drew [] _)
  go_wp2_with fail
  go_ret2
  exact ⟨_,_,rfl,hD,hC⟩
end
section
open Go.RowKit
theorem burn_whole {st:RS} (h:Whole st):Whole (burn st).2:=by
 unfold burn
 split
 ·exact h
 ·split <;> exact h
theorem write_whole {st:RS} (z:Int) (b:List UInt8) (h:Whole st):Whole (write st z b).2:=by
 unfold write
 split
 ·exact h
 ·split
  ·exact h
  ·split
   ·exact burn_whole h
   ·exact burn_whole h
theorem write_plain (st:RS) (j:Nat) (b:List UInt8) (hg:st.gone=false) (hl:st.left=0) (hj:j < st.count) (hb:b.length=256):write st j b=(0,{ st with L:=st.L++flies j b 4 }):=by
 have h1:¬ ((j:Int) < 0 ∨ (st.count:Int)≤(j:Int)):=by omega
 have h2:burn st=(false,st):=by unfold burn;rw [if_pos hl]
 unfold write whyN
 rw [hg,h2]
 simp only [Bool.false_eq_true,if_false,h1,hb,ne_eq,not_true_eq_false,Int.toNat_natCast,hg]
theorem flies_len (A:Nat) (b:List UInt8) (n:Nat):(flies A b n).length=n:=by simp [flies]
end
section
open Go.RowKit Go.Maps
attribute [local go_sem ↓] Go.wp_at_zero Go.wp_at_succ
theorem blk_bnd {w:World} {B:Nat} {ao:Option Addr} {n c:Nat} {xs:List Value} (h:Room w B ao n c xs) (hn:0 < n):∀ k,k∈blk ao→B≤k∧k < w.heap.size:=fun k hk => h.lt k (by unfold fp;rw [if_neg (by have:=h.le;omega)];exact hk)
theorem fresh_upd (nb a:Nat) (bs:List UInt8) (L1:List Ent) (hnd:((fresh nb a :: L1).map Ent.b).Nodup):updL (fresh nb a :: L1) ⟨nb,a,bs,false,0⟩=⟨nb,a,bs,false,0⟩ :: L1:=updL_tail hnd _ rfl
theorem used_head {x:Ent} {L1:List Ent} (hnd:((x :: L1).map Ent.b).Nodup) (u:Nat):used (x :: L1) x u=L1++[x.now u]:=by
 unfold used
 rw [List.filter_cons,if_neg (by simp)]
 congr 1
 rw [List.map_cons,List.nodup_cons] at hnd
 refine List.filter_eq_self.2 fun e he => ?_
 exact bne_iff_ne.2 fun h9 => hnd.1 (List.mem_map.2 ⟨e,he,h9⟩)
theorem kwrote_whole {st:RS} (h:KE) (hW:Whole st):Whole (kwrote h st).2:=by
 unfold kwrote
 split
 ·exact write_whole _ _ hW
 ·exact hW
theorem kroom_whole (n:Nat) (K:List KE) {st:RS} (hW:Whole st):Whole (kroom n K st).2.2:=by
 unfold kroom
 split
 ·exact hW
 ·cases K with
  | nil => exact hW
  | cons h T =>
   simp only
   split
   ·exact kwrote_whole h hW
   ·exact kwrote_whole h hW
theorem got_reads {w0 w w1 w2:World} {R:Nat→Prop} {db:Nat} {g:DG} {fa:Option Addr} {cf:Nat} {st:RS} {cb mb:Nat} {la:Option Addr} {cl:Nat} {E L:List Ent} {most uses:Nat} (h:Pair w0 w R db g fa cf st cb mb la cl E L most uses) {ao:Option Addr} {c:Nat} {xs:List Value} (r1:Room w1 w.heap.size ao 256 c xs) (g1:Chg [] w w1) (g2:Chg (CF cb mb la cl E++DF db g fa cf) w1 w2):Reads w2 ao xs:=by
 refine r1.reads.chg g2 (fun k hk hm => ?_)
 have h1:=blk_bnd r1 (by omega) k hk
 rcases List.mem_append.1 hm with h9 | h9
 ·have:=(h.k.lt k h9).2;omega
 ·have:=(h.d.lt k h9).2;omega
theorem CacheAt.tell {w:World} {B cb mb:Nat} {la:Option Addr} {cl:Nat} {E L1:List Ent} {most uses db nb a:Nat} {bs:List UInt8} (h:CacheAt w B cb mb la cl E (updL (fresh nb a :: L1) ⟨(fresh nb a).b,(fresh nb a).pl,bs,(fresh nb a).dirty,(fresh nb a).used⟩) most uses db) (hb:((fresh nb a :: L1).map Ent.b).Nodup):CacheAt w B cb mb la cl E (⟨nb,a,bs,false,0⟩ :: L1) most uses db:=by
 have e:=fresh_upd nb a bs L1 hb
 rw [← e]
 exact h
section
variable (a:Nat) (w0 w:World) (R:Nat→Prop) (db:Nat) (g:DG) (fa:Option Addr) (cf:Nat) (st:RS) (cb mb:Nat) (la:Option Addr) (cl:Nat) (E L:List Ent) (most uses:Nat) (h:Pair w0 w R db g fa cf st cb mb la cl E L most uses) (hw:whyN st a=0) (hn:∀ e∈L,e.pl ≠ a) (hu:uses < 9223372036854775807) (hLb:st.L.length≤1000000000)
include h hw hn hu hLb
set_option maxRecDepth 20000 in
set_option maxHeartbeats 1000000 in
theorem cget_ok (hv:(kroom most (L.map absE) st).1=0) :
  Calls Tryz.prog 50 #[.pointer (some ⟨cb,0,none⟩),.int .i64 (a:Int)] w fun e w' => ∃ rb fa' cf' la' cl' E' L',e=.returned (.tuple #[.slice (some ⟨rb,0,none⟩) 256 256,.int .i64 0])∧Pair w0 w' (fun k => R k ∨ k=rb) db g fa' cf' (kroom most (L.map absE) st).2.2 cb mb la' cl' E' L' most (uses+1)∧L'.map absE=(kroom most (L.map absE) st).2.1++[⟨a,reads st a 4,false⟩]∧Room w' w.heap.size (some ⟨rb,0,none⟩) 256 256 (bts (reads st a 4))∧Off R w w':=by
 have d:=h.d
 have c0:=h.k.c0
 have c2:=h.k.c2
 have hW:=h.W
 obtain ⟨D,hD⟩:=h.k.hd
 obtain ⟨a2,ha2,hac,ha⟩:=why_at hW hw
 obtain rfl:a=a2:=by omega
 have hnE:∀ e∈E,e.pl ≠ a:=fun e he => hn e (h.k.pm.mem_iff.1 he)
 have hbl:(reads st a 4).length=256:=reads_len st a 4 (by have:=hW.1;omega) d.lS (fun f hf => (d.lL f hf).1)
 have Hw:=mkHid hw
 have HB:=mkHid hbl
 have cR:=dread_yes a w0.heap.size db g fa cf st w d hW hw
 generalize hbs:reads st a 4=bs at cR HB hbl ⊢
 have HBS:=mkHid hbs
 have hmk:∀ u:World,(Instr.makeSlice 27 (.int .i64 256) (.int .i64 256)).run Tryz.prog u=.ok (.slice (some ⟨u.heap.size,0,none⟩) 256 256) (u.alloc (.cells (madeCells #[.int .u8 0] 256) 5)):=hmk 256 (by decide)
 have cT:∀ w1,Chg [] w w1→_:=fun w1 g1 => ctaken_any w0.heap.size cb mb la cl E L most uses db w1 (h.k.keep g1) g fa cf st (d.keep g1) hW (Nat.le_trans h.c.size g1.size) hLb h.x a ha hn h.u
 rw [hv] at cT
 have CT:=mkHid cT
 have HV:=mkHid hv
 clear hw hbl ha2 hbs hv cT
 go_enter Tryz.func50,Tryz.ntmps50
 go_wp2_with (first
  | (go_at_call 92;refine (casked_any cb db w0.heap.size g fa cf st w d c0 _ hW).mono ?_;rw [Hw.out];rintro e w' ⟨rfl,rfl⟩)
  | (at_lookup;refine wpList_lookup_none w rfl (.tmp 22) (.tmp 23) rfl hD rfl hnE ha rfl ?_)
  | (go_at_call 95;refine cR.mono ?_;rintro e w1 ⟨ao,c,rfl,r1,g1⟩)
  | (go_at_call 93;refine (CT.out w1 g1).mono ?_;rintro e w2 ⟨v2,fa',cf',la',cl',E2,rfl,d2,l2,g2,lk2,xk2,-,k0⟩;obtain ⟨nb,L1,rfl,hnb,k2,hL1,hsub⟩:=k0 trivial;clear k0;have rd2:=got_reads h r1 g1 g2;obtain ⟨i2,b2⟩:=k2.blk (x:=fresh nb a) (by simp);have th2:=b2.there 1 256 (by rw [entV_len (show zero256.length=256 from List.length_replicate)];omega);obtain ⟨E3,k3,l3⟩:=k2.bytes (x:=fresh nb a) (by simp) bs HB.out;have k3':=k3.tell k2.bnd;clear k3;have cU:=cuse_L w0.heap.size cb mb la' cl' E3 _ most uses db (w2.setCells nb 1 (bts bs)) k3' ⟨nb,a,bs,false,0⟩ (by simp) hu)
  | (refine wpList_copy_k rfl (.tmp 53) (.tmp 54) 27 27 5 rfl Tryz.underlying27 oneB nb 1 256 256 ao 256 c (bts bs) rfl rfl rd2 (by rw [bts_length];exact HB.out) (by rw [bts_length,HB.out];exact th2) (bts_one _) ?_)
  | (go_at_call 94;refine cU.mono ?_;rintro e w4 ⟨rfl,E4,k4,g4,l4⟩;obtain ⟨i4,b4⟩:=k4.blk (x:=(⟨nb,a,bs,false,0⟩:Ent).now (uses+1)) (List.mem_append_right _ (by simp));have rd4:=ent_reads b4 HB.out)
  | (refine wpList_copy_k rfl (.tmp 60) (.tmp 65) 27 27 5 rfl Tryz.underlying27 oneB w4.heap.size 0 256 256 (some ⟨nb,1,none⟩) 256 256 (bts bs) rfl rfl (rd4.keep (Chg.alloc [] w4 _)) (by rw [bts_length];exact HB.out) ((made_room w4 5 (.int .u8 0) 256 (by decide)).there 0 _ (by rw [bts_length,HB.out];omega)) (bts_one _) ?_)
  | (refine wpList_copy_k rfl (.tmp 60) (.tmp 64) 27 27 5 rfl Tryz.underlying27 oneB w4.heap.size 0 256 256 (some ⟨nb,1,none⟩) 256 256 (bts bs) rfl rfl (rd4.keep (Chg.alloc [] w4 _)) (by rw [bts_length];exact HB.out) ((made_room w4 5 (.int .u8 0) 256 (by decide)).there 0 _ (by rw [bts_length,HB.out];omega)) (bts_one _) ?_))
 go_ret2
 obtain ⟨q1,q2,q3⟩:=own_copy w4 bs HB.out
 have hnd:=k3'.bnd
 rw [used_head hnd] at k4
 have hb3:Chg [nb] w2 (w2.setCells nb 1 (bts bs)):=Chg.setCells nb _ 1 w2
 have hnbC:nb∈CF cb mb la' cl' E2:=(k2.mem (x:=fresh nb a) (by simp)).1
 have g3:Chg (CF cb mb la' cl' E2) w2 w4:=hb3.trans g4 (fun k hk _ => by simp at hk;rw [hk];exact hnbC) (fun k hk _ => l3 k hk)
 have gA:Chg (CF cb mb la cl E++DF db g fa cf) w w2:=g1.trans g2 (by simp) (fun _ h _ => h)
 have gB:Chg (CF cb mb la cl E++DF db g fa cf) w w4:=gA.trans g3 (fun _ h _ => h) (fun k hk hlt => (lk2 k hk).elim (fun h9 => List.mem_append_left _ h9) (fun h9 => by have:=g1.size;omega))
 have p4:Pair w0 w4 R db g fa' cf' (kroom most (L.map absE) st).2.2 cb mb la' cl' E4 (L1++[(⟨nb,a,bs,false,0⟩:Ent).now (uses+1)]) most (uses+1):=by
  refine h.go (d2.chg g3 (fun k hk hm => xk2 k hm hk)) k4 (fun e he => ?_) gB ?_ (fun k hk => xk2 k (l3 k (l4 k hk))) (fun k hk => (lk2 k (l3 k (l4 k hk))).imp id (fun h9 => Nat.le_trans g1.size h9)) (fun k hk => (DF_later l2 k hk).imp id (fun h9 => Nat.le_trans g1.size h9))
  ·rcases List.mem_append.1 he with he | he
   ·exact h.u e (hsub e he)
   ·simp at he
    rw [he]
    exact Nat.succ_pos _
  ·exact kroom_whole most _ hW
 refine ⟨w4.heap.size,fa',cf',la',cl',E4,_,rfl,p4.add q2 (fun k hk => hk.imp id (fun e => by rw [e];exact ⟨Nat.le_refl _,q3⟩)),?_,q1.mono (gB.size),(h.off gB).trans (Off.keep q2)⟩
 rw [List.map_append,hL1]
 rfl
end
end
section
open Go.RowKit Go.Maps
attribute [local go_sem ↓] Go.wp_at_zero Go.wp_at_succ
section
variable (a:Nat) (w0 w:World) (R:Nat→Prop) (db:Nat) (g:DG) (fa:Option Addr) (cf:Nat) (st:RS) (cb mb:Nat) (la:Option Addr) (cl:Nat) (E L:List Ent) (most uses:Nat) (h:Pair w0 w R db g fa cf st cb mb la cl E L most uses) (hw:whyN st a=0) (hn:∀ e∈L,e.pl ≠ a) (hLb:st.L.length≤1000000000)
include h hw hn hLb
set_option maxRecDepth 20000 in
theorem cget_no (hv:(kroom most (L.map absE) st).1 ≠ 0) :
  Calls Tryz.prog 50 #[.pointer (some ⟨cb,0,none⟩),.int .i64 (a:Int)] w fun e w' => ∃ fa' cf' la' cl' E',e=.returned (.tuple #[.slice none 0 0,.int .i64 (kroom most (L.map absE) st).1])∧Pair w0 w' R db g fa' cf' (kroom most (L.map absE) st).2.2 cb mb la' cl' E' L most uses∧Off R w w':=by
 have d:=h.d
 have c0:=h.k.c0
 have c2:=h.k.c2
 have hW:=h.W
 obtain ⟨D,hD⟩:=h.k.hd
 obtain ⟨a2,ha2,hac,ha⟩:=why_at hW hw
 obtain rfl:a=a2:=by omega
 have hnE:∀ e∈E,e.pl ≠ a:=fun e he => hn e (h.k.pm.mem_iff.1 he)
 have Hw:=mkHid hw
 have cR:=dread_yes a w0.heap.size db g fa cf st w d hW hw
 have cT:∀ w1,Chg [] w w1→_:=fun w1 g1 => ctaken_any w0.heap.size cb mb la cl E L most uses db w1 (h.k.keep g1) g fa cf st (d.keep g1) hW (Nat.le_trans h.c.size g1.size) hLb h.x a ha hn h.u
 have CT:=mkHid cT
 have HV:=mkHid hv
 have hv2:((kroom most (L.map absE) st).1 != 0)=true:=by simpa using hv
 clear hw ha2 hv cT
 go_enter Tryz.func50,Tryz.ntmps50
 go_wp2_with (first
  | (go_at_call 92;refine (casked_any cb db w0.heap.size g fa cf st w d c0 _ hW).mono ?_;rw [Hw.out];rintro e w' ⟨rfl,rfl⟩)
  | (at_lookup;refine wpList_lookup_none w rfl (.tmp 22) (.tmp 23) rfl hD rfl hnE ha rfl ?_)
  | (go_at_call 95;refine cR.mono ?_;rintro e w1 ⟨ao,c,rfl,r1,g1⟩)
  | (go_at_call 93;refine (CT.out w1 g1).mono ?_;rintro e w2 ⟨v2,fa',cf',la',cl',E2,rfl,d2,l2,g2,lk2,xk2,k0,-⟩))
 go_ret2
 obtain ⟨k2,hK⟩:=k0 HV.out
 have gA:Chg (CF cb mb la cl E++DF db g fa cf) w w2:=g1.trans g2 (by simp) (fun _ h _ => h)
 exact ⟨fa',cf',la',cl',E2,rfl,h.go d2 k2 h.u gA (kroom_whole most _ hW) xk2 (fun k hk => (lk2 k hk).imp id (fun h9 => Nat.le_trans g1.size h9)) (fun k hk => (DF_later l2 k hk).imp id (fun h9 => Nat.le_trans g1.size h9)),h.off gA⟩
end
def kget (n:Nat) (K:List KE) (st:RS) (z:Int):Int × List UInt8 × List KE × RS:=
 if whyN st z ≠ 0 then (whyN st z,[],K,st) else match kfind K z.toNat with
 | some h => (0,h.bs,kdrop K z.toNat++[h],st)
 | none => if (kroom n K st).1=0 then (0,reads st z.toNat 4,(kroom n K st).2.1++[⟨z.toNat,reads st z.toNat 4,false⟩],(kroom n K st).2.2) else ((kroom n K st).1,[],K,(kroom n K st).2.2)
theorem cget_any (z:Int) (w0 w:World) (R:Nat→Prop) (db:Nat) (g:DG) (fa:Option Addr) (cf:Nat) (st:RS) (cb mb:Nat) (la:Option Addr) (cl:Nat) (E L:List Ent) (most uses:Nat) (h:Pair w0 w R db g fa cf st cb mb la cl E L most uses) (hu:uses < 9223372036854775807) (hLb:st.L.length≤1000000000) :
  Calls Tryz.prog 50 #[.pointer (some ⟨cb,0,none⟩),.int .i64 z] w fun e w' => ∃ ao c fa' cf' la' cl' E' L' uses',e=.returned (.tuple #[.slice ao (kget most (L.map absE) st z).2.1.length c,.int .i64 (kget most (L.map absE) st z).1])∧Pair w0 w' (fun k => R k ∨ k∈fp ao c) db g fa' cf' (kget most (L.map absE) st z).2.2.2 cb mb la' cl' E' L' most uses'∧L'.map absE=(kget most (L.map absE) st z).2.2.1∧uses'≤uses+1∧Room w' w.heap.size ao (kget most (L.map absE) st z).2.1.length c (bts (kget most (L.map absE) st z).2.1)∧Off R w w':=by
 unfold kget
 by_cases hw:whyN st z=0
 ·rw [if_neg (by simp [hw])]
  obtain ⟨a,rfl,hac,ha⟩:=why_at h.W hw
  rw [Int.toNat_natCast]
  cases hf:kfind (L.map absE) a with
  | some y =>
   obtain ⟨x,hx,rfl,rfl⟩:=abs_find hf
   refine (cget_held x w0 w R db g fa cf st cb mb la cl E L most uses h hw hx hu).mono ?_
   rintro e w' ⟨rb,E',he,p,r,o⟩
   have hl:=(h.k.mem hx).2
   refine ⟨some ⟨rb,0,none⟩,256,fa,cf,la,cl,E',used L x (uses+1),uses+1,?_,p.less (fun k hk => ?_),abs_used h.k.bnd h.k.np hx _,Nat.le_refl _,?_,o⟩
   ·show e=.returned (.tuple #[.slice _ x.bs.length 256,_])
    rw [hl];exact he
   ·rw [fp_some _ _ _ (by decide)] at hk
    simpa using hk
   ·show Room w' _ _ x.bs.length _ _
    rw [hl];exact r
  | none =>
   have hn:∀ e∈L,e.pl ≠ a:=fun e he => kfind_none hf (absE e) (List.mem_map.2 ⟨e,he,rfl⟩)
   simp only
   by_cases hv:(kroom most (L.map absE) st).1=0
   ·rw [if_pos hv]
    refine (cget_ok a w0 w R db g fa cf st cb mb la cl E L most uses h hw hn hu hLb hv).mono ?_
    rintro e w' ⟨rb,fa',cf',la',cl',E',L',he,p,hL,r,o⟩
    have hl:(reads st a 4).length=256:=reads_len st a 4 (by have:=h.W.1;omega) h.d.lS (fun f hf => (h.d.lL f hf).1)
    refine ⟨some ⟨rb,0,none⟩,256,fa',cf',la',cl',E',L',uses+1,?_,p.less (fun k hk => ?_),hL,Nat.le_refl _,?_,o⟩
    ·show e=.returned (.tuple #[.slice _ (reads st a 4).length 256,_])
     rw [hl];exact he
    ·rw [fp_some _ _ _ (by decide)] at hk
     simpa using hk
    ·show Room w' _ _ (reads st a 4).length _ _
     rw [hl];exact r
   ·rw [if_neg hv]
    refine (cget_no a w0 w R db g fa cf st cb mb la cl E L most uses h hw hn hLb hv).mono ?_
    rintro e w' ⟨fa',cf',la',cl',E',he,p,o⟩
    exact ⟨none,0,fa',cf',la',cl',E',L,uses,he,p.less (fun k hk => by simpa [fp_zero] using hk),rfl,Nat.le_succ _,Room.nil _ _ _,o⟩
 ·rw [if_pos hw]
  refine (cget_err z w0 w R db g fa cf st cb mb la cl E L most uses h hw).mono ?_
  rintro e w' ⟨he,rfl⟩
  exact ⟨none,0,fa,cf,la,cl,E,L,uses,he,h.less (fun k hk => by simpa [fp_zero] using hk),rfl,Nat.le_succ _,Room.nil _ _ _,Off.keep (Chg.refl _ _)⟩
end
section
open Go.RowKit Go.Maps
attribute [local go_sem ↓] Go.wp_at_zero Go.wp_at_succ
theorem updL_updL (L:List Ent) (x y:Ent) (h:x.b=y.b):updL (updL L x) y=updL L y:=by
 unfold updL
 rw [List.map_map]
 refine List.map_congr_left fun e he => ?_
 show (if (if e.b=x.b then x else e).b=y.b then y else if e.b=x.b then x else e)=if e.b=y.b then y else e
 by_cases h1:e.b=x.b
 ·rw [if_pos h1,if_pos h,if_pos (h1.trans h)]
 ·rw [if_neg h1]
theorem drop_abs {L:List Ent} (hb:(L.map Ent.b).Nodup) (hp:(L.map Ent.pl).Nodup) {x:Ent} (hx:x∈L):(L.filter (fun e => e.b != x.b)).map absE=kdrop (L.map absE) x.pl:=by
 have:=abs_used hb hp hx 0
 unfold used at this
 rw [List.map_append] at this
 exact (List.append_inj' this rfl).1
def Ent.put (x:Ent) (b:List UInt8):Ent:=⟨x.b,x.pl,b,true,x.used⟩
theorem CacheAt.puts {w:World} {B cb mb:Nat} {la:Option Addr} {cl:Nat} {E L:List Ent} {most uses db:Nat} (h:CacheAt w B cb mb la cl E L most uses db) {x:Ent} (hx:x∈L) (b:List UInt8) (hl:b.length=256) :
  w.there x.b 1 256∧(∃ v,(w.setCells x.b 1 (bts b)).cell? ⟨x.b,257,none⟩=some v)∧(w.setCells x.b 1 (bts b)).frozen? ⟨x.b,257,none⟩=false∧Chg (CF cb mb la cl E) w ((w.setCells x.b 1 (bts b)).setCell ⟨x.b,257,none⟩ (.bool true)) ∧
   ∃ E',CacheAt ((w.setCells x.b 1 (bts b)).setCell ⟨x.b,257,none⟩ (.bool true)) B cb mb la cl E' (updL L (x.put b)) most uses db∧∀ k,k∈CF cb mb la cl E'→k∈CF cb mb la cl E:=by
 have hm:=h.mem hx
 obtain ⟨i,hb⟩:=h.blk hx
 obtain ⟨E1,k1,l1⟩:=h.bytes hx b hl
 have hx1:(⟨x.b,x.pl,b,x.dirty,x.used⟩:Ent)∈updL L ⟨x.b,x.pl,b,x.dirty,x.used⟩:=updL_mem hx rfl
 obtain ⟨i1,hb1⟩:=k1.blk hx1
 obtain ⟨E2,k2,l2⟩:=k1.dirties hx1 true
 have k3:CacheAt ((w.setCells x.b 1 (bts b)).setCell ⟨x.b,257,none⟩ (.bool true)) B cb mb la cl E2 (updL (updL L ⟨x.b,x.pl,b,x.dirty,x.used⟩) (x.put b)) most uses db:=k2
 rw [updL_updL L ⟨x.b,x.pl,b,x.dirty,x.used⟩ (x.put b) rfl] at k3
 exact ⟨hb.there 1 256 (by rw [entV_len hm.2];omega),⟨_,hb1.cell 257 _ (entV_dirty hl)⟩,hb1.frozen 257,(Chg.setCells x.b _ 1 w).trans (Chg.setCell _ ⟨x.b,257,none⟩ _) (fun k hk _ => by simp at hk;rw [hk];exact hm.1) (fun k hk _ => by simp at hk;rw [hk];exact hm.1),E2,k3,fun k hk => l1 k (l2 k hk)⟩
theorem cput_err (z:Int) (ab:Option Addr) (nb cb':Nat) (w0 w:World) (R:Nat→Prop) (db:Nat) (g:DG) (fa:Option Addr) (cf:Nat) (st:RS) (cb mb:Nat) (la:Option Addr) (cl:Nat) (E L:List Ent) (most uses:Nat) (h:Pair w0 w R db g fa cf st cb mb la cl E L most uses) (hw:whyN st z ≠ 0) :
  Calls Tryz.prog 49 #[.pointer (some ⟨cb,0,none⟩),.int .i64 z,.slice ab nb cb'] w fun e w' => e=.returned (.int .i64 (whyN st z))∧w=w':=by
 have e1:(whyN st z != 0)=true:=by simpa using hw
 have d:=h.d
 have c0:=h.k.c0
 have hW:=h.W
 go_enter Tryz.func49,Tryz.ntmps49
 go_wp2_with (first | (go_at_call 92;refine (casked_any cb db w0.heap.size g fa cf st w d c0 z hW).mono ?_;rintro e w' ⟨rfl,rfl⟩))
 go_ret
 exact ⟨rfl,rfl⟩
theorem cput_arg (z:Int) (ab:Option Addr) (nb cb':Nat) (hnb:nb ≠ 256) (w0 w:World) (R:Nat→Prop) (db:Nat) (g:DG) (fa:Option Addr) (cf:Nat) (st:RS) (cb mb:Nat) (la:Option Addr) (cl:Nat) (E L:List Ent) (most uses:Nat) (h:Pair w0 w R db g fa cf st cb mb la cl E L most uses) (hw:whyN st z=0) :
  Calls Tryz.prog 49 #[.pointer (some ⟨cb,0,none⟩),.int .i64 z,.slice ab nb cb'] w fun e w' => e=.returned (.int .i64 1)∧w=w':=by
 have Hw:=mkHid hw
 have e1:((nb:Int) != 256)=true:=by simp;omega
 have d:=h.d
 have c0:=h.k.c0
 have hW:=h.W
 clear hw
 go_enter Tryz.func49,Tryz.ntmps49
 go_wp2_with (first | (go_at_call 92;refine (casked_any cb db w0.heap.size g fa cf st w d c0 z hW).mono ?_;rw [Hw.out];rintro e w' ⟨rfl,rfl⟩))
 go_ret
 exact ⟨rfl,rfl⟩
set_option maxRecDepth 20000 in
set_option maxHeartbeats 1000000 in
theorem cput_held (x:Ent) (ab:Option Addr) (cb':Nat) (b:List UInt8) (w0 w:World) (R:Nat→Prop) (db:Nat) (g:DG) (fa:Option Addr) (cf:Nat) (st:RS) (cb mb:Nat) (la:Option Addr) (cl:Nat) (E L:List Ent) (most uses:Nat) (h:Pair w0 w R db g fa cf st cb mb la cl E L most uses) (hw:whyN st x.pl=0) (hx:x∈L) (hu:uses < 9223372036854775807)
  (hl:b.length=256) (gb:Reads w ab (bts b)) :
  Calls Tryz.prog 49 #[.pointer (some ⟨cb,0,none⟩),.int .i64 (x.pl:Int),.slice ab 256 cb'] w fun e w' => ∃ E' L',e=.returned (.int .i64 0)∧Pair w0 w' R db g fa cf st cb mb la cl E' L' most (uses+1)∧L'.map absE=kdrop (L.map absE) x.pl++[⟨x.pl,b,true⟩]∧Off R w w':=by
 have d:=h.d
 have c0:=h.k.c0
 have c2:=h.k.c2
 have hW:=h.W
 obtain ⟨D,hD⟩:=h.k.hd
 have hpl:=h.k.pl x hx
 have hxE:=h.k.pm.mem_iff.2 hx
 have Hw:=mkHid hw
 have HB:=mkHid hl
 obtain ⟨th,⟨v7,c7⟩,f7,g2,E2,k2,l2⟩:=h.k.puts hx b hl
 have cU:=cuse_L w0.heap.size cb mb la cl E2 _ most uses db _ k2 (x.put b) (updL_mem hx rfl) hu
 have hb256:((256:Int) != 256)=false:=rfl
 clear hw hl
 go_enter Tryz.func49,Tryz.ntmps49
 go_wp2_with (first
  | (go_at_call 92;refine (casked_any cb db w0.heap.size g fa cf st w d c0 _ hW).mono ?_;rw [Hw.out];rintro e w' ⟨rfl,rfl⟩)
  | (at_lookup;refine wpList_lookup_held w rfl (.tmp 24) (.tmp 25) rfl hD rfl hxE hpl rfl ?_)
  | (refine wpList_copy_k rfl (.tmp 43) (.tmp 44) 27 27 5 rfl Tryz.underlying27 oneB x.b 1 256 256 ab 256 cb' (bts b) rfl rfl gb (by rw [bts_length];exact HB.out) (by rw [bts_length,HB.out];exact th) (bts_one _) ?_)
  | (go_at_call 94;refine cU.mono ?_;rintro e w4 ⟨rfl,E4,k4,g4,l4⟩))
 go_ret
 have g5:Chg (CF cb mb la cl E) w w4:=g2.trans g4 (fun _ h _ => h) (fun k hk _ => l2 k hk)
 have gA:Chg (CF cb mb la cl E++DF db g fa cf) w w4:=g5.mono (fun k hk _ => List.mem_append_left _ hk)
 have hmap:(used (updL L (x.put b)) (x.put b) (uses+1)).map absE=kdrop (L.map absE) x.pl++[⟨x.pl,b,true⟩]:=by
  rw [updL_used (L:=L) (x:=x) (y:=x.put b) (uses+1) rfl,drop_abs h.k.bnd h.k.np hx]
  rfl
 refine ⟨E4,_,rfl,h.go (d.chg g5 (fun k hk hm => h.x k hm hk)) k4 (fun e he => ?_) gA hW (fun k hk => h.x k (l2 k (l4 k hk))) (fun k hk => Or.inl (l2 k (l4 k hk))) (fun k hk => Or.inl hk),hmap,h.off gA⟩
 unfold used updL at he
 rw [List.mem_append,List.mem_filter,List.mem_singleton,List.mem_map] at he
 rcases he with ⟨⟨y,hy,rfl⟩,hb⟩ | rfl
 ·split
  ·exact h.u x hx
  ·exact h.u y hy
 ·exact Nat.succ_pos _
theorem CacheAt.puts_fresh {w:World} {B cb mb:Nat} {la:Option Addr} {cl:Nat} {E L1:List Ent} {most uses db nb a:Nat} (h:CacheAt w B cb mb la cl E (fresh nb a :: L1) most uses db) (b:List UInt8) (hl:b.length=256) :
  w.there nb 1 256∧(∃ v,(w.setCells nb 1 (bts b)).cell? ⟨nb,257,none⟩=some v)∧(w.setCells nb 1 (bts b)).frozen? ⟨nb,257,none⟩=false∧Chg (CF cb mb la cl E) w ((w.setCells nb 1 (bts b)).setCell ⟨nb,257,none⟩ (.bool true)) ∧
   ∃ E',CacheAt ((w.setCells nb 1 (bts b)).setCell ⟨nb,257,none⟩ (.bool true)) B cb mb la cl E' (⟨nb,a,b,true,0⟩ :: L1) most uses db∧∀ k,k∈CF cb mb la cl E'→k∈CF cb mb la cl E:=by
 have e:updL (fresh nb a :: L1) ((fresh nb a).put b)=⟨nb,a,b,true,0⟩ :: L1:=updL_tail h.bnd _ rfl
 rw [← e]
 exact h.puts (x:=fresh nb a) (by simp) b hl
section
variable (a:Nat) (ab:Option Addr) (cb':Nat) (b:List UInt8) (w0 w:World) (R:Nat→Prop) (db:Nat) (g:DG) (fa:Option Addr) (cf:Nat) (st:RS) (cb mb:Nat) (la:Option Addr) (cl:Nat) (E L:List Ent) (most uses:Nat) (h:Pair w0 w R db g fa cf st cb mb la cl E L most uses) (hw:whyN st a=0) (hn:∀ e∈L,e.pl ≠ a) (hLb:st.L.length≤1000000000)
include h hw hn hLb
set_option maxRecDepth 20000 in
theorem cput_no (hv:(kroom most (L.map absE) st).1 ≠ 0) :
  Calls Tryz.prog 49 #[.pointer (some ⟨cb,0,none⟩),.int .i64 (a:Int),.slice ab 256 cb'] w fun e w' => ∃ fa' cf' la' cl' E',e=.returned (.int .i64 (kroom most (L.map absE) st).1)∧Pair w0 w' R db g fa' cf' (kroom most (L.map absE) st).2.2 cb mb la' cl' E' L most uses∧Off R w w':=by
 have d:=h.d
 have c0:=h.k.c0
 have c2:=h.k.c2
 have hW:=h.W
 obtain ⟨D,hD⟩:=h.k.hd
 obtain ⟨a2,ha2,hac,ha⟩:=why_at hW hw
 obtain rfl:a=a2:=by omega
 have hnE:∀ e∈E,e.pl ≠ a:=fun e he => hn e (h.k.pm.mem_iff.1 he)
 have Hw:=mkHid hw
 have cT:=ctaken_any w0.heap.size cb mb la cl E L most uses db w h.k g fa cf st d hW h.c.size hLb h.x a ha hn h.u
 have CT:=mkHid cT
 have HV:=mkHid hv
 have hv2:((kroom most (L.map absE) st).1 != 0)=true:=by simpa using hv
 have hb256:((256:Int) != 256)=false:=rfl
 clear hw ha2 hv cT
 go_enter Tryz.func49,Tryz.ntmps49
 go_wp2_with (first
  | (go_at_call 92;refine (casked_any cb db w0.heap.size g fa cf st w d c0 _ hW).mono ?_;rw [Hw.out];rintro e w' ⟨rfl,rfl⟩)
  | (at_lookup;refine wpList_lookup_none w rfl (.tmp 24) (.tmp 25) rfl hD rfl hnE ha rfl ?_)
  | (go_at_call 93;refine CT.out.mono ?_;rintro e w2 ⟨v2,fa',cf',la',cl',E2,rfl,d2,l2,g2,lk2,xk2,k0,-⟩))
 go_ret
 obtain ⟨k2,hK⟩:=k0 HV.out
 exact ⟨fa',cf',la',cl',E2,rfl,h.go d2 k2 h.u g2 (kroom_whole most _ hW) xk2 lk2 (DF_later l2),h.off g2⟩
set_option maxRecDepth 20000 in
set_option maxHeartbeats 1000000 in
theorem cput_ok (hu:uses < 9223372036854775807) (hl:b.length=256) (gb:Reads w ab (bts b)) (hab:∀ k,k∈blk ab→R k ∨ k < w0.heap.size) (hv:(kroom most (L.map absE) st).1=0) :
  Calls Tryz.prog 49 #[.pointer (some ⟨cb,0,none⟩),.int .i64 (a:Int),.slice ab 256 cb'] w fun e w' => ∃ fa' cf' la' cl' E' L',e=.returned (.int .i64 0)∧Pair w0 w' R db g fa' cf' (kroom most (L.map absE) st).2.2 cb mb la' cl' E' L' most (uses+1)∧L'.map absE=(kroom most (L.map absE) st).2.1++[⟨a,b,true⟩]∧Off R w w':=by
 have d:=h.d
 have c0:=h.k.c0
 have c2:=h.k.c2
 have hW:=h.W
 obtain ⟨D,hD⟩:=h.k.hd
 obtain ⟨a2,ha2,hac,ha⟩:=why_at hW hw
 obtain rfl:a=a2:=by omega
 have hnE:∀ e∈E,e.pl ≠ a:=fun e he => hn e (h.k.pm.mem_iff.1 he)
 have Hw:=mkHid hw
 have HB:=mkHid hl
 have cT:=ctaken_any w0.heap.size cb mb la cl E L most uses db w h.k g fa cf st d hW h.c.size hLb h.x a ha hn h.u
 rw [hv] at cT
 have CT:=mkHid cT
 have HV:=mkHid hv
 have hb256:((256:Int) != 256)=false:=rfl
 clear hw ha2 hv hl cT
 have grd:∀ w2,Chg (CF cb mb la cl E++DF db g fa cf) w w2→Reads w2 ab (bts b):=fun w2 g2 => gb.chg g2 (fun k hk hm => by
  rcases hab k hk with h9 | h9
  ·exact (List.mem_append.1 hm).elim (h.r k h9).1 (h.r k h9).2.1
  ·rcases List.mem_append.1 hm with h8 | h8
   ·have:=(h.k.lt k h8).1;omega
   ·have:=(h.d.lt k h8).1;omega)
 have GR:=mkHid grd
 clear grd
 go_enter Tryz.func49,Tryz.ntmps49
 go_wp2_with (first
  | (go_at_call 92;refine (casked_any cb db w0.heap.size g fa cf st w d c0 _ hW).mono ?_;rw [Hw.out];rintro e w' ⟨rfl,rfl⟩)
  | (at_lookup;refine wpList_lookup_none w rfl (.tmp 24) (.tmp 25) rfl hD rfl hnE ha rfl ?_)
  | (go_at_call 93;refine CT.out.mono ?_;rintro e w2 ⟨v2,fa',cf',la',cl',E2,rfl,d2,l2,g2,lk2,xk2,-,k0⟩;obtain ⟨nb,L1,rfl,hnb,k2,hL1,hsub⟩:=k0 trivial;clear k0;have rd2:=GR.out w2 g2;obtain ⟨th,⟨v7,c7⟩,f7,g3,E3,k3,l3⟩:=k2.puts_fresh b HB.out;have cU:=cuse_L w0.heap.size cb mb la' cl' E3 _ most uses db _ k3 ⟨nb,a,b,true,0⟩ (by simp) hu)
  | (refine wpList_copy_k rfl (.tmp 43) (.tmp 44) 27 27 5 rfl Tryz.underlying27 oneB nb 1 256 256 ab 256 cb' (bts b) rfl rfl rd2 (by rw [bts_length];exact HB.out) (by rw [bts_length,HB.out];exact th) (bts_one _) ?_)
  | (go_at_call 94;refine cU.mono ?_;rintro e w4 ⟨rfl,E4,k4,g4,l4⟩))
 go_ret
 rw [used_head k3.bnd] at k4
 have g5:Chg (CF cb mb la' cl' E2) w2 w4:=g3.trans g4 (fun _ h _ => h) (fun k hk _ => l3 k hk)
 have gB:Chg (CF cb mb la cl E++DF db g fa cf) w w4:=g2.trans g5 (fun _ h _ => h) (fun k hk hlt => (lk2 k hk).elim (fun h9 => List.mem_append_left _ h9) (fun h9 => by omega))
 refine ⟨fa',cf',la',cl',E4,_,rfl,h.go (d2.chg g5 (fun k hk hm => xk2 k hm hk)) k4 (fun e he => ?_) gB (kroom_whole most _ hW) (fun k hk => xk2 k (l3 k (l4 k hk))) (fun k hk => lk2 k (l3 k (l4 k hk))) (DF_later l2),?_,h.off gB⟩
 ·rcases List.mem_append.1 he with he | he
  ·exact h.u e (hsub e he)
  ·simp at he
   rw [he]
   exact Nat.succ_pos _
 ·rw [List.map_append,hL1]
  rfl
end
def kput (n:Nat) (K:List KE) (st:RS) (z:Int) (b:List UInt8):Int × List KE × RS:=
 if whyN st z ≠ 0 then (whyN st z,K,st) else if b.length ≠ 256 then (1,K,st) else match kfind K z.toNat with
 | some _ => (0,kdrop K z.toNat++[⟨z.toNat,b,true⟩],st)
 | none => if (kroom n K st).1=0 then (0,(kroom n K st).2.1++[⟨z.toNat,b,true⟩],(kroom n K st).2.2) else ((kroom n K st).1,K,(kroom n K st).2.2)
theorem cput_any (z:Int) (ab:Option Addr) (cb':Nat) (b:List UInt8) (w0 w:World) (R:Nat→Prop) (db:Nat) (g:DG) (fa:Option Addr) (cf:Nat) (st:RS) (cb mb:Nat) (la:Option Addr) (cl:Nat) (E L:List Ent) (most uses:Nat) (h:Pair w0 w R db g fa cf st cb mb la cl E L most uses) (hu:uses < 9223372036854775807) (hLb:st.L.length≤1000000000)
  (gb:Reads w ab (bts b)) (hab:∀ k,k∈blk ab→R k ∨ k < w0.heap.size) :
  Calls Tryz.prog 49 #[.pointer (some ⟨cb,0,none⟩),.int .i64 z,.slice ab b.length cb'] w fun e w' => ∃ fa' cf' la' cl' E' L' uses',e=.returned (.int .i64 (kput most (L.map absE) st z b).1)∧Pair w0 w' R db g fa' cf' (kput most (L.map absE) st z b).2.2 cb mb la' cl' E' L' most uses'∧L'.map absE=(kput most (L.map absE) st z b).2.1∧uses'≤uses+1∧Off R w w':=by
 unfold kput
 by_cases hw:whyN st z=0
 ·rw [if_neg (by simp [hw])]
  by_cases hl:b.length=256
  ·rw [if_neg (by simp [hl]),hl]
   obtain ⟨a,rfl,hac,ha⟩:=why_at h.W hw
   rw [Int.toNat_natCast]
   cases hf:kfind (L.map absE) a with
   | some y =>
    obtain ⟨x,hx,rfl,rfl⟩:=abs_find hf
    refine (cput_held x ab cb' b w0 w R db g fa cf st cb mb la cl E L most uses h hw hx hu hl gb).mono ?_
    rintro e w' ⟨E',L',he,p,hL,o⟩
    exact ⟨fa,cf,la,cl,E',L',uses+1,he,p,hL,Nat.le_refl _,o⟩
   | none =>
    have hn:∀ e∈L,e.pl ≠ a:=fun e he => kfind_none hf (absE e) (List.mem_map.2 ⟨e,he,rfl⟩)
    simp only
    by_cases hv:(kroom most (L.map absE) st).1=0
    ·rw [if_pos hv]
     refine (cput_ok a ab cb' b w0 w R db g fa cf st cb mb la cl E L most uses h hw hn hLb hu hl gb hab hv).mono ?_
     rintro e w' ⟨fa',cf',la',cl',E',L',he,p,hL,o⟩
     exact ⟨fa',cf',la',cl',E',L',uses+1,he,p,hL,Nat.le_refl _,o⟩
    ·rw [if_neg hv]
     refine (cput_no a ab cb' w0 w R db g fa cf st cb mb la cl E L most uses h hw hn hLb hv).mono ?_
     rintro e w' ⟨fa',cf',la',cl',E',he,p,o⟩
     exact ⟨fa',cf',la',cl',E',L,uses,he,p,rfl,Nat.le_succ _,o⟩
  ·rw [if_pos hl]
   refine (cput_arg z ab b.length cb' hl w0 w R db g fa cf st cb mb la cl E L most uses h hw).mono ?_
   rintro e w' ⟨he,rfl⟩
   exact ⟨fa,cf,la,cl,E,L,uses,he,h,rfl,Nat.le_succ _,Off.keep (Chg.refl _ _)⟩
 ·rw [if_pos hw]
  refine (cput_err z ab b.length cb' w0 w R db g fa cf st cb mb la cl E L most uses h hw).mono ?_
  rintro e w' ⟨he,rfl⟩
  exact ⟨fa,cf,la,cl,E,L,uses,he,h,rfl,Nat.le_succ _,Off.keep (Chg.refl _ _)⟩
end
section
open Go.RowKit Go.Maps Go.ChangeMaps Go.MapKept
attribute [local go_sem ↓] Go.wp_at_zero Go.wp_at_succ
section
variable (B db:Nat) (g:DG) (fa:Option Addr) (cf:Nat) (st:RS) (w:World) (h:DevAt w B db g fa cf st) (hW:Whole st)
include h hW
theorem cnew_raw (n:Nat) (hn:1≤n∧n≤1024) (hB:B≤w.heap.size):Calls Tryz.prog 35 #[.pointer (some ⟨db,0,none⟩),.int .i64 (n:Int)] w fun e w' => ∃ cb mb,e=.returned (.tuple #[.pointer (some ⟨cb,0,none⟩),.int .i64 0])∧CacheAt w' B cb mb none 0 [] [] n 0 db∧Chg [] w w'∧w.heap.size≤cb∧w.heap.size≤mb:=by
 have hc:0 < st.count:=by have:=hW.1;have:=h.pos;omega
 have h1:((st.count:Int) == 0)=false:=beq_eq_false_iff_ne.2 (by omega)
 have h1':(st.count == 0)=false:=beq_eq_false_iff_ne.2 (by omega)
 have hd:decide ((n:Int) < 1)=false:=decide_eq_false (by omega)
 have hd2:decide ((1024:Int) < (n:Int))=false:=decide_eq_false (by omega)
 have hmm:=@run_makeMap Tryz.prog
 go_enter Tryz.func35,Tryz.ntmps35
 go_wp2_with (first | (go_at_call 75;refine (blocks_any B db g fa cf st w h hW).mono ?_;rintro e w' ⟨rfl,rfl⟩))
 go_ret2
 have z1:(w.alloc (.map #[] 0)).heap.size=w.heap.size+1:=by simp
 have m1:=World.ownsMap_made w Tryz.prog 3 ptrR
 have g1:Chg [] w (w.alloc (.map #[] 0)):=Chg.alloc [] w _
 generalize w.alloc (.map #[] 0)=w1 at *
 have hcl:=fun j => cell_of_row (w1.alloc (.cells #[.pointer (some ⟨db,0,none⟩),.int .i64 (n:Int),.map (some w.heap.size),.slice none 0 0,.int .u64 0] 153)) w1.heap.size j _ _ _ (heap_alloc_last w1 _)
 have hfz:=fun j => frozen_of_row (w1.alloc (.cells #[.pointer (some ⟨db,0,none⟩),.int .i64 (n:Int),.map (some w.heap.size),.slice none 0 0,.int .u64 0] 153)) w1.heap.size j _ _ (heap_alloc_last w1 _)
 rw [z1] at hcl hfz
 have g2:=Chg.alloc [] w1 (.cells #[.pointer (some ⟨db,0,none⟩),.int .i64 (n:Int),.map (some w.heap.size),.slice none 0 0,.int .u64 0] 153)
 have hH1:HeldAt w1 w.heap.size [] (.map []):=⟨m1,rfl,fun e he => by simp at he,fun z _ => rfl⟩
 refine ⟨w.heap.size+1,w.heap.size,rfl,⟨hcl 0,hcl 1,hcl 2,hcl 4,hfz 4,⟨hcl 3,hfz 3,Room.nil _ _ _,fun i hi => by simp at hi,fun e he => by simp at he,by simp,fun e he => by simp at he,fun e he => by simp at he,by simp [fp_zero],fun e he => by simp at he,by omega,by simp⟩,fun k _ hk => by simp at hk,⟨_,hH1.chg g2 (by simp)⟩,List.Perm.refl _,List.Pairwise.nil,fun e he => by simp at he,by simp,fun e he => by simp at he,by simp,hn,by simp [LF,fp_zero],hB⟩,g1.then g2,by omega,Nat.le_refl _⟩
end
theorem cnew_yes (n:Nat) (hn:1≤n∧n≤1024) (w0 w:World) (R:Nat→Prop) (db:Nat) (g:DG) (fa:Option Addr) (cf:Nat) (st:RS) (d:DevAt w w0.heap.size db g fa cf st) (c:Chg [] w0 w) (hW:Whole st) (hr:∀ k,R k→k ∉ DF db g fa cf∧k < w.heap.size) :
  Calls Tryz.prog 35 #[.pointer (some ⟨db,0,none⟩),.int .i64 (n:Int)] w fun e w' => ∃ cb mb,e=.returned (.tuple #[.pointer (some ⟨cb,0,none⟩),.int .i64 0])∧Pair w0 w' R db g fa cf st cb mb none 0 [] [] n 0∧Chg [] w w':=by
 refine (cnew_raw w0.heap.size db g fa cf st w d hW n hn c.size).mono ?_
 rintro e w' ⟨cb,mb,he,k,gk,hcb,hmb⟩
 have hCF:∀ q,q∈CF cb mb none 0 []→w.heap.size≤q:=fun q hq => by
  simp only [CF,LF,fp_zero,List.map_nil,List.append_nil,List.mem_cons,List.not_mem_nil,or_false] at hq
  rcases hq with rfl | rfl <;> assumption
 exact ⟨cb,mb,he,⟨d.keep gk,k,fun e he => by simp at he,c.then gk,hW,fun q hq hm => by have:=hCF q hq;have:=(d.lt q hm).2;omega,fun q hq => ⟨fun hm => by have:=hCF q hm;have:=(hr q hq).2;omega,(hr q hq).1,Nat.lt_of_lt_of_le (hr q hq).2 gk.size⟩⟩,gk⟩
end
end Go.Proofs.YtdgkbicelnnfpaaGreatDoor
