/- Texts Sb, Sd, Se, Nc, Nd, Ne, Nf, Nk, Nl of the library, joined. -/
import Derived.Test.YtdgkbicelnnfpaaGreatDoorM13
import Derived.Deep.RegionHeld3
import Derived.Deep.QuietTactic
import Derived.BigQuiet
import Derived.Lib.SlBytesConst
set_option linter.unusedVariables false
set_option linter.unusedSimpArgs false
namespace Go.Proofs.YtdgkbicelnnfpaaGreatDoor
section
set_option maxRecDepth 200000
open Go.RowKit
def body (l:List UInt8) (p kd:Nat):List UInt8:=(l++List.replicate (240 - l.length) 0)++(be p 8++be kd 4)
theorem body_length (l:List UInt8) (p kd:Nat) (h:l.length≤240):(body l p kd).length=252:=by
 simp [body,be_length];omega
def sealB (l:List UInt8) (p kd:Nat):List UInt8:=body l p kd++be (csum (body l p kd)).toNat 4
theorem seal_length (l:List UInt8) (p kd:Nat) (h:l.length≤240):(sealB l p kd).length=256:=by
 simp [sealB,be_length,body_length l p kd h]
def SealPost (w:World) (l:List UInt8) (p kd:Nat) (e:Ending) (w':World):Prop:=
 ∃ ao c,e=.returned (.tuple #[.slice ao 256 c,.int .i64 0])∧Room w' w.heap.size ao 256 c (bts (sealB l p kd))∧Chg [] w w'
structure Own (w0 w:World) (b n:Nat) (l:List UInt8):Prop where
 r:Room w w0.heap.size (some ⟨b,0,none⟩) n n (bts l)
 g:Chg [] w0 w
theorem Own.len {w0 w:World} {b n:Nat} {l:List UInt8} (h:Own w0 w b n l):l.length=n:=by have:=h.r.len;rwa [bts_length] at this
theorem Own.keep {w0 w w':World} {b n:Nat} {l:List UInt8} (h:Own w0 w b n l) (g:Chg [] w w'):Own w0 w' b n l:=⟨h.r.chg g (by simp),h.g.then g⟩
theorem Own.there {w0 w:World} {b n:Nat} {l:List UInt8} (h:Own w0 w b n l) (i m:Nat) (hi:i+m≤n):w.there b i m:=by
 have:=h.r.there i m hi
 rwa [Nat.zero_add] at this
theorem Own.put {w0 w:World} {b n:Nat} {l:List UInt8} (h:Own w0 w b n l) (m:List UInt8) (i:Nat) (hi:i+m.length≤n) (l':List UInt8) (hl':l.take i++(m++l.drop (i+m.length))=l') (hn:0 < n):Own w0 (w.setCells b i (bts m)) b n l':=by
 subst hl'
 have:=h.r.sets (bts m) i (by rw [bts_length];exact hi)
 rw [bts_length,bts_take,bts_drop,← bts_append,← bts_append,Nat.zero_add] at this
 exact ⟨this,h.g.trans (Chg.setCells b (bts m) i w) (fun _ h _ => h) (fun k hk hlt => by simp at hk;have:=(h.r.lt b (by rw [fp_some _ _ _ hn];simp)).1;omega)⟩
theorem own_made (n:Nat) (hn:n≤1000) (w:World):Own w (w.alloc (.cells (madeCells #[.int .u8 0] n) 5)) w.heap.size n (List.replicate n 0):=
 ⟨by rw [bts_rep];exact made_room w 5 (.int .u8 0) n (by unfold maxLen;omega),Chg.alloc [] w _⟩
set_option maxHeartbeats 1000000 in
theorem seal_any (ao:Option Addr) (n c:Nat) (l:List UInt8) (k:Int) (kd:Nat) (w:World) (hT:Tab w) (g:Reads w ao (bts l)) (gn:l.length=n) (hn:n≤240) (hkd:kd < 256) :
  Calls Tryz.prog 48 #[.slice ao n c,.int .i64 k,.int .u8 kd] w (SealPost w l (pn k) kd):=by
 have hmk:∀ u:World,(Instr.makeSlice 27 (.int .i64 256) (.int .i64 256)).run Tryz.prog u=.ok (.slice (some ⟨u.heap.size,0,none⟩) 256 256) (u.alloc (.cells (madeCells #[.int .u8 0] 256) 5)):=hmk 256 (by decide)
 have hd:decide ((240:Int) < (n:Int))=false:=decide_eq_false (by omega)
 have hkw:IntKind.u64.wrap (kd:Int)=(kd:Int):=by rw [IntKind.wrap_u64];omega
 go_enter Tryz.func48,Tryz.ntmps48
 have hk64:kd < 2 ^ 64:=by omega
 have h0:=own_made 256 (by decide) w
 have hlen:l.length≤240:=by omega
 go_wp2_with (first
  | (refine wpList_copy_k rfl (.tmp 13) (.tmp 14) 27 27 5 rfl Tryz.underlying27 oneB w.heap.size 0 256 256 ao n c (bts l) rfl rfl (g.keep h0.g) (by rw [bts_length,gn];exact (Nat.min_eq_left (by omega)).symm) (h0.there 0 _ (by rw [bts_length];omega)) (bts_one _) ?_)
  | (go_at_call 89;refine (part_any w.heap.size 0 256 256 240 8 240 248 rfl rfl (by decide) (by decide) _).mono ?_;rintro e w' ⟨rfl,rfl⟩)
  | (go_at_call 90;refine (place_any k _).mono ?_;rintro e w' ⟨rfl,rfl⟩))
 have h1:=h0.put l 0 (by omega) (l++List.replicate (256 - l.length) 0) (by rw [List.take_zero,List.nil_append,List.drop_replicate,Nat.zero_add]) (by decide)
 generalize World.setCells (w.alloc _) _ _ _=w1 at h1 ⊢
 clear h0
 generalize w.heap.size=nb at h1 ⊢
 refine (lay_any nb 240 8 (pn k) (by decide) (by decide) (pn_lt k) _ (h1.there 240 8 (by decide))).mono ?_
 rintro e w2 ⟨rfl,wa,ha,rfl⟩
 have h2:=(h1.keep ha).put (be (pn k) 8) 240 (by rw [be_length];decide) ((l++List.replicate (240 - l.length) 0)++(be (pn k) 8++List.replicate 8 0)) (by
  rw [be_length,List.take_append,List.drop_append,List.take_of_length_le (show l.length≤240 by omega),List.drop_eq_nil_of_le (show l.length≤240+8 by omega),List.take_replicate,List.drop_replicate,List.nil_append,show min (240 - l.length) (256 - l.length)=240 - l.length by omega,show 256 - l.length - (240+8 - l.length)=8 by omega]) (by decide)
 generalize World.setCells wa _ _ _=w2 at h2 ⊢
 clear h1 ha
 go_wp2_with (first
  | (go_at_call 89;refine (part_any nb 0 256 256 248 4 248 252 rfl rfl (by decide) (by decide) _).mono ?_;rintro e w' ⟨rfl,rfl⟩))
 refine (lay_any nb 248 4 kd (by decide) (by decide) hk64 _ (h2.there 248 4 (by decide))).mono ?_
 rintro e w3 ⟨rfl,wb,hb,rfl⟩
 have h3:=(h2.keep hb).put (be kd 4) 248 (by rw [be_length];decide) (body l (pn k) kd++List.replicate 4 0) (by
  have e1:(l++List.replicate (240 - l.length) 0).length=240:=by simp;omega
  have e2:((l++List.replicate (240 - l.length) 0)++be (pn k) 8).length=248:=by simp [be_length];omega
  rw [be_length,← List.append_assoc (l++_),List.take_append_of_le_length (by omega),List.take_of_length_le (by omega),List.drop_append,List.drop_eq_nil_of_le (by omega),e2,List.drop_replicate,List.nil_append]
  simp only [body,List.append_assoc]) (by decide)
 generalize World.setCells wb _ _ _=w3 at h3 ⊢
 clear h2 hb
 have hbl:=body_length l (pn k) kd hlen
 generalize hbd:body l (pn k) kd=bd at h3 hbl
 have hX:(csum ((bd++List.replicate 4 0).take 252)).toNat=(csum bd).toNat:=by rw [List.take_append_of_le_length (by omega),List.take_of_length_le (by omega)]
 go_wp2_with (first
  | (go_at_call 89;refine (part_any nb 0 256 256 252 4 252 256 rfl rfl (by decide) (by decide) _).mono ?_;rintro e w' ⟨rfl,rfl⟩)
  | (go_at_call 91;refine (sumOf_as nb 0 256 256 _ _ hX (by rw [h3.len];decide) (by rw [h3.len];decide) _ (hT.then h3.g) h3.r.reads).mono ?_;rintro e w4 ⟨rfl,hg4⟩))
 refine (lay_any nb 252 4 (csum bd).toNat (by decide) (by decide) (by have:=(csum bd).isLt;omega) _ ((h3.keep hg4).there 252 4 (by decide))).mono ?_
 rintro e w5 ⟨rfl,wc,hc,rfl⟩
 have h5:=((h3.keep hg4).keep hc).put (be (csum bd).toNat 4) 252 (by rw [be_length];decide) (sealB l (pn k) kd) (by
  rw [be_length,List.take_append_of_le_length (by omega),List.take_of_length_le (by omega),List.drop_eq_nil_of_le (by simp;omega),List.append_nil]
  simp [sealB,hbd]) (by decide)
 generalize World.setCells wc _ _ _=w5 at h5 ⊢
 clear h3 hg4 hc
 go_wp2_with fail
 go_ret2
 exact ⟨_,_,rfl,h5.r,h5.g⟩
def opens (b:List UInt8) (p kd:Nat):Nat:=
 if b.length < 256 then 4 else if 256 < b.length then 3
 else if val ((b.drop 252).take 4) ≠ (csum (b.take 252)).toNat then 20
 else if val ((b.drop 240).take 8) ≠ p then 21
 else if val ((b.drop 248).take 4) ≠ kd then 22 else 0
def OpenPost (w:World) (b:List UInt8) (p kd:Nat) (e:Ending) (w':World):Prop:=
 Chg [] w w'∧((opens b p kd=0∧∃ ao c,e=.returned (.tuple #[.slice ao 240 c,.int .i64 0])∧Room w' w.heap.size ao 240 c (bts (b.take 240))) ∨ (opens b p kd ≠ 0∧e=.returned (.tuple #[.slice none 0 0,.int .i64 (opens b p kd)])))
set_option maxHeartbeats 2000000 in
theorem open_any (ao:Option Addr) (n c:Nat) (l:List UInt8) (k:Int) (kd:Nat) (w:World) (hT:Tab w) (g:Reads w ao (bts l)) (gn:l.length=n) (gc:n≤c) (gm:c≤maxLen) (hkd:kd < 256) :
  Calls Tryz.prog 51 #[.slice ao n c,.int .i64 k,.int .u8 kd] w (OpenPost w l (pn k) kd):=by
 have hkw:IntKind.u64.wrap (kd:Int)=(kd:Int):=by rw [IntKind.wrap_u64];omega
 by_cases c1:n < 256
 ·have d1:decide ((n:Int) < 256)=true:=decide_eq_true (by omega)
  have ho:opens l (pn k) kd=4:=by unfold opens;rw [if_pos (by omega)]
  go_enter Tryz.func51,Tryz.ntmps51
  go_wp2_with fail
  go_ret2
  exact ⟨Chg.refl _ _,Or.inr ⟨by rw [ho];decide,by rw [ho];rfl⟩⟩
 have d1:decide ((n:Int) < 256)=false:=decide_eq_false (by omega)
 by_cases c2:256 < n
 ·have d2:decide ((256:Int) < (n:Int))=true:=decide_eq_true (by omega)
  have ho:opens l (pn k) kd=3:=by unfold opens;rw [if_neg (by omega),if_pos (by omega)]
  go_enter Tryz.func51,Tryz.ntmps51
  go_wp2_with fail
  go_ret2
  exact ⟨Chg.refl _ _,Or.inr ⟨by rw [ho];decide,by rw [ho];rfl⟩⟩
 obtain rfl:n=256:=by omega
 clear c1 c2 d1
 obtain ⟨b,o,rfl,_⟩:=g (by rw [bts_length];omega)
 have gs:∀ i m,Reads w (some ⟨b,o+i,none⟩) (bts ((l.drop i).take m)):=fun i m => by
  rw [← bts_take,← bts_drop];exact (g.drop).take m
 have gl:∀ i m,i+m≤256→((l.drop i).take m).length=m:=fun i m h => by simp;omega
 have g1:=gs 252 4
 have g2:=gs 240 8
 have g3:=gs 248 4
 have l1:=gl 252 4 (by decide)
 have l2:=gl 240 8 (by decide)
 have l3:=gl 248 4 (by decide)
 clear gs gl
 have ho:opens l (pn k) kd=if val ((l.drop 252).take 4) ≠ (csum (l.take 252)).toNat then 20 else if val ((l.drop 240).take 8) ≠ pn k then 21 else if val ((l.drop 248).take 4) ≠ kd then 22 else 0:=by
  unfold opens;rw [if_neg (by omega),if_neg (by omega)]
 obtain ⟨O,hO⟩:∃ O,O=opens l (pn k) kd:=⟨_,rfl⟩
 have hno:∀ (C:Nat) (w':World),O=C→C ≠ 0→Chg [] w w'→OpenPost w l (pn k) kd (.returned (.tuple #[.slice none 0 0,.int .i64 C])) w':=fun C w' h h0 hg => by
  subst h;rw [hO] at h0 ⊢;exact ⟨hg,Or.inr ⟨h0,rfl⟩⟩
 have hyes:∀ (w1 w':World) (b:Nat),O=0→Chg [] w w1→Own w1 w' b 240 (l.take 240)→OpenPost w l (pn k) kd (.returned (.tuple #[.slice (some ⟨b,0,none⟩) 240 240,.int .i64 0])) w':=fun w1 w' b h hg ho => by
  rw [hO] at h;exact ⟨hg.then ho.g,Or.inl ⟨h,_,_,rfl,ho.r.mono hg.size⟩⟩
 rw [← hO] at ho
 generalize hS:(csum (l.take 252)).toNat=S at *
 generalize (l.drop 252).take 4=b1 at *
 generalize (l.drop 240).take 8=b2 at *
 generalize (l.drop 248).take 4=b3 at *
 generalize hp:pn k=p at *
 clear hO
 have hp':∀ u,Calls Tryz.prog 90 #[.int .i64 k] u fun e w' => e=.returned (.int .u64 p)∧u=w':=fun u => by subst hp;exact place_any k u
 clear hp
 obtain ⟨V1,hV1⟩:∃ V:Value,V=.slice (some ⟨b,o+252,none⟩) 4 4:=⟨_,rfl⟩
 have P1:∀ u,Calls Tryz.prog 89 #[.slice (some ⟨b,o,none⟩) 256 c,.int .i64 252,.int .i64 256] u fun e w' => e=.returned V1∧u=w':=fun u => by subst hV1;exact part_any b o 256 c 252 4 252 256 rfl rfl (by decide) (by omega) u
 have T1:∀ u,Chg [] w u→Calls Tryz.prog 96 #[V1] u fun e w' => e=.returned (.int .u64 (val b1))∧u=w':=fun u hu => by subst hV1;exact told_any b _ 4 b1 l1 (by decide) (by decide) _ (g1.keep hu)
 clear hV1
 obtain ⟨V2,hV2⟩:∃ V:Value,V=.slice (some ⟨b,o+240,none⟩) 8 8:=⟨_,rfl⟩
 have P2:∀ u,Calls Tryz.prog 89 #[.slice (some ⟨b,o,none⟩) 256 c,.int .i64 240,.int .i64 248] u fun e w' => e=.returned V2∧u=w':=fun u => by subst hV2;exact part_any b o 256 c 240 8 240 248 rfl rfl (by decide) (by omega) u
 have T2:∀ u,Chg [] w u→Calls Tryz.prog 96 #[V2] u fun e w' => e=.returned (.int .u64 (val b2))∧u=w':=fun u hu => by subst hV2;exact told_any b _ 8 b2 l2 (by decide) (by decide) _ (g2.keep hu)
 clear hV2
 obtain ⟨V3,hV3⟩:∃ V:Value,V=.slice (some ⟨b,o+248,none⟩) 4 4:=⟨_,rfl⟩
 have P3:∀ u,Calls Tryz.prog 89 #[.slice (some ⟨b,o,none⟩) 256 c,.int .i64 248,.int .i64 252] u fun e w' => e=.returned V3∧u=w':=fun u => by subst hV3;exact part_any b o 256 c 248 4 248 252 rfl rfl (by decide) (by omega) u
 have T3:∀ u,Chg [] w u→Calls Tryz.prog 96 #[V3] u fun e w' => e=.returned (.int .u64 (val b3))∧u=w':=fun u hu => by subst hV3;exact told_any b _ 4 b3 l3 (by decide) (by decide) _ (g3.keep hu)
 clear hV3
 by_cases c3:val b1=S
 rotate_left
 ·have d3:decide ((val b1:Int)=(S:Int))=false:=decide_eq_false (by omega)
  rw [if_pos c3] at ho
  subst ho
  go_enter Tryz.func51,Tryz.ntmps51
  go_wp2_with (first
  | (go_at_call_of 89 (Value.int .i64 240);refine (P2 _).mono ?_;rintro e w' ⟨rfl,rfl⟩)
  | (go_at_call_of 89 (Value.int .i64 256);refine (P1 _).mono ?_;rintro e w' ⟨rfl,rfl⟩)
  | (go_at_call_of 89 (Value.int .i64 248);refine (P3 _).mono ?_;rintro e w' ⟨rfl,rfl⟩)
  | (go_at_call_of 96 V1;refine (T1 _ (Chg.refl _ _)).mono ?_;rintro e w' ⟨rfl,rfl⟩)
  | (go_at_call 91;refine (sumOf_as b o 256 c l S hS (by omega) (by omega) _ hT g).mono ?_;rintro e w1 ⟨rfl,hg1⟩)
  | (go_at_call_of 96 V2;refine (T2 _ hg1).mono ?_;rintro e w' ⟨rfl,rfl⟩)
  | (go_at_call 90;refine (hp' _).mono ?_;rintro e w' ⟨rfl,rfl⟩)
  | (go_at_call_of 96 V3;refine (T3 _ hg1).mono ?_;rintro e w' ⟨rfl,rfl⟩))
  go_ret2
  exact hno _ _ rfl (by decide) hg1
 rw [if_neg (by simpa using c3)] at ho
 have d3:decide ((val b1:Int)=(S:Int))=true:=decide_eq_true (by omega)
 by_cases c4:val b2=p
 rotate_left
 ·have d4:decide ((val b2:Int)=(p:Int))=false:=decide_eq_false (by omega)
  rw [if_pos c4] at ho
  subst ho
  go_enter Tryz.func51,Tryz.ntmps51
  go_wp2_with (first
  | (go_at_call_of 89 (Value.int .i64 240);refine (P2 _).mono ?_;rintro e w' ⟨rfl,rfl⟩)
  | (go_at_call_of 89 (Value.int .i64 256);refine (P1 _).mono ?_;rintro e w' ⟨rfl,rfl⟩)
  | (go_at_call_of 89 (Value.int .i64 248);refine (P3 _).mono ?_;rintro e w' ⟨rfl,rfl⟩)
  | (go_at_call_of 96 V1;refine (T1 _ (Chg.refl _ _)).mono ?_;rintro e w' ⟨rfl,rfl⟩)
  | (go_at_call 91;refine (sumOf_as b o 256 c l S hS (by omega) (by omega) _ hT g).mono ?_;rintro e w1 ⟨rfl,hg1⟩)
  | (go_at_call_of 96 V2;refine (T2 _ hg1).mono ?_;rintro e w' ⟨rfl,rfl⟩)
  | (go_at_call 90;refine (hp' _).mono ?_;rintro e w' ⟨rfl,rfl⟩)
  | (go_at_call_of 96 V3;refine (T3 _ hg1).mono ?_;rintro e w' ⟨rfl,rfl⟩))
  go_ret2
  exact hno _ _ rfl (by decide) hg1
 rw [if_neg (by simpa using c4)] at ho
 have d4:decide ((val b2:Int)=(p:Int))=true:=decide_eq_true (by omega)
 by_cases c5:val b3=kd
 rotate_left
 ·have d5:decide ((val b3:Int)=(kd:Int))=false:=decide_eq_false (by omega)
  rw [if_pos c5] at ho
  subst ho
  go_enter Tryz.func51,Tryz.ntmps51
  go_wp2_with (first
  | (go_at_call_of 89 (Value.int .i64 240);refine (P2 _).mono ?_;rintro e w' ⟨rfl,rfl⟩)
  | (go_at_call_of 89 (Value.int .i64 256);refine (P1 _).mono ?_;rintro e w' ⟨rfl,rfl⟩)
  | (go_at_call_of 89 (Value.int .i64 248);refine (P3 _).mono ?_;rintro e w' ⟨rfl,rfl⟩)
  | (go_at_call_of 96 V1;refine (T1 _ (Chg.refl _ _)).mono ?_;rintro e w' ⟨rfl,rfl⟩)
  | (go_at_call 91;refine (sumOf_as b o 256 c l S hS (by omega) (by omega) _ hT g).mono ?_;rintro e w1 ⟨rfl,hg1⟩)
  | (go_at_call_of 96 V2;refine (T2 _ hg1).mono ?_;rintro e w' ⟨rfl,rfl⟩)
  | (go_at_call 90;refine (hp' _).mono ?_;rintro e w' ⟨rfl,rfl⟩)
  | (go_at_call_of 96 V3;refine (T3 _ hg1).mono ?_;rintro e w' ⟨rfl,rfl⟩))
  go_ret2
  exact hno _ _ rfl (by decide) hg1
 rw [if_neg (by simpa using c5)] at ho
 have d5:decide ((val b3:Int)=(kd:Int))=true:=decide_eq_true (by omega)
 subst ho
 have hmk:∀ u:World,(Instr.makeSlice 27 (.int .i64 240) (.int .i64 240)).run Tryz.prog u=.ok (.slice (some ⟨u.heap.size,0,none⟩) 240 240) (u.alloc (.cells (madeCells #[.int .u8 0] 240) 5)):=hmk 240 (by decide)
 have hl240:(bts (l.take 240)).length=240:=by rw [bts_length,List.length_take];omega
 go_enter Tryz.func51,Tryz.ntmps51
 go_wp2_with (first
  | (go_at_call_of 89 (Value.int .i64 240);refine (P2 _).mono ?_;rintro e w' ⟨rfl,rfl⟩)
  | (go_at_call_of 89 (Value.int .i64 256);refine (P1 _).mono ?_;rintro e w' ⟨rfl,rfl⟩)
  | (go_at_call_of 89 (Value.int .i64 248);refine (P3 _).mono ?_;rintro e w' ⟨rfl,rfl⟩)
  | (go_at_call_of 96 V1;refine (T1 _ (Chg.refl _ _)).mono ?_;rintro e w' ⟨rfl,rfl⟩)
  | (go_at_call 91;refine (sumOf_as b o 256 c l S hS (by omega) (by omega) _ hT g).mono ?_;rintro e w1 ⟨rfl,hg1⟩)
  | (go_at_call_of 96 V2;refine (T2 _ hg1).mono ?_;rintro e w' ⟨rfl,rfl⟩)
  | (go_at_call 90;refine (hp' _).mono ?_;rintro e w' ⟨rfl,rfl⟩)
  | (go_at_call_of 96 V3;refine (T3 _ hg1).mono ?_;rintro e w' ⟨rfl,rfl⟩)
  | (refine wpList_copy_k rfl (.tmp 39) (.tmp 40) 27 27 5 rfl Tryz.underlying27 oneB w1.heap.size 0 240 240 (some ⟨b,o,none⟩) 256 c (bts (l.take 240)) rfl rfl (((by rw [← bts_take];exact g.take 240:Reads w (some ⟨b,o,none⟩) (bts (l.take 240))).keep hg1).keep (own_made 240 (by decide) w1).g) (by rw [hl240];rfl) ((own_made 240 (by decide) w1).there 0 _ (by rw [hl240];decide)) (bts_one _) ?_))
 have h1:=(own_made 240 (by decide) w1).put (l.take 240) 0 (by rw [bts_length] at hl240;omega) (l.take 240) (by rw [bts_length] at hl240;rw [hl240,zqc,List.drop_replicate,List.nil_append];simp) (by decide)
 generalize World.setCells (w1.alloc _) _ _ _=w2 at h1 ⊢
 go_ret2
 exact hyes _ _ _ (by first | rfl | trivial) hg1 h1
end
section
set_option maxRecDepth 200000
open Go.RowKit
theorem val_be_lt (k:Nat):∀ N:Nat,N < 256 ^ k→val (be N k)=N:=by
 induction k with
 | zero =>
  intro N h
  have:N=0:=by simpa using h
  subst this
  rfl
 | succ k ih =>
  intro N h
  rw [be_snoc,val_snoc,ih (N / 256) (by rw [Nat.pow_succ] at h;exact Nat.div_lt_of_lt_mul (by rw [Nat.mul_comm];exact h)),UInt8.toNat_ofNat']
  omega
theorem seal_parts (l:List UInt8) (p kd:Nat) (h:l.length≤240):((sealB l p kd).drop 240).take 8=be p 8∧((sealB l p kd).drop 248).take 4=be kd 4:=by
 have e1:(l++List.replicate (240 - l.length) (0:UInt8)).length=240:=by rw [List.length_append,List.length_replicate];omega
 have e2:(l++List.replicate (240 - l.length) (0:UInt8)++be p 8).length=248:=by rw [List.length_append,e1,be_length]
 constructor
 ·unfold sealB body
  rw [List.append_assoc,List.drop_left' e1,List.append_assoc,List.take_left' (be_length p 8)]
 ·unfold sealB body
  rw [← List.append_assoc,List.append_assoc _ (be kd 4),List.drop_left' e2,List.take_left' (be_length kd 4)]
end
section
set_option maxRecDepth 200000
open Go.RowKit
theorem seal_take (l:List UInt8) (p kd:Nat) (h:l.length≤240):(sealB l p kd).take 252=body l p kd:=by
 unfold sealB;rw [List.take_left' (body_length l p kd h)]
theorem seal_drop (l:List UInt8) (p kd:Nat) (h:l.length≤240):(sealB l p kd).drop 252=be (csum (body l p kd)).toNat 4:=by
 unfold sealB;rw [List.drop_left' (body_length l p kd h)]
theorem opens_seal (l:List UInt8) (p kd p' kd':Nat) (h:l.length≤240) (hp:p < 2 ^ 64) (hkd:kd < 2 ^ 32) :
  opens (sealB l p kd) p' kd'=if p ≠ p' then 21 else if kd ≠ kd' then 22 else 0:=by
 have hl:=seal_length l p kd h
 obtain ⟨h1,h2⟩:=seal_parts l p kd h
 have hS:=(csum (body l p kd)).isLt
 unfold opens
 rw [if_neg (by omega),if_neg (by omega),seal_drop l p kd h,seal_take l p kd h,h1,h2,List.take_of_length_le (by rw [be_length];decide),val_be_lt 4 _ (by omega),val_be_lt 8 p (by omega),val_be_lt 4 kd (by omega),if_neg (by simp)]
theorem open_no (C:Nat) (hC:C ≠ 0) (ao:Option Addr) (n c:Nat) (l:List UInt8) (k:Int) (kd p:Nat) (hp:pn k=p) (ho:opens l p kd=C) (w:World) (hT:Tab w) (g:Reads w ao (bts l)) (gn:l.length=n) (gc:n≤c) (gm:c≤maxLen) (hkd:kd < 256) :
  Calls Tryz.prog 51 #[.slice ao n c,.int .i64 k,.int .u8 kd] w fun e w' => e=.returned (.tuple #[.slice none 0 0,.int .i64 C])∧Chg [] w w':=by
 subst hp ho
 refine (open_any ao n c l k kd w hT g gn gc gm hkd).mono ?_
 rintro e w2 ⟨hg2,⟨h0,-⟩ | ⟨-,rfl⟩⟩
 ·exact absurd h0 hC
 ·exact ⟨rfl,hg2⟩
theorem open_yes (ao:Option Addr) (n c:Nat) (l:List UInt8) (k:Int) (kd p:Nat) (hp:pn k=p) (ho:opens l p kd=0) (w:World) (hT:Tab w) (g:Reads w ao (bts l)) (gn:l.length=n) (gc:n≤c) (gm:c≤maxLen) (hkd:kd < 256) :
  Calls Tryz.prog 51 #[.slice ao n c,.int .i64 k,.int .u8 kd] w fun e w' => ∃ ap cp,e=.returned (.tuple #[.slice ap 240 cp,.int .i64 0])∧Room w' w.heap.size ap 240 cp (bts (l.take 240))∧Chg [] w w':=by
 subst hp
 refine (open_any ao n c l k kd w hT g gn gc gm hkd).mono ?_
 rintro e w2 ⟨hg2,⟨-,ap,cp,rfl,hr⟩ | ⟨h0,rfl⟩⟩
 ·exact ⟨ap,cp,rfl,hr,hg2⟩
 ·exact absurd ho h0
def ab:List UInt8:=[97,98]
end
section
open Go.RowKit
attribute [local go_sem ↓] Go.wp_at_zero Go.wp_at_succ
structure RdN (w:World) (ka:Option Addr) (kc:Nat) (va:Option Addr) (vc:Nat) (K V:List Nat):Prop where
 rk:Reads w ka (uvs K)
 rv:Reads w va (uvs V)
 ck:K.length≤kc
 cv:V.length≤vc
 bk:K.length * 8≤140737488351232
 bv:V.length * 8≤140737488351232
 xk:kc≤maxLen
 xv:vc≤maxLen
theorem RdN.keep {w w':World} {ka:Option Addr} {kc:Nat} {va:Option Addr} {vc:Nat} {K V:List Nat} (h:RdN w ka kc va vc K V) (g:Chg [] w w'):RdN w' ka kc va vc K V:=⟨h.rk.keep g,h.rv.keep g,h.ck,h.cv,h.bk,h.bv,h.xk,h.xv⟩
theorem getD_of {L:List Nat} {i x:Nat} (h:L[i]?=some x):L.getD i 0=x:=by rw [List.getD_eq_getElem?_getD,h];rfl
theorem all_mono (f:Nat→Bool) {a b:Nat} (h:a≤b) (hb:(List.range b).all f=true):(List.range a).all f=true:=by
 rw [List.all_eq_true] at hb ⊢
 exact fun x hx => hb x (by simp at hx ⊢;omega)
theorem okAt_zero {K V:List Nat} {v:Nat} (hv:V[0]?=some v):okAt K V 0=decide (0 < v):=by unfold okAt;rw [getD_of hv];simp
theorem okAt_succ {K V:List Nat} {h v y z:Nat} (hv:V[h+1]?=some v) (hy:K[h+1]?=some y) (hz:K[h]?=some z):okAt K V (h+1)=(decide (0 < v) && decide (z < y)):=by
 unfold okAt
 rw [getD_of hv,getD_of hy,show h+1 - 1=h by omega,getD_of hz]
 simp
end
section
open Go.RowKit
attribute [local go_sem ↓] Go.wp_at_zero Go.wp_at_succ
def sameB (lf lf':Bool) (K V K' V':List Nat):Bool:=decide (lf=lf') && (decide (K=K') && decide (V=V'))
theorem take_iff {L M:List Nat} {k:Nat} (hl:k < L.length) (hm:k < M.length) (he:L.take k=M.take k) {x y:Nat} (hx:L[k]?=some x) (hy:M[k]?=some y):L.take (k+1)=M.take (k+1) ↔ x=y:=by
 rw [List.getElem?_eq_getElem hl] at hx
 rw [List.getElem?_eq_getElem hm] at hy
 cases hx;cases hy
 rw [List.take_succ_eq_append_getElem hl,List.take_succ_eq_append_getElem hm,he]
 exact ⟨fun h => by simpa using List.append_cancel_left h,fun h => by rw [h]⟩
theorem two_boxes (w:World) (x0 x1 x2 y0 y1 y2:Value) (t:TypeId):((w.alloc (.cells #[x0,x1,x2] t)).alloc (.cells #[y0,y1,y2] t)).cell? ⟨w.heap.size,1,none⟩=some x1∧((w.alloc (.cells #[x0,x1,x2] t)).alloc (.cells #[y0,y1,y2] t)).cell? ⟨w.heap.size,2,none⟩=some x2 ∧
  ((w.alloc (.cells #[x0,x1,x2] t)).alloc (.cells #[y0,y1,y2] t)).cell? ⟨w.heap.size+1,1,none⟩=some y1∧((w.alloc (.cells #[x0,x1,x2] t)).alloc (.cells #[y0,y1,y2] t)).cell? ⟨w.heap.size+1,2,none⟩=some y2:=by
 have g:=Chg.alloc [] (w.alloc (.cells #[x0,x1,x2] t)) (.cells #[y0,y1,y2] t)
 have hz:(w.alloc (.cells #[x0,x1,x2] t)).heap.size=w.heap.size+1:=by simp
 have h2:=fun j => cell_of_row ((w.alloc (.cells #[x0,x1,x2] t)).alloc (.cells #[y0,y1,y2] t)) _ j _ _ _ (heap_alloc_last (w.alloc (.cells #[x0,x1,x2] t)) (.cells #[y0,y1,y2] t))
 rw [hz] at h2
 have h1:=fun j => cell_of_row (w.alloc (.cells #[x0,x1,x2] t)) _ j _ _ _ (heap_alloc_last w (.cells #[x0,x1,x2] t))
 exact ⟨g.cellv (h1 1) (by simp),g.cellv (h1 2) (by simp),h2 1,h2 2⟩
end
section
open Go.RowKit
attribute [local go_sem ↓] Go.wp_at_zero Go.wp_at_succ
theorem pairs_len:∀ {K V:List Nat},V.length=K.length→(pairsN K V).length=16 * K.length
 | [],[],_ => rfl
 | k :: K,v :: V,h => by
  have h2:V.length=K.length:=by simpa using h
  rw [pairsN,List.length_append,List.length_append,be_length,be_length,pairs_len h2,List.length_cons]
  omega
theorem pairs_take:∀ {K V:List Nat} {i k v:Nat},V.length=K.length→K[i]?=some k→V[i]?=some v→pairsN (K.take (i+1)) (V.take (i+1))=pairsN (K.take i) (V.take i)++(be k 8++be v 8)
 | [],V,i,k,v,_,hk,_ => by simp at hk
 | a :: K,[],i,k,v,h,_,_ => by simp at h
 | a :: K,b :: V,0,k,v,h,hk,hv => by
  simp at hk hv
  subst hk hv
  simp [pairsN]
 | a :: K,b :: V,i+1,k,v,h,hk,hv => by
  have h2:V.length=K.length:=by simpa using h
  simp only [List.getElem?_cons_succ] at hk hv
  simp only [zqb,pairsN]
  rw [pairs_take h2 hk hv]
  simp [List.append_assoc]
theorem may_len {K V:List Nat} (h:mayB K V=true):1≤K.length∧K.length≤8∧V.length=K.length:=by
 unfold mayB at h
 simp only [Bool.and_eq_true,decide_eq_true_eq] at h
 exact ⟨h.1.1.1,h.1.1.2,h.1.2⟩
end
section
open Go.RowKit
attribute [local go_sem ↓] Go.wp_at_zero Go.wp_at_succ
def lowK (K:List Nat) (x:Nat):Bool:=match K.getLast? with
 | none => false
 | some z => decide (x≤z)
mutual
def takeK:Nat→List Nat→List Nat→List UInt8→Int × List Nat × List Nat
 | 0,K,V,l => if l.all (· == 0) then (0,K,V) else (5,[],[])
 | c+1,K,V,l => if l.length < 8 then (4,[],[]) else if lowK K (val (l.take 8)) then (5,[],[]) else takeV c (K++[val (l.take 8)]) V (l.drop 8)
def takeV:Nat→List Nat→List Nat→List UInt8→Int × List Nat × List Nat
 | c,K,V,l => if l.length < 8 then (4,[],[]) else if val (l.take 8)=0 then (5,[],[]) else takeK c K (V++[val (l.take 8)]) (l.drop 8)
end
def takeN (l:List UInt8):Int × Bool × List Nat × List Nat:=match l with
 | [] => (4,false,[],[])
 | a :: r => if a ≠ 0∧a ≠ 1 then (5,false,[],[]) else match r with
  | [] => (4,false,[],[])
  | b :: s => if b.toNat=0 ∨ 8 < b.toNat then (5,false,[],[]) else if (takeK b.toNat [] [] s).1=0 then (0,decide (a=1),(takeK b.toNat [] [] s).2) else ((takeK b.toNat [] [] s).1,false,[],[])
end
section
open Go.RowKit
attribute [local go_sem ↓] Go.wp_at_zero Go.wp_at_succ
theorem kind_any (lf:Bool) (w:World):Calls Tryz.prog 87 #[.bool lf] w fun e w' => e=.returned (.int .u64 ((if lf=true then 1 else 0:Nat):Int))∧w=w':=by
 cases lf
 ·go_enter Tryz.func87,Tryz.ntmps87
  go_wp2
  go_ret
  exact ⟨rfl,rfl⟩
 ·go_enter Tryz.func87,Tryz.ntmps87
  go_wp2
  go_ret
  exact ⟨rfl,rfl⟩
theorem kind_true (w:World):Calls Tryz.prog 87 #[.bool true] w fun e w' => e=.returned (.int .u64 1)∧w=w':=kind_any true w
theorem kind_false (w:World):Calls Tryz.prog 87 #[.bool false] w fun e w' => e=.returned (.int .u64 0)∧w=w':=kind_any false w
def fewB (n:Nat):Bool:=decide (1≤n) && decide (n≤8)
def pointsB (x:Nat):Bool := !decide (x=0)
def knownB (n:Nat):Bool:=decide (n=1) || decide (n=0)
theorem few_any (n:Nat) (w:World):Calls Tryz.prog 100 #[.int .u64 (n:Int)] w fun e w' => e=.returned (.bool (fewB n))∧w=w':=by
 by_cases h1:1≤n
 ·by_cases h2:n≤8
  ·have e:fewB n=true:=by simp [fewB,h1,h2]
   rw [e]
   clear e
   have d1:decide ((n:Int) ≥ 1)=true:=decide_eq_true (by omega)
   have d2:decide ((n:Int)≤8)=true:=decide_eq_true (by omega)
   go_enter Tryz.func100,Tryz.ntmps100
   go_wp2
   go_ret
   exact ⟨rfl,rfl⟩
  ·have e:fewB n=false:=by simp [fewB,h2]
   rw [e]
   clear e
   have d1:decide ((n:Int) ≥ 1)=true:=decide_eq_true (by omega)
   have d2:decide ((n:Int)≤8)=false:=decide_eq_false (by omega)
   have d3:decide (n≤8)=false:=decide_eq_false (by omega)
   go_enter Tryz.func100,Tryz.ntmps100
   go_wp2
   go_ret
   exact ⟨rfl,rfl⟩
 ·have e:fewB n=false:=by simp [fewB,h1]
  rw [e]
  clear e
  have d1:decide ((n:Int) ≥ 1)=false:=decide_eq_false (by omega)
  have d2:decide (1≤(n:Int))=false:=decide_eq_false (by omega)
  have d3:decide (1≤n)=false:=decide_eq_false (by omega)
  go_enter Tryz.func100,Tryz.ntmps100
  go_wp2
  go_ret
  exact ⟨rfl,rfl⟩
theorem points_any (n:Nat) (w:World):Calls Tryz.prog 102 #[.int .u64 (n:Int)] w fun e w' => e=.returned (.bool (pointsB n))∧w=w':=by
 by_cases h1:n=0
 ·subst h1
  go_enter Tryz.func102,Tryz.ntmps102
  go_wp2
  go_ret
  exact ⟨rfl,rfl⟩
 ·have e:pointsB n=true:=by simp [pointsB,h1]
  rw [e]
  clear e
  have d1:((n:Int) != 0)=true:=by simp;omega
  have d2:(n != 0)=true:=by simp;omega
  go_enter Tryz.func102,Tryz.ntmps102
  go_wp2
  go_ret
  exact ⟨rfl,rfl⟩
theorem known_any (n:Nat) (w:World):Calls Tryz.prog 145 #[.int .u64 (n:Int)] w fun e w' => e=.returned (.bool (knownB n))∧w=w':=by
 by_cases h1:n=1
 ·subst h1
  go_enter Tryz.func145,Tryz.ntmps145
  go_wp2_with (first | (go_at_call_of 87 (Value.bool true);refine (kind_true _).mono ?_;rintro e w' ⟨rfl,rfl⟩) | (go_at_call_of 87 (Value.bool false);refine (kind_false _).mono ?_;rintro e w' ⟨rfl,rfl⟩))
  go_ret
  exact ⟨rfl,rfl⟩
 ·have d1:((n:Int) == 1)=false:=by simp;omega
  have d2:(n == 1)=false:=by simp;omega
  by_cases h2:n=0
  ·subst h2
   go_enter Tryz.func145,Tryz.ntmps145
   go_wp2_with (first | (go_at_call_of 87 (Value.bool true);refine (kind_true _).mono ?_;rintro e w' ⟨rfl,rfl⟩) | (go_at_call_of 87 (Value.bool false);refine (kind_false _).mono ?_;rintro e w' ⟨rfl,rfl⟩))
   go_ret
   exact ⟨rfl,rfl⟩
  ·have e:knownB n=false:=by simp [knownB,h1,h2]
   rw [e]
   clear e
   have d3:((n:Int) == 0)=false:=by simp;omega
   have d4:(n == 0)=false:=by simp;omega
   go_enter Tryz.func145,Tryz.ntmps145
   go_wp2_with (first | (go_at_call_of 87 (Value.bool true);refine (kind_true _).mono ?_;rintro e w' ⟨rfl,rfl⟩) | (go_at_call_of 87 (Value.bool false);refine (kind_false _).mono ?_;rintro e w' ⟨rfl,rfl⟩))
   go_ret
   exact ⟨rfl,rfl⟩
theorem low_nil (x:Nat):lowK [] x=false:=rfl
theorem low_at {K:List Nat} {j z:Nat} (hl:K.length=j+1) (hz:K[j]?=some z) (x:Nat):lowK K x=decide (x≤z):=by
 unfold lowK
 rw [List.getLast?_eq_getElem?,hl,Nat.add_sub_cancel,hz]
theorem rises_any (ao:Option Addr) (n c:Nat) (K:List Nat) (x:Nat) (w:World) (hr:Reads w ao (uvs K)) (hl:K.length=n) (hc:n≤c) (hm:c≤maxLen):Calls Tryz.prog 101 #[.slice ao n c,.int .u64 (x:Int)] w fun e w' => e=.returned (.bool (!lowK K x))∧w=w':=by
 unfold maxLen at hm
 cases n with
 | zero =>
  have:K=[]:=List.eq_nil_of_length_eq_zero hl
  subst this
  go_enter Tryz.func101,Tryz.ntmps101
  go_wp2
  go_ret
  exact ⟨rfl,rfl⟩
 | succ j =>
  obtain ⟨z,hz⟩:∃ z,K[j]?=some z:=⟨_,List.getElem?_eq_getElem (by omega)⟩
  rw [low_at hl hz]
  obtain ⟨kb,ko,rfl,cz,_⟩:=reads_lt hr j _ (uvs_get hz)
  have e1:((j+1:Nat):Int)=(j:Int)+1:=by omega
  have d1:(((j+1:Nat):Int) == 0)=false:=by simp;omega
  have d0:((j:Int)+1 == 0)=false:=by simp;omega
  clear hz hl hr
  by_cases hx:x≤z
  ·have d2:decide (x > z)=false:=decide_eq_false (by omega)
   have d3:decide ((x:Int) > (z:Int))=false:=decide_eq_false (by omega)
   have d4:decide (z < x)=false:=decide_eq_false (by omega)
   rw [decide_eq_true hx]
   clear hx
   go_enter Tryz.func101,Tryz.ntmps101
   go_wp2
   go_ret
   exact ⟨rfl,rfl⟩
  ·have d2:decide (x > z)=true:=decide_eq_true (by omega)
   have d3:decide ((x:Int) > (z:Int))=true:=decide_eq_true (by omega)
   have d4:decide (z < x)=true:=decide_eq_true (by omega)
   rw [decide_eq_false hx]
   clear hx
   go_enter Tryz.func101,Tryz.ntmps101
   go_wp2
   go_ret
   exact ⟨rfl,rfl⟩
theorem all_take_snoc (l:List UInt8) (k:Nat) (h:k < l.length):(l.take (k+1)).all (· == 0)=((l.take k).all (· == 0) && (l[k] == 0)):=by
 rw [List.take_succ_eq_append_getElem h,List.all_append];simp
theorem noughts_any (ao:Option Addr) (n c:Nat) (l:List UInt8) (w:World) (hx:Reads w ao (bts l)) (hn:l.length=n) (hc:n≤c) (hle:c≤maxLen):Calls Tryz.prog 99 #[.slice ao n c] w fun e w' => e=.returned (.bool (l.all (· == 0)))∧w=w':=by
 unfold maxLen at hle
 go_enter Tryz.func99,Tryz.ntmps99
 go_wp2_with fail
 go_loop [7] (fun i => ∃ k:Nat,k≤n∧i=.int .i64 k∧(l.take k).all (· == 0)=true) (fun i => n - (Go.RowKit.intOf i).toNat)
 case atStart => exact ⟨0,Nat.zero_le _,rfl,rfl⟩
 case round =>
  obtain ⟨k,hk,rfl,ha⟩:=hrel
  by_cases hlt:k < n
  ·have hd:decide ((k:Int) < (n:Int))=true:=decide_eq_true (by omega)
   have hd2:decide (k < n)=true:=decide_eq_true hlt
   obtain ⟨y,hy⟩:∃ y:UInt8,l[k]?=some y:=⟨_,List.getElem?_eq_getElem (by omega)⟩
   obtain ⟨m,hm⟩:∃ m:Nat,y.toNat=m:=⟨_,rfl⟩
   have hcell0:(bts l)[k]?=some (.int .u8 (m:Int)):=by rw [← hm,bts,List.getElem?_map,hy];rfl
   obtain ⟨b,o,rfl,hcell,_⟩:=reads_lt hx k _ hcell0
   have hsn:(l.take (k+1)).all (· == 0)=(y == 0):=by
    rw [all_take_snoc l k (by omega),ha,Bool.true_and]
    rw [List.getElem?_eq_getElem (by omega)] at hy
    rw [Option.some.inj hy]
   have hb:(k:Int) < (n:Int):=by omega
   have hyz:y=0 ↔ m=0:=by rw [← hm];exact ⟨fun h => by rw [h];rfl,fun h => UInt8.toNat_inj.1 h⟩
   have hym:y∈l:=List.mem_of_getElem? hy
   have HS:=mkHid hsn
   have HY:=mkHid (And.intro hyz hym)
   clear hsn hyz hy hm hcell0 ha hn hx hym
   by_cases h0:m=0
   ·subst h0
    go_wp2_with fail
    go_round
    case rel => exact ⟨k+1,by omega,by go_num,by rw [HS.out,HY.out.1.2 rfl];rfl⟩
    case measure => simp [Go.RowKit.intOf];omega
   ·have d1:((m:Int) != 0)=true:=by simp;omega
    have d2:(m != 0)=true:=by simp;omega
    have H0:=mkHid h0
    clear h0
    go_wp2_with fail
    go_ret
    have hy0:(y == 0)=false:=by simp;exact fun e => H0.out (HY.out.1.1 e)
    have hf:l.all (· == 0)=false:=by
     rw [List.all_eq_false]
     exact ⟨y,HY.out.2,by simp at hy0;simp [hy0]⟩
    rw [hf]
    exact ⟨rfl,rfl⟩
  ·have:k=n:=by omega
   subst this
   rw [List.take_of_length_le (by omega)] at ha
   have hd:decide (k < k)=false:=by simp
   have HA:=mkHid ha
   clear ha hn
   go_wp2_with fail
   go_ret
   rw [HA.out]
   exact ⟨rfl,rfl⟩
end
section
open Go.RowKit
attribute [local go_sem ↓] Go.wp_at_zero Go.wp_at_succ
set_option maxRecDepth 20000 in
theorem equal_any (ka:Option Addr) (kl kc:Nat) (K:List Nat) (ka':Option Addr) (kl' kc':Nat) (K':List Nat) (w:World) (h:Reads w ka (uvs K)) (hk:K.length=kl) (hkl:kl≤140737488351232) (g:Reads w ka' (uvs K')) (hk':K'.length=kl') (hkl':kl'≤140737488351232) :
  Calls Tryz.prog 189 #[.slice ka kl kc,.slice ka' kl' kc'] w fun e w' => e=.returned (.bool (decide (K=K')))∧w=w':=by
 by_cases e1:kl=kl'
 ·subst e1
  have b1:((kl:Int) != (kl:Int))=false:=by simp
  have HK:=mkHid hk
  have HK':=mkHid hk'
  clear hk hk'
  go_enter Tryz.func189,Tryz.ntmps189
  go_wp2_with fail
  go_loop [14] (fun iv => ∃ k:Nat,iv=.int .i64 k∧k≤kl∧K.take k=K'.take k) (fun iv => kl - (Go.RowKit.intOf iv).toNat)
  case atStart => exact ⟨0,rfl,Nat.zero_le _,by simp⟩
  case round =>
   obtain ⟨k,rfl,hkn,he⟩:=hrel
   by_cases hlt:k < kl
   ·have hd:decide (k < kl)=true:=decide_eq_true hlt
    have hd2:decide ((k:Int) < (kl:Int))=true:=decide_eq_true (by omega)
    have kL:k < K.length:=by rw [HK.out];exact hlt
    have kM:k < K'.length:=by rw [HK'.out];exact hlt
    obtain ⟨x,hx⟩:∃ x,K[k]?=some x:=⟨_,List.getElem?_eq_getElem kL⟩
    obtain ⟨y,hy⟩:∃ y,K'[k]?=some y:=⟨_,List.getElem?_eq_getElem kM⟩
    obtain ⟨xb,xo,rfl,cx,_⟩:=reads_lt h k _ (uvs_get hx)
    obtain ⟨yb,yo,rfl,cy,_⟩:=reads_lt g k _ (uvs_get hy)
    have hti:=take_iff kL kM he hx hy
    have HT:=mkHid hti
    clear hti he hx hy kL kM h g
    by_cases hxy:x=y
    ·have q1:((x:Int) != (y:Int))=false:=by simp [hxy]
     have q2:(x != y)=false:=by simp [hxy]
     have HX:=mkHid hxy
     clear hxy
     go_wp2_with fail
     go_round
     case rel => exact ⟨k+1,by first | rfl | go_num,by omega,HT.out.2 HX.out⟩
     case measure => simp [Go.RowKit.intOf];omega
    ·have q1:((x:Int) != (y:Int))=true:=by simp;omega
     have q2:(x != y)=true:=by simp [hxy]
     have HX:=mkHid hxy
     clear hxy
     go_wp2_with fail
     go_ret
     have hne:K ≠ K':=fun e => HX.out (HT.out.1 (by rw [e]))
     rw [decide_eq_false hne]
     exact ⟨rfl,rfl⟩
   ·have hkk:k=kl:=by omega
    have hd:decide (k < kl)=false:=decide_eq_false hlt
    have hd2:decide ((k:Int) < (kl:Int))=false:=decide_eq_false (by omega)
    have hLM:K=K':=by rwa [List.take_of_length_le (by rw [HK.out];omega),List.take_of_length_le (by rw [HK'.out];omega)] at he
    have HKK:=mkHid hLM
    clear he hkk hLM
    go_wp2_with fail
    go_ret
    rw [decide_eq_true HKK.out]
    exact ⟨rfl,rfl⟩
 ·have b1:((kl:Int) != (kl':Int))=true:=by simp;omega
  have b2:(kl != kl')=true:=by simp;omega
  have hne:K ≠ K':=fun e => e1 (by rw [← hk,← hk',e])
  rw [decide_eq_false hne]
  clear hne hk hk'
  go_enter Tryz.func189,Tryz.ntmps189
  go_wp2_with fail
  go_ret
  exact ⟨rfl,rfl⟩
theorem two_boxes0 (w:World) (x0 x1 x2 y0 y1 y2:Value) (t:TypeId):((w.alloc (.cells #[x0,x1,x2] t)).alloc (.cells #[y0,y1,y2] t)).cell? ⟨w.heap.size,0,none⟩=some x0∧((w.alloc (.cells #[x0,x1,x2] t)).alloc (.cells #[y0,y1,y2] t)).cell? ⟨w.heap.size+1,0,none⟩=some y0:=by
 have g:=Chg.alloc [] (w.alloc (.cells #[x0,x1,x2] t)) (.cells #[y0,y1,y2] t)
 have hz:(w.alloc (.cells #[x0,x1,x2] t)).heap.size=w.heap.size+1:=by simp
 have h2:=cell_of_row ((w.alloc (.cells #[x0,x1,x2] t)).alloc (.cells #[y0,y1,y2] t)) _ 0 _ _ _ (heap_alloc_last (w.alloc (.cells #[x0,x1,x2] t)) (.cells #[y0,y1,y2] t))
 rw [hz] at h2
 have h1:=cell_of_row (w.alloc (.cells #[x0,x1,x2] t)) _ 0 _ _ _ (heap_alloc_last w (.cells #[x0,x1,x2] t))
 exact ⟨g.cellv h1 (by simp),h2⟩
set_option maxRecDepth 20000 in
theorem same_any (lf:Bool) (ka:Option Addr) (kl kc:Nat) (va:Option Addr) (vl vc:Nat) (K V:List Nat) (lf':Bool) (ka':Option Addr) (kl' kc':Nat) (va':Option Addr) (vl' vc':Nat) (K' V':List Nat) (w:World) (h:RdN w ka kc va vc K V) (hk:K.length=kl) (hv:V.length=vl) (g:RdN w ka' kc' va' vc' K' V') (hk':K'.length=kl') (hv':V'.length=vl') :
  Calls Tryz.prog 179 #[.agg #[.bool lf,.slice ka kl kc,.slice va vl vc],.agg #[.bool lf',.slice ka' kl' kc',.slice va' vl' vc']] w fun e w' => e=.returned (.bool (sameB lf lf' K V K' V'))∧Chg [] w w':=by
 have hkb:kl≤140737488351232:=by have:=h.ck;have:=h.bk;omega
 have hvb:vl≤140737488351232:=by have:=h.cv;have:=h.bv;omega
 have hkb':kl'≤140737488351232:=by have:=g.ck;have:=g.bk;omega
 have hvb':vl'≤140737488351232:=by have:=g.cv;have:=g.bv;omega
 have g0:Chg [] w ((w.alloc (.cells #[.bool lf,.slice ka kl kc,.slice va vl vc] 53)).alloc (.cells #[.bool lf',.slice ka' kl' kc',.slice va' vl' vc'] 53)):=(Chg.alloc [] w _).then (Chg.alloc [] _ _)
 have cK:=fun (u:World) (gu:Chg [] w u) => equal_any ka kl kc K ka' kl' kc' K' u (h.keep gu).rk hk hkb (g.keep gu).rk hk' hkb'
 have cV:=fun (u:World) (gu:Chg [] w u) => equal_any va vl vc V va' vl' vc' V' u (h.keep gu).rv hv hvb (g.keep gu).rv hv' hvb'
 obtain ⟨c1,c2,c3,c4⟩:=two_boxes w (.bool lf) (.slice ka kl kc) (.slice va vl vc) (.bool lf') (.slice ka' kl' kc') (.slice va' vl' vc') 53
 obtain ⟨c0,c5⟩:=two_boxes0 w (.bool lf) (.slice ka kl kc) (.slice va vl vc) (.bool lf') (.slice ka' kl' kc') (.slice va' vl' vc') 53
 have G0:=mkHid g0
 have CK:=mkHid (cK _ g0)
 have CV:=mkHid (cV _ g0)
 have HK:=mkHid hk
 have HV:=mkHid hv
 have HK':=mkHid hk'
 have HV':=mkHid hv'
 clear cK cV hk hv hk' hv' g0
 unfold sameB
 by_cases e0:lf=lf'
 ·subst e0
  have b0:(lf == lf)=true:=by simp
  rw [decide_eq_true rfl,Bool.true_and]
  by_cases e1:K=K'
  ·rw [decide_eq_true e1,Bool.true_and]
   rw [decide_eq_true e1] at CK
   generalize hq:decide (V=V')=q at *
   have HQ:=mkHid hq
   clear e1 hq
   go_enter Tryz.func179,Tryz.ntmps179
   go_wp2_with (first | (go_at_call_of 189 (Value.slice ka kl kc);refine CK.out.mono ?_;rintro e w' ⟨rfl,rfl⟩) | (go_at_call_of 189 (Value.slice va vl vc);refine CV.out.mono ?_;rintro e w' ⟨rfl,rfl⟩))
   go_ret
   exact ⟨rfl,G0.out⟩
  ·rw [decide_eq_false e1,Bool.false_and]
   rw [decide_eq_false e1] at CK
   clear e1
   go_enter Tryz.func179,Tryz.ntmps179
   go_wp2_with (first | (go_at_call_of 189 (Value.slice ka kl kc);refine CK.out.mono ?_;rintro e w' ⟨rfl,rfl⟩))
   go_ret
   exact ⟨rfl,G0.out⟩
 ·have b0:(lf == lf')=false:=by simp [e0]
  rw [decide_eq_false e0,Bool.false_and]
  clear e0
  go_enter Tryz.func179,Tryz.ntmps179
  go_wp2_with fail
  go_ret
  exact ⟨rfl,G0.out⟩
end
end Go.Proofs.YtdgkbicelnnfpaaGreatDoor
