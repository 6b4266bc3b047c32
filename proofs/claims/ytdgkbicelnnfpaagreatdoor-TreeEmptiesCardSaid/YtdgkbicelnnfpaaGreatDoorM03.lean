/- Texts Qa, Da, Ja, Jb of the library, joined. -/
import Derived.Test.YtdgkbicelnnfpaaGreatDoorM02
import Derived.Deep.QuietTactic
import Derived.BigQuiet
import Derived.Deep.RegionHeld3
import Derived.Deep.RegionLaw
import Derived.Deep.DeepCutAuto
import Derived.Deep.DrawnRows
import Derived.WalkSpells
import Derived.WalkLawsBesides
import Derived.RegionTactic
set_option linter.unusedVariables false
set_option linter.unusedSimpArgs false
namespace Go.Proofs.YtdgkbicelnnfpaaGreatDoor
section
open Go.RowKit
theorem flat_get:∀ (S:List (List UInt8)) (s:Nat) (hs:s < S.length),(∀ l∈S,l.length=64)→(S.flatten.drop (64 * s)).take 64=S[s]
 | l :: r,0,_,h => by
  have:=h l (by simp)
  simp only [Nat.mul_zero,zqe,List.flatten_cons,List.getElem_cons_zero]
  rw [← this,List.take_left]
 | l :: r,s+1,hs,h => by
  have h1:=h l (by simp)
  have ih:=flat_get r s (by simpa using hs) (fun m hm => h m (by simp [hm]))
  simp only [List.flatten_cons,List.getElem_cons_succ]
  rw [show 64 * (s+1)=l.length+64 * s by omega,List.drop_length_add_append]
  exact ih
def flyV (f:Nat × List UInt8):List Value:=.int .i64 f.1 :: bts f.2
def flyC (L:List (Nat × List UInt8)):List Value:=L.flatMap flyV
theorem flyV_one (f:Nat × List UInt8):∀ u∈flyV f,u.oneCell'=true:=by
 intro u hu
 rcases List.mem_cons.1 hu with rfl | hu
 ·rfl
 ·exact bts_one _ u hu
theorem flyV_len {f:Nat × List UInt8} (h:f.2.length=64):(flyV f).length=65:=by simp [flyV,bts_length,h]
theorem flyC_snoc (L:List (Nat × List UInt8)) (f:Nat × List UInt8):flyC (L++[f])=flyC L++flyV f:=by simp [flyC]
theorem flyC_get:∀ (L:List (Nat × List UInt8)) (k:Nat) (hk:k < L.length),(∀ f∈L,f.2.length=64)→∀ (j:Nat) (u:Value),(flyV L[k])[j]?=some u→(flyC L)[k * 65+j]?=some u
 | f :: r,0,_,h,j,u,hu => by
  have h1:j < (flyV f).length:=(List.getElem?_eq_some_iff.1 hu).1
  show (flyV f++flyC r)[0 * 65+j]?=some u
  rw [show 0 * 65+j=j by omega,List.getElem?_append_left h1]
  exact hu
 | f :: r,k+1,hk,h,j,u,hu => by
  have h1:=flyV_len (h f (by simp))
  show (flyV f++flyC r)[(k+1) * 65+j]?=some u
  rw [List.getElem?_append_right (by omega),h1,show (k+1) * 65+j - 65=k * 65+j by omega]
  exact flyC_get r k (by simpa using hk) (fun m hm => h m (by simp [hm])) j u hu
def newR:List (Nat × List UInt8)→Nat→Nat
 | [],_ => 0
 | f :: r,s => if f.1=s then r.length+1 else newR r s
def newOf (L:List (Nat × List UInt8)) (s:Nat):Nat:=newR L.reverse s
theorem newOf_nil (s:Nat):newOf [] s=0:=rfl
theorem newOf_snoc (L:List (Nat × List UInt8)) (f:Nat × List UInt8) (s:Nat):newOf (L++[f]) s=if f.1=s then L.length+1 else newOf L s:=by simp [newOf,newR]
theorem lastOf_snoc (k:Nat) (b:List UInt8) (L:List (Nat × List UInt8)) (f:Nat × List UInt8):lastOf k b (L++[f])=if f.1=k then f.2 else lastOf k b L:=by simp [lastOf,List.foldl_append]
theorem newR_parts (s:Nat):∀ (R:List (Nat × List UInt8)),(newR R s=0∧∀ b,lastOf s b R.reverse=b) ∨ ∃ n l,newR R s=n+1∧R.reverse[n]?=some (s,l)∧∀ b,lastOf s b R.reverse=l
 | [] => Or.inl ⟨rfl,fun _ => rfl⟩
 | f :: r => by
  by_cases h:f.1=s
  ·refine Or.inr ⟨r.length,f.2,by simp [newR,h],?_,fun b => ?_⟩
   ·rw [List.reverse_cons,List.getElem?_append_right (by simp)]
    simp [← h]
   ·rw [List.reverse_cons,lastOf_snoc,if_pos h]
  ·rcases newR_parts s r with ⟨h1,h2⟩ | ⟨n,l,h1,h2,h3⟩
   ·exact Or.inl ⟨by simp [newR,h,h1],fun b => by rw [List.reverse_cons,lastOf_snoc,if_neg h];exact h2 b⟩
   ·refine Or.inr ⟨n,l,by simp [newR,h,h1],?_,fun b => by rw [List.reverse_cons,lastOf_snoc,if_neg h];exact h3 b⟩
    rw [List.reverse_cons,List.getElem?_append_left (List.getElem?_eq_some_iff.1 h2).1]
    exact h2
theorem newOf_parts (L:List (Nat × List UInt8)) (s:Nat):(newOf L s=0∧∀ b,lastOf s b L=b) ∨ ∃ n l,newOf L s=n+1∧L[n]?=some (s,l)∧∀ b,lastOf s b L=l:=by
 have:=newR_parts s L.reverse
 simp only [List.reverse_reverse] at this
 exact this
def newC (n:Nat) (L:List (Nat × List UInt8)):List Value:=(List.range n).map fun s => .int .i64 (newOf L s:Nat)
theorem newC_len (n:Nat) (L:List (Nat × List UInt8)):(newC n L).length=n:=by simp [newC]
theorem newC_get (n:Nat) (L:List (Nat × List UInt8)) (s:Nat) (h:s < n):(newC n L)[s]?=some (.int .i64 (newOf L s:Nat)):=by simp [newC,h]
theorem newC_nil (n:Nat):newC n []=List.replicate n (.int .i64 0):=by
 apply List.ext_getElem?
 intro i
 by_cases h:i < n
 ·rw [newC_get n [] i h]
  simp [h,newOf_nil]
 ·rw [List.getElem?_eq_none (by rw [newC_len];omega),List.getElem?_eq_none (by simp;omega)]
theorem newC_snoc (n:Nat) (L:List (Nat × List UInt8)) (f:Nat × List UInt8):(newC n L).set f.1 (.int .i64 ((L.length+1:Nat):Int))=newC n (L++[f]):=by
 apply List.ext_getElem?
 intro i
 by_cases h:i < n
 ·rw [newC_get n _ i h,newOf_snoc]
  by_cases hf:f.1=i
  ·subst hf
   rw [List.getElem?_set_self (by rw [newC_len];exact h),if_pos rfl]
  ·rw [List.getElem?_set_ne hf,newC_get n L i h,if_neg hf]
 ·rw [List.getElem?_eq_none (by rw [List.length_set,newC_len];omega),List.getElem?_eq_none (by rw [newC_len];omega)]
end
section
open Go.RowKit
structure DG where
 lb:Nat
 lo:Nat
 cl:Nat
 nb:Nat
 no:Nat
 cn:Nat
structure DevAt (w:World) (B:Nat) (db:Nat) (g:DG) (fa:Option Addr) (cf:Nat) (st:RS):Prop where
 c0:w.cell? ⟨db,0,none⟩=some (.slice (some ⟨g.lb,g.lo,none⟩) (64 * st.S.length) g.cl)
 c1:w.cell? ⟨db,1,none⟩=some (.slice fa st.L.length cf)
 c2:w.cell? ⟨db,2,none⟩=some (.slice (some ⟨g.nb,g.no,none⟩) st.S.length g.cn)
 c3:w.cell? ⟨db,3,none⟩=some (.int .i64 st.left)
 c4:w.cell? ⟨db,4,none⟩=some (.bool st.gone)
 fz:∀ j,j < 5→w.frozen? ⟨db,j,none⟩=false
 rS:Room w B (some ⟨g.lb,g.lo,none⟩) (64 * st.S.length) g.cl (bts st.S.flatten)
 rL:RoomZ 65 w B fa st.L.length cf (flyC st.L)
 rN:Room w B (some ⟨g.nb,g.no,none⟩) st.S.length g.cn (newC st.S.length st.L)
 d1:db ≠ g.lb
 d2:db ≠ g.nb
 d3:g.lb ≠ g.nb
 f1:db ∉ fp fa cf
 f2:g.lb ∉ fp fa cf
 f3:g.nb ∉ fp fa cf
 dB:B≤db
 lS:∀ l∈st.S,l.length=64
 lL:∀ f∈st.L,f.2.length=64∧f.1 < st.S.length
 lft:st.left < 9223372036854775808
 pos:0 < st.S.length
def DF (db:Nat) (g:DG) (fa:Option Addr) (cf:Nat):List Nat:=db :: g.lb :: g.nb :: fp fa cf
theorem DevAt.lt {w:World} {B db:Nat} {g:DG} {fa:Option Addr} {cf:Nat} {st:RS} (h:DevAt w B db g fa cf st):∀ k,k∈DF db g fa cf→B≤k∧k < w.heap.size:=by
 intro k hk
 have hp:=h.pos
 have e1:=h.rS.le
 have e2:=h.rN.le
 simp only [DF,List.mem_cons] at hk
 rcases hk with rfl | rfl | rfl | hk
 ·exact ⟨h.dB,block_lt_of_cell h.c0⟩
 ·exact h.rS.lt _ (by rw [fp_some _ _ _ (by omega)];simp)
 ·exact h.rN.lt _ (by rw [fp_some _ _ _ (by omega)];simp)
 ·exact h.rL.lt k hk
theorem DevAt.chg {w w':World} {B db:Nat} {g:DG} {fa:Option Addr} {cf:Nat} {st:RS} {S:List Nat} (h:DevAt w B db g fa cf st) (c:Chg S w w') (hn:∀ k,k∈DF db g fa cf→k ∉ S):DevAt w' B db g fa cf st:=by
 have n0:db ∉ S:=hn db (by simp [DF])
 have n1:g.lb ∉ S:=hn g.lb (by simp [DF])
 have n2:g.nb ∉ S:=hn g.nb (by simp [DF])
 have hp:=h.pos
 have e1:=h.rS.le
 have e2:=h.rN.le
 refine ⟨c.cellv h.c0 n0,c.cellv h.c1 n0,c.cellv h.c2 n0,c.cellv h.c3 n0,c.cellv h.c4 n0,fun j hj => (c.frozen (p:=⟨db,j,none⟩) (show db < w.heap.size from block_lt_of_cell h.c0) n0).trans (h.fz j hj),h.rS.chg c ?_,h.rL.chg c (fun k hk => hn k (by simp [DF,hk])),h.rN.chg c ?_,h.d1,h.d2,h.d3,h.f1,h.f2,h.f3,h.dB,h.lS,h.lL,h.lft,h.pos⟩
 ·intro k hk
  rw [fp_some _ _ _ (by omega)] at hk
  simp at hk
  rw [hk];exact n1
 ·intro k hk
  rw [fp_some _ _ _ (by omega)] at hk
  simp at hk
  rw [hk];exact n2
theorem DevAt.keep {w w':World} {B db:Nat} {g:DG} {fa:Option Addr} {cf:Nat} {st:RS} (h:DevAt w B db g fa cf st) (c:Chg [] w w'):DevAt w' B db g fa cf st:=h.chg c (by simp)
theorem set_other' {w:World} {b i j:Nat} {u v:Value} (h:w.cell? ⟨b,j,none⟩=some v) (hij:j ≠ i):(w.setCell ⟨b,i,none⟩ u).cell? ⟨b,j,none⟩=some v:=by
 rw [World.cell?_setCell_other _ _ _ _ (by simp [hij])]
 exact h
theorem DevAt.setF {w w':World} {B db:Nat} {g:DG} {fa:Option Addr} {cf:Nat} {st st':RS} (h:DevAt w B db g fa cf st) (c:Chg [db] w w')
  (e0:w'.cell? ⟨db,0,none⟩=w.cell? ⟨db,0,none⟩) (e1:w'.cell? ⟨db,1,none⟩=w.cell? ⟨db,1,none⟩) (e2:w'.cell? ⟨db,2,none⟩=w.cell? ⟨db,2,none⟩)
  (e3:w'.cell? ⟨db,3,none⟩=some (.int .i64 st'.left)) (e4:w'.cell? ⟨db,4,none⟩=some (.bool st'.gone))
  (ef:∀ j,j < 5→w'.frozen? ⟨db,j,none⟩=false) (hS:st'.S=st.S) (hL:st'.L=st.L) (hl:st'.left < 9223372036854775808):DevAt w' B db g fa cf st':=by
 have hp:=h.pos
 have q1:=h.rS.le
 have q2:=h.rN.le
 refine ⟨by rw [e0,hS];exact h.c0,by rw [e1,hL];exact h.c1,by rw [e2,hS];exact h.c2,e3,e4,ef,?_,?_,?_,h.d1,h.d2,h.d3,h.f1,h.f2,h.f3,h.dB,by rw [hS];exact h.lS,by rw [hL,hS];exact h.lL,hl,by rw [hS];exact h.pos⟩
 ·rw [hS]
  refine h.rS.chg c fun k hk => ?_
  rw [fp_some _ _ _ (by omega)] at hk
  simp at hk ⊢
  rw [hk];exact fun e => h.d1 e.symm
 ·rw [hL]
  refine h.rL.chg c fun k hk => ?_
  simp
  rintro rfl
  exact h.f1 hk
 ·rw [hS,hL]
  refine h.rN.chg c fun k hk => ?_
  rw [fp_some _ _ _ (by omega)] at hk
  simp at hk ⊢
  rw [hk];exact fun e => h.d2 e.symm
theorem eltN:Elt Tryz.prog 79 3 8:=Elt.mk (z:=.int .i64 0) Tryz.underlying79 (by kernel_rfl) (by kernel_rfl)
theorem eltW:EltZ Tryz.prog 144 242 65 72:=EltZ.mk (v:=.agg (Value.int .i64 0 :: List.replicate 64 (Value.int .u8 0)).toArray) Tryz.underlying144 (by kernel_rfl) (by kernel_rfl)
def flyZ:List Value:=.int .i64 0 :: List.replicate 64 (.int .u8 0)
theorem wideW:WideT Tryz.prog 242 flyZ:=⟨⟨_,Tryz.underlying242,rfl⟩,by kernel_rfl⟩
theorem made_yes (db lb lo n c:Nat) (w:World) (c0:w.cell? ⟨db,0,none⟩=some (.slice (some ⟨lb,lo,none⟩) n c)) :
  Calls Tryz.prog 128 #[.pointer (some ⟨db,0,none⟩)] w fun e w' => e=.returned (.bool true)∧w=w':=by
 have hne:=fun (w:World) (n c:Nat) => run_neq_slice_nil_any (P:=Tryz.prog) w 27 5 (some ⟨lb,lo,none⟩) n c 0 0 Tryz.underlying27
 go_enter Tryz.func128,Tryz.ntmps128
 go_wp2
 go_ret
 exact ⟨rfl,rfl⟩
end
section
open Go.RowKit
theorem wrap_some (ts:Array TypeId) (t:TypeId) (p:Addr) (a b:String):Builtin.ssaWrapNilChk_ ts t #[.pointer (some p),strVal a,strVal b]=pure (.pointer (some p)):=rfl
theorem meth_one (name:String) (f:Nat) (sig:TypeId) (cb k:Nat) (la:Option Addr) (n c:Nat) (w:World) (h:w.cell? ⟨cb,k,none⟩=some (.slice la n c))
  (hi:(Tryz.prog.info? 217).map (fun i => i.methods.find? (·.name == name))=some (some ⟨name,sig,#[],some (f,false)⟩)) :
  (method 377 217 (.pointer (some ⟨cb,k,none⟩)) name).run Tryz.prog w=.ok (f,.slice la n c) w:=by
 obtain ⟨i,h1,h2⟩:=Option.map_eq_some_iff.1 hi
 have hu:Tryz.prog.underlying 217=some (.pointer 151):=Tryz.underlying217
 have hu2:=Tryz.underlying151
 unfold method
 simp [typeInfo,h1,h2,follow,receiverAt,hu,run_underlying hu,Place.get,wrap_some,Sem.run_bind,asAddr,loadVar,isAgg,run_underlying hu2,run_load,h]
theorem meth_ptr (name:String) (f:Nat) (sig:TypeId) (p:Addr) (w:World)
  (hi:(Tryz.prog.info? 217).map (fun i => i.methods.find? (·.name == name))=some (some ⟨name,sig,#[],some (f,true)⟩)) :
  (method 377 217 (.pointer (some p)) name).run Tryz.prog w=.ok (f,.pointer (some p)) w:=by
 obtain ⟨i,h1,h2⟩:=Option.map_eq_some_iff.1 hi
 have hu:Tryz.prog.underlying 217=some (.pointer 151):=Tryz.underlying217
 unfold method
 simp [typeInfo,h1,h2,follow,receiverAt,hu,run_underlying hu,Place.get]
section
variable (cb k:Nat) (la:Option Addr) (n c:Nat) (w:World)
theorem meth_len (h : w.cell? ⟨cb, k, none⟩ = some (.slice la n c)) : (method 377 217 (.pointer (some ⟨cb, k, none⟩)) "Len").run Tryz.prog w = .ok (215, .slice la n c) w :=
 meth_one "Len" _ 83 cb k la n c w h (by kernel_rfl)
theorem meth_less (h : w.cell? ⟨cb, k, none⟩ = some (.slice la n c)) : (method 377 217 (.pointer (some ⟨cb, k, none⟩)) "Less").run Tryz.prog w = .ok (216, .slice la n c) w :=
 meth_one "Less" _ 254 cb k la n c w h (by kernel_rfl)
theorem meth_swap (h : w.cell? ⟨cb, k, none⟩ = some (.slice la n c)) : (method 377 217 (.pointer (some ⟨cb, k, none⟩)) "Swap").run Tryz.prog w = .ok (217, .slice la n c) w :=
 meth_one "Swap" _ 248 cb k la n c w h (by kernel_rfl)
theorem meth_push (p : Addr) : (method 377 217 (.pointer (some p)) "Push").run Tryz.prog w = .ok (223, .pointer (some p)) w :=
 meth_ptr "Push" _ 238 p w (by kernel_rfl)
theorem meth_pop (p : Addr) : (method 377 217 (.pointer (some p)) "Pop").run Tryz.prog w = .ok (222, .pointer (some p)) w :=
 meth_ptr "Pop" _ 249 p w (by kernel_rfl)
end
theorem len_any (la:Option Addr) (n c:Nat) (w:World):Calls Tryz.prog 215 #[.slice la n c] w fun e w' => e=.returned (.int .i64 n)∧w=w':=by
 go_enter Tryz.func215,Tryz.ntmps215
 go_wp2
 go_ret
 exact ⟨rfl,rfl⟩
end
section
open Go.RowKit
structure Ent where
 b:Nat
 pl:Nat
 bs:List UInt8
 dirty:Bool
 used:Nat
def ptrV (e:Ent):Value:=.pointer (some ⟨e.b,0,none⟩)
def entV (e:Ent) (s:Nat):List Value:=.int .i64 e.pl :: (bts e.bs++[.bool e.dirty,.int .u64 e.used,.int .i64 s])
theorem entV_len {e:Ent} {s:Nat} (h:e.bs.length=256):(entV e s).length=260:=by simp [entV,bts_length,h]
theorem entV_pl (e:Ent) (s:Nat):(entV e s)[0]?=some (.int .i64 e.pl):=rfl
theorem entV_bs {e:Ent} {s:Nat} (h:e.bs.length=256) (j:Nat) (u:Value) (hu:(bts e.bs)[j]?=some u):(entV e s)[1+j]?=some u:=by
 have hj:j < (bts e.bs).length:=(List.getElem?_eq_some_iff.1 hu).1
 unfold entV
 rw [show 1+j=j+1 by omega,List.getElem?_cons_succ,List.getElem?_append_left hj]
 exact hu
theorem entV_dirty {e:Ent} {s:Nat} (h:e.bs.length=256):(entV e s)[257]?=some (.bool e.dirty):=by
 unfold entV
 rw [List.getElem?_cons_succ,List.getElem?_append_right (by rw [bts_length];omega),bts_length,h]
 rfl
theorem entV_used {e:Ent} {s:Nat} (h:e.bs.length=256):(entV e s)[258]?=some (.int .u64 e.used):=by
 unfold entV
 rw [List.getElem?_cons_succ,List.getElem?_append_right (by rw [bts_length];omega),bts_length,h]
 rfl
theorem entV_spot {e:Ent} {s:Nat} (h:e.bs.length=256):(entV e s)[259]?=some (.int .i64 s):=by
 unfold entV
 rw [List.getElem?_cons_succ,List.getElem?_append_right (by rw [bts_length];omega),bts_length,h]
 rfl
theorem entV_setSpot {e:Ent} {s:Nat} (h:e.bs.length=256) (t:Nat):(entV e s).set 259 (.int .i64 t)=entV e t:=by
 unfold entV
 rw [List.set_cons_succ,List.set_append_right _ _ (by rw [bts_length];omega),bts_length,h]
 rfl
theorem entV_setUsed {e:Ent} {s:Nat} (h:e.bs.length=256) (t:Nat):(entV e s).set 258 (.int .u64 t)=entV { e with used:=t } s:=by
 unfold entV
 rw [List.set_cons_succ,List.set_append_right _ _ (by rw [bts_length];omega),bts_length,h]
 rfl
theorem entV_setDirty {e:Ent} {s:Nat} (h:e.bs.length=256) (t:Bool):(entV e s).set 257 (.bool t)=entV { e with dirty:=t } s:=by
 unfold entV
 rw [List.set_cons_succ,List.set_append_right _ _ (by rw [bts_length];omega),bts_length,h]
 rfl
structure LineAt (w:World) (B cb:Nat) (la:Option Addr) (cl:Nat) (E:List Ent):Prop where
 c3:w.cell? ⟨cb,3,none⟩=some (.slice la E.length cl)
 f3:w.frozen? ⟨cb,3,none⟩=false
 r:Room w B la E.length cl (E.map ptrV)
 e:∀ i (h:i < E.length),Blk w E[i].b 176 (entV E[i] i)
 bl:∀ e∈E,e.bs.length=256
 nd:(E.map Ent.b).Nodup
 nc:∀ e∈E,e.b ≠ cb
 nr:∀ e∈E,e.b ∉ fp la cl
 cr:cb ∉ fp la cl
 eB:∀ e∈E,B≤e.b
 cB:B≤cb
 sm:E.length≤100000
def LF (cb:Nat) (la:Option Addr) (cl:Nat) (E:List Ent):List Nat:=cb :: (fp la cl++E.map Ent.b)
theorem LineAt.lt {w:World} {B cb:Nat} {la:Option Addr} {cl:Nat} {E:List Ent} (h:LineAt w B cb la cl E):∀ k,k∈LF cb la cl E→B≤k∧k < w.heap.size:=by
 intro k hk
 simp only [LF,List.mem_cons,List.mem_append,List.mem_map] at hk
 rcases hk with rfl | hk | ⟨e,he,rfl⟩
 ·exact ⟨h.cB,block_lt_of_cell h.c3⟩
 ·exact h.r.lt k hk
 ·obtain ⟨i,hi,rfl⟩:=List.getElem_of_mem he
  exact ⟨h.eB _ he,(h.e i hi).lt⟩
theorem LineAt.chg {w w':World} {B cb:Nat} {la:Option Addr} {cl:Nat} {E:List Ent} {S:List Nat} (h:LineAt w B cb la cl E) (c:Chg S w w') (hn:∀ k,k∈LF cb la cl E→k ∉ S):LineAt w' B cb la cl E:=
 ⟨c.cellv h.c3 (hn cb (by simp [LF])),(c.frozen (p:=⟨cb,3,none⟩) (show cb < w.heap.size from block_lt_of_cell h.c3) (hn cb (by simp [LF]))).trans h.f3,
  h.r.chg c (fun k hk => hn k (by simp [LF,hk])),fun i hi => (h.e i hi).chg c (hn _ (by simp only [LF,List.mem_cons,List.mem_append,List.mem_map];exact Or.inr (Or.inr ⟨_,List.getElem_mem hi,rfl⟩))),
  h.bl,h.nd,h.nc,h.nr,h.cr,h.eB,h.cB,h.sm⟩
theorem LineAt.keep {w w':World} {B cb:Nat} {la:Option Addr} {cl:Nat} {E:List Ent} (h:LineAt w B cb la cl E) (c:Chg [] w w'):LineAt w' B cb la cl E:=h.chg c (by simp)
theorem LineAt.cell {w:World} {B cb:Nat} {la:Option Addr} {cl:Nat} {E:List Ent} (h:LineAt w B cb la cl E) (hE:0 < E.length) :
  ∃ lb lo,la=some ⟨lb,lo,none⟩∧(∀ i (hi:i < E.length),w.cell? ⟨lb,lo+i,none⟩=some (ptrV E[i])∧w.frozen? ⟨lb,lo+i,none⟩=false)∧lb∈fp la cl:=by
 have hle:=h.r.le
 obtain ⟨lb,lo,rfl,hB,hs,hv⟩:=h.r.at_ (by omega)
 exact ⟨lb,lo,rfl,fun i hi => ⟨hv i _ (by simp [hi]),(hs i (by omega)).2⟩,by rw [fp_some _ _ _ (by omega)];simp⟩
theorem less_raw (lb lo n cl i j bi bj a b:Nat) (w:World) (hi:i < n) (hj:j < n) (hsm:n≤100000)
  (ci:w.cell? ⟨lb,lo+i,none⟩=some (.pointer (some ⟨bi,0,none⟩))) (cj:w.cell? ⟨lb,lo+j,none⟩=some (.pointer (some ⟨bj,0,none⟩)))
  (ui:w.cell? ⟨bi,258,none⟩=some (.int .u64 a)) (uj:w.cell? ⟨bj,258,none⟩=some (.int .u64 b)) :
  Calls Tryz.prog 216 #[.slice (some ⟨lb,lo,none⟩) n cl,.int .i64 i,.int .i64 j] w fun e w' => e=.returned (.bool (decide (a < b)))∧∃ q,w'=w.drewN q:=by
 go_enter Tryz.func216,Tryz.ntmps216
 go_wp2
 go_quiet (fail)
 go_wp2
 go_ret
 exact ⟨by simp,nq,rfl⟩
theorem less_any (i j:Nat) (B cb:Nat) (la:Option Addr) (cl:Nat) (E:List Ent) (w:World) (h:LineAt w B cb la cl E) (hi:i < E.length) (hj:j < E.length) :
  Calls Tryz.prog 216 #[.slice la E.length cl,.int .i64 i,.int .i64 j] w fun e w' => e=.returned (.bool (decide (E[i].used < E[j].used)))∧Chg [] w w':=by
 obtain ⟨lb,lo,rfl,hc,_⟩:=h.cell (by omega)
 refine (less_raw lb lo E.length cl i j _ _ _ _ w hi hj h.sm (hc i hi).1 (hc j hj).1 ((h.e i hi).cell 258 _ (entV_used (h.bl _ (List.getElem_mem hi)))) ((h.e j hj).cell 258 _ (entV_used (h.bl _ (List.getElem_mem hj))))).mono ?_
 rintro e w' ⟨he,q,rfl⟩
 exact ⟨he,Chg.drewN _ _⟩
theorem swap_raw (lb lo n cl i j bi bj:Nat) (x y:Value) (w:World) (hi:i < n) (hj:j < n) (hsm:n≤100000) (hbi:bi ≠ lb) (hbj:bj ≠ lb) (hij:i=j ↔ bi=bj)
  (ci:w.cell? ⟨lb,lo+i,none⟩=some (.pointer (some ⟨bi,0,none⟩))) (cj:w.cell? ⟨lb,lo+j,none⟩=some (.pointer (some ⟨bj,0,none⟩)))
  (fi:w.frozen? ⟨lb,lo+i,none⟩=false) (fj:w.frozen? ⟨lb,lo+j,none⟩=false)
  (ui:w.cell? ⟨bi,259,none⟩=some x) (uj:w.cell? ⟨bj,259,none⟩=some y) (gi:w.frozen? ⟨bi,259,none⟩=false) (gj:w.frozen? ⟨bj,259,none⟩=false) :
  Calls Tryz.prog 217 #[.slice (some ⟨lb,lo,none⟩) n cl,.int .i64 i,.int .i64 j] w fun e w' => e=.returned (.tuple #[]) ∧
   w'=((((w.setCell ⟨lb,lo+i,none⟩ (.pointer (some ⟨bj,0,none⟩))).setCell ⟨lb,lo+j,none⟩ (.pointer (some ⟨bi,0,none⟩))).drew.setCell ⟨bj,259,none⟩ (.int .i64 i)).setCell ⟨bi,259,none⟩ (.int .i64 j)).drew:=by
 obtain ⟨v',hy'⟩:=cell?_setCell_some (w:=w) (p:=⟨lb,lo+i,none⟩) (x:=.pointer (some ⟨bj,0,none⟩)) (q:=⟨lb,lo+j,none⟩) cj
 go_enter Tryz.func217,Tryz.ntmps217
 go_wp2
 go_region
 have h1:Chg [lb] w ((w.setCell ⟨lb,lo+i,none⟩ (.pointer (some ⟨bj,0,none⟩))).setCell ⟨lb,lo+j,none⟩ (.pointer (some ⟨bi,0,none⟩))).drew:=
  (((Chg.setCell w ⟨lb,lo+i,none⟩ _).trans (Chg.setCell _ ⟨lb,lo+j,none⟩ _) (fun _ h _ => h) (fun _ h _ => h)).then (Chg.drew [] _))
 have k1:(((w.setCell ⟨lb,lo+i,none⟩ (.pointer (some ⟨bj,0,none⟩))).setCell ⟨lb,lo+j,none⟩ (.pointer (some ⟨bi,0,none⟩))).drew).cell? ⟨lb,lo+i,none⟩=some (.pointer (some ⟨bj,0,none⟩)):=by
  show ((w.setCell ⟨lb,lo+i,none⟩ (.pointer (some ⟨bj,0,none⟩))).setCell ⟨lb,lo+j,none⟩ (.pointer (some ⟨bi,0,none⟩))).cell? _=_
  by_cases hb:i=j
  ·have e:=hij.1 hb
   subst hb e
   exact World.cell?_setCell_same _ _ _ hy'
  ·rw [World.cell?_setCell_other _ _ _ _ (by simp [hb])]
   exact World.cell?_setCell_same _ _ _ ci
 have k2:(((w.setCell ⟨lb,lo+i,none⟩ (.pointer (some ⟨bj,0,none⟩))).setCell ⟨lb,lo+j,none⟩ (.pointer (some ⟨bi,0,none⟩))).drew).cell? ⟨lb,lo+j,none⟩=some (.pointer (some ⟨bi,0,none⟩)):=by
  show ((w.setCell ⟨lb,lo+i,none⟩ (.pointer (some ⟨bj,0,none⟩))).setCell ⟨lb,lo+j,none⟩ (.pointer (some ⟨bi,0,none⟩))).cell? _=_
  exact World.cell?_setCell_same _ _ _ hy'
 have ui1:=h1.cellv ui (by simpa using hbi)
 have uj1:=h1.cellv uj (by simpa using hbj)
 have gi1:=(h1.frozen (p:=⟨bi,259,none⟩) (block_lt_of_cell ui) (by simpa using hbi)).trans gi
 have gj1:=(h1.frozen (p:=⟨bj,259,none⟩) (block_lt_of_cell uj) (by simpa using hbj)).trans gj
 clear h1 hy' ui uj gi gj ci cj fi fj
 generalize hw1:((w.setCell ⟨lb,lo+i,none⟩ (.pointer (some ⟨bj,0,none⟩))).setCell ⟨lb,lo+j,none⟩ (.pointer (some ⟨bi,0,none⟩))).drew=w1 at *
 have HW:=mkHid hw1
 clear hw1
 obtain ⟨y2,hy2⟩:=cell?_setCell_some (w:=w1) (p:=⟨bj,259,none⟩) (x:=.int .i64 i) (q:=⟨bi,259,none⟩) ui1
 go_wp2
 go_region
 go_end0
 exact ⟨rfl,by rw [← HW.out]⟩
def swp (E:List Ent) (i j:Nat) (hi:i < E.length) (hj:j < E.length):List Ent:=(E.set i E[j]).set j E[i]
theorem swp_len (E:List Ent) (i j:Nat) (hi:i < E.length) (hj:j < E.length):(swp E i j hi hj).length=E.length:=by simp [swp]
theorem swp_get (E:List Ent) (i j:Nat) (hi:i < E.length) (hj:j < E.length) (k:Nat) (hk:k < (swp E i j hi hj).length):(swp E i j hi hj)[k]=if k=j then E[i] else if k=i then E[j] else E[k]'(by simpa [swp] using hk):=by
 simp only [swp,List.getElem_set,eq_comm (a:=k)]
theorem swp_perm (E:List Ent) (i j:Nat) (hi:i < E.length) (hj:j < E.length):(swp E i j hi hj).Perm E:=by
 exact List.set_set_perm hi hj
theorem bs_inj {E:List Ent} (h:(E.map Ent.b).Nodup) {i j:Nat} (hi:i < E.length) (hj:j < E.length):i=j ↔ E[i].b=E[j].b:=by
 constructor
 ·rintro rfl;rfl
 ·intro e
  exact (List.getElem_inj (xs:=E.map Ent.b) (i:=i) (j:=j) (h₀:=by simpa using hi) (h₁:=by simpa using hj) h).1 (by simpa using e)
theorem swap_any (i j:Nat) (B cb:Nat) (la:Option Addr) (cl:Nat) (E:List Ent) (w:World) (h:LineAt w B cb la cl E) (hi:i < E.length) (hj:j < E.length) :
  Calls Tryz.prog 217 #[.slice la E.length cl,.int .i64 i,.int .i64 j] w fun e w' => e=.returned (.tuple #[])∧LineAt w' B cb la cl (swp E i j hi hj)∧Chg (fp la cl++E.map Ent.b) w w':=by
 obtain ⟨lb,lo,rfl,hc,hlb⟩:=h.cell (by omega)
 have e1:=h.e i hi
 have e2:=h.e j hj
 have l1:=h.bl _ (List.getElem_mem hi)
 have l2:=h.bl _ (List.getElem_mem hj)
 have n1:E[i].b ≠ lb:=fun e => h.nr _ (List.getElem_mem hi) (by rw [e];exact hlb)
 have n2:E[j].b ≠ lb:=fun e => h.nr _ (List.getElem_mem hj) (by rw [e];exact hlb)
 have hij:=bs_inj h.nd hi hj
 refine (swap_raw lb lo E.length cl i j E[i].b E[j].b _ _ w hi hj h.sm n1 n2 hij (hc i hi).1 (hc j hj).1 (hc i hi).2 (hc j hj).2 (e1.cell 259 _ (entV_spot l1)) (e2.cell 259 _ (entV_spot l2)) (e1.frozen 259) (e2.frozen 259)).mono ?_
 rintro e w' ⟨he,rfl⟩
 have g1:Chg [lb] w ((w.setCell ⟨lb,lo+i,none⟩ (.pointer (some ⟨E[j].b,0,none⟩))).setCell ⟨lb,lo+j,none⟩ (.pointer (some ⟨E[i].b,0,none⟩))).drew:=
  (((Chg.setCell w ⟨lb,lo+i,none⟩ _).trans (Chg.setCell _ ⟨lb,lo+j,none⟩ _) (fun _ h _ => h) (fun _ h _ => h)).then (Chg.drew [] _))
 have r1:=((h.r.set i hi (ptrV E[j])).set j hj (ptrV E[i])).chg (Chg.drew [] _) (by simp)
 rw [← List.map_set,← List.map_set] at r1
 have c3:=g1.cellv h.c3 (by simp;rintro rfl;exact h.cr hlb)
 have f3:=(g1.frozen (p:=⟨cb,3,none⟩) (block_lt_of_cell h.c3) (by simp;rintro rfl;exact h.cr hlb)).trans h.f3
 have eE:∀ k (hk:k < E.length),Blk _ E[k].b 176 (entV E[k] k):=fun k hk => (h.e k hk).chg g1 (by simp;intro e;exact h.nr _ (List.getElem_mem hk) (by rw [e];exact hlb))
 have hfp:fp (some ⟨lb,lo,none⟩) cl=[lb]:=by have:=h.r.le;exact fp_some _ _ _ (by omega)
 have g1':Chg (fp (some ⟨lb,lo,none⟩) cl) w ((w.setCell ⟨lb,lo+i,none⟩ (.pointer (some ⟨E[j].b,0,none⟩))).setCell ⟨lb,lo+j,none⟩ (.pointer (some ⟨E[i].b,0,none⟩))).drew:=by rw [hfp];exact g1
 change Room ((w.setCell ⟨lb,lo+i,none⟩ (.pointer (some ⟨E[j].b,0,none⟩))).setCell ⟨lb,lo+j,none⟩ (.pointer (some ⟨E[i].b,0,none⟩))).drew _ _ _ _ _ at r1
 generalize ((w.setCell ⟨lb,lo+i,none⟩ (.pointer (some ⟨E[j].b,0,none⟩))).setCell ⟨lb,lo+j,none⟩ (.pointer (some ⟨E[i].b,0,none⟩))).drew=w1 at *
 have g2:Chg (E.map Ent.b) w1 ((w1.setCell ⟨E[j].b,259,none⟩ (.int .i64 i)).setCell ⟨E[i].b,259,none⟩ (.int .i64 j)).drew:=
  ((Chg.setCell w1 ⟨E[j].b,259,none⟩ _).trans (Chg.setCell _ ⟨E[i].b,259,none⟩ _) (fun k hk _ => by simp at hk;rw [hk];exact List.mem_map.2 ⟨_,List.getElem_mem hj,rfl⟩) (fun k hk _ => by simp at hk;rw [hk];exact List.mem_map.2 ⟨_,List.getElem_mem hi,rfl⟩)).then (Chg.drew [] _)
 have hmem:∀ e∈swp E i j hi hj,e∈E:=fun e he => (swp_perm E i j hi hj).mem_iff.1 he
 refine ⟨he,⟨?_,?_,?_,?_,fun e he => h.bl e (hmem e he),?_,fun e he => h.nc e (hmem e he),fun e he => h.nr e (hmem e he),h.cr,fun e he => h.eB e (hmem e he),h.cB,by rw [swp_len];exact h.sm⟩,g1'.trans g2 (fun k hk _ => by simp [hk]) (fun k hk _ => List.mem_append_right _ hk)⟩
 ·rw [swp_len]
  exact g2.cellv c3 (fun hm => by obtain ⟨e,he,e2⟩:=List.mem_map.1 hm;exact h.nc e he e2)
 ·exact (g2.frozen (p:=⟨cb,3,none⟩) (block_lt_of_cell c3) (fun hm => by obtain ⟨e,he,e2⟩:=List.mem_map.1 hm;exact h.nc e he e2)).trans f3
 ·rw [swp_len]
  exact r1.chg g2 (fun k hk hm => by obtain ⟨e,he,e2⟩:=List.mem_map.1 hm;exact h.nr e he (by rw [e2];exact hk))
 ·intro k hk
  have hk2:k < E.length:=by rw [swp_len] at hk;exact hk
  rw [swp_get]
  have a1:Blk (w1.setCell ⟨E[j].b,259,none⟩ (.int .i64 i)) E[j].b 176 (entV E[j] i):=by
   have:=(eE j hj).set1 259 (.int .i64 i)
   rwa [entV_setSpot l2] at this
  split
  ·rename_i hkj
   subst hkj
   have a2:∃ s:Nat,Blk (w1.setCell ⟨E[k].b,259,none⟩ (.int .i64 i)) E[i].b 176 (entV E[i] s):=by
    by_cases hik:i=k
    ·subst hik
     exact ⟨_,a1⟩
    ·exact ⟨_,(eE i hi).chg (Chg.setCell w1 ⟨E[k].b,259,none⟩ _) (by simp;exact fun e => hik (hij.2 e))⟩
   obtain ⟨s,a2⟩:=a2
   have:=a2.set1 259 (.int .i64 k)
   rw [entV_setSpot l1] at this
   exact this.chg (Chg.drew [] _) (by simp)
  ·split
   ·rename_i hkj hki
    subst hki
    exact (a1.chg (Chg.setCell _ ⟨E[k].b,259,none⟩ _) (by simp;exact fun e => hkj (hij.2 e.symm))).chg (Chg.drew [] _) (by simp)
   ·rename_i hkj hki
    exact (((eE k hk2).chg (Chg.setCell w1 ⟨E[j].b,259,none⟩ _) (by simp;exact fun e => hkj ((bs_inj h.nd hk2 hj).2 e))).chg (Chg.setCell _ ⟨E[i].b,259,none⟩ _) (by simp;exact fun e => hki ((bs_inj h.nd hk2 hi).2 e))).chg (Chg.drew [] _) (by simp)
 ·exact ((swp_perm E i j hi hj).map _).nodup_iff.2 h.nd
end
end Go.Proofs.YtdgkbicelnnfpaaGreatDoor
