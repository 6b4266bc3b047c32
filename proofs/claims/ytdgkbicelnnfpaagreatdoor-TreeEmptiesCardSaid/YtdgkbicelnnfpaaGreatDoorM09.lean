/- Texts Jz, Kd, Kg, Kj, Pa, Pb of the library, joined. -/
import Derived.Test.YtdgkbicelnnfpaaGreatDoorM08
import Derived.Lib.SmallJoins
import Derived.Test.YtdgkbicelnnfpaaGreatDoorRows
import Derived.Deep.QuietTactic
import Derived.BigQuiet
import Derived.RegionTactic
import Derived.Deep.RegionHeld3
import Derived.Deep.RegionLaw
import Derived.Deep.DeepCutAuto
import Derived.Deep.DrawnRows
import Derived.WalkSpells
import Derived.WalkLawsBesides
import Derived.BigRegion
set_option linter.unusedVariables false
set_option linter.unusedSimpArgs false
namespace Go.Proofs.YtdgkbicelnnfpaaGreatDoor
section
open Go.RowKit Go.Maps
attribute [local go_sem ↓] Go.wp_at_zero Go.wp_at_succ
section
variable (w0 w:World) (R:Nat→Prop) (db:Nat) (g:DG) (fa:Option Addr) (cf:Nat) (st:RS) (cb mb:Nat) (la:Option Addr) (cl:Nat) (E L:List Ent) (most uses:Nat) (h:Pair w0 w R db g fa cf st cb mb la cl E L most uses)
include h
theorem pair_put (K K':List KE) (v z:Int) (ab:Option Addr) (n c:Nat) (b:List UInt8) (st':RS) (hL:L.map absE=K) (hp:kput most K st z b=(v,K',st')) (hu:uses≤1000000000000000) (hLb:st.L.length≤1000000000) (gb:Reads w ab (bts b)) (gn:b.length=n) (hab:∀ k,k∈blk ab→R k ∨ k < w0.heap.size) :
  Calls Tryz.prog 49 #[.pointer (some ⟨cb,0,none⟩),.int .i64 z,.slice ab n c] w fun e w' => e=.returned (.int .i64 v)∧∃ fa' cf' la' cl' E' L' uses',Pair w0 w' R db g fa' cf' st' cb mb la' cl' E' L' most uses'∧L'.map absE=K'∧uses'≤uses+1∧Off R w w':=by
 have:=cput_any z ab c b w0 w R db g fa cf st cb mb la cl E L most uses h (by omega) hLb gb hab
 rw [hL,hp,gn] at this
 refine this.mono ?_
 rintro e w' ⟨fa',cf',la',cl',E',L',uses',he,h1,h2,h3,h4⟩
 exact ⟨he,fa',cf',la',cl',E',L',uses',h1,h2,h3,h4⟩
theorem pair_get (K K':List KE) (v z:Int) (n:Nat) (b:List UInt8) (st':RS) (hL:L.map absE=K) (hp:kget most K st z=(v,b,K',st')) (hu:uses≤1000000000000000) (hLb:st.L.length≤1000000000) (gn:b.length=n) :
  Calls Tryz.prog 50 #[.pointer (some ⟨cb,0,none⟩),.int .i64 z] w fun e w' => ∃ ao c,e=.returned (.tuple #[.slice ao n c,.int .i64 v])∧Room w' w.heap.size ao n c (bts b)∧∃ fa' cf' la' cl' E' L' uses',Pair w0 w' (fun k => R k ∨ k∈fp ao c) db g fa' cf' st' cb mb la' cl' E' L' most uses'∧L'.map absE=K'∧uses'≤uses+1∧Off R w w':=by
 have:=cget_any z w0 w R db g fa cf st cb mb la cl E L most uses h (by omega) hLb
 rw [hL,hp,gn] at this
 refine this.mono ?_
 rintro e w' ⟨ao,c,fa',cf',la',cl',E',L',uses',he,h1,h2,h3,h4,h5⟩
 exact ⟨ao,c,he,h4,fa',cf',la',cl',E',L',uses',h1,h2,h3,h5⟩
end
end
section
open Go.RowKit Go.Maps
theorem flies_four (A:Nat) (b:List UInt8):flies A b 4=[(4 * A+0,secOf b 0),(4 * A+1,secOf b 1),(4 * A+2,secOf b 2),(4 * A+3,secOf b 3)]:=rfl
theorem lastOf_flies (s A:Nat) (b x:List UInt8):lastOf s x (flies A b 4)=if s < 4 * A ∨ 4 * A+4≤s then x else secOf b (s - 4 * A):=by
 rw [flies_four]
 unfold lastOf
 simp only [List.foldl_cons,List.foldl_nil]
 by_cases h:s < 4 * A ∨ 4 * A+4≤s
 ·rw [if_pos h,if_neg (by omega),if_neg (by omega),if_neg (by omega),if_neg (by omega)]
 ·rw [if_neg h]
  have:s=4 * A ∨ s=4 * A+1 ∨ s=4 * A+2 ∨ s=4 * A+3:=by omega
  rcases this with rfl | rfl | rfl | rfl
  ·simp
  ·simp
  ·simp
  ·simp
theorem lastOf_append (s:Nat) (x:List UInt8) (L M:List (Nat × List UInt8)):lastOf s x (L++M)=lastOf s (lastOf s x L) M:=by
 unfold lastOf
 rw [List.foldl_append]
theorem cur_written (st:RS) (A:Nat) (b:List UInt8) (s:Nat):cur { st with L:=st.L++flies A b 4 } s=if s < 4 * A ∨ 4 * A+4≤s then cur st s else secOf b (s - 4 * A):=by
 unfold cur
 rw [lastOf_append,lastOf_flies]
theorem reads_four (st:RS) (a:Nat):reads st a 4=cur st (4 * a+0)++(cur st (4 * a+1)++(cur st (4 * a+2)++(cur st (4 * a+3)++[]))):=rfl
theorem sec_four (b:List UInt8) (h:b.length=256):secOf b 0++(secOf b 1++(secOf b 2++(secOf b 3++[])))=b:=by
 have e:∀ j k:Nat,j+64=k→b.drop j=(b.drop j).take 64++b.drop k:=fun j k e => by
  have:=(List.take_append_drop 64 (b.drop j)).symm
  rwa [List.drop_drop,e] at this
 have e3:(b.drop 192).take 64=b.drop 192:=List.take_of_length_le (by rw [List.length_drop];omega)
 unfold secOf
 show (b.drop 0).take 64++((b.drop 64).take 64++((b.drop 128).take 64++((b.drop 192).take 64++[])))=b
 rw [List.append_nil,e3,← e 128 192 rfl,← e 64 128 rfl,← e 0 64 rfl,List.drop_zero]
theorem reads_written (st:RS) (A a:Nat) (b:List UInt8) (h:b.length=256):reads { st with L:=st.L++flies A b 4 } a 4=if a=A then b else reads st a 4:=by
 rw [reads_four,cur_written,cur_written,cur_written,cur_written]
 by_cases e:a=A
 ·rw [if_pos e,e,if_neg (by omega),if_neg (by omega),if_neg (by omega),if_neg (by omega),Nat.add_sub_cancel_left,Nat.add_sub_cancel_left,Nat.add_sub_cancel_left,Nat.add_sub_cancel_left]
  exact sec_four b h
 ·rw [if_neg e,if_pos (by omega),if_pos (by omega),if_pos (by omega),if_pos (by omega),reads_four]
def hnext (n:Nat) (HL:List Nat) (a:Nat):List Nat:=if n < (HL.filter (fun x => x != a)++[a]).length then (HL.filter (fun x => x != a)++[a]).drop 1 else HL.filter (fun x => x != a)++[a]
end
section
open Go.RowKit Go.Maps
def kset (K:List KE) (e:KE):List KE:=kdrop K e.pl++[e]
theorem kfind_drop (K:List KE) (p a:Nat):kfind (kdrop K p) a=if a=p then none else kfind K a:=by
 unfold kfind kdrop
 induction K with
 | nil => simp
 | cons x r ih =>
  rw [List.filter_cons]
  by_cases h:x.pl=p
  ·have h1:(x.pl != p)=false:=by simp [h]
   rw [h1,if_neg (by decide),ih]
   by_cases h2:a=p
   ·rw [if_pos h2,if_pos h2]
   ·have h3:(x.pl == a)=false:=by rw [h];simpa using fun e => h2 e.symm
    rw [if_neg h2,if_neg h2,List.find?_cons,h3]
  ·have h1:(x.pl != p)=true:=by simp [h]
   rw [h1,if_pos rfl,List.find?_cons,ih,List.find?_cons]
   by_cases h3:x.pl=a
   ·have h4:(x.pl == a)=true:=by simp [h3]
    rw [h4]
    show some x=if a=p then none else some x
    rw [if_neg (by rw [← h3];exact h)]
   ·have h4:(x.pl == a)=false:=by simp [h3]
    rw [h4]
theorem kfind_append (K M:List KE) (a:Nat):kfind (K++M) a=(kfind K a).or (kfind M a):=by
 unfold kfind
 rw [List.find?_append]
theorem kfind_one (e:KE) (a:Nat):kfind [e] a=if a=e.pl then some e else none:=by
 unfold kfind
 by_cases h:a=e.pl
 ·rw [if_pos h];simp [h]
 ·have:(e.pl == a)=false:=by simpa using fun x => h x.symm
  rw [if_neg h,List.find?_cons,this]
  rfl
theorem kfind_set (K:List KE) (e:KE) (a:Nat):kfind (kset K e) a=if a=e.pl then some e else kfind K a:=by
 unfold kset
 rw [kfind_append,kfind_drop,kfind_one]
 by_cases h:a=e.pl
 ·rw [if_pos h,if_pos h,if_pos h];rfl
 ·rw [if_neg h,if_neg h,if_neg h,Option.or_none]
theorem kdrop_none {K:List KE} {a:Nat} (h:kfind K a=none):kdrop K a=K:=List.filter_eq_self.2 (fun x hx => by simpa using kfind_none h x hx)
theorem kdrop_sub (K:List KE) (a:Nat) {e:KE} (h:e∈kdrop K a):e∈K∧e.pl ≠ a:=by
 have:=List.mem_filter.1 h
 exact ⟨this.1,by simpa using this.2⟩
theorem kset_mem (K:List KE) (x:KE) {e:KE} (h:e∈kset K x):e∈K∧e.pl ≠ x.pl ∨ e=x:=by
 rcases List.mem_append.1 h with h | h
 ·exact Or.inl (kdrop_sub K _ h)
 ·exact Or.inr (by simpa using h)
theorem kset_nodup {K:List KE} (x:KE) (h:(K.map KE.pl).Nodup):((kset K x).map KE.pl).Nodup:=by
 unfold kset
 rw [List.map_append,List.nodup_append]
 refine ⟨(List.Sublist.map _ List.filter_sublist).nodup h,by simp,?_⟩
 intro a ha b hb e
 obtain ⟨y,hy,rfl⟩:=List.mem_map.1 ha
 simp at hb
 exact (kdrop_sub K _ hy).2 (e.trans hb)
theorem kdrop_len {K:List KE} {a:Nat} {h:KE} (hf:kfind K a=some h):(kdrop K a).length < K.length:=by
 obtain ⟨h1,h2⟩:=kfind_some hf
 rcases Nat.lt_or_ge (kdrop K a).length K.length with h3 | h3
 ·exact h3
 ·unfold kdrop at h3
  have h4:=List.length_filter_le (fun e => e.pl != a) K
  have h5:=(List.length_filter_eq_length_iff.1 (Nat.le_antisymm h4 h3)) h h1
  simp [h2] at h5
theorem kset_len {K:List KE} {x h:KE} (hf:kfind K x.pl=some h):(kset K x).length≤K.length:=by
 have:=kdrop_len hf
 unfold kset
 rw [List.length_append,List.length_singleton]
 omega
end
section
open Go.RowKit Go.Maps
def kval (K:List KE) (st:RS) (a:Nat):List UInt8:=match kfind K a with | some e => e.bs | none => reads st a 4
theorem kval_some {K:List KE} {st:RS} {a:Nat} {e:KE} (h:kfind K a=some e):kval K st a=e.bs:=by unfold kval;rw [h]
theorem kval_none {K:List KE} {st:RS} {a:Nat} (h:kfind K a=none):kval K st a=reads st a 4:=by unfold kval;rw [h]
structure Good (n:Nat) (K:List KE) (st:RS):Prop where
 nd:(K.map KE.pl).Nodup
 lt:∀ e∈K,e.pl < n
 len:∀ e∈K,e.bs.length=256
 cl:∀ e∈K,e.dirty=false→e.bs=reads st e.pl 4
 g:st.gone=false
 l:st.left=0
 c:st.count=n
theorem Good.why {n:Nat} {K:List KE} {st:RS} (h:Good n K st) {a:Nat} (ha:a < n):whyN st (a:Int)=0:=by
 unfold whyN
 rw [h.g,h.c,if_neg (by decide),if_neg (by omega)]
theorem kfind_cons (x:KE) (K:List KE) (a:Nat):kfind (x :: K) a=if a=x.pl then some x else kfind K a:=by
 unfold kfind
 rw [List.find?_cons]
 by_cases h:a=x.pl
 ·rw [if_pos h];simp [h]
 ·have:(x.pl == a)=false:=by simpa using fun e => h e.symm
  rw [if_neg h,this]
theorem kfind_not {K:List KE} {a:Nat} (h:a ∉ K.map KE.pl):kfind K a=none:=by
 cases hf:kfind K a with
 | none => rfl
 | some e =>
  obtain ⟨h1,h2⟩:=kfind_some hf
  exact absurd (List.mem_map.2 ⟨e,h1,h2⟩) h
theorem Good.room {n:Nat} {K:List KE} {st:RS} (h:Good n K st) (most:Nat) (hm:1≤most) (hl:K.length≤most) :
  ∃ K' st',kroom most K st=(0,K',st')∧Good n K' st'∧K'.length < most∧(∀ a,kval K' st' a=kval K st a)∧(∀ a,kfind K a=none→kfind K' a=none∧reads st' a 4=reads st a 4)∧st'.L.length≤st.L.length+4:=by
 by_cases hlt:K.length < most
 ·exact ⟨K,st,kroom_room hlt,h,hlt,fun _ => rfl,fun a hf => ⟨hf,rfl⟩,Nat.le_add_right _ _⟩
 ·cases K with
  | nil => simp at hlt;omega
  | cons x T =>
   have hx:=h.lt x (by simp)
   have hxl:=h.len x (by simp)
   have hnd:=h.nd
   rw [List.map_cons,List.nodup_cons] at hnd
   have hT:kfind T x.pl=none:=kfind_not hnd.1
   have hlen:T.length < most:=by simp at hl;omega
   have key:∀ st',st'.gone=false→st'.left=0→st'.count=n→(∀ a,reads st' a 4=if a=x.pl then x.bs else reads st a 4)→Good n T st'∧(∀ a,kval T st' a=kval (x :: T) st a)∧(∀ a,kfind (x :: T) a=none→kfind T a=none∧reads st' a 4=reads st a 4):=by
    intro st' g1 g2 g3 hr
    refine ⟨⟨hnd.2,fun e he => h.lt e (by simp [he]),fun e he => h.len e (by simp [he]),fun e he hd => ?_,g1,g2,g3⟩,fun a => ?_,fun a hf => ?_⟩
    ·rw [hr,if_neg (fun e1 => hnd.1 (by rw [← e1];exact List.mem_map.2 ⟨e,he,rfl⟩))]
     exact h.cl e (by simp [he]) hd
    ·by_cases e1:a=x.pl
     ·subst e1
      rw [kval_none hT,hr,if_pos rfl,kval_some (e:=x) (by rw [kfind_cons,if_pos rfl])]
     ·unfold kval
      rw [kfind_cons,if_neg e1]
      cases kfind T a with
      | some e => rfl
      | none => simp only;rw [hr,if_neg e1]
    ·rw [kfind_cons] at hf
     by_cases e1:a=x.pl
     ·rw [if_pos e1] at hf;cases hf
     ·rw [if_neg e1] at hf
      exact ⟨hf,by rw [hr,if_neg e1]⟩
   cases hd:x.dirty with
   | false =>
    have hw:kwrote x st=(0,st):=by unfold kwrote;rw [hd];rfl
    obtain ⟨k1,k2,k3⟩:=key st h.g h.l h.c (fun a => by
     by_cases e1:a=x.pl
     ·rw [if_pos e1,e1];exact (h.cl x (by simp) hd).symm
     ·rw [if_neg e1])
    exact ⟨T,st,by rw [kroom_ok (by simpa using hlt) (by rw [hw]),hw],k1,hlen,k2,k3,Nat.le_add_right _ _⟩
   | true =>
    have hw:kwrote x st=(0,{ st with L:=st.L++flies x.pl x.bs 4 }):=by
     unfold kwrote
     rw [hd,if_pos rfl,write_plain st x.pl x.bs h.g h.l (by rw [h.c];exact hx) hxl]
    obtain ⟨k1,k2,k3⟩:=key { st with L:=st.L++flies x.pl x.bs 4 } h.g h.l h.c (fun a => reads_written st x.pl a x.bs hxl)
    exact ⟨T,_,by rw [kroom_ok (by simpa using hlt) (by rw [hw]),hw],k1,hlen,k2,k3,by show (st.L++flies x.pl x.bs 4).length≤_;rw [List.length_append,flies_len];exact Nat.le_refl _⟩
theorem kset_none {K:List KE} {x:KE} (h:kfind K x.pl=none):kset K x=K++[x]:=by unfold kset;rw [kdrop_none h]
theorem kval_set (K:List KE) (st:RS) (x:KE) (a:Nat):kval (kset K x) st a=if a=x.pl then x.bs else kval K st a:=by
 unfold kval
 rw [kfind_set]
 by_cases h:a=x.pl
 ·rw [if_pos h,if_pos h]
 ·rw [if_neg h,if_neg h]
theorem Good.set {n:Nat} {K:List KE} {st:RS} (h:Good n K st) (x:KE) (hx:x.pl < n) (hl:x.bs.length=256) (hc:x.dirty=false→x.bs=reads st x.pl 4):Good n (kset K x) st:=by
 refine ⟨kset_nodup _ h.nd,fun e he => ?_,fun e he => ?_,fun e he hd => ?_,h.g,h.l,h.c⟩
 ·rcases kset_mem K _ he with h1 | rfl
  ·exact h.lt e h1.1
  ·exact hx
 ·rcases kset_mem K _ he with h1 | rfl
  ·exact h.len e h1.1
  ·exact hl
 ·rcases kset_mem K _ he with h1 | rfl
  ·exact h.cl e h1.1 hd
  ·exact hc hd
theorem Good.put {n:Nat} {K:List KE} {st:RS} (h:Good n K st) (most:Nat) (hm:1≤most) (hl:K.length≤most) {a:Nat} (ha:a < n) {b:List UInt8} (hb:b.length=256) :
  ∃ K' st',kput most K st (a:Int) b=(0,K',st')∧Good n K' st'∧K'.length≤most∧(∀ x,kval K' st' x=if x=a then b else kval K st x)∧st'.L.length≤st.L.length+4:=by
 unfold kput
 rw [if_neg (by simp [h.why ha]),if_neg (by simp [hb]),Int.toNat_natCast]
 cases hf:kfind K a with
 | some y => exact ⟨kset K ⟨a,b,true⟩,st,rfl,h.set _ ha hb (fun h => by cases h),Nat.le_trans (kset_len (x:=⟨a,b,true⟩) hf) hl,fun x => kval_set K st ⟨a,b,true⟩ x,Nat.le_add_right _ _⟩
 | none =>
  obtain ⟨K1,st1,e1,g1,l1,v1,f1,b1⟩:=h.room most hm hl
  simp only
  rw [e1,if_pos rfl]
  have hf1:=(f1 a hf).1
  refine ⟨kset K1 ⟨a,b,true⟩,st1,by rw [kset_none (x:=⟨a,b,true⟩) hf1],g1.set _ ha hb (fun h => by cases h),?_,fun x => ?_,b1⟩
  ·rw [kset_none (x:=⟨a,b,true⟩) hf1,List.length_append,List.length_singleton];omega
  ·rw [kval_set,v1]
theorem Good.get {n:Nat} {K:List KE} {st:RS} (h:Good n K st) (most:Nat) (hm:1≤most) (hl:K.length≤most) {a:Nat} (ha:a < n) (hr:(reads st a 4).length=256) :
  ∃ K' st',kget most K st (a:Int)=(0,kval K st a,K',st')∧Good n K' st'∧K'.length≤most∧(∀ x,kval K' st' x=kval K st x)∧st'.L.length≤st.L.length+4:=by
 unfold kget
 rw [if_neg (by simp [h.why ha]),Int.toNat_natCast]
 cases hf:kfind K a with
 | some y =>
  obtain ⟨h1,h2⟩:=kfind_some hf
  refine ⟨kset K y,st,?_,h.set y (h.lt y h1) (h.len y h1) (fun hd => h.cl y h1 hd),Nat.le_trans (kset_len (x:=y) (by rw [h2];exact hf)) hl,fun x => ?_,Nat.le_add_right _ _⟩
  ·simp only
   rw [kval_some hf]
   unfold kset
   rw [h2]
  ·rw [kval_set]
   by_cases e:x=y.pl
   ·rw [if_pos e,e,h2,kval_some hf]
   ·rw [if_neg e]
 | none =>
  obtain ⟨K1,st1,e1,g1,l1,v1,f1,b1⟩:=h.room most hm hl
  simp only
  rw [e1,if_pos rfl]
  obtain ⟨hf1,hr1⟩:=f1 a hf
  refine ⟨kset K1 ⟨a,reads st a 4,false⟩,st1,by rw [kset_none (x:=⟨a,reads st a 4,false⟩) hf1,kval_none hf],g1.set _ ha hr (fun _ => hr1.symm),?_,fun x => ?_,b1⟩
  ·rw [kset_none (x:=⟨a,reads st a 4,false⟩) hf1,List.length_append,List.length_singleton];omega
  ·rw [kval_set]
   show (if x=a then _ else _)=_
   by_cases e:x=a
   ·rw [if_pos e,e,kval_none hf]
   ·rw [if_neg e,v1]
end
section
open Go.RowKit
attribute [local go_sem ↓] Go.wp_at_zero Go.wp_at_succ
theorem eltNF:Elt Tryz.prog 79 3 8:=Elt.mk (z:=.int .i64 0) Tryz.underlying79 (by kernel_rfl) (by kernel_rfl)
theorem meth_ptrF (name:String) (f:Nat) (sig:TypeId) (p:Addr) (w:World)
  (hi:(Tryz.prog.info? 186).map (fun i => i.methods.find? (·.name == name))=some (some ⟨name,sig,#[],some (f,true)⟩)) :
  (method 377 186 (.pointer (some p)) name).run Tryz.prog w=.ok (f,.pointer (some p)) w:=by
 obtain ⟨i,h1,h2⟩:=Option.map_eq_some_iff.1 hi
 have hu:Tryz.prog.underlying 186=some (.pointer 190):=Tryz.underlying186
 unfold method
 simp [typeInfo,h1,h2,follow,receiverAt,hu,run_underlying hu,Place.get]
section
variable (w:World) (p:Addr)
theorem meth_lenF : (method 377 186 (.pointer (some p)) "Len").run Tryz.prog w = .ok (104, .pointer (some p)) w :=
 meth_ptrF "Len" _ 83 p w (by kernel_rfl)
theorem meth_lessF : (method 377 186 (.pointer (some p)) "Less").run Tryz.prog w = .ok (218, .pointer (some p)) w :=
 meth_ptrF "Less" _ 254 p w (by kernel_rfl)
theorem meth_swapF : (method 377 186 (.pointer (some p)) "Swap").run Tryz.prog w = .ok (221, .pointer (some p)) w :=
 meth_ptrF "Swap" _ 248 p w (by kernel_rfl)
theorem meth_pushF : (method 377 186 (.pointer (some p)) "Push").run Tryz.prog w = .ok (220, .pointer (some p)) w :=
 meth_ptrF "Push" _ 238 p w (by kernel_rfl)
theorem meth_popF : (method 377 186 (.pointer (some p)) "Pop").run Tryz.prog w = .ok (219, .pointer (some p)) w :=
 meth_ptrF "Pop" _ 249 p w (by kernel_rfl)
end
def ivs (L:List Nat):List Value:=L.map fun x:Nat => Value.int .i64 (x:Int)
def zvs (S:List Int):List Value:=S.map (Value.int .i64)
theorem ivs_len (L:List Nat):(ivs L).length=L.length:=by simp [ivs]
theorem zvs_len (S:List Int):(zvs S).length=S.length:=by simp [zvs]
theorem ivs_get {L:List Nat} {k:Nat} (h:k < L.length):(ivs L)[k]?=some (.int .i64 (L[k]:Int)):=by simp [ivs,h]
theorem zvs_get {S:List Int} {k:Nat} {z:Int} (h:S[k]?=some z):(zvs S)[k]?=some (.int .i64 z):=by simp [zvs,h]
theorem ivs_set (L:List Nat) (k x:Nat):(ivs L).set k (.int .i64 (x:Int))=ivs (L.set k x):=by simp [ivs]
theorem zvs_set (S:List Int) (k:Nat) (z:Int):(zvs S).set k (.int .i64 z)=zvs (S.set k z):=by simp [zvs]
theorem ivs_one (L:List Nat):∀ u∈ivs L,u.oneCell'=true:=by
 intro u hu
 obtain ⟨_,_,rfl⟩:=List.mem_map.1 hu
 rfl
theorem zvs_one (S:List Int):∀ u∈zvs S,u.oneCell'=true:=by
 intro u hu
 obtain ⟨_,_,rfl⟩:=List.mem_map.1 hu
 rfl
structure SpotsOk (n:Nat) (L:List Nat) (S:List Int):Prop where
 len:S.length=n
 at_:∀ k (h:k < L.length),S[L[k]]?=some (k:Int)
 no:∀ x,x < n→x ∉ L→S[x]?=some (-1)
theorem SpotsOk.lt {n:Nat} {L:List Nat} {S:List Int} (h:SpotsOk n L S):∀ x∈L,x < n:=by
 intro x hx
 obtain ⟨k,hk,rfl⟩:=List.getElem_of_mem hx
 have:=(List.getElem?_eq_some_iff.1 (h.at_ k hk)).1
 have:=h.len
 omega
theorem SpotsOk.inj {n:Nat} {L:List Nat} {S:List Int} (h:SpotsOk n L S) {i j:Nat} (hi:i < L.length) (hj:j < L.length):i=j ↔ L[i]=L[j]:=by
 constructor
 ·rintro rfl;rfl
 ·intro e
  have h1:=h.at_ i hi
  have h2:=h.at_ j hj
  rw [e,h2] at h1
  simp at h1
  omega
theorem SpotsOk.nodup {n:Nat} {L:List Nat} {S:List Int} (h:SpotsOk n L S):L.Nodup:=by
 rw [List.Nodup,List.pairwise_iff_getElem]
 intro i j hi hj hij e
 have:=(h.inj hi hj).2 e
 omega
def swpF (E:List Nat) (i j:Nat) (hi:i < E.length) (hj:j < E.length):List Nat:=(E.set i E[j]).set j E[i]
theorem swp_lenF (E:List Nat) (i j:Nat) (hi:i < E.length) (hj:j < E.length):(swpF E i j hi hj).length=E.length:=by simp [swpF]
theorem swp_getF (E:List Nat) (i j:Nat) (hi:i < E.length) (hj:j < E.length) (k:Nat) (hk:k < (swpF E i j hi hj).length):(swpF E i j hi hj)[k]=if k=j then E[i] else if k=i then E[j] else E[k]'(by simpa [swpF] using hk):=by
 simp only [swpF,List.getElem_set,eq_comm (a:=k)]
theorem swp_permF (E:List Nat) (i j:Nat) (hi:i < E.length) (hj:j < E.length):(swpF E i j hi hj).Perm E:=by
 exact List.set_set_perm hi hj
theorem SpotsOk.swap {n:Nat} {L:List Nat} {S:List Int} (h:SpotsOk n L S) {i j:Nat} (hi:i < L.length) (hj:j < L.length):SpotsOk n (swpF L i j hi hj) ((S.set L[j] (i:Int)).set L[i] (j:Int)):=by
 have l1:=h.lt _ (List.getElem_mem hi)
 have l2:=h.lt _ (List.getElem_mem hj)
 have hl:=h.len
 have hp:=swp_permF L i j hi hj
 refine ⟨by simp [hl],fun k hk => ?_,fun x hx hn => ?_⟩
 ·have hk':k < L.length:=by rw [swp_lenF] at hk;exact hk
  rw [swp_getF]
  by_cases a:k=j
  ·subst a
   rw [if_pos rfl,List.getElem?_set_self (by simp;omega)]
  ·rw [if_neg a]
   by_cases b:k=i
   ·subst b
    rw [if_pos rfl]
    by_cases c:L[k]=L[j]
    ·exact absurd ((h.inj hk' hj).2 c) a
    ·rw [List.getElem?_set_ne c,List.getElem?_set_self (by omega)]
   ·rw [if_neg b,List.getElem?_set_ne (fun e => b ((h.inj hi hk').2 e).symm),List.getElem?_set_ne (fun e => a ((h.inj hj hk').2 e).symm)]
    exact h.at_ k hk'
 ·have hx1:x ∉ L:=fun hm => hn (hp.mem_iff.2 hm)
  rw [List.getElem?_set_ne (by rintro rfl;exact hx1 (List.getElem_mem hi)),List.getElem?_set_ne (by rintro rfl;exact hx1 (List.getElem_mem hj))]
  exact h.no x hx hx1
structure PlAt (w:World) (B pb:Nat) (la:Option Addr) (cl:Nat) (sa:Option Addr) (cs n:Nat) (L:List Nat):Prop where
 c0:w.cell? ⟨pb,0,none⟩=some (.slice la L.length cl)
 f0:w.frozen? ⟨pb,0,none⟩=false
 c1:w.cell? ⟨pb,1,none⟩=some (.slice sa n cs)
 r:Room w B la L.length cl (ivs L)
 s:∃ S,Room w B sa n cs (zvs S)∧SpotsOk n L S
 nn:n≤1024
 pB:B≤pb
 d1:pb ∉ fp la cl
 d2:pb ∉ fp sa cs
 d3:∀ k,k∈fp la cl→k ∉ fp sa cs
theorem PlAt.nd {w:World} {B pb:Nat} {la:Option Addr} {cl:Nat} {sa:Option Addr} {cs n:Nat} {L:List Nat} (h:PlAt w B pb la cl sa cs n L):L.Nodup:=by
 obtain ⟨S,_,h⟩:=h.s
 exact h.nodup
theorem PlAt.lt' {w:World} {B pb:Nat} {la:Option Addr} {cl:Nat} {sa:Option Addr} {cs n:Nat} {L:List Nat} (h:PlAt w B pb la cl sa cs n L):∀ x∈L,x < n:=by
 obtain ⟨S,_,h⟩:=h.s
 exact h.lt
theorem nodup_sub:∀ {L M:List Nat},L.Nodup→(∀ x∈L,x∈M)→L.length≤M.length
 | [],M,_,_ => by simp
 | x :: L,M,h,hs => by
  have hx:=hs x (by simp)
  have h1:=List.nodup_cons.1 h
  have h2:=nodup_sub (L:=L) (M:=M.erase x) h1.2 (fun y hy => (List.mem_erase_of_ne (by rintro rfl;exact h1.1 hy)).2 (hs y (by simp [hy])))
  rw [List.length_erase_of_mem hx] at h2
  have:0 < M.length:=List.length_pos_of_mem hx
  simp
  omega
theorem nodup_le {n:Nat} {L:List Nat} (h:L.Nodup) (hl:∀ x∈L,x < n):L.length≤n:=by
 have:=nodup_sub h (M:=List.range n) (fun x hx => List.mem_range.2 (hl x hx))
 simpa using this
theorem PlAt.le {w:World} {B pb:Nat} {la:Option Addr} {cl:Nat} {sa:Option Addr} {cs n:Nat} {L:List Nat} (h:PlAt w B pb la cl sa cs n L):L.length≤n:=nodup_le h.nd h.lt'
def PF (pb:Nat) (la:Option Addr) (cl:Nat) (sa:Option Addr) (cs:Nat):List Nat:=pb :: (fp la cl++fp sa cs)
theorem PlAt.lt {w:World} {B pb:Nat} {la:Option Addr} {cl:Nat} {sa:Option Addr} {cs n:Nat} {L:List Nat} (h:PlAt w B pb la cl sa cs n L):∀ k,k∈PF pb la cl sa cs→B≤k∧k < w.heap.size:=by
 intro k hk
 simp only [PF,List.mem_cons,List.mem_append] at hk
 obtain ⟨S,hS,_⟩:=h.s
 rcases hk with rfl | hk | hk
 ·exact ⟨h.pB,block_lt_of_cell h.c0⟩
 ·exact h.r.lt k hk
 ·exact hS.lt k hk
theorem PlAt.chg {w w':World} {B pb:Nat} {la:Option Addr} {cl:Nat} {sa:Option Addr} {cs n:Nat} {L:List Nat} {S:List Nat} (h:PlAt w B pb la cl sa cs n L) (c:Chg S w w') (hn:∀ k,k∈PF pb la cl sa cs→k ∉ S):PlAt w' B pb la cl sa cs n L:=by
 have hp:=hn pb (by simp [PF])
 obtain ⟨Z,hS,hok⟩:=h.s
 exact ⟨c.cellv h.c0 hp,(c.frozen (p:=⟨pb,0,none⟩) (show pb < w.heap.size from block_lt_of_cell h.c0) hp).trans h.f0,c.cellv h.c1 hp,
  h.r.chg c (fun k hk => hn k (by simp [PF,hk])),⟨Z,hS.chg c (fun k hk => hn k (by simp [PF,hk])),hok⟩,h.nn,h.pB,h.d1,h.d2,h.d3⟩
theorem PlAt.keep {w w':World} {B pb:Nat} {la:Option Addr} {cl:Nat} {sa:Option Addr} {cs n:Nat} {L:List Nat} (h:PlAt w B pb la cl sa cs n L) (c:Chg [] w w'):PlAt w' B pb la cl sa cs n L:=h.chg c (by simp)
section
variable (B pb:Nat) (la:Option Addr) (cl:Nat) (sa:Option Addr) (cs n:Nat) (L:List Nat) (w:World) (h:PlAt w B pb la cl sa cs n L)
include h
theorem len_anyF:Calls Tryz.prog 104 #[.pointer (some ⟨pb,0,none⟩)] w fun e w' => e=.returned (.int .i64 L.length)∧w=w':=by
 have c0:=h.c0
 go_enter Tryz.func104,Tryz.ntmps104
 go_wp2
 go_ret
 exact ⟨rfl,rfl⟩
theorem has_any (z:Int):Calls Tryz.prog 164 #[.pointer (some ⟨pb,0,none⟩),.int .i64 z] w fun e w' => e=.returned (.bool (decide (0≤z∧z < (n:Int))))∧w=w':=by
 have c1:=h.c1
 by_cases h0:z ≥ 0
 ·by_cases h1:z < (n:Int)
  ·rw [decide_eq_true (show 0≤z∧z < (n:Int) from ⟨h0,h1⟩)]
   have d0:decide (z ≥ 0)=true:=decide_eq_true h0
   have d0':decide (0≤z)=true:=decide_eq_true h0
   have d1:decide (z < (n:Int))=true:=decide_eq_true h1
   go_enter Tryz.func164,Tryz.ntmps164
   go_wp2
   go_ret
   exact ⟨rfl,rfl⟩
  ·rw [decide_eq_false (show ¬ (0≤z∧z < (n:Int)) by omega)]
   have d0:decide (z ≥ 0)=true:=decide_eq_true h0
   have d0':decide (0≤z)=true:=decide_eq_true h0
   have d1:decide (z < (n:Int))=false:=decide_eq_false h1
   go_enter Tryz.func164,Tryz.ntmps164
   go_wp2
   go_ret
   exact ⟨rfl,rfl⟩
 ·rw [decide_eq_false (show ¬ (0≤z∧z < (n:Int)) by omega)]
  have d0:decide (z ≥ 0)=false:=decide_eq_false h0
  have d0':decide (0≤z)=false:=decide_eq_false h0
  go_enter Tryz.func164,Tryz.ntmps164
  go_wp2
  go_ret
  exact ⟨rfl,rfl⟩
theorem less_anyF (i j:Nat) (hi:i < L.length) (hj:j < L.length):Calls Tryz.prog 218 #[.pointer (some ⟨pb,0,none⟩),.int .i64 i,.int .i64 j] w fun e w' => e=.returned (.bool (decide (L[i] < L[j])))∧Chg [] w w':=by
 have c0:=h.c0
 have hle:=h.le
 have hnn:=h.nn
 obtain ⟨lb,lo,rfl,hc⟩:=h.r.reads (by rw [ivs_len];omega)
 have ci:=hc i _ (ivs_get hi)
 have cj:=hc j _ (ivs_get hj)
 clear hc
 go_enter Tryz.func218,Tryz.ntmps218
 go_wp2
 go_quiet (fail)
 go_wp2
 go_ret
 exact ⟨by simp,Chg.drewN _ _⟩
end
theorem isfree_any (x:Nat) (B pb:Nat) (la:Option Addr) (cl:Nat) (sa:Option Addr) (cs n:Nat) (L:List Nat) (w:World) (h:PlAt w B pb la cl sa cs n L) (hx:x < n):Calls Tryz.prog 165 #[.pointer (some ⟨pb,0,none⟩),.int .i64 (x:Int)] w fun e w' => e=.returned (.bool (decide (x∈L)))∧w=w':=by
 have c1:=h.c1
 have hnn:=h.nn
 obtain ⟨S,hS,hok⟩:=h.s
 have hSl:=hok.len
 obtain ⟨sb,so,rfl,hc⟩:=hS.reads (by rw [zvs_len];omega)
 by_cases hm:x∈L
 ·rw [decide_eq_true hm]
  obtain ⟨k,hk,rfl⟩:=List.getElem_of_mem hm
  have hle:=h.le
  have ci:=hc _ _ (zvs_get (hok.at_ k hk))
  have hne:((k:Int) != -1)=true:=by simp
  clear hc
  generalize L[k]=x at *
  go_enter Tryz.func165,Tryz.ntmps165
  go_wp2
  go_ret
  exact ⟨by simp,rfl⟩
 ·rw [decide_eq_false hm]
  have ci:=hc _ _ (zvs_get (hok.no x hx hm))
  clear hc
  go_enter Tryz.func165,Tryz.ntmps165
  go_wp2
  go_ret
  exact ⟨by simp,rfl⟩
end
section
open Go.RowKit
attribute [local go_sem ↓] Go.wp_at_zero Go.wp_at_succ
section
variable (pb lb lo n cl sb so m cs i j x y:Nat) (vx vy:Value) (w:World) (hi:i < n) (hj:j < n) (hx:x < m) (hy:y < m)
 (c0:w.cell? ⟨pb,0,none⟩=some (.slice (some ⟨lb,lo,none⟩) n cl))
 (c1:w.cell? ⟨pb,1,none⟩=some (.slice (some ⟨sb,so,none⟩) m cs))
 (ci:w.cell? ⟨lb,lo+i,none⟩=some (.int .i64 x)) (cj:w.cell? ⟨lb,lo+j,none⟩=some (.int .i64 y))
 (fi:w.frozen? ⟨lb,lo+i,none⟩=false) (fj:w.frozen? ⟨lb,lo+j,none⟩=false)
 (ux:w.cell? ⟨sb,so+x,none⟩=some vx) (uy:w.cell? ⟨sb,so+y,none⟩=some vy)
 (gx:w.frozen? ⟨sb,so+x,none⟩=false) (gy:w.frozen? ⟨sb,so+y,none⟩=false)
 (hpl:pb ≠ lb) (hls:lb ≠ sb) (hij:i=j ↔ x=y)
include hi hj hx hy c0 c1 ci cj fi fj ux uy gx gy hpl hls hij
set_option maxRecDepth 20000 in
theorem swap_rawF :
  Calls Tryz.prog 221 #[.pointer (some ⟨pb,0,none⟩),.int .i64 i,.int .i64 j] w fun e w' => e=.returned (.tuple #[]) ∧
   w'=((((w.setCell ⟨lb,lo+i,none⟩ (.int .i64 y)).setCell ⟨lb,lo+j,none⟩ (.int .i64 x)).drew.setCell ⟨sb,so+y,none⟩ (.int .i64 i)).setCell ⟨sb,so+x,none⟩ (.int .i64 j)).drew:=by
 obtain ⟨v',hy'⟩:=cell?_setCell_some (w:=w) (p:=⟨lb,lo+i,none⟩) (x:=.int .i64 y) (q:=⟨lb,lo+j,none⟩) cj
 go_enter Tryz.func221,Tryz.ntmps221
 go_wp2
 go_region
 have h1:Chg [lb] w ((w.setCell ⟨lb,lo+i,none⟩ (.int .i64 y)).setCell ⟨lb,lo+j,none⟩ (.int .i64 x)).drew:=
  (((Chg.setCell w ⟨lb,lo+i,none⟩ _).trans (Chg.setCell _ ⟨lb,lo+j,none⟩ _) (fun _ h _ => h) (fun _ h _ => h)).then (Chg.drew [] _))
 have k1:(((w.setCell ⟨lb,lo+i,none⟩ (.int .i64 y)).setCell ⟨lb,lo+j,none⟩ (.int .i64 x)).drew).cell? ⟨lb,lo+i,none⟩=some (.int .i64 y):=by
  show ((w.setCell ⟨lb,lo+i,none⟩ (.int .i64 y)).setCell ⟨lb,lo+j,none⟩ (.int .i64 x)).cell? _=_
  by_cases hb:i=j
  ·have e:=hij.1 hb
   subst hb e
   exact World.cell?_setCell_same _ _ _ hy'
  ·rw [World.cell?_setCell_other _ _ _ _ (by simp [hb])]
   exact World.cell?_setCell_same _ _ _ ci
 have k2:(((w.setCell ⟨lb,lo+i,none⟩ (.int .i64 y)).setCell ⟨lb,lo+j,none⟩ (.int .i64 x)).drew).cell? ⟨lb,lo+j,none⟩=some (.int .i64 x):=by
  show ((w.setCell ⟨lb,lo+i,none⟩ (.int .i64 y)).setCell ⟨lb,lo+j,none⟩ (.int .i64 x)).cell? _=_
  exact World.cell?_setCell_same _ _ _ hy'
 have c0':=h1.cellv c0 (by simpa using hpl)
 have c1':=h1.cellv c1 (by simpa using hpl)
 have ux1:=h1.cellv ux (by simpa using fun e => hls e.symm)
 have uy1:=h1.cellv uy (by simpa using fun e => hls e.symm)
 have gx1:=(h1.frozen (p:=⟨sb,so+x,none⟩) (block_lt_of_cell ux) (by simpa using fun e => hls e.symm)).trans gx
 have gy1:=(h1.frozen (p:=⟨sb,so+y,none⟩) (block_lt_of_cell uy) (by simpa using fun e => hls e.symm)).trans gy
 clear h1 hy' ux uy gx gy ci cj fi fj c0 c1
 generalize hw1:((w.setCell ⟨lb,lo+i,none⟩ (.int .i64 y)).setCell ⟨lb,lo+j,none⟩ (.int .i64 x)).drew=w1 at *
 have HW:=mkHid hw1
 clear hw1
 obtain ⟨y2,hy2⟩:=cell?_setCell_some (w:=w1) (p:=⟨sb,so+y,none⟩) (x:=.int .i64 i) (q:=⟨sb,so+x,none⟩) ux1
 go_wp2
 go_region
 go_end0
 exact ⟨rfl,by rw [← HW.out]⟩
end
theorem swap_anyF (i j:Nat) (B pb:Nat) (la:Option Addr) (cl:Nat) (sa:Option Addr) (cs n:Nat) (L:List Nat) (w:World) (h:PlAt w B pb la cl sa cs n L) (hi:i < L.length) (hj:j < L.length) :
  Calls Tryz.prog 221 #[.pointer (some ⟨pb,0,none⟩),.int .i64 i,.int .i64 j] w fun e w' => e=.returned (.tuple #[])∧PlAt w' B pb la cl sa cs n (swpF L i j hi hj)∧Chg (fp la cl++fp sa cs) w w':=by
 have hle:=h.le
 have hnn:=h.nn
 have hrl:=h.r.le
 obtain ⟨S,hS,hok⟩:=h.s
 have hsl:=hS.le
 have hlx:=hok.lt _ (List.getElem_mem hi)
 have hly:=hok.lt _ (List.getElem_mem hj)
 have hSl:=hok.len
 have hr:=h.r
 have c0:=h.c0
 have c1:=h.c1
 obtain ⟨lb,lo,rfl,_,hs1,hv1⟩:=h.r.at_ (by omega)
 obtain ⟨sb,so,rfl,_,hs2,hv2⟩:=hS.at_ (by omega)
 have hfl:fp (some ⟨lb,lo,none⟩) cl=[lb]:=fp_some _ _ _ (by omega)
 have hfs:fp (some ⟨sb,so,none⟩) cs=[sb]:=fp_some _ _ _ (by omega)
 have d1:=h.d1
 have d2:=h.d2
 have d3:=h.d3
 rw [hfl] at d1 d3
 rw [hfs] at d2 d3
 simp only [List.mem_singleton] at d1 d2 d3
 have d3':lb ≠ sb:=d3 lb rfl
 refine (swap_rawF pb lb lo L.length cl sb so n cs i j L[i] L[j] _ _ w hi hj hlx hly c0 c1 (hv1 i _ (ivs_get hi)) (hv1 j _ (ivs_get hj)) (hs1 i (by omega)).2 (hs1 j (by omega)).2 (hv2 _ _ (zvs_get (hok.at_ i hi))) (hv2 _ _ (zvs_get (hok.at_ j hj))) (hs2 _ (by omega)).2 (hs2 _ (by omega)).2 d1 d3' (hok.inj hi hj)).mono ?_
 rintro e w' ⟨he,rfl⟩
 have g1:Chg [lb] w ((w.setCell ⟨lb,lo+i,none⟩ (.int .i64 L[j])).setCell ⟨lb,lo+j,none⟩ (.int .i64 L[i])).drew:=
  (((Chg.setCell w ⟨lb,lo+i,none⟩ _).trans (Chg.setCell _ ⟨lb,lo+j,none⟩ _) (fun _ h _ => h) (fun _ h _ => h)).then (Chg.drew [] _))
 have r1:=((hr.set i hi (.int .i64 (L[j]:Int))).set j hj (.int .i64 (L[i]:Int))).chg (Chg.drew [] _) (by simp)
 rw [ivs_set,ivs_set] at r1
 have c01:=g1.cellv c0 (by simpa using d1)
 have c11:=g1.cellv c1 (by simpa using d1)
 have f01:=(g1.frozen (p:=⟨pb,0,none⟩) (block_lt_of_cell c0) (by simpa using d1)).trans h.f0
 have s1:=hS.chg g1 (by rw [hfs];simpa using fun e => d3' e.symm)
 generalize ((w.setCell ⟨lb,lo+i,none⟩ (.int .i64 L[j])).setCell ⟨lb,lo+j,none⟩ (.int .i64 L[i])).drew=w1 at *
 have g2:Chg [sb] w1 ((w1.setCell ⟨sb,so+L[j],none⟩ (.int .i64 i)).setCell ⟨sb,so+L[i],none⟩ (.int .i64 j)).drew:=
  ((Chg.setCell w1 ⟨sb,so+L[j],none⟩ _).trans (Chg.setCell _ ⟨sb,so+L[i],none⟩ _) (fun _ h _ => h) (fun _ h _ => h)).then (Chg.drew [] _)
 have s2:=((s1.set L[j] hly (.int .i64 (i:Int))).set L[i] hlx (.int .i64 (j:Int))).chg (Chg.drew [] _) (by simp)
 rw [zvs_set,zvs_set] at s2
 refine ⟨he,⟨?_,?_,g2.cellv c11 (by simpa using d2),?_,⟨_,s2,hok.swap hi hj⟩,hnn,h.pB,h.d1,h.d2,h.d3⟩,?_⟩
 ·rw [swp_lenF];exact g2.cellv c01 (by simpa using d2)
 ·exact (g2.frozen (p:=⟨pb,0,none⟩) (block_lt_of_cell c01) (by simpa using d2)).trans f01
 ·rw [swp_lenF];exact r1.chg g2 (by rw [hfl];simpa using d3')
 ·exact g1.trans g2 (fun k hk _ => by rw [hfl];simp at hk;simp [hk]) (fun k hk _ => by rw [hfs];simp at hk;simp [hk])
end
end Go.Proofs.YtdgkbicelnnfpaaGreatDoor
