/- Texts In of the library, joined. -/
import Derived.Test.YtdgkbicelnnfpaaGreatDoorM20
import Derived.Shelf.Abstract
set_option linter.unusedVariables false
set_option linter.unusedSimpArgs false
namespace Go.Proofs.YtdgkbicelnnfpaaGreatDoor
section
open Go.RowKit
attribute [local go_sem ↓] Go.wp_at_zero Go.wp_at_succ
def RL (L:List Nat):Pr:=fun x lo hi u => ∃ a c,x=.slice a L.length c∧Room u lo a L.length c (uvs L)∧∀ q,q∈fp a c→q < hi
theorem keepR (L:List Nat):Keeps (RL L):=fun _ _ _ _ _ g h => by
 obtain ⟨a,c,e,r,m⟩:=h
 exact ⟨a,c,e,r.chg g (by simp),m⟩
def IsRow (n:Nat) (xs:List Value):Pr:=fun x lo hi u => x=.slice (some ⟨lo,0,none⟩) n n∧Reads u (some ⟨lo,0,none⟩) xs
theorem keepRow (n:Nat) (xs:List Value):Keeps (IsRow n xs):=fun _ _ _ _ _ g h => ⟨h.1,h.2.keep g⟩
theorem depRow {n:Nat} {xs:List Value} {x:Value} {u:World} (h:∃ lo hi,IsRow n xs x lo hi u):∃ b,x=.slice (some ⟨b,0,none⟩) n n∧Reads u (some ⟨b,0,none⟩) xs:=by
 obtain ⟨lo,_,h⟩:=h
 exact ⟨lo,h⟩
theorem concat_as (so:Option Addr) (n c:Nat) (Q:List (Option Addr × Nat × Nat)) (LL:List (List Nat)) (X:List Nat) (w:World) (h:Reads w so (Q.map slv)) (hn:Q.length=n) (hR:RowsAt w Q LL) (hX:LL.flatten=X) (hb:X.length≤1000000000) (hnb:n≤1000000000) :
  Calls Tryz.prog 154 #[.slice so n c] w fun e w' => ∃ x,e=.returned x∧RL X x w.heap.size w'.heap.size w'∧Chg [] w w':=by
 subst hX
 refine (concat_any so n c Q LL w h hn hR hb hnb).mono ?_
 rintro e w' ⟨a,k,rfl,r,g⟩
 exact ⟨_,rfl,⟨a,k,rfl,r,fun q hq => (r.lt q hq).2⟩,g⟩
theorem rows2 {w:World} {q1 q2:Option Addr × Nat × Nat} {L1 L2:List Nat} (h1:Reads w q1.1 (uvs L1)) (e1:L1.length=q1.2.1) (h2:Reads w q2.1 (uvs L2)) (e2:L2.length=q2.2.1):RowsAt w [q1,q2] [L1,L2]:=
 ⟨rfl,fun i q L hq hL => by
  match i,hq,hL with
  | 0,hq,hL => simp at hq hL;subst hq hL;exact ⟨h1,e1⟩
  | 1,hq,hL => simp at hq hL;subst hq hL;exact ⟨h2,e2⟩
  | i+2,hq,hL => simp at hq⟩
theorem rows3 {w:World} {q1 q2 q3:Option Addr × Nat × Nat} {L1 L2 L3:List Nat} (h1:Reads w q1.1 (uvs L1)) (e1:L1.length=q1.2.1) (h2:Reads w q2.1 (uvs L2)) (e2:L2.length=q2.2.1) (h3:Reads w q3.1 (uvs L3)) (e3:L3.length=q3.2.1):RowsAt w [q1,q2,q3] [L1,L2,L3]:=
 ⟨rfl,fun i q L hq hL => by
  match i,hq,hL with
  | 0,hq,hL => simp at hq hL;subst hq hL;exact ⟨h1,e1⟩
  | 1,hq,hL => simp at hq hL;subst hq hL;exact ⟨h2,e2⟩
  | 2,hq,hL => simp at hq hL;subst hq hL;exact ⟨h3,e3⟩
  | i+3,hq,hL => simp at hq⟩
theorem uvs_take (L:List Nat) (n:Nat):(uvs L).take n=uvs (L.take n):=by simp [uvs]
theorem uvs_drop (L:List Nat) (n:Nat):(uvs L).drop n=uvs (L.drop n):=by simp [uvs]
theorem run_three {ao:Option Addr} {n c f t:Nat} (hft:f≤t) (htc:t≤c) (u:World):(Instr.slice 35 (.slice ao n c) (some (.int .i64 (f:Int))) (some (.int .i64 (t:Int))) (some (.int .i64 (t:Int)))).run Tryz.prog u=.ok (.slice (cut ao t f) (t - f) (t - f)) u:=by
 have hs:(Tryz.prog.info? 34).map (·.size)=some 1:=by kernel_rfl
 obtain ⟨i,hi,hi1⟩:=Option.map_eq_some_iff.1 hs
 have he:Tryz.prog.elem 35=34:=by simp [Program.elem,Tryz.underlying35]
 rw [run_slice_lhm u 35 _ n c (by rw [he];exact Tryz.underlying35) .i64 .i64 .i64 (f:Int) (t:Int) (t:Int) (by omega) (by omega) (by omega) (by omega),he]
 simp [sizeOf,typeInfo,hi,hi1,sliced,cut]
set_option maxRecDepth 20000 in
theorem joinclo_any (ao:Option Addr) (n c:Nat) (L:List Nat) (bo:Option Addr) (m d:Nat) (M:List Nat) (w:World) (h:Reads w ao (uvs L)) (hn:L.length=n) (h':Reads w bo (uvs M)) (hm:M.length=m) (hb:n+m≤1000000000) :
  Calls Tryz.prog 191 #[.slice ao n c,.slice bo m d] w fun e w' => ∃ x,e=.returned x∧RL (L++M) x w.heap.size w'.heap.size w'∧Chg [] w w':=by
 have hc:=concat_as (some ⟨w.heap.size,0,none⟩) 2 2 [(ao,n,c),(bo,m,d)] [L,M] (L++M) (w.alloc (.cells #[.slice ao n c,.slice bo m d] 35)) (Reads.new w #[.slice ao n c,.slice bo m d] 35) rfl (rows2 (h.keep (Chg.alloc [] w _)) hn (h'.keep (Chg.alloc [] w _)) hm) (by simp) (by rw [List.length_append];omega) (by decide)
 have g0:=Chg.alloc [] w (.cells #[.slice ao n c,.slice bo m d] 35)
 have hz:w.heap.size≤(w.alloc (.cells #[.slice ao n c,.slice bo m d] 35)).heap.size:=by simp
 have HC:=mkHid hc
 have HZ:=mkHid (And.intro g0 hz)
 clear hc g0 hz h h' hn hm
 go_enter Tryz.func191,Tryz.ntmps191
 go_wp2_with fail
 refine HC.out.mono ?_
 rintro e w' ⟨x,rfl,⟨a,k,rfl,r,m1⟩,g⟩
 go_wp2_with fail
 go_ret
 exact ⟨_,rfl,⟨a,k,by rw [List.length_append];rfl,r.mono HZ.out.2,m1⟩,HZ.out.1.then g⟩
set_option maxRecDepth 20000 in
theorem partclo_any (ao:Option Addr) (n c:Nat) (bo:Option Addr) (m d:Nat) (f t fb tb:Nat) (w:World) (hft:f≤t) (htc:t≤c) (cf:w.cell? ⟨fb,0,none⟩=some (.int .i64 (f:Int))) (ct:w.cell? ⟨tb,0,none⟩=some (.int .i64 (t:Int))) :
  Calls Tryz.prog 190 #[.slice ao n c,.slice bo m d,.pointer (some ⟨fb,0,none⟩),.pointer (some ⟨tb,0,none⟩)] w fun e w' => ∃ x,e=.returned x∧IsV (.slice (cut ao t f) (t - f) (t - f)) x w.heap.size w'.heap.size w'∧Chg [] w w':=by
 have hs:=fun u:World => run_three (ao:=ao) (n:=n) hft htc u
 go_enter Tryz.func190,Tryz.ntmps190
 go_wp2_with fail
 go_ret
 exact ⟨_,rfl,rfl,Chg.refl _ _⟩
set_option maxRecDepth 20000 in
set_option maxHeartbeats 2000000 in
theorem insclo_any (ao:Option Addr) (n c:Nat) (L:List Nat) (bo:Option Addr) (m d:Nat) (M:List Nat) (a xb:Nat) (w:World) (h:Reads w ao (uvs L)) (hn:L.length=n) (hc:n≤c) (hx:c≤maxLen) (h':Reads w bo (uvs M)) (hm:M.length=m) (hxb:w.cell? ⟨xb,0,none⟩=some (.int .i64 (a:Int))) (ha:a≤n) (hb:n+m≤1000000000) :
  Calls Tryz.prog 153 #[.slice ao n c,.slice bo m d,.pointer (some ⟨xb,0,none⟩)] w fun e w' => ∃ x,e=.returned x∧RL (L.take a++(M++L.drop a)) x w.heap.size w'.heap.size w'∧Chg [] w w':=by
 have h1n:a≤n:=ha
 have HS:=mkHid (show (∀ u:World,(Instr.slice 35 (.slice ao n c) none (some (.int .i64 (a:Int))) none).run Tryz.prog u=.ok (.slice ao a c) u)∧(∀ u:World,(Instr.slice 35 (.slice ao n c) (some (.int .i64 (a:Int))) none none).run Tryz.prog u=.ok (.slice (cut ao c a) (n - a) (c - a)) u) from
  ⟨fun u => run_take_k (e:=34) ao n c a Tryz.underlying35 (by kernel_rfl) (by omega) u,fun u => run_from_k (e:=34) ao n c a Tryz.underlying35 (by kernel_rfl) h1n u⟩)
 have HR:=mkHid (show ∀ u:World,Chg [] w u→RowsAt u [(ao,a,c),(bo,m,d),(cut ao c a,n - a,c - a)] [L.take a,M,L.drop a] from fun u g => rows3 (by have:=(h.keep g).take a;rwa [uvs_take] at this) (by show (L.take a).length=a;rw [List.length_take];omega) (h'.keep g) hm (by have:=(h.keep g).cut c a (by rw [uvs_len];omega);rwa [uvs_drop] at this) (by show (L.drop a).length=n - a;rw [List.length_drop,hn]))
 have HB:=mkHid (show (L.take a++(M++L.drop a)).length≤1000000000 by rw [List.length_append,List.length_append,List.length_take,List.length_drop];omega)
 clear h h' hn hm
 go_enter Tryz.func153,Tryz.ntmps153
 go_wp2_with fail
 refine region_made 9 [IsV (.slice ao n c),IsV (.int .i64 (a:Int)),IsV (.slice ao a c),IsV (.slice bo m d),IsV (.slice ao n c),IsV (.int .i64 (a:Int)),IsV (.slice (cut ao c a) (n - a) (c - a)),IsRow 3 [.slice ao a c,.slice bo m d,.slice (cut ao c a) (n - a) (c - a)],RL (L.take a++(M++L.drop a))] (by kernel_rfl) (by kernel_rfl) (by kernel_rfl) (by decide) (of_decide_eq_true (by kernel_rfl)) ⟨keepV _,keepV _,keepV _,keepV _,keepV _,keepV _,keepV _,keepRow _ _,keepR _,trivial⟩ ?_ ?_
 ·refine ⟨?_,?_,?_,?_,?_,?_,?_,?_,?_,trivial⟩
  ·intro v u hg hd K hK
   clear hd
   have hk:=hK.out (.slice ao n c) u (Chg.refl _ _) rfl
   clear hK
   simp only [zqa,zqb,zqc,zqd,zqe,putAll,Act.put,zqf,zqg,zqh,Nat.zero_add,Nat.reduceAdd] at hk ⊢
   go_simp
   exact hk
  ·intro v u hg hd K hK
   have hz:=(Chg.drew [] w).then hg
   have x0:=hz.cellv hxb (by simp)
   clear hd
   have hk:=hK.out (.int .i64 (a:Int)) u (Chg.refl _ _) rfl
   clear hK
   simp only [zqa,zqb,zqc,zqd,zqe,putAll,Act.put,zqf,zqg,zqh,Nat.zero_add,Nat.reduceAdd] at hk ⊢
   go_simp
   exact hk
  ·intro v u hg hd K hK
   have h0:∃ lo hi,IsV (.slice ao n c) (v 0) lo hi u:=dep hd 0 (by kernel_rfl)
   have e0:v 0=.slice ao n c:=depV h0
   have h1:∃ lo hi,IsV (.int .i64 (a:Int)) (v 1) lo hi u:=dep hd 1 (by kernel_rfl)
   have e1:v 1=.int .i64 (a:Int):=depV h1
   have q1:=HS.out.1
   clear hd
   have hk:=hK.out (.slice ao a c) u (Chg.refl _ _) rfl
   clear hK
   simp only [zqa,zqb,zqc,zqd,zqe,putAll,Act.put,zqf,zqg,zqh,Nat.zero_add,Nat.reduceAdd,e0,e1] at hk ⊢
   go_simp
   exact hk
  ·intro v u hg hd K hK
   clear hd
   have hk:=hK.out (.slice bo m d) u (Chg.refl _ _) rfl
   clear hK
   simp only [zqa,zqb,zqc,zqd,zqe,putAll,Act.put,zqf,zqg,zqh,Nat.zero_add,Nat.reduceAdd] at hk ⊢
   go_simp
   exact hk
  ·intro v u hg hd K hK
   clear hd
   have hk:=hK.out (.slice ao n c) u (Chg.refl _ _) rfl
   clear hK
   simp only [zqa,zqb,zqc,zqd,zqe,putAll,Act.put,zqf,zqg,zqh,Nat.zero_add,Nat.reduceAdd] at hk ⊢
   go_simp
   exact hk
  ·intro v u hg hd K hK
   have hz:=(Chg.drew [] w).then hg
   have x0:=hz.cellv hxb (by simp)
   clear hd
   have hk:=hK.out (.int .i64 (a:Int)) u (Chg.refl _ _) rfl
   clear hK
   simp only [zqa,zqb,zqc,zqd,zqe,putAll,Act.put,zqf,zqg,zqh,Nat.zero_add,Nat.reduceAdd] at hk ⊢
   go_simp
   exact hk
  ·intro v u hg hd K hK
   have h4:∃ lo hi,IsV (.slice ao n c) (v 4) lo hi u:=dep hd 4 (by kernel_rfl)
   have e4:v 4=.slice ao n c:=depV h4
   have h5:∃ lo hi,IsV (.int .i64 (a:Int)) (v 5) lo hi u:=dep hd 5 (by kernel_rfl)
   have e5:v 5=.int .i64 (a:Int):=depV h5
   have q1:=HS.out.2
   clear hd
   have hk:=hK.out (.slice (cut ao c a) (n - a) (c - a)) u (Chg.refl _ _) rfl
   clear hK
   simp only [zqa,zqb,zqc,zqd,zqe,putAll,Act.put,zqf,zqg,zqh,Nat.zero_add,Nat.reduceAdd,e4,e5] at hk ⊢
   go_simp
   exact hk
  ·intro v u hg hd K hK
   have h2:∃ lo hi,IsV (.slice ao a c) (v 2) lo hi u:=dep hd 2 (by kernel_rfl)
   have e2:v 2=.slice ao a c:=depV h2
   have h3:∃ lo hi,IsV (.slice bo m d) (v 3) lo hi u:=dep hd 3 (by kernel_rfl)
   have e3:v 3=.slice bo m d:=depV h3
   have h6:∃ lo hi,IsV (.slice (cut ao c a) (n - a) (c - a)) (v 6) lo hi u:=dep hd 6 (by kernel_rfl)
   have e6:v 6=.slice (cut ao c a) (n - a) (c - a):=depV h6
   clear hd
   have hk:=hK.out (.slice (some ⟨u.heap.size,0,none⟩) 3 3) _ (Chg.alloc [] u (.cells #[.slice ao a c,.slice bo m d,.slice (cut ao c a) (n - a) (c - a)] 35)) ⟨rfl,Reads.new u #[.slice ao a c,.slice bo m d,.slice (cut ao c a) (n - a) (c - a)] 35⟩
   clear hK
   simp only [zqa,zqb,zqc,zqd,zqe,putAll,Act.put,zqf,zqg,zqh,Nat.zero_add,Nat.reduceAdd,e2,e3,e6] at hk ⊢
   go_simp
   exact hk
  ·intro v u hg hd K hK
   obtain ⟨b,e7,hrow⟩:=depRow (show ∃ lo hi,IsRow 3 [.slice ao a c,.slice bo m d,.slice (cut ao c a) (n - a) (c - a)] (v 7) lo hi u from dep hd 7 (by kernel_rfl))
   have hz:=(Chg.drew [] w).then hg
   clear hd
   simp only [zqa,zqb,zqc,zqd,zqe,putAll,Act.put,zqf,zqg,zqh,Nat.zero_add,Nat.reduceAdd,e7] at hK ⊢
   go_simp
   refine (concat_as (some ⟨b,0,none⟩) 3 3 [(ao,a,c),(bo,m,d),(cut ao c a,n - a,c - a)] [L.take a,M,L.drop a] (L.take a++(M++L.drop a)) u hrow rfl (HR.out u hz) (by simp) HB.out (by decide)).mono ?_
   rintro e u' ⟨x,rfl,hx,g'⟩
   have hk:=hK.out x u' g' hx
   exact hk
 ·intro v u lo hi hg hall hbd hdj
  have e0:v 0=.slice ao n c:=hall 0 (by decide)
  have e1:v 1=.int .i64 (a:Int):=hall 1 (by decide)
  have e2:v 2=.slice ao a c:=hall 2 (by decide)
  have e3:v 3=.slice bo m d:=hall 3 (by decide)
  have e4:v 4=.slice ao n c:=hall 4 (by decide)
  have e5:v 5=.int .i64 (a:Int):=hall 5 (by decide)
  have e6:v 6=.slice (cut ao c a) (n - a) (c - a):=hall 6 (by decide)
  obtain ⟨e7,-⟩:IsRow 3 [.slice ao a c,.slice bo m d,.slice (cut ao c a) (n - a) (c - a)] (v 7) (lo 7) (hi 7) u:=hall 7 (by decide)
  obtain ⟨ra,rc,e8,rr,mm⟩:RL (L.take a++(M++L.drop a)) (v 8) (lo 8) (hi 8) u:=hall 8 (by decide)
  have b1:=(hbd 8 (by decide)).1
  have b2:=(hbd 8 (by decide)).2
  have HF:=mkHid (show RL (L.take a++(M++L.drop a)) (.slice ra (L.take a++(M++L.drop a)).length rc) w.heap.size u.heap.size u∧Chg [] w u from ⟨⟨ra,rc,rfl,rr.mono b1,fun q hq => Nat.lt_of_lt_of_le (mm q hq) b2⟩,(Chg.drew [] w).then hg⟩)
  simp only [zqa,zqb,zqc,zqd,zqe,putAll,Act.put,zqf,zqg,zqh,Nat.zero_add,Nat.reduceAdd,e0,e1,e2,e3,e4,e5,e6,e7,e8]
  clear hall hbd hdj rr mm b1 b2 hg
  go_wp2_with fail
  go_ret
  exact ⟨_,rfl,HF.out.1,HF.out.2⟩
set_option maxRecDepth 20000 in
set_option maxHeartbeats 2000000 in
theorem repclo_any (ao:Option Addr) (n c:Nat) (L:List Nat) (bo:Option Addr) (m d:Nat) (M:List Nat) (a xb:Nat) (w:World) (h:Reads w ao (uvs L)) (hn:L.length=n) (hc:n≤c) (hx:c≤maxLen) (h':Reads w bo (uvs M)) (hm:M.length=m) (hxb:w.cell? ⟨xb,0,none⟩=some (.int .i64 (a:Int))) (ha:a < n) (hb:n+m≤1000000000) :
  Calls Tryz.prog 188 #[.slice ao n c,.slice bo m d,.pointer (some ⟨xb,0,none⟩)] w fun e w' => ∃ x,e=.returned x∧RL (L.take a++(M++L.drop (a+1))) x w.heap.size w'.heap.size w'∧Chg [] w w':=by
 obtain ⟨a1,ha1⟩:∃ a1,a+1=a1:=⟨_,rfl⟩
 have HW:=mkHid (show (a:Int)+1=(a1:Int)∧IntKind.i64.wrap (a1:Int)=(a1:Int) from ⟨by omega,by rw [IntKind.wrap_i64];omega⟩)
 rw [ha1]
 have h1n:a1≤n:=by omega
 have HS:=mkHid (show (∀ u:World,(Instr.slice 35 (.slice ao n c) none (some (.int .i64 (a:Int))) none).run Tryz.prog u=.ok (.slice ao a c) u)∧(∀ u:World,(Instr.slice 35 (.slice ao n c) (some (.int .i64 (a1:Int))) none none).run Tryz.prog u=.ok (.slice (cut ao c a1) (n - a1) (c - a1)) u) from
  ⟨fun u => run_take_k (e:=34) ao n c a Tryz.underlying35 (by kernel_rfl) (by omega) u,fun u => run_from_k (e:=34) ao n c a1 Tryz.underlying35 (by kernel_rfl) h1n u⟩)
 have HR:=mkHid (show ∀ u:World,Chg [] w u→RowsAt u [(ao,a,c),(bo,m,d),(cut ao c a1,n - a1,c - a1)] [L.take a,M,L.drop a1] from fun u g => rows3 (by have:=(h.keep g).take a;rwa [uvs_take] at this) (by show (L.take a).length=a;rw [List.length_take];omega) (h'.keep g) hm (by have:=(h.keep g).cut c a1 (by rw [uvs_len];omega);rwa [uvs_drop] at this) (by show (L.drop a1).length=n - a1;rw [List.length_drop,hn]))
 have HB:=mkHid (show (L.take a++(M++L.drop a1)).length≤1000000000 by rw [List.length_append,List.length_append,List.length_take,List.length_drop];omega)
 clear h h' hn hm ha1
 go_enter Tryz.func188,Tryz.ntmps188
 go_wp2_with fail
 refine region_made 10 [IsV (.slice ao n c),IsV (.int .i64 (a:Int)),IsV (.slice ao a c),IsV (.slice bo m d),IsV (.slice ao n c),IsV (.int .i64 (a:Int)),IsV (.int .i64 (a1:Int)),IsV (.slice (cut ao c a1) (n - a1) (c - a1)),IsRow 3 [.slice ao a c,.slice bo m d,.slice (cut ao c a1) (n - a1) (c - a1)],RL (L.take a++(M++L.drop a1))] (by kernel_rfl) (by kernel_rfl) (by kernel_rfl) (by decide) (of_decide_eq_true (by kernel_rfl)) ⟨keepV _,keepV _,keepV _,keepV _,keepV _,keepV _,keepV _,keepV _,keepRow _ _,keepR _,trivial⟩ ?_ ?_
 ·refine ⟨?_,?_,?_,?_,?_,?_,?_,?_,?_,?_,trivial⟩
  ·intro v u hg hd K hK
   clear hd
   have hk:=hK.out (.slice ao n c) u (Chg.refl _ _) rfl
   clear hK
   simp only [zqa,zqb,zqc,zqd,zqe,putAll,Act.put,zqf,zqg,zqh,Nat.zero_add,Nat.reduceAdd] at hk ⊢
   go_simp
   exact hk
  ·intro v u hg hd K hK
   have hz:=(Chg.drew [] w).then hg
   have x0:=hz.cellv hxb (by simp)
   clear hd
   have hk:=hK.out (.int .i64 (a:Int)) u (Chg.refl _ _) rfl
   clear hK
   simp only [zqa,zqb,zqc,zqd,zqe,putAll,Act.put,zqf,zqg,zqh,Nat.zero_add,Nat.reduceAdd] at hk ⊢
   go_simp
   exact hk
  ·intro v u hg hd K hK
   have h0:∃ lo hi,IsV (.slice ao n c) (v 0) lo hi u:=dep hd 0 (by kernel_rfl)
   have e0:v 0=.slice ao n c:=depV h0
   have h1:∃ lo hi,IsV (.int .i64 (a:Int)) (v 1) lo hi u:=dep hd 1 (by kernel_rfl)
   have e1:v 1=.int .i64 (a:Int):=depV h1
   have q1:=HS.out.1
   clear hd
   have hk:=hK.out (.slice ao a c) u (Chg.refl _ _) rfl
   clear hK
   simp only [zqa,zqb,zqc,zqd,zqe,putAll,Act.put,zqf,zqg,zqh,Nat.zero_add,Nat.reduceAdd,e0,e1] at hk ⊢
   go_simp
   exact hk
  ·intro v u hg hd K hK
   clear hd
   have hk:=hK.out (.slice bo m d) u (Chg.refl _ _) rfl
   clear hK
   simp only [zqa,zqb,zqc,zqd,zqe,putAll,Act.put,zqf,zqg,zqh,Nat.zero_add,Nat.reduceAdd] at hk ⊢
   go_simp
   exact hk
  ·intro v u hg hd K hK
   clear hd
   have hk:=hK.out (.slice ao n c) u (Chg.refl _ _) rfl
   clear hK
   simp only [zqa,zqb,zqc,zqd,zqe,putAll,Act.put,zqf,zqg,zqh,Nat.zero_add,Nat.reduceAdd] at hk ⊢
   go_simp
   exact hk
  ·intro v u hg hd K hK
   have hz:=(Chg.drew [] w).then hg
   have x0:=hz.cellv hxb (by simp)
   clear hd
   have hk:=hK.out (.int .i64 (a:Int)) u (Chg.refl _ _) rfl
   clear hK
   simp only [zqa,zqb,zqc,zqd,zqe,putAll,Act.put,zqf,zqg,zqh,Nat.zero_add,Nat.reduceAdd] at hk ⊢
   go_simp
   exact hk
  ·intro v u hg hd K hK
   have h5:∃ lo hi,IsV (.int .i64 (a:Int)) (v 5) lo hi u:=dep hd 5 (by kernel_rfl)
   have e5:v 5=.int .i64 (a:Int):=depV h5
   have ha2:=HW.out.1
   have ha3:=HW.out.2
   clear hd
   have hk:=hK.out (.int .i64 (a1:Int)) u (Chg.refl _ _) rfl
   clear hK
   simp only [zqa,zqb,zqc,zqd,zqe,putAll,Act.put,zqf,zqg,zqh,Nat.zero_add,Nat.reduceAdd,e5] at hk ⊢
   go_simp
   exact hk
  ·intro v u hg hd K hK
   have h4:∃ lo hi,IsV (.slice ao n c) (v 4) lo hi u:=dep hd 4 (by kernel_rfl)
   have e4:v 4=.slice ao n c:=depV h4
   have h6:∃ lo hi,IsV (.int .i64 (a1:Int)) (v 6) lo hi u:=dep hd 6 (by kernel_rfl)
   have e6:v 6=.int .i64 (a1:Int):=depV h6
   have q1:=HS.out.2
   clear hd
   have hk:=hK.out (.slice (cut ao c a1) (n - a1) (c - a1)) u (Chg.refl _ _) rfl
   clear hK
   simp only [zqa,zqb,zqc,zqd,zqe,putAll,Act.put,zqf,zqg,zqh,Nat.zero_add,Nat.reduceAdd,e4,e6] at hk ⊢
   go_simp
   exact hk
  ·intro v u hg hd K hK
   have h2:∃ lo hi,IsV (.slice ao a c) (v 2) lo hi u:=dep hd 2 (by kernel_rfl)
   have e2:v 2=.slice ao a c:=depV h2
   have h3:∃ lo hi,IsV (.slice bo m d) (v 3) lo hi u:=dep hd 3 (by kernel_rfl)
   have e3:v 3=.slice bo m d:=depV h3
   have h7:∃ lo hi,IsV (.slice (cut ao c a1) (n - a1) (c - a1)) (v 7) lo hi u:=dep hd 7 (by kernel_rfl)
   have e7:v 7=.slice (cut ao c a1) (n - a1) (c - a1):=depV h7
   clear hd
   have hk:=hK.out (.slice (some ⟨u.heap.size,0,none⟩) 3 3) _ (Chg.alloc [] u (.cells #[.slice ao a c,.slice bo m d,.slice (cut ao c a1) (n - a1) (c - a1)] 35)) ⟨rfl,Reads.new u #[.slice ao a c,.slice bo m d,.slice (cut ao c a1) (n - a1) (c - a1)] 35⟩
   clear hK
   simp only [zqa,zqb,zqc,zqd,zqe,putAll,Act.put,zqf,zqg,zqh,Nat.zero_add,Nat.reduceAdd,e2,e3,e7] at hk ⊢
   go_simp
   exact hk
  ·intro v u hg hd K hK
   obtain ⟨b,e8,hrow⟩:=depRow (show ∃ lo hi,IsRow 3 [.slice ao a c,.slice bo m d,.slice (cut ao c a1) (n - a1) (c - a1)] (v 8) lo hi u from dep hd 8 (by kernel_rfl))
   have hz:=(Chg.drew [] w).then hg
   clear hd
   simp only [zqa,zqb,zqc,zqd,zqe,putAll,Act.put,zqf,zqg,zqh,Nat.zero_add,Nat.reduceAdd,e8] at hK ⊢
   go_simp
   refine (concat_as (some ⟨b,0,none⟩) 3 3 [(ao,a,c),(bo,m,d),(cut ao c a1,n - a1,c - a1)] [L.take a,M,L.drop a1] (L.take a++(M++L.drop a1)) u hrow rfl (HR.out u hz) (by simp) HB.out (by decide)).mono ?_
   rintro e u' ⟨x,rfl,hx,g'⟩
   have hk:=hK.out x u' g' hx
   exact hk
 ·intro v u lo hi hg hall hbd hdj
  have e0:v 0=.slice ao n c:=hall 0 (by decide)
  have e1:v 1=.int .i64 (a:Int):=hall 1 (by decide)
  have e2:v 2=.slice ao a c:=hall 2 (by decide)
  have e3:v 3=.slice bo m d:=hall 3 (by decide)
  have e4:v 4=.slice ao n c:=hall 4 (by decide)
  have e5:v 5=.int .i64 (a:Int):=hall 5 (by decide)
  have e6:v 6=.int .i64 (a1:Int):=hall 6 (by decide)
  have e7:v 7=.slice (cut ao c a1) (n - a1) (c - a1):=hall 7 (by decide)
  obtain ⟨e8,-⟩:IsRow 3 [.slice ao a c,.slice bo m d,.slice (cut ao c a1) (n - a1) (c - a1)] (v 8) (lo 8) (hi 8) u:=hall 8 (by decide)
  obtain ⟨ra,rc,e9,rr,mm⟩:RL (L.take a++(M++L.drop a1)) (v 9) (lo 9) (hi 9) u:=hall 9 (by decide)
  have b1:=(hbd 9 (by decide)).1
  have b2:=(hbd 9 (by decide)).2
  have HF:=mkHid (show RL (L.take a++(M++L.drop a1)) (.slice ra (L.take a++(M++L.drop a1)).length rc) w.heap.size u.heap.size u∧Chg [] w u from ⟨⟨ra,rc,rfl,rr.mono b1,fun q hq => Nat.lt_of_lt_of_le (mm q hq) b2⟩,(Chg.drew [] w).then hg⟩)
  simp only [zqa,zqb,zqc,zqd,zqe,putAll,Act.put,zqf,zqg,zqh,Nat.zero_add,Nat.reduceAdd,e0,e1,e2,e3,e4,e5,e6,e7,e8,e9]
  clear hall hbd hdj rr mm b1 b2 hg
  go_wp2_with fail
  go_ret
  exact ⟨_,rfl,HF.out.1,HF.out.2⟩
end
end Go.Proofs.YtdgkbicelnnfpaaGreatDoor
