/- Texts Tk, Tl of the library, joined. -/
import Derived.Test.YtdgkbicelnnfpaaGreatDoorM26
set_option linter.unusedVariables false
set_option linter.unusedSimpArgs false
namespace Go.Proofs.YtdgkbicelnnfpaaGreatDoor
section
set_option maxRecDepth 200000
open Go.RowKit
attribute [local go_sem ↓] Go.wp_at_zero Go.wp_at_succ
theorem new_step (w:World) (s:CS) (t:TypeId):StepAt (w.alloc (.cells s.cells.toArray t)) w.heap.size 0 s:=by
 refine ⟨fun j v hj => ?_,fun j hj => frozen_of_row _ _ _ _ _ (heap_alloc_last w _)⟩
 rw [cell_of_row _ _ _ _ _ _ (heap_alloc_last w _),Nat.zero_add]
 simpa using hj
def CS.same (x:CS):Bool:=sameB x.node.lf x.was.lf x.node.K x.node.V x.was.K x.was.V
def keepA (V:List CS) (x:CS):List CS:=if x.same=true then V else V++[x]
theorem RowS.snoc {w':World} {B:Nat} {tag:Nat→Nat} {ao:Option Addr} {c:Nat} {L:List CS} {x:CS} {fo:List Nat} (hr:RoomZ 8 w' B ao (L.length+1) c (cellsL L++x.cells)) (hf:∀ k,k∈fp ao c→tag k=4) (nd:∀ s,s∈L→NdAt w' tag s.was∧NdAt w' tag s.node) (nx:NdAt w' tag x.was∧NdAt w' tag x.node):RowS w' B tag ao c (L++[x]):=by
 refine ⟨by rw [cellsL_snoc,List.length_append];exact hr,hf,fun s hs => ?_⟩
 rcases List.mem_append.1 hs with h | h
 ·exact nd s h
 ·simp at h;subst h;exact nx
section
variable {w w6:World} {B:Nat} {tag:Nat→Nat} {wb sb:Nat} {a1:Option Addr} {c1:Nat} {a2:Option Addr} {c2:Nat} {S V:List CS} {rt od:Nat} {th:Bool}
theorem WayAt.save (h:WayAt w B tag wb sb a1 c1 a2 c2 S V rt od th) (hi:∀ k,w.heap.size≤k→tag k=4) {x:CS} (hx:NdAt w tag x.was∧NdAt w tag x.node) {a6:Option Addr} {c6:Nat} (hr:RoomZ 8 w6 B a6 (V.length+1) c6 (cellsL V++x.cells)) (hg:Chg (fp a2 c2) w w6) (hf:fp a6 c6=fp a2 c2 ∨ ∃ k,w.heap.size≤k∧fp a6 c6=[k]) :
  WayAt (w6.setCell ⟨wb,2,none⟩ (.slice a6 (V.length+1:Nat) c6)) B tag wb sb a1 c1 a6 c6 S (V++[x]) rt od th∧Chg (wb :: fp a2 c2) w (w6.setCell ⟨wb,2,none⟩ (.slice a6 (V.length+1:Nat) c6))∧∀ k,k∈fp a6 c6→k∈fp a2 c2 ∨ w.heap.size≤k:=by
 have hlt:=h.lt
 have hT:∀ k,k∈fp a2 c2→tag k=4:=h.r2.tg
 have k2:=hg.cellv h.p2 h.d2
 have gs:=Chg.setCell w6 ⟨wb,2,none⟩ (.slice a6 (V.length+1:Nat) c6)
 have hS1:∀ k,k∈[wb]→tag k=4:=fun k hk => by simp at hk;subst hk;exact h.tb
 have r1:=(h.r1.wrote hg hT h.d3).wrote gs hS1 (fun k hk hm => by simp at hm;subst hm;exact h.d1 hk)
 have hfk:∀ k,k∈fp a6 c6→k∈fp a2 c2 ∨ w.heap.size≤k:=fun k hk => by
  rcases hf with e | ⟨z,hz,e⟩
  ·rw [e] at hk;exact Or.inl hk
  ·rw [e] at hk;simp at hk;subst hk;exact Or.inr hz
 have hw6:wb ∉ fp a6 c6:=fun hm => (hfk wb hm).elim h.d2 (by omega)
 have ht6:∀ k,k∈fp a6 c6→tag k=4:=fun k hk => (hfk k hk).elim (hT k) (hi k)
 have r2:RowS w6 B tag a6 c6 (V++[x]):=RowS.snoc (fo:=[]) hr ht6 (fun s hs => ⟨(h.r2.nd s hs).1.wrote hg hT,(h.r2.nd s hs).2.wrote hg hT⟩) ⟨hx.1.wrote hg hT,hx.2.wrote hg hT⟩
 have oth:∀ j,j ≠ 2→(w6.setCell ⟨wb,2,none⟩ (.slice a6 (V.length+1:Nat) c6)).cell? ⟨wb,j,none⟩=w6.cell? ⟨wb,j,none⟩:=fun j hj => by rw [World.cell?_setCell_other _ _ _ _ (by simp [hj])]
 refine ⟨⟨?_,?_,?_,?_,?_,?_,fun j => ?_,h.tb,r1,r2.wrote gs hS1 (fun k hk hm => by simp at hm;subst hm;exact hw6 hk),h.d1,hw6,fun k hk hm => (hfk k hm).elim (h.d3 k hk) (fun h9 => by have:=(h.r1.rm.lt k hk).2;omega),Nat.le_trans h.hB (Nat.le_trans hg.size gs.size)⟩,hg.trans gs (fun k hk _ => List.mem_cons_of_mem _ hk) (fun k hk _ => by simp at hk;simp [hk]),hfk⟩
 ·rw [oth 0 (by decide)];exact hg.cellv h.p0 h.d2
 ·rw [oth 1 (by decide)];exact hg.cellv h.p1 h.d2
 ·rw [World.cell?_setCell_same _ _ _ k2];simp
 ·rw [oth 3 (by decide)];exact hg.cellv h.p3 h.d2
 ·rw [oth 4 (by decide)];exact hg.cellv h.p4 h.d2
 ·rw [oth 5 (by decide)];exact hg.cellv h.p5 h.d2
 ·rw [World.frozen?_setCell];exact (hg.frozen (p:=⟨wb,j,none⟩) hlt h.d2).trans (h.f j)
theorem WayAt.push (h:WayAt w B tag wb sb a1 c1 a2 c2 S V rt od th) (hi:∀ k,w.heap.size≤k→tag k=4) {x:CS} (hx:NdAt w tag x.was∧NdAt w tag x.node) {a6:Option Addr} {c6:Nat} (hr:RoomZ 8 w6 B a6 (S.length+1) c6 (cellsL S++x.cells)) (hg:Chg (fp a1 c1) w w6) (hf:fp a6 c6=fp a1 c1 ∨ ∃ k,w.heap.size≤k∧fp a6 c6=[k]) :
  WayAt (w6.setCell ⟨wb,1,none⟩ (.slice a6 (S.length+1:Nat) c6)) B tag wb sb a6 c6 a2 c2 (S++[x]) V rt od th∧Chg (wb :: fp a1 c1) w (w6.setCell ⟨wb,1,none⟩ (.slice a6 (S.length+1:Nat) c6))∧∀ k,k∈fp a6 c6→k∈fp a1 c1 ∨ w.heap.size≤k:=by
 have hlt:=h.lt
 have hT:∀ k,k∈fp a1 c1→tag k=4:=h.r1.tg
 have k2:=hg.cellv h.p1 h.d1
 have gs:=Chg.setCell w6 ⟨wb,1,none⟩ (.slice a6 (S.length+1:Nat) c6)
 have hS1:∀ k,k∈[wb]→tag k=4:=fun k hk => by simp at hk;subst hk;exact h.tb
 have r2:=(h.r2.wrote hg hT (fun k hk hm => h.d3 k hm hk)).wrote gs hS1 (fun k hk hm => by simp at hm;subst hm;exact h.d2 hk)
 have hfk:∀ k,k∈fp a6 c6→k∈fp a1 c1 ∨ w.heap.size≤k:=fun k hk => by
  rcases hf with e | ⟨z,hz,e⟩
  ·rw [e] at hk;exact Or.inl hk
  ·rw [e] at hk;simp at hk;subst hk;exact Or.inr hz
 have hw6:wb ∉ fp a6 c6:=fun hm => (hfk wb hm).elim h.d1 (by omega)
 have ht6:∀ k,k∈fp a6 c6→tag k=4:=fun k hk => (hfk k hk).elim (hT k) (hi k)
 have r1:RowS w6 B tag a6 c6 (S++[x]):=RowS.snoc (fo:=[]) hr ht6 (fun s hs => ⟨(h.r1.nd s hs).1.wrote hg hT,(h.r1.nd s hs).2.wrote hg hT⟩) ⟨hx.1.wrote hg hT,hx.2.wrote hg hT⟩
 have oth:∀ j,j ≠ 1→(w6.setCell ⟨wb,1,none⟩ (.slice a6 (S.length+1:Nat) c6)).cell? ⟨wb,j,none⟩=w6.cell? ⟨wb,j,none⟩:=fun j hj => by rw [World.cell?_setCell_other _ _ _ _ (by simp [hj])]
 refine ⟨⟨?_,?_,?_,?_,?_,?_,fun j => ?_,h.tb,r1.wrote gs hS1 (fun k hk hm => by simp at hm;subst hm;exact hw6 hk),r2,hw6,h.d2,fun k hk hm => (hfk k hk).elim (fun h9 => h.d3 k h9 hm) (fun h9 => by have:=(h.r2.rm.lt k hm).2;omega),Nat.le_trans h.hB (Nat.le_trans hg.size gs.size)⟩,hg.trans gs (fun k hk _ => List.mem_cons_of_mem _ hk) (fun k hk _ => by simp at hk;simp [hk]),hfk⟩
 ·rw [oth 0 (by decide)];exact hg.cellv h.p0 h.d1
 ·rw [World.cell?_setCell_same _ _ _ k2];simp
 ·rw [oth 2 (by decide)];exact hg.cellv h.p2 h.d1
 ·rw [oth 3 (by decide)];exact hg.cellv h.p3 h.d1
 ·rw [oth 4 (by decide)];exact hg.cellv h.p4 h.d1
 ·rw [oth 5 (by decide)];exact hg.cellv h.p5 h.d1
 ·rw [World.frozen?_setCell];exact (hg.frozen (p:=⟨wb,j,none⟩) hlt h.d1).trans (h.f j)
end
section
variable {w0 w:World} {tag:Nat→Nat} {sb rb n:Nat} {N C:List UInt8} {X:Nat→Option Nd} {u:Nat} {wb:Nat} {a1:Option Addr} {c1:Nat} {a2:Option Addr} {c2:Nat} {S V:List CS} {rt od:Nat} {th:Bool}
theorem keep_any (h:HasX w0 w tag sb rb n N C X u) (hw:WayAt w w0.heap.size tag wb sb a1 c1 a2 c2 S V rt od th) (x:CS) (hx:NdAt w tag x.was∧NdAt w tag x.node) (hV:V.length≤1000) :
  Calls Tryz.prog 155 #[.pointer (some ⟨wb,0,none⟩),x.val] w fun e w' => e=.returned (.tuple #[])∧∃ a2' c2',WayAt w' w0.heap.size tag wb sb a1 c1 a2' c2' S (keepA V x) rt od th∧Chg (wb :: fp a2 c2) w w'∧∀ k,k∈fp a2' c2'→k∈fp a2 c2 ∨ w.heap.size≤k:=by
 unfold CS.val stepV
 have g0:=Chg.alloc [] w (.cells x.cells.toArray 139)
 have h0:=h.keep g0
 have w0':=hw.keep g0
 have hwl:=hw.lt
 have x1:=hx.1.keep g0
 have x2:=hx.2.keep g0
 have s0:=new_step w x 139
 have hz0:(w.alloc (.cells x.cells.toArray 139)).heap.size=w.heap.size+1:=by simp
 have cS:=nsame h0 x.node x.was x2 x1
 unfold CN.val at cS
 obtain ⟨sm,hsm⟩:∃ b,x.same=b:=⟨_,rfl⟩
 rw [show sameB x.node.lf x.was.lf x.node.K x.node.V x.was.K x.was.V=sm from hsm] at cS
 have hKA:keepA V x=if sm=true then V else V++[x]:=by unfold keepA;rw [hsm]
 have HKA:=mkHid hKA
 clear hKA hsm
 obtain ⟨⟨e0,e1,e2,e3,e4,e5,e6,e7⟩,z0,z1,z2,z3,z4,z5,z6,z7⟩:=s0.all
 simp only [Nat.zero_add] at e1 e2 e3 e4 e5 e6 e7
 unfold CS.cells at g0 h0 w0' x1 x2 s0 hz0 cS e0 e1 e2 e3 e4 e5 e6 e7
 clear z0 z1 z2 z3 z4 z5 z6 z7
 go_enter Tryz.func155,Tryz.ntmps155
 go_wp2_with fail
 generalize (w.alloc (.cells [.int .u64 (x.t:Int),.bool x.was.lf,.slice x.was.ka x.was.K.length x.was.kc,.slice x.was.va x.was.V.length x.was.vc,.bool x.node.lf,.slice x.node.ka x.node.K.length x.node.kc,.slice x.node.va x.node.V.length x.node.vc,.int .i64 (x.pl:Int)].toArray 139))=w1 at *
 refine cS.mono ?_
 rintro e w2 ⟨rfl,g2⟩
 have G2:=g0.then g2
 cases sm with
 | true =>
  go_wp2_with fail
  go_end0
  have hk:keepA V x=V:=by rw [HKA.out];rfl
  rw [hk]
  exact ⟨rfl,a2,c2,hw.keep G2,G2.mono (by simp),fun k hk => Or.inl hk⟩
 | false =>
  have w2':=w0'.keep g2
  have s2:=s0.chg g2 (by simp)
  obtain ⟨⟨e0,e1,e2,e3,e4,e5,e6,e7⟩,-⟩:=s2.all
  simp only [Nat.zero_add] at e1 e2 e3 e4 e5 e6 e7
  have p2:=w2'.p2
  have f2:=w2'.f 2
  have hrm:=w2'.r2.rm
  have hb1:w.heap.size ∉ fp a2 c2:=fun hm => by have:=(hw.r2.rm.lt _ hm).2;omega
  have hd2:=w2'.d2
  have hBw:w0.heap.size≤w2.heap.size:=w2'.hB
  have HB:=mkHid (And.intro hb1 (And.intro hd2 hBw))
  clear hb1 hd2 hBw
  have hz2:w.heap.size+1≤w2.heap.size:=by have:=g2.size;omega
  have HZ:=mkHid hz2
  clear hz2 hz0
  have p2d:w2.drew.cell? ⟨wb,2,none⟩=some (.slice a2 V.length c2):=(Chg.drew [] w2).cellv p2 (by simp)
  have hwl2:wb < w2.drew.heap.size:=block_lt_of_cell p2d
  have HP:=mkHid (And.intro p2d hwl2)
  clear p2d hwl2
  have hwl3:wb < w2.heap.size:=block_lt_of_cell p2
  have hwl4:wb ≠ w2.heap.size:=by omega
  go_wp2_with fail
  go_region_law (first | (refine step_append_zz rfl (.tmp 14) (.tmp 16) 122 rfl 139 8 128 (by decide) eltS w0.heap.size a2 V.length c2 (cellsL V) rfl (hrm.chg (Chg.drew [] w2) (by simp)) (show w0.heap.size≤w2.drew.heap.size from HB.out.2.2) x.cells.toArray 1 rfl rfl (cells_one x) (by unfold maxLen;omega) (by omega) ?_;intro a6 c6 w6 hr6 hg6 hf6;have k1:=hg6.cellv HP.out.1 HB.out.2.1;have k2:w6.frozen? ⟨wb,2,none⟩=false:=(hg6.frozen (p:=⟨wb,2,none⟩) HP.out.2 HB.out.2.1).trans f2;have Hr6:=mkHid hr6;have Hg6:=mkHid hg6;have Hf6:=mkHid hf6;clear hr6 hg6 hf6))
  all_goals
   go_wp2_with fail
   go_end0
   have hk:keepA V x=V++[x]:=by rw [HKA.out];rfl
   rw [hk]
   obtain ⟨q1,q2,q3⟩:=(w2'.keep (Chg.drew [] w2)).save (fun k hk => h.hi k (by have:=HZ.out;have:w2.heap.size≤k:=hk;omega)) ⟨(x1.keep g2).keep (Chg.drew [] w2),(x2.keep g2).keep (Chg.drew [] w2)⟩ Hr6.out Hg6.out Hf6.out
   exact ⟨rfl,a6,c6,q1,(G2.then (Chg.drew [] w2)).trans q2 (by simp) (fun k hk _ => hk),fun k hk => (q3 k hk).imp id (fun h9 => by have:=HZ.out;have:w2.heap.size≤k:=h9;omega)⟩
end
end
section
set_option maxRecDepth 200000
open Go.RowKit
attribute [local go_sem ↓] Go.wp_at_zero Go.wp_at_succ
section
variable {w w':World} {B:Nat} {tag:Nat→Nat} {wb sb:Nat} {a1:Option Addr} {c1:Nat} {a2:Option Addr} {c2:Nat} {S V:List CS} {rt od:Nat} {th:Bool}
theorem WayAt.told (h:WayAt w B tag wb sb a1 c1 a2 c2 S V rt od th) (od':Nat) (th':Bool):WayAt ((w.setCell ⟨wb,4,none⟩ (.int .u64 (od':Int))).setCell ⟨wb,5,none⟩ (.bool th')) B tag wb sb a1 c1 a2 c2 S V rt od' th':=by
 have g:=(Chg.setCell w ⟨wb,4,none⟩ (.int .u64 (od':Int))).trans (Chg.setCell _ ⟨wb,5,none⟩ (.bool th')) (U:=[wb]) (fun _ h _ => h) (fun _ h _ => h)
 have hS:∀ k,k∈[wb]→tag k=4:=fun k hk => by simp at hk;subst hk;exact h.tb
 have o1:∀ j,j ≠ 4→j ≠ 5→((w.setCell ⟨wb,4,none⟩ (.int .u64 (od':Int))).setCell ⟨wb,5,none⟩ (.bool th')).cell? ⟨wb,j,none⟩=w.cell? ⟨wb,j,none⟩:=fun j h4 h5 => by rw [World.cell?_setCell_other _ _ _ _ (by simp [h5]),World.cell?_setCell_other _ _ _ _ (by simp [h4])]
 have k5:(w.setCell ⟨wb,4,none⟩ (.int .u64 (od':Int))).cell? ⟨wb,5,none⟩=some (.bool th):=by rw [World.cell?_setCell_other _ _ _ _ (by simp)];exact h.p5
 refine ⟨?_,?_,?_,?_,?_,?_,fun j => ?_,h.tb,h.r1.wrote g hS (fun k hk hm => by simp at hm;subst hm;exact h.d1 hk),h.r2.wrote g hS (fun k hk hm => by simp at hm;subst hm;exact h.d2 hk),h.d1,h.d2,h.d3,Nat.le_trans h.hB g.size⟩
 ·rw [o1 0 (by decide) (by decide)];exact h.p0
 ·rw [o1 1 (by decide) (by decide)];exact h.p1
 ·rw [o1 2 (by decide) (by decide)];exact h.p2
 ·rw [o1 3 (by decide) (by decide)];exact h.p3
 ·rw [World.cell?_setCell_other _ _ _ _ (by simp),World.cell?_setCell_same _ _ _ h.p4]
 ·rw [World.cell?_setCell_same _ _ _ k5]
 ·rw [World.frozen?_setCell,World.frozen?_setCell];exact h.f j
theorem WayAt.root (h:WayAt w B tag wb sb a1 c1 a2 c2 S V rt od th) (rt':Nat):WayAt (w.setCell ⟨wb,3,none⟩ (.int .u64 (rt':Int))) B tag wb sb a1 c1 a2 c2 S V rt' od th:=by
 have g:=Chg.setCell w ⟨wb,3,none⟩ (.int .u64 (rt':Int))
 have hS:∀ k,k∈[wb]→tag k=4:=fun k hk => by simp at hk;subst hk;exact h.tb
 have o1:∀ j,j ≠ 3→(w.setCell ⟨wb,3,none⟩ (.int .u64 (rt':Int))).cell? ⟨wb,j,none⟩=w.cell? ⟨wb,j,none⟩:=fun j h4 => by rw [World.cell?_setCell_other _ _ _ _ (by simp [h4])]
 refine ⟨?_,?_,?_,?_,?_,?_,fun j => ?_,h.tb,h.r1.wrote g hS (fun k hk hm => by simp at hm;subst hm;exact h.d1 hk),h.r2.wrote g hS (fun k hk hm => by simp at hm;subst hm;exact h.d2 hk),h.d1,h.d2,h.d3,Nat.le_trans h.hB g.size⟩
 ·rw [o1 0 (by decide)];exact h.p0
 ·rw [o1 1 (by decide)];exact h.p1
 ·rw [o1 2 (by decide)];exact h.p2
 ·rw [World.cell?_setCell_same _ _ _ h.p3]
 ·rw [o1 4 (by decide)];exact h.p4
 ·rw [o1 5 (by decide)];exact h.p5
 ·rw [World.frozen?_setCell];exact h.f j
theorem WayAt.wr {b o:Nat} (h:WayAt w B tag wb sb (some ⟨b,o,none⟩) c1 a2 c2 S V rt od th) {i:Nat} {s:CS} (hs:S[i]?=some s) {q:CN} (hq:NdAt w tag q):WayAt (wr3 w b (o+i * 8) q) B tag wb sb (some ⟨b,o,none⟩) c1 a2 c2 (S.set i { s with node:=q }) V rt od th∧Chg (fp (some ⟨b,o,none⟩) c1) w (wr3 w b (o+i * 8) q):=by
 have hi:=(List.getElem?_eq_some_iff.1 hs).1
 have hle:=h.r1.le
 have hfp:fp (some ⟨b,o,none⟩) c1=[b]:=fp_some _ _ _ (by omega)
 have hb:b∈fp (some ⟨b,o,none⟩) c1:=by rw [hfp];simp
 have tb:=h.r1.tg b hb
 have g:=wr3_chg w b (o+i * 8) q
 have hS:∀ k,k∈[b]→tag k=4:=fun k hk => by simp at hk;subst hk;exact tb
 have hwb:wb ∉ [b]:=fun hm => by simp at hm;subst hm;exact h.d1 hb
 refine ⟨⟨g.cellv h.p0 hwb,by rw [List.length_set];exact g.cellv h.p1 hwb,g.cellv h.p2 hwb,g.cellv h.p3 hwb,g.cellv h.p4 hwb,g.cellv h.p5 hwb,fun j => (g.frozen (p:=⟨wb,j,none⟩) h.lt hwb).trans (h.f j),h.tb,h.r1.wr hs tb hq,h.r2.wrote g hS (fun k hk hm => by simp at hm;subst hm;exact h.d3 _ hb hk),h.d1,h.d2,h.d3,Nat.le_trans h.hB g.size⟩,?_⟩
 rw [hfp]
 exact g
end
theorem is_lt {m:Nd} {x:Nat} (h:m.is x=true):m.find x < m.K.length∧m.find x < m.V.length∧m.K[m.find x]?=some x:=by
 unfold Nd.is isN at h
 have h:=of_decide_eq_true h
 rw [show findN x m.K m.V=m.find x from rfl,List.getElem?_take] at h
 split at h
 ·rename_i h1
  unfold np at h1
  exact ⟨by omega,by omega,h⟩
 ·cases h
theorem find_le {m:Nd} (x:Nat):m.find x≤m.K.length:=by
 unfold Nd.find findN runN
 have h1:=(List.takeWhile_sublist (l:=m.K.take (np m.K m.V)) (fun k => decide (k < x))).length_le
 have h2:=List.length_take_le (np m.K m.V) m.K
 have h3:(m.K.take (np m.K m.V)).length≤m.K.length:=by rw [List.length_take];omega
 omega
section
variable {w0 w:World} {tag:Nat→Nat} {sb rb n:Nat} {N C:List UInt8} {X:Nat→Option Nd} {u:Nat} {wb:Nat} {a1:Option Addr} {c1:Nat} {a2:Option Addr} {c2:Nat} {S V:List CS} {rt od:Nat} {th:Bool}
def TakePost (w0 w:World) (tag:Nat→Nat) (sb rb n:Nat) (N C:List UInt8) (X:Nat→Option Nd) (u wb:Nat) (a1:Option Addr) (c1:Nat) (a2:Option Addr) (c2:Nat) (S V:List CS) (rt od:Nat) (th:Bool) (k:Nat) (s:CS) (fi:Nat) (is:Bool) (e:Ending) (w':World):Prop:=
 e=.returned (.int .i64 (fi:Int))∧∃ (tag':Nat→Nat) (q:CN),HasX w0 w' tag' sb rb n N C X u∧Mvb (wb :: fp a1 c1) tag tag' w w' ∧
  WayAt w' w0.heap.size tag' wb sb a1 c1 a2 c2 (S.set k { s with node:=q }) V rt (if is then s.node.nd.V.getD fi 0 else od) (is || th)∧q.nd=if is then s.node.nd.rem fi else s.node.nd
theorem take_anyT (h:HasX w0 w tag sb rb n N C X u) (hw:WayAt w w0.heap.size tag wb sb a1 c1 a2 c2 S V rt od th) (k:Nat) (hk:S.length=k+1) (hm:k≤1000) (s:CS) (hs:S[k]?=some s) (hsq:s.node.nd.sq) (key:Nat) :
  Calls Tryz.prog 109 #[.pointer (some ⟨wb,0,none⟩),.int .u64 (key:Int)] w (TakePost w0 w tag sb rb n N C X u wb a1 c1 a2 c2 S V rt od th k s (s.node.nd.find key) (s.node.nd.is key)):=by
 have cL:=leaf_any hw k hk hm
 obtain ⟨b,o,rfl,hst,hbf⟩:=hw.r1.step hs
 have nds:=(hw.r1.nd s (List.mem_of_getElem? hs)).2
 have tb:=hw.r1.tg b hbf
 obtain ⟨fi,hfi⟩:∃ fi,s.node.nd.find key=fi:=⟨_,rfl⟩
 obtain ⟨is,his⟩:∃ is,s.node.nd.is key=is:=⟨_,rfl⟩
 have HIS:Hid (is=true→fi < s.node.K.length∧fi < s.node.V.length):=mkHid fun e => by
  have:=is_lt (his.trans e)
  rw [hfi] at this
  exact ⟨this.1,this.2.1⟩
 rw [hfi,his]
 have HH:Hid (∀ w',Chg [] w w'→Mv tag tag w w'):=mkHid fun w' g => Mv.made g h.hi
 have HF:=mkHid (And.intro hfi his)
 go_enter Tryz.func109,Tryz.ntmps109
 go_wp2_with fail
 refine cL.mono ?_
 rintro e w2 ⟨b',o',e',rfl,g2⟩
 cases e'
 have h2:=h.keep g2
 have w2':=hw.keep g2
 have s2:=hst.chg g2 (by simp)
 have n2:=nds.keep g2
 have cF:=kfindN h2 s.node n2 key
 rw [hfi,his] at cF
 unfold CN.val at cF
 obtain ⟨⟨e0,e1,e2,e3,e4,e5,e6,e7⟩,-⟩:=s2.all
 clear hfi his h hw hst nds
 go_wp2_with fail
 refine cF.mono ?_
 rintro e w3 ⟨rfl,g3⟩
 have h3:=h2.keep g3
 have w3':=w2'.keep g3
 have s3:=s2.chg g3 (by simp)
 have n3:=n2.keep g3
 have G3:=g2.then g3
 have M3:=HH.out w3 G3
 have hwl:=w3'.lt
 obtain ⟨lt0,was,⟨lf,ka,kc,va,vc,K,V'⟩,pl⟩:=s
 dsimp only at *
 cases is with
 | false =>
  go_wp2_with fail
  go_ret
  have hS:S.set k ⟨lt0,was,⟨lf,ka,kc,va,vc,K,V'⟩,pl⟩=S:=by
   apply List.ext_getElem?
   intro j
   by_cases e:j=k
   ·subst e;rw [hs];exact List.getElem?_set_self (by omega)
   ·rw [List.getElem?_set_ne (fun q => e q.symm)]
  refine ⟨rfl,tag,⟨lf,ka,kc,va,vc,K,V'⟩,h3,M3.b _,?_,rfl⟩
  rw [show ({ t:=lt0,was:=was,node:=⟨lf,ka,kc,va,vc,K,V'⟩,pl:=pl }:CS)=⟨lt0,was,⟨lf,ka,kc,va,vc,K,V'⟩,pl⟩ from rfl,hS]
  simpa using w3'
 | true =>
  obtain ⟨hi1,hi2⟩:=HIS.out rfl
  obtain ⟨⟨e0,e1,e2,e3,e4,e5,e6,e7⟩,-⟩:=s3.all
  have hget:V'[fi]?=some V'[fi]:=List.getElem?_eq_getElem hi2
  obtain ⟨od',hod⟩:∃ y,y=V'[fi]:=⟨_,rfl⟩
  rw [← hod] at hget
  obtain ⟨vb,vo,rfl,hcell⟩:=n3.rd.rv (by simp only [uvs_len];omega)
  have hx1:=hcell fi _ (uvs_get hget)
  have hcv:V'.length≤vc:=n3.rd.cv
  have hp4:=w3'.p4
  have hp5:=w3'.p5
  have hf4:=w3'.f 4
  have hf5:=w3'.f 5
  have hne:wb ≠ b:=fun e => by subst e;exact w3'.d1 hbf
  have w4':=w3'.told od' true
  have g4:=(Chg.setCell w3 ⟨wb,4,none⟩ (.int .u64 (od':Int))).trans (Chg.setCell _ ⟨wb,5,none⟩ (.bool true)) (U:=[wb]) (fun _ h _ => h) (fun _ h _ => h)
  have hS4:∀ j,j∈[wb]→tag j=4:=fun j hj => by simp at hj;subst hj;exact w3'.tb
  have h4:=h3.wrote g4 hS4
  have s4:=s3.chg g4 (by simp;exact fun e => hne e.symm)
  have n4:=n3.wrote g4 hS4
  have M4:=(M3.b (wb :: fp (some ⟨b,o,none⟩) c1)).wrote g4 (fun j hj _ => by simp at hj;simp [hj])
  have HQ:=mkHid (And.intro hget hod)
  have HN:=mkHid hne
  clear hget hod hcell hne
  obtain ⟨⟨u0,u1,u2,u3,u4,u5,u6,u7⟩,z0,z1,z2,z3,z4,z5,z6,z7⟩:=s4.all
  dsimp only at u0 u1 u2 u3 u4 u5 u6 u7
  have cR:=kremN h4 ⟨lf,ka,kc,some ⟨vb,vo,none⟩,vc,K,V'⟩ n4 hsq fi hi1
  unfold CN.val at cR
  dsimp only at cR
  go_wp2_with fail
  refine cR.mono ?_
  rintro e w5 ⟨q,rfl,hqm,tag5,h5,m5,q5⟩
  have s5:=s4.mv m5 tb
  have w5':=w4'.mv m5
  have M5:=M4.trans (m5.b []) (fun _ h _ => h) (by simp)
  obtain ⟨⟨u0,u1,u2,u3,u4,u5,u6,u7⟩,z0,z1,z2,z3,z4,z5,z6,z7⟩:=s5.all
  unfold CN.val
  go_wp2_with fail
  go_ret
  obtain ⟨r1,r2⟩:=w5'.wr hs q5
  have hg:=HQ.out
  refine ⟨rfl,tag5,q,?_,M5.wrote r2 (fun j hj _ => List.mem_cons_of_mem _ hj),?_,hqm⟩
  ·exact h5.wrote r2 (fun j hj => w5'.r1.tg j hj)
  ·rw [if_pos rfl,show (CN.nd ⟨lf,ka,kc,some ⟨vb,vo,none⟩,vc,K,V'⟩).V=V' from rfl,List.getD_eq_getElem?_getD,hg.1]
   exact r1
end
end
end Go.Proofs.YtdgkbicelnnfpaaGreatDoor
