/- Several texts in one, in their order. -/
import Derived.Test.YtfehemepdoomdaaPViewx3
import Derived.Test.YtfehemepdoomdaaPViewx1
import Derived.Deep.AppendLies
import Derived.Laws.AppendOwnNone
import Derived.Deep.RegionHeld3
import Derived.Test.YtfehemepdoomdaaPViewx2
import Derived.Laws.CopyOwn
import Derived.Deep.RegionHeld
import Derived.MapKept
import Derived.Maps.Own
import Derived.Deep.Cut
import Derived.Deep.CutRange
set_option maxHeartbeats 8000000
set_option maxRecDepth 100000
namespace Go.Proofs.Ytfehemepdoomdaa
open Go.RowKit
theorem run_append_ints {w:World} (ty:TypeId) (lo hi:Nat) (a:Option Addr) (c:Nat) (xs:List Int) (hown:OwnI w lo hi a c xs)
  (sa:Option Addr) (sc:Nat) (zs:List Int) (hr:ReadsI w sa zs) (hc:sa=none→sc=0) (hb:xs.length+zs.length≤1099511627776) (hlo:lo≤w.heap.size):
  ∃ a' c' ys w',(Builtin.append_ #[22,22] ty #[.slice a xs.length c,.slice sa zs.length sc]).run Try.prog w=.ok (.slice a' ys.length c') w'∧Hid (ys=xs++zs)∧OwnI w' lo w'.heap.size a' c' ys∧w.grownBy w' (Value.slice a xs.length c).ownBlock∧
   (∀ k,(Value.slice a' ys.length c').ownBlock=some k→(Value.slice a xs.length c).ownBlock=some k∨k=w.heap.size):=by
 obtain ⟨i0,hi0,hz0,hz1,hz2⟩:=info_parts Try.infoInt
 cases sa with
 | none=>
  have hz:zs=[]:=by
   by_cases e:zs=[]
   ·exact e
   ·obtain ⟨b,off,hh,_⟩:=hr e
    cases hh
  subst hz
  have:=hc rfl
  subst this
  refine ⟨a,c,xs,w,run_append_owned_none (P:=Try.prog) (w:=w) lo 22 ty 3 i0 1 Try.underlying22 hi0 _ _ _ hown.1,(by simp [Hid]),⟨hown.1,Nat.le_refl _,fun k hk=>(hown.1.lt k hk).2⟩,World.grownBy.refl _ _,fun k hk=>.inl hk⟩
 | some ad=>
  obtain ⟨v',w',h1,h2,h3,_,h5⟩:=run_append_own_at (P:=Try.prog) w lo 22 ty 3 i0 (.int .i64 0) 1 8 Try.underlying22 hi0 hz0 hz1 hz2 rfl (by decide) _ _ _ hown.1 ad zs.length sc (zs.map (Value.int .i64)) (by simp) (by
   intro j u hj
   have hjl:j<zs.length:=by
    by_cases e:j<zs.length
    ·exact e
    ·simp [List.getElem?_eq_none (Nat.le_of_not_lt e)] at hj
   have hne:zs≠[]:=by intro e;simp [e] at hjl
   obtain ⟨b,off,hh,hcell⟩:=hr hne
   cases hh
   rw [Addr_add,hcell j hjl]
   simpa [hjl] using hj) (ints_oneCell _ _) (by simp only [maxLen];omega) (by omega) hlo
  rw [← List.map_append,← List.length_append] at h2
  have sh:∃ a' c',v'=.slice a' (xs++zs).length c':=by
   rcases h2.2 with ⟨rfl,h0⟩ | ⟨g,cap,cur,rfl,_⟩
   ·exact ⟨none,0,by rw [h0]⟩
   ·exact ⟨_,_,rfl⟩
  obtain ⟨a',c',rfl⟩:=sh
  refine ⟨a',c',xs++zs,w',h1,rfl,⟨h2,Nat.le_refl _,fun k hk=>(h2.lt k hk).2⟩,h3,fun k hk=>?_⟩
  rcases h5 with h5 | h5
  ·exact .inl (by rw [← h5];exact hk)
  ·rw [h5] at hk
   exact .inr (Option.some.inj hk).symm
theorem step_append_ints {w:World} {ops:Array Oper} {o:Oper} {act:Act} {K:Act→World→Prop} {Q:Exit→Act→World→Prop} {E:Prop} (hgd:o.guard=none) (s x:Operand)
  (ho:o.op=.call { callee:=.builtin .append,args:=#[s,x],argTypes:=#[22,22] })
  (lo hi:Nat) (a:Option Addr) (c:Nat) (xs:List Int) (hs:act.eval s=.slice a xs.length c) (hown:OwnI w lo hi a c xs)
  (sa:Option Addr) (sc:Nat) (zs:List Int) (hx:act.eval x=.slice sa zs.length sc) (hr:ReadsI w sa zs) (hc:sa=none→sc=0)
  (hb:xs.length+zs.length≤1099511627776) (hlo:lo≤w.heap.size)
  (h:∀ a' c' ys w',Hid (ys=xs++zs)→OwnI w' lo w'.heap.size a' c' ys→w.grownBy w' (Value.slice a xs.length c).ownBlock→
   (∀ k,(Value.slice a' ys.length c').ownBlock=some k→(Value.slice a xs.length c).ownBlock=some k∨k=w.heap.size)→K (act.put o.dst (.slice a' ys.length c')) w'):
  if Region.wanted o (yielded ops act.tmps)=true then Oper.wp Try.prog o act w K Q else E:=by
 have hw:Region.wanted o (yielded ops act.tmps)=true:=by simp [Region.wanted,hgd]
 rw [if_pos hw]
 obtain ⟨a',c',ys,w',hrun,h1,h2,h3,h4⟩:=run_append_ints (w:=w) o.type lo hi a c xs hown sa sc zs hr hc hb hlo
 unfold Oper.wp execOp
 simp only [ho,resolve,invoke,builtin,Sem.run_bind,Sem.run_pure,Result.andThen_ok,List.map_toArray,List.map_cons,List.map_nil,hs,hx,hrun]
 exact h a' c' ys w' h1 h2 h3 h4
structure ObjAt (w:World) (lo Bo:Nat) (o:ObjV) (aI:Option Addr) (cI:Nat) (aR:Option Addr) (cR:Nat):Prop where
 box:Box w Bo [.int .i64 o.kind,.slice aI o.ints.length cI,.slice aR o.refs.length cR] 44
 own:OwnO w lo w.heap.size aI cI aR cR o
 lt:Bo<lo
theorem ObjAt.three {w:World} {lo Bo:Nat} {aI:Option Addr} {cI:Nat} {aR:Option Addr} {cR:Nat} {o:ObjV} (h:ObjAt w lo Bo o aI cI aR cR):
  w.cell? ⟨Bo,0,none⟩=some (.int .i64 o.kind)∧w.cell? ⟨Bo,1,none⟩=some (.slice aI o.ints.length cI)∧w.cell? ⟨Bo,2,none⟩=some (.slice aR o.refs.length cR)∧w.frozen? ⟨Bo,0,none⟩=false∧w.frozen? ⟨Bo,1,none⟩=false∧w.frozen? ⟨Bo,2,none⟩=false:=h.box.three
theorem Box.grown {w w':World} {C B:Nat} {vs:List Value} {t:TypeId} (h:Box w C vs t) (hg:w.grownBy w' (some B)) (hne:C≠B):Box w' C vs t:=h.block (hg.block C h.lt (fun e=>hne (Option.some.inj e)))
theorem blA {W w':World} (h:Below W.heap.size W w') (o:Obj):Below W.heap.size W (w'.alloc o):=h.alloc h.size o
theorem blG {W w' w2:World} {g:Nat} (h:Below W.heap.size W w') (hg:w'.grownBy w2 (some g)) (hn:W.heap.size≤g):Below W.heap.size W w2:=h.grown hg h.size (fun k e=>by cases e;exact hn)
theorem ownI_box0 {w:World} {g lo:Nat} (h:Box w g [] 3) (hlo:lo≤g):OwnI w lo w.heap.size (some ⟨g,0,none⟩) 0 []:=
 ⟨⟨by simp,.inr ⟨g,0,#[],rfl,hlo,h,Nat.le_refl _,by simp [maxLen],rfl,rfl⟩⟩,Nat.le_refl _,fun k hk=>by cases hk;exact h.lt⟩
theorem l2Copy_any (o:ObjV) (aI:Option Addr) (cI:Nat) (aR:Option Addr) (cR:Nat) (w:World) (hr:ReadsO w aI cI aR cR o) (hlI:o.ints.length≤1099511627776) (hlR:o.refs.length≤1099511627776):
  Calls Try.prog 44 #[.agg #[.int .i64 o.kind,.slice aI o.ints.length cI,.slice aR o.refs.length cR]] w fun e w'=>∃ aI' cI' aR' cR',e=.returned (.agg #[.int .i64 o.kind,.slice aI' o.ints.length cI',.slice aR' o.refs.length cR'])∧
   OwnO w' w.heap.size w'.heap.size aI' cI' aR' cR' o∧Below w.heap.size w w':=by
 obtain ⟨k,ints,refs⟩:=o
 obtain ⟨hI,hR,hni,hnr⟩:=hr
 simp only at*
 obtain ⟨W,hW,b0,b1,hbW,hsW⟩:=boxes2 w [.int .i64 k,.slice aI ints.length cI,.slice aR refs.length cR] [.int .i64 0,.slice none 0 0,.slice none 0 0] 44 44
 have hI':=hI.below hbW
 have hR':=hR.below hbW
 have hwW:w.heap.size+1<W.heap.size:=by omega
 clear hsW hI hR
 go_enter Try.func44,Try.ntmps44
 go_wp2_with fail
 rw [hW.out]
 clear hW
 have hkeep:∀ w'',Below W.heap.size W w''→Box w'' w.heap.size [.int .i64 k,.slice aI ints.length cI,.slice aR refs.length cR] 44∧Box w'' (w.heap.size+1) [.int .i64 0,.slice none 0 0,.slice none 0 0] 44:=
  fun w'' hh=>⟨b0.below hh b0.lt,b1.below hh b1.lt⟩
 have hcells:∀ w'',Below W.heap.size W w''→(w''.cell? ⟨w.heap.size,0,none⟩=some (.int .i64 k)∧w''.cell? ⟨w.heap.size,1,none⟩=some (.slice aI ints.length cI)∧w''.cell? ⟨w.heap.size,2,none⟩=some (.slice aR refs.length cR))∧(w''.cell? ⟨w.heap.size+1,0,none⟩=some (.int .i64 0)∧w''.cell? ⟨w.heap.size+1,1,none⟩=some (.slice none 0 0)∧w''.cell? ⟨w.heap.size+1,2,none⟩=some (.slice none 0 0))∧(w''.frozen? ⟨w.heap.size+1,0,none⟩=false∧w''.frozen? ⟨w.heap.size+1,1,none⟩=false∧w''.frozen? ⟨w.heap.size+1,2,none⟩=false):=by
  intro w'' hh
  obtain ⟨ba,bb⟩:=hkeep w'' hh
  exact ⟨⟨ba.cell 0 _ rfl,ba.cell 1 _ rfl,ba.cell 2 _ rfl⟩,⟨bb.cell 0 _ rfl,bb.cell 1 _ rfl,bb.cell 2 _ rfl⟩,bb.frozen 0,bb.frozen 1,bb.frozen 2⟩
 have hh:=hcells W (Below.refl _ _)
 have q1:Box (W.drew.alloc (.cells #[] 3)) W.heap.size [] 3:=box_new W.drew [] _
 have q2a:Box ((W.drew.alloc (.cells #[] 3)).alloc (.cells #[] 3)) W.heap.size [] 3:=(box_new W.drew [] _).alloc _
 have q2b:Box ((W.drew.alloc (.cells #[] 3)).alloc (.cells #[] 3)) (W.heap.size+1) [] 3:=by
  have:=box_new (W.drew.alloc (.cells #[] 3)) [] 3
  simpa using this
 have Q1:Hid (_∧_∧_):=⟨q1,q2a,q2b⟩
 clear q1 q2a q2b
 have HK:Hid _:=hkeep
 have HC:Hid _:=hcells
 have hne:¬ (w.heap.size=w.heap.size+1):=by omega
 have HNI:Hid _:=hni
 have HNR:Hid _:=hnr
 clear hkeep hcells b0 b1 hni hnr
 go_region_held3 (fun w''=>w''.cell? ⟨w.heap.size,0,none⟩=some (.int .i64 k)∧w''.cell? ⟨w.heap.size,1,none⟩=some (.slice aI ints.length cI)∧w''.cell? ⟨w.heap.size,2,none⟩=some (.slice aR refs.length cR))
  (first | exact (HC.out _ (by first | exact hb2 | exact hb1 | exact blA hb2 _ | exact blA hb1 _ | exact (Below.refl _ _).drew | exact blA (Below.refl _ _).drew _ | exact blA (blA (Below.refl _ _).drew _) _ | fail)).1 | exact ⟨((((HK.out _ (by first | exact hb2 | exact hb1 | fail)).1.other hne).other hne).other hne).cell 0 _ rfl,((((HK.out _ (by first | exact hb2 | exact hb1 | fail)).1.other hne).other hne).other hne).cell 1 _ rfl,((((HK.out _ (by first | exact hb2 | exact hb1 | fail)).1.other hne).other hne).other hne).cell 2 _ rfl⟩ | go_keep | fail)
  ((first
   | (refine step_append_ints rfl (.tmp 5) (.tmp 7) (by rfl) (w.heap.size+1+1) _ _ _ [] (by rfl) (ownI_box0 (by first | exact Q1.out.1 | exact Q1.out.2.1 | exact Q1.out.2.2 | assumption | exact (Q1.out.2.2).grown hg1 (by dsimp only;omega) | exact (Q1.out.2.1).grown hg1 (by dsimp only;omega) | exact box_new _ [] _ | fail) (by first | omega | (have:=hb1.size;omega))) aI cI ints (by rfl) (hI'.below (by first | exact hb2 | exact hb1 | exact blA hb2 _ | exact blA hb1 _ | exact (Below.refl _ _).drew | exact blA (Below.refl _ _).drew _ | exact blA (blA (Below.refl _ _).drew _) _ | fail)) HNI.out (by simp only [List.length_nil];omega) (Nat.le_trans (by omega) (Below.size (B:=W.heap.size) (w:=W) (by first | exact hb2 | exact hb1 | exact blA hb2 _ | exact blA hb1 _ | exact (Below.refl _ _).drew | exact blA (Below.refl _ _).drew _ | exact blA (blA (Below.refl _ _).drew _) _ | fail))) ?_;intro a1 c1 y1 u1 hy1 hO1 hg1 hat1;have HA1:Hid _:=hat1;clear hat1;have hyy:ints=y1:=(by simpa using hy1.out.symm);subst hyy;have hb1:=blG (W:=W) (by first | exact hb2 | exact hb1 | exact blA hb2 _ | exact blA hb1 _ | exact (Below.refl _ _).drew | exact blA (Below.refl _ _).drew _ | exact blA (blA (Below.refl _ _).drew _) _ | fail) hg1 (by dsimp only;omega))
   | (refine step_append_ints rfl (.tmp 9) (.tmp 11) (by rfl) (w.heap.size+1+1) _ _ _ [] (by rfl) (ownI_box0 (by first | exact Q1.out.1 | exact Q1.out.2.1 | exact Q1.out.2.2 | assumption | exact (Q1.out.2.2).grown hg1 (by dsimp only;omega) | exact (Q1.out.2.1).grown hg1 (by dsimp only;omega) | exact box_new _ [] _ | fail) (by first | omega | (have:=hb1.size;omega))) aR cR refs (by rfl) (hR'.below (by first | exact hb2 | exact hb1 | exact blA hb2 _ | exact blA hb1 _ | exact (Below.refl _ _).drew | exact blA (Below.refl _ _).drew _ | exact blA (blA (Below.refl _ _).drew _) _ | fail)) HNR.out (by simp only [List.length_nil];omega) (Nat.le_trans (by omega) (Below.size (B:=W.heap.size) (w:=W) (by first | exact hb2 | exact hb1 | exact blA hb2 _ | exact blA hb1 _ | exact (Below.refl _ _).drew | exact blA (Below.refl _ _).drew _ | exact blA (blA (Below.refl _ _).drew _) _ | fail))) ?_;intro a2 c2 y2 u2 hy2 hO2 hg2 hat2;have HA2:Hid _:=hat2;clear hat2;have hyy:refs=y2:=(by simpa using hy2.out.symm);subst hyy;have hb2:=blG (W:=W) (by first | exact hb2 | exact hb1 | exact blA hb2 _ | exact blA hb1 _ | exact (Below.refl _ _).drew | exact blA (Below.refl _ _).drew _ | exact blA (blA (Below.refl _ _).drew _) _ | fail) hg2 (by dsimp only;first | omega | (have:=hb1.size;omega));obtain ⟨⟨m0,m1,m2⟩,⟨n0,n1,n2⟩,e0,e1,e2⟩:=HC.out _ hb2) | fail))
 all_goals
  have hO1':OwnI u2 (w.heap.size+1+1) u2.heap.size a1 c1 ints:=by
   first
   | exact (hO1.kept hg2 (fun k hk e=>by have h1:=HA1.out k hk;have h2:=(hO1.lt k hk).2;simp [Value.ownBlock] at h1 e;omega)).widen (Nat.le_refl _) hg2.size (Nat.le_refl _)
   | exact ((hO1.below ((Below.refl _ _).alloc (Nat.le_refl _) _)).kept hg2 (fun k hk e=>by have h2:=(hO1.lt k hk).2;simp [Value.ownBlock] at e;omega)).widen (Nat.le_refl _) (Nat.le_trans (by simp) hg2.size) (Nat.le_refl _)
   | fail
  have hap:∀ k,(Value.slice a1 ints.length c1).ownBlock=some k→(Value.slice a2 refs.length c2).ownBlock≠some k:=by
   intro k hk hk'
   have h1:=HA1.out k hk
   have h2:=HA2.out k hk'
   have h3:=(hO1.lt k hk).2
   simp [Value.ownBlock] at h1 h2
   omega
  obtain ⟨WF,hWF,bF,hwF,hsF⟩:=box3_fill (HK.out _ hb2).2 (.int .i64 k) (.slice a1 ints.length c1) (.slice a2 refs.length c2)
  clear HA1 HA2 hg1 hg2 Q1 hb1 hO1
  rw [hWF.out]
  go_wp2
  obtain ⟨q0,q1,q2,_,_,_⟩:=bF.three
  have hs2:=hb2.size
  have hOF:OwnO WF (w.heap.size+1+1) u2.heap.size a1 c1 a2 c2 ⟨k,ints,refs⟩:=(⟨hO1',hO2,hap⟩:OwnO u2 (w.heap.size+1+1) u2.heap.size a1 c1 a2 c2 ⟨k,ints,refs⟩).within hwF (.inr (by omega))
  exact bodyPost_ret (v:=.agg #[.int .i64 k,.slice a1 ints.length c1,.slice a2 refs.length c2]) (by simp [results,Try.results44,go_sem,q0,q1,q2]) rfl ⟨a1,c1,a2,c2,rfl,hOF.widen (by omega) (by omega) (Nat.le_refl _),(hbW.trans (hb2.mono (by omega))).trans (hwF.below (by omega) (by omega))⟩
theorem l3CopySlot_own (s:SlotA) (w:World) (hr:s.reads w) (hlI:s.v.o.ints.length≤1099511627776) (hlR:s.v.o.refs.length≤1099511627776):
  Calls Try.prog 18 #[.agg s.cells.toArray] w fun e w'=>∃ t:SlotA,e=.returned (.agg t.cells.toArray)∧Hid (t.v=s.v)∧t.own w' w.heap.size w'.heap.size∧Below w.heap.size w w':=by
 obtain ⟨⟨h,⟨k,ints,refs⟩⟩,aI,cI,aR,cR⟩:=s
 simp only [SlotA.cells,SlotA.reads,SlotA.own] at*
 obtain ⟨W,hW,b0,b1,hbW,hsW⟩:=boxes2 w [.bool h,.int .i64 k,.slice aI ints.length cI,.slice aR refs.length cR] [.bool false,.int .i64 0,.slice none 0 0,.slice none 0 0] 46 46
 have hr':=hr.below hbW
 have hwW:w.heap.size+1<W.heap.size:=by omega
 clear hsW
 have HC:Hid (∀ w'',Below W.heap.size W w''→w''.cell? ⟨w.heap.size,0,none⟩=some (.bool h)∧w''.cell? ⟨w.heap.size,1,none⟩=some (.int .i64 k)∧w''.cell? ⟨w.heap.size,2,none⟩=some (.slice aI ints.length cI)∧w''.cell? ⟨w.heap.size,3,none⟩=some (.slice aR refs.length cR)):=by
  intro w'' hh
  have ba:=b0.below hh b0.lt
  exact ⟨ba.cell 0 _ rfl,ba.cell 1 _ rfl,ba.cell 2 _ rfl,ba.cell 3 _ rfl⟩
 have HB:Hid (∀ w'',Below W.heap.size W w''→Box w'' w.heap.size [.bool h,.int .i64 k,.slice aI ints.length cI,.slice aR refs.length cR] 46∧Box w'' (w.heap.size+1) [.bool false,.int .i64 0,.slice none 0 0,.slice none 0 0] 46):=fun w'' hh=>⟨b0.below hh b0.lt,b1.below hh b1.lt⟩
 have hh:=HC.out W (Below.refl _ _)
 have hne:¬ (w.heap.size=w.heap.size+1):=by omega
 clear b0 b1
 go_enter Try.func18,Try.ntmps18
 go_wp2_with fail
 rw [hW.out]
 clear hW
 go_region_held3 (fun w''=>w''.cell? ⟨w.heap.size,0,none⟩=some (.bool h)∧w''.cell? ⟨w.heap.size,1,none⟩=some (.int .i64 k)∧w''.cell? ⟨w.heap.size,2,none⟩=some (.slice aI ints.length cI)∧w''.cell? ⟨w.heap.size,3,none⟩=some (.slice aR refs.length cR))
  (first | exact HC.out _ hB1 | exact HC.out _ (Below.refl _ _).drew | exact ⟨(((((HB.out _ (by first | exact hB1 | fail)).1.other hne).other hne).other hne).other hne).cell 0 _ rfl,(((((HB.out _ (by first | exact hB1 | fail)).1.other hne).other hne).other hne).other hne).cell 1 _ rfl,(((((HB.out _ (by first | exact hB1 | fail)).1.other hne).other hne).other hne).other hne).cell 2 _ rfl,(((((HB.out _ (by first | exact hB1 | fail)).1.other hne).other hne).other hne).other hne).cell 3 _ rfl⟩ | go_keep | fail)
  (first
  | (go_at_call 44;refine (l2Copy_any ⟨k,ints,refs⟩ aI cI aR cR _ hr'.drew hlI hlR).mono ?_;rintro e u1 ⟨a1,c1,a2,c2,rfl,ho1,hb1⟩;have hB1:Below W.heap.size W u1:=((Below.refl _ _).drew).trans hb1;obtain ⟨m0,m1,m2,m3,e0,e1,e2,e3⟩:=(HB.out _ hB1).2.four)
  | fail)
 obtain ⟨WF,hWF,bF,hwF,hsF⟩:=box4_fill (HB.out _ hB1).2 (.bool h) (.int .i64 k) (.slice a1 ints.length c1) (.slice a2 refs.length c2)
 have hsu1:W.heap.size≤u1.heap.size:=hB1.size
 have hO:OwnO u1 W.heap.size u1.heap.size a1 c1 a2 c2 ⟨k,ints,refs⟩:=ho1
 have hOF:OwnO WF W.heap.size u1.heap.size a1 c1 a2 c2 ⟨k,ints,refs⟩:=hO.within hwF (.inr (by omega))
 have HBF:Hid (Below w.heap.size w WF):=(hbW.trans (hB1.mono (by omega))).trans (hwF.below (by omega) (by omega))
 rw [hWF.out]
 clear hwF ho1 hO
 go_wp2
 obtain ⟨q0,q1,q2,q3,_⟩:=bF.four
 exact bodyPost_ret (v:=.agg #[.bool h,.int .i64 k,.slice a1 ints.length c1,.slice a2 refs.length c2]) (by simp [results,Try.results18,go_sem,q0,q1,q2,q3]) rfl ⟨⟨⟨h,⟨k,ints,refs⟩⟩,a1,c1,a2,c2⟩,rfl,rfl,hOF.widen (by omega) (by omega) (Nat.le_refl _),HBF.out⟩
theorem copyInts_any (a:Option Addr) (cap:Nat) (zs:List Int) (w:World) (hr:ReadsI w a zs) (hl:zs.length≤1099511627776):
  Calls Try.prog 51 #[.slice a zs.length cap] w fun e w'=>∃ a' c',e=.returned (.slice a' zs.length c')∧OwnI w' w.heap.size w'.heap.size a' c' zs∧Below w.heap.size w w':=by
 obtain ⟨i0,hi,hz0,hz1,hz2⟩:=info_parts Try.infoInt
 rcases hr.cases with rfl | ⟨b,off,rfl,hpos,hcell⟩
 ·go_enter Try.func51,Try.ntmps51
  go_wp2
  go_ret
  exact ⟨none,0,rfl,ownI_nil _ _ _ (Nat.le_refl _),Below.refl _ _⟩
 ·have hnz:((zs.length:Int) == 0)=false:=by simp;intro e;simp [e] at hpos
  have hsz:(Try.prog.info? 3).map (·.size)=some 1:=by kernel_rfl
  go_enter Try.func51,Try.ntmps51
  go_wp2_with (at_make;refine wpList_make_full _ rfl _ _ 22 rfl w.heap.size 3 i0 (.int .i64 0) 1 Try.underlying22 hi hz0 hz1 _ _ _ _ zs.length rfl rfl rfl rfl (by rw [hz2];omega) (by simp [maxLen];omega) (Nat.le_refl _) ?_)
  intro w0 hown0 hgrow0
  have hb0:Below w.heap.size w w0:=(Below.refl _ _).grown hgrow0 (Nat.le_refl _) (fun k h=>by cases h)
  obtain ⟨hlen,hcase⟩:=hown0
  rcases hcase with ⟨hv,_⟩ | ⟨g,cap',cur,hv,hg,hgg,hn,hm,hcs,htk⟩
  ·cases hv
  simp only [Value.slice.injEq,Option.some.injEq,Addr.mk.injEq,and_true,true_and] at hv
  obtain ⟨rfl,rfl⟩:=hv
  have hcl:cur.toList.length=zs.length:=by rw [Array.length_toList,hcs];omega
  have HC:Hid (0<(zs.map (Value.int .i64)).length→some (⟨w.heap.size,0,none⟩:Addr)=some ⟨w.heap.size,0,none⟩∧∃ ad:Addr,some (⟨b,off,none⟩:Addr)=some ad∧∀ j v,(zs.map (Value.int .i64))[j]? =some v→w0.cell? (ad.add j)=some v):=by
   intro _
   refine ⟨rfl,_,rfl,fun j v hv=>?_⟩
   rw [List.getElem?_map] at hv
   cases hzj:zs[j]? with
   | none=>rw [hzj] at hv;cases hv
   | some z=>
    rw [hzj] at hv
    simp only [Option.map_some,Option.some.injEq] at hv
    have hj:j<zs.length:=(List.getElem?_eq_some_iff.1 hzj).1
    have hc:=hcell j hj
    have hadd:(⟨b,off,none⟩:Addr).add j=⟨b,off+j,none⟩:=by unfold Addr.add;split<;>simp_all
    rw [hadd,hb0.cell (block_lt hc),hc,← hv]
    simp [List.getD,hzj]
  have HG:Hid (w0.heap[w.heap.size]? =some (.cells cur.toList.toArray 3 (0,0))):=by rw [Hid,hgg]
  have HN:Hid ((zs.map (Value.int .i64)).length=Nat.min zs.length zs.length):=by rw [Hid,List.length_map];exact (Nat.min_self _).symm
  have HFt:Hid (0+(zs.map (Value.int .i64)).length≤cur.toList.length):=by rw [Hid,List.length_map,hcl];omega
  have H1:Hid (∀ v∈zs.map (Value.int .i64),v.oneCell'=true):=fun v hv=>by obtain ⟨z,_,rfl⟩:=List.mem_map.1 hv;rfl
  have HSP:Hid (splice cur.toList 0 (zs.map (Value.int .i64))=zs.map (Value.int .i64)):=by
   unfold Hid splice
   rw [List.take_zero,List.nil_append,Nat.zero_add,List.drop_eq_nil_of_le (by rw [hcl,List.length_map];exact Nat.le_refl _),List.append_nil]
  clear hlen htk hcs hgg hgrow0 hcell hn hm
  have key:∀ {ops:Array Oper} {rest:List Oper} {o:Oper} {act:Act} {Q:Exit→Act→World→Prop},o.guard=none→o.op=.call { callee:=.builtin .copy,args:=#[.tmp 10,.tmp 11],argTypes:=#[22,22] }→act.eval (.tmp 10)=.slice (some ⟨w.heap.size,0,none⟩) zs.length zs.length→act.eval (.tmp 11)=.slice (some ⟨b,off,none⟩) zs.length cap→(∀ w1,OwnI w1 w.heap.size w1.heap.size (some ⟨w.heap.size,0,none⟩) zs.length zs→Below w.heap.size w w1→wpList Try.prog ops Q rest (act.put o.dst (goInt (zs.map (Value.int .i64)).length)) w1)→wpList Try.prog ops Q (o::rest) act w0:=by
   intro ops rest o act Q h1 h2 h3 h4 h5
   refine wpList_copy_splice h1 (.tmp 10) (.tmp 11) 22 22 h2 3 Try.underlying22 hsz _ _ zs.length zs.length zs.length cap h3 h4 w.heap.size 0 cur.toList 3 HG.out (zs.map (Value.int .i64)) HN.out HC.out HFt.out H1.out w.heap.size w hb0 (Nat.le_refl _) ?_
   intro w1 hrow hb1
   refine h5 w1 ?_ hb1
   have h:=hrow.out
   rw [HSP.out] at h
   refine ⟨⟨by simp,.inr ⟨w.heap.size,zs.length,_,rfl,Nat.le_refl _,h,Nat.le_refl _,by simp [maxLen];omega,by simp,by simp;exact List.take_of_length_le (by simp)⟩⟩,Nat.le_refl _,fun k hk=>?_⟩
   cases hk
   exact (Array.getElem?_eq_some_iff.1 h).1
  have KEY:Hid _:=@key
  clear key HG HN HFt H1 HSP HC hcl
  go_wp2_with (guard_target=wpList _ _ _ (Oper.mk (some 12) _ _ _ _ _::_) _ _;refine KEY.out rfl rfl rfl rfl ?_;intro w1 HO hb1)
  go_ret
  exact ⟨_,_,rfl,HO,hb1⟩
theorem copySlot_own (s:SlotA) (w:World) (hr:s.reads w) (hlI:s.v.o.ints.length≤1099511627776) (hlR:s.v.o.refs.length≤1099511627776):
  Calls Try.prog 26 #[.agg s.cells.toArray] w fun e w'=>∃ t:SlotA,e=.returned (.agg t.cells.toArray)∧Hid (t.v=s.v)∧t.own w' w.heap.size w'.heap.size∧Below w.heap.size w w':=by
 obtain ⟨⟨h,⟨k,ints,refs⟩⟩,aI,cI,aR,cR⟩:=s
 simp only [SlotA.cells,SlotA.reads,SlotA.own] at*
 obtain ⟨hI,hR,_,_⟩:=hr
 simp only at hI hR
 obtain ⟨W,hW,b0,b1,hbW,hsW⟩:=boxes2 w [.bool h,.int .i64 k,.slice aI ints.length cI,.slice aR refs.length cR] [.bool false,.int .i64 0,.slice none 0 0,.slice none 0 0] 46 46
 have hI':=hI.below hbW
 have hR':=hR.below hbW
 have hwW:w.heap.size+1<W.heap.size:=by omega
 clear hsW hI hR
 have HC:Hid (∀ w'',Below W.heap.size W w''→w''.cell? ⟨w.heap.size,0,none⟩=some (.bool h)∧w''.cell? ⟨w.heap.size,1,none⟩=some (.int .i64 k)∧w''.cell? ⟨w.heap.size,2,none⟩=some (.slice aI ints.length cI)∧w''.cell? ⟨w.heap.size,3,none⟩=some (.slice aR refs.length cR)):=by
  intro w'' hh
  have ba:=b0.below hh b0.lt
  exact ⟨ba.cell 0 _ rfl,ba.cell 1 _ rfl,ba.cell 2 _ rfl,ba.cell 3 _ rfl⟩
 have HB:Hid (∀ w'',Below W.heap.size W w''→Box w'' w.heap.size [.bool h,.int .i64 k,.slice aI ints.length cI,.slice aR refs.length cR] 46∧Box w'' (w.heap.size+1) [.bool false,.int .i64 0,.slice none 0 0,.slice none 0 0] 46):=fun w'' hh=>⟨b0.below hh b0.lt,b1.below hh b1.lt⟩
 have hh:=HC.out W (Below.refl _ _)
 have hne:¬ (w.heap.size=w.heap.size+1):=by omega
 clear b0 b1
 go_enter Try.func26,Try.ntmps26
 go_wp2_with fail
 rw [hW.out]
 clear hW
 go_region_held3 (fun w''=>w''.cell? ⟨w.heap.size,0,none⟩=some (.bool h)∧w''.cell? ⟨w.heap.size,1,none⟩=some (.int .i64 k)∧w''.cell? ⟨w.heap.size,2,none⟩=some (.slice aI ints.length cI)∧w''.cell? ⟨w.heap.size,3,none⟩=some (.slice aR refs.length cR))
  (first | exact HC.out _ hB2 | exact HC.out _ hB1 | exact HC.out _ (Below.refl _ _).drew | exact ⟨(((((HB.out _ (by first | exact hBL | fail)).1.other hne).other hne).other hne).other hne).cell 0 _ rfl,(((((HB.out _ (by first | exact hBL | fail)).1.other hne).other hne).other hne).other hne).cell 1 _ rfl,(((((HB.out _ (by first | exact hBL | fail)).1.other hne).other hne).other hne).other hne).cell 2 _ rfl,(((((HB.out _ (by first | exact hBL | fail)).1.other hne).other hne).other hne).other hne).cell 3 _ rfl⟩ | go_keep | fail)
  (first
  | (go_at_call_of 51 (Value.slice aI ints.length cI);refine (copyInts_any aI cI ints _ (hI'.below (by first | exact hB2 | exact (Below.refl _ _).drew | fail)) hlI).mono ?_;rintro e u1 ⟨a1,c1,rfl,ho1,hb1⟩;have hB1:Below W.heap.size W u1:=(by first | exact hB2.trans (hb1.mono hB2.size) | exact ((Below.refl _ _).drew).trans hb1 | fail);have hBL:=hB1;obtain ⟨m0,m1,m2,m3,e0,e1,e2,e3⟩:=(HB.out _ hB1).2.four)
  | (go_at_call_of 51 (Value.slice aR refs.length cR);refine (copyInts_any aR cR refs _ (hR'.below (by first | exact hB1 | exact (Below.refl _ _).drew | fail)) hlR).mono ?_;rintro e u2 ⟨a2,c2,rfl,ho2,hb2⟩;have hB2:Below W.heap.size W u2:=(by first | exact hB1.trans (hb2.mono hB1.size) | exact ((Below.refl _ _).drew).trans hb2 | fail);have hBL:=hB2;obtain ⟨n0,n1,n2,n3,f0,f1,f2,f3⟩:=(HB.out _ hB2).2.four)
  | fail)
 obtain ⟨WF,hWF,bF,hwF,hsF⟩:=box4_fill (HB.out _ hB2).2 (.bool h) (.int .i64 k) (.slice a1 ints.length c1) (.slice a2 refs.length c2)
 have ho1':OwnI u1 W.heap.size u1.heap.size a1 c1 ints:=ho1
 have hsu1:W.heap.size≤u1.heap.size:=hB1.size
 have hsu2:=hb2.size
 have hO:OwnO u2 W.heap.size u2.heap.size a1 c1 a2 c2 ⟨k,ints,refs⟩:=⟨(ho1'.below hb2).widen (Nat.le_refl _) hsu2 (Nat.le_refl _),ho2.widen hsu1 (Nat.le_refl _) (Nat.le_refl _),fun j hj hj'=>by have h1:=(ho1'.lt j hj).2;have h2:=(ho2.lt j hj').1;omega⟩
 have hOF:OwnO WF W.heap.size u2.heap.size a1 c1 a2 c2 ⟨k,ints,refs⟩:=hO.within hwF (.inr (by omega))
 have HBF:Hid (Below w.heap.size w WF):=(hbW.trans (hB2.mono (by omega))).trans (hwF.below (by omega) (by omega))
 rw [hWF.out]
 clear hwF ho1 ho2 ho1' hO
 go_wp2
 obtain ⟨q0,q1,q2,q3,_⟩:=bF.four
 exact bodyPost_ret (v:=.agg #[.bool h,.int .i64 k,.slice a1 ints.length c1,.slice a2 refs.length c2]) (by simp [results,Try.results26,go_sem,q0,q1,q2,q3]) rfl ⟨⟨⟨h,⟨k,ints,refs⟩⟩,a1,c1,a2,c2⟩,rfl,rfl,hOF.widen (by omega) (by omega) (Nat.le_refl _),HBF.out⟩
end Go.Proofs.Ytfehemepdoomdaa
namespace Go.Proofs.Ytfehemepdoomdaa
end Go.Proofs.Ytfehemepdoomdaa
namespace Go.Proofs.Ytfehemepdoomdaa
open Go.RowKit
def markL1 (k0:Int) (i:Nat):LiveV:=⟨k0+3*i,k0+3*i+1,((k0+3*i+1+1) % 3 == 0)⟩
def marksL (k0:Int) (n:Nat):List LiveV:=(List.range n).map fun i:Nat=>markL1 k0 i
theorem marksL_len (k0:Int) (n:Nat):(marksL k0 n).length=n:=by simp [marksL]
theorem marksL_succ (k0:Int) (n:Nat):marksL k0 (n+1)=marksL k0 n++[markL1 k0 n]:=by simp [marksL,List.range_succ]
def markedL (k0:Int) (xs:List LiveV) (k:Nat):List LiveV:=marksL k0 k++xs.drop k
theorem markedL_len (k0:Int) (xs:List LiveV) (k:Nat) (h:k≤xs.length):(markedL k0 xs k).length=xs.length:=by simp [markedL,marksL_len];omega
theorem markedL_set (k0:Int) (xs:List LiveV) (k:Nat) (h:k<xs.length):(markedL k0 xs k).set k (markL1 k0 k)=markedL k0 xs (k+1):=by
 unfold markedL
 rw [List.set_append,if_neg (by rw [marksL_len];omega),marksL_len,Nat.sub_self,marksL_succ,List.drop_eq_getElem_cons h,List.set_cons_zero]
 simp
theorem markedL_all (k0:Int) (xs:List LiveV):markedL k0 xs xs.length=marksL k0 xs.length:=by simp [markedL]
theorem markLiveS_any (base:Nat) (a:Option Addr) (cap:Nat) (k0:Int) (xs:List LiveV) (w:World)
  (hown:w.ownsRow base 103 3 (.slice a xs.length cap) xs.length (cellsL xs)) (h0:0≤k0) (hl:k0+3*xs.length≤4611686018427387904):
  Calls Try.prog 37 #[.slice a xs.length cap,.int .i64 k0] w fun e w'=>e=.returned (.int .i64 (k0+3*xs.length))∧
   w'.ownsRow base 103 3 (.slice a xs.length cap) xs.length (cellsL (marksL k0 xs.length))∧w.grownBy w' (Value.slice a xs.length cap).ownBlock:=by
 have hlen:=hown.1
 rcases hown.2 with ⟨hv,h00⟩ | ⟨g,cap',cur,hv,hg,hgg,hr⟩
 ·simp only [Value.slice.injEq] at hv
  obtain ⟨rfl,h00',rfl⟩:=hv
  obtain rfl:=List.length_eq_zero_iff.1 h00
  go_enter Try.func37,Try.ntmps37
  go_wp2
  refine wp_loop_rounds 1 ?_
  rw [rounds_succ]
  go_wp2
  go_ret
  exact ⟨by simp,hown,World.grownBy.refl _ _⟩
 ·simp only [Value.slice.injEq] at hv
  obtain ⟨rfl,_,rfl⟩:=hv
  clear hgg hr hlen
  have hM:w.ownsRow base 103 3 (.slice (some ⟨g,0,none⟩) xs.length cap) xs.length (cellsL (markedL k0 xs 0)):=by simpa [markedL,marksL] using hown
  clear hown
  go_enter Try.func37,Try.ntmps37
  go_wp2
  go_loopw [1,5] (fun kk i wr=>∃ k:Nat,k≤xs.length∧i=.int .i64 k∧kk=.int .i64 (k0+3*k)∧wr.ownsRow base 103 3 (.slice (some ⟨g,0,none⟩) xs.length cap) xs.length (cellsL (markedL k0 xs k))∧w.grownBy wr (some g))
   (fun _ i _=>xs.length-(intOf i).toNat)
  case atStart=>exact ⟨0,Nat.zero_le _,rfl,by simp,hM,World.grownBy.refl _ _⟩
  case round=>
   obtain ⟨k,hk,rfl,rfl,hown,hgr⟩:=hrel
   clear hM
   by_cases hlt:k<xs.length
   ·have hp:=markedL_len k0 xs k hk
    obtain ⟨x0,x1,x2,hfz⟩:=row_live hown hp k hlt
    have f0:=hfz (k*3)
    have f1:=hfz (k*3+1)
    have f2:=hfz (k*3+2)
    obtain ⟨W2,hW2,ho2,hg2⟩:=row_store hown hp k hlt (markL1 k0 k)
    rw [markedL_set k0 xs k hlt] at ho2
    have HH:Hid (_∧_):=⟨ho2,grownBy_trans hgr hg2⟩
    clear ho2 hg2 hfz hown hgr
    generalize (markedL k0 xs k).getD k zeroL=old at*
    simp only [markL1] at hW2
    go_wp2
    rw [hW2.out]
    go_roundw
    case rel=>exact ⟨k+1,by omega,by go_num,by go_num,HH.out.1,HH.out.2⟩
    case measure=>simp [intOf];omega
   ·have HE:Hid (wr.ownsRow base 103 3 (.slice (some ⟨g,0,none⟩) xs.length cap) xs.length (cellsL (marksL k0 xs.length))∧k=xs.length):=by
     have e:k=xs.length:=by omega
     rw [e,markedL_all] at hown
     exact ⟨hown,e⟩
    go_wp2
    go_ret
    exact ⟨ret_int (by have:=HE.out.2;omega),HE.out.1,hgr⟩
theorem markLiveS_own (lo hi:Nat) (a:Option Addr) (cap:Nat) (k0:Int) (xs:List LiveV) (w:World) (ho:OwnL w lo hi a cap xs) (h0:0≤k0) (hl:k0+3*xs.length≤4611686018427387904):
  Calls Try.prog 37 #[.slice a xs.length cap,.int .i64 k0] w fun e w'=>e=.returned (.int .i64 (k0+3*xs.length))∧
   OwnL w' lo hi a cap (marksL k0 xs.length)∧Touch (Value.slice a xs.length cap).ownBlock.toList w w':=by
 refine (markLiveS_any lo a cap k0 xs w ho.1 h0 hl).mono ?_
 rintro e w' ⟨rfl,h1,h2⟩
 refine ⟨rfl,⟨by rw [marksL_len];exact h1,Nat.le_trans ho.2.1 h2.size,by rw [marksL_len];exact ho.2.2⟩,Touch.of_grown h2 (fun j hj=>Option.mem_toList.2 hj)⟩
end Go.Proofs.Ytfehemepdoomdaa
namespace Go.Proofs.Ytfehemepdoomdaa
open Go.RowKit Go.Maps Go.MapKept
structure ClaimV where
 key:Int
 tx:Int
 place:Int
def ClaimV.ent (m:ClaimV):Value × Value:=(.int .i64 m.key,.agg #[.int .i64 m.tx,.int .i64 m.place])
def MapAt (w:World) (B:Nat) (ms:List ClaimV):Prop:=∃ es clock,w.heap[B]? =some (.map es clock)∧es.toList.map (fun e=>(e.key,e.val))=ms.map ClaimV.ent
theorem MapAt.lt {w:World} {B:Nat} {ms:List ClaimV} (h:MapAt w B ms):B<w.heap.size:=by
 obtain ⟨es,clock,hb,_⟩:=h
 rcases Nat.lt_or_ge B w.heap.size with h | h
 ·exact h
 ·rw [Array.getElem?_eq_none h] at hb;cases hb
theorem MapAt.touch {w w':World} {B:Nat} {ms:List ClaimV} {bl:List Nat} (h:MapAt w B ms) (ht:Touch bl w w') (hn:B∉bl):MapAt w' B ms:=by
 have hl:=h.lt
 obtain ⟨es,clock,h1,h2⟩:=h
 exact ⟨es,clock,by rw [ht.block B hl hn];exact h1,h2⟩
end Go.Proofs.Ytfehemepdoomdaa
namespace Go.Proofs.Ytfehemepdoomdaa
open Go.RowKit Go.Maps Go.MapKept
end Go.Proofs.Ytfehemepdoomdaa
namespace Go.Proofs.Ytfehemepdoomdaa
open Go.RowKit
def cellsVw (rs:List SlotA):List Value:=rs.flatMap SlotA.cells
theorem cells_lenV (r:SlotA):r.cells.length=4:=rfl
theorem cellsVw_len (rs:List SlotA):(cellsVw rs).length=rs.length*4:=by
 induction rs with
 | nil=>rfl
 | cons s r ih=>simp only [cellsVw,List.flatMap_cons,List.length_append,cells_lenV,List.length_cons] at *;omega
theorem cellsVw_app (a b:List SlotA):cellsVw (a++b)=cellsVw a++cellsVw b:=by simp [cellsVw]
theorem cellsVw_cons (r:SlotA) (b:List SlotA):cellsVw (r::b)=r.cells++cellsVw b:=by simp [cellsVw]
theorem cellsVw_at (rs:List SlotA) (k j:Nat) (hk:k<rs.length) (hj:j<4):(cellsVw rs)[k*4+j]? =(rs.getD k zeroS).cells[j]? :=by
 induction rs generalizing k with
 | nil=>simp at hk
 | cons s r ih=>
  rw [cellsVw_cons]
  cases k with
  | zero=>rw [List.getElem?_append_left (by rw [cells_lenV];omega)];simp
  | succ k=>
   rw [List.getElem?_append_right (by rw [cells_lenV];omega),cells_lenV]
   have:=ih k (by simpa using hk)
   rw [show (k+1)*4+j-4=k*4+j by omega,this]
   simp
theorem slotD_mem (rs:List SlotA) (k:Nat) (hk:k<rs.length):rs.getD k zeroS∈rs:=by
 have e:rs.getD k zeroS=rs[k]:=by simp [List.getD,hk]
 rw [e]
 exact List.getElem_mem hk
theorem rangeAt_belowV {w w':World} {b o n:Nat} {cs:List Value} (h:w.rangeAt b o cs) (hb:Below n w w') (hn:b<n):w'.rangeAt b o cs:=fun j v hv=>(hb.cell (p:=⟨b,o+j,none⟩) hn).trans (h j v hv)
theorem rangeV_lt {w:World} {b o:Nat} {r:SlotA} (h:w.rangeAt b o r.cells):b<w.heap.size:=block_lt (h 0 _ rfl)
def ReadsVw (w:World) (a:Option Addr) (rs:List SlotA):Prop:=rs≠[]→∃ b off,a=some ⟨b,off,none⟩∧∀ k,k<rs.length→w.rangeAt b (off+k*4) (rs.getD k zeroS).cells∧(rs.getD k zeroS).reads w
theorem ReadsVw.cases {w:World} {a:Option Addr} {rs:List SlotA} (h:ReadsVw w a rs):rs=[]∨∃ b off,a=some ⟨b,off,none⟩∧0<rs.length∧∀ k,k<rs.length→w.rangeAt b (off+k*4) (rs.getD k zeroS).cells∧(rs.getD k zeroS).reads w:=by
 by_cases e:rs=[]
 ·exact .inl e
 ·obtain ⟨b,off,ha,hc⟩:=h e
  exact .inr ⟨b,off,ha,List.length_pos_iff.2 e,hc⟩
structure OwnVw (w:World) (lo hi:Nat) (a:Option Addr) (c:Nat) (rs:List SlotA):Prop where
 row:w.ownsRow lo 46 4 (.slice a rs.length c) rs.length (cellsVw rs)
 top:hi≤w.heap.size
 blk:∀ k,(Value.slice a rs.length c).ownBlock=some k→k<hi
 each:∀ r∈rs,r.own w lo hi
 apart:((Value.slice a rs.length c).ownBlock.toList++rs.flatMap SlotA.blocks).Nodup
def blocksVw (a:Option Addr) (c:Nat) (rs:List SlotA):List Nat:=(Value.slice a rs.length c).ownBlock.toList++rs.flatMap SlotA.blocks
theorem OwnVw.blocks_lt {w:World} {lo hi:Nat} {a:Option Addr} {c:Nat} {rs:List SlotA} (h:OwnVw w lo hi a c rs):∀ k∈blocksVw a c rs,lo≤k∧k<hi:=by
 intro k hk
 simp only [blocksVw,List.mem_append,List.mem_flatMap,Option.mem_toList] at hk
 rcases hk with h1 | ⟨r,hr,h1⟩
 ·exact ⟨(h.row.lt k h1).1,h.blk k h1⟩
 ·exact SlotA.blocks_lt (h.each r hr) k h1
theorem OwnVw.touch {w w':World} {lo hi:Nat} {a:Option Addr} {c:Nat} {rs:List SlotA} {bl:List Nat} (h:OwnVw w lo hi a c rs) (ht:Touch bl w w') (hd:∀ k∈blocksVw a c rs,k∉bl):OwnVw w' lo hi a c rs:=
 ⟨ownsRow_block h.row (fun k hk=>ht.block k (h.row.lt k hk).2 (hd k (List.mem_append.2 (.inl (Option.mem_toList.2 hk))))),Nat.le_trans h.top ht.size,h.blk,fun r hr=>SlotA.touch (h.each r hr) ht (fun k hk=>hd k (List.mem_append.2 (.inr (List.mem_flatMap.2 ⟨r,hr,hk⟩)))),h.apart⟩
theorem OwnVw.within {w w':World} {lo hi l r:Nat} {a:Option Addr} {c:Nat} {rs:List SlotA} (h:OwnVw w lo hi a c rs) (hw:Within l r w w') (hd:hi≤l∨r≤lo):OwnVw w' lo hi a c rs:=
 ⟨ownsRow_block h.row (fun k hk=>hw.block k (by have:=h.blk k hk;have:=h.top;omega) (by have:=h.blk k hk;have:=(h.row.lt k hk).1;omega)),Nat.le_trans h.top hw.size,h.blk,fun x hx=>OwnO.within (h.each x hx) hw hd,h.apart⟩
theorem OwnVw.below {w w':World} {lo hi:Nat} {a:Option Addr} {c:Nat} {rs:List SlotA} (h:OwnVw w lo hi a c rs) (hb:Below w.heap.size w w'):OwnVw w' lo hi a c rs:=
 h.within (Within.of_below (lo:=w.heap.size) (hi:=w.heap.size) hb) (.inl h.top)
theorem OwnVw.widen {w:World} {lo hi lo' hi':Nat} {a:Option Addr} {c:Nat} {rs:List SlotA} (h:OwnVw w lo hi a c rs) (h1:lo'≤lo) (h2:hi≤hi') (h3:hi'≤w.heap.size):OwnVw w lo' hi' a c rs:=
 ⟨ownsRow_base h.row (fun k hk=>by have:=(h.row.lt k hk).1;omega),h3,fun k hk=>by have:=h.blk k hk;omega,fun x hx=>OwnO.widen (h.each x hx) h1 h2 h3,h.apart⟩
theorem row_slot {w:World} {base g n cap:Nat} {rs:List SlotA} (h:w.ownsRow base 46 4 (.slice (some ⟨g,0,none⟩) n cap) n (cellsVw rs)) (hn:rs.length=n) (k:Nat) (hk:k<n):
  w.rangeAt g (k*4) (rs.getD k zeroS).cells∧w.there g (k*4) 4:=by
 refine ⟨fun j v hv=>?_,fun j hj=>?_⟩
 ·have hj:j<4:=by have:=(List.getElem?_eq_some_iff.1 hv).1;rwa [cells_lenV] at this
  rw [h.cellAt (k*4+j) (by omega),cellsVw_at rs k j (by omega) hj,hv]
 ·refine ⟨?_,h.frozenAt _⟩
  rw [h.cellAt (k*4+j) (by omega),cellsVw_at rs k j (by omega) hj,List.getElem?_eq_getElem (by rw [cells_lenV];omega)]
  rfl
theorem OwnVw.reads {w:World} {lo hi:Nat} {a:Option Addr} {c:Nat} {rs:List SlotA} (h:OwnVw w lo hi a c rs):ReadsVw w a rs:=by
 intro hne
 rcases h.row.2 with ⟨_,h0⟩ | ⟨g,cap',cur,hv,hb,hg,hr⟩
 ·exact absurd (List.length_eq_zero_iff.1 h0) hne
 ·simp only [Value.slice.injEq] at hv
  obtain ⟨rfl,_,rfl⟩:=hv
  refine ⟨g,0,rfl,fun k hk=>?_⟩
  rw [Nat.zero_add]
  exact ⟨(row_slot h.row rfl k hk).1,OwnO.reads (h.each _ (slotD_mem rs k hk))⟩
theorem row_setCellsV {base g n cap sz:Nat} {e:TypeId} (cs:List Value):∀ (pre old post:List Value) (w:World),w.ownsRow base e sz (.slice (some ⟨g,0,none⟩) n cap) n (pre++(old++post))→old.length=cs.length→
  (w.setCells g pre.length cs).ownsRow base e sz (.slice (some ⟨g,0,none⟩) n cap) n (pre++(cs++post))∧w.grownBy (w.setCells g pre.length cs) (some g):=by
 induction cs with
 | nil=>intro pre old post w h hl;obtain rfl:=List.length_eq_zero_iff.1 hl;exact ⟨h,World.grownBy.refl _ _⟩
 | cons c cr ih=>
  intro pre old post w h hl
  obtain ⟨x,r,rfl⟩:∃ x r,old=x::r:=by
   cases old with
   | nil=>simp at hl
   | cons x r=>exact ⟨x,r,rfl⟩
  have hs:=h.stored pre.length c
  rw [List.set_append_right _ _ (Nat.le_refl _),Nat.sub_self] at hs
  simp only [List.cons_append,List.set_cons_zero] at hs
  have:=ih (pre++[c]) r post (w.setCell ⟨g,pre.length,none⟩ c) (by simpa using hs.1) (by simpa using hl)
  simp only [List.length_append,List.length_singleton] at this
  rw [World.setCells]
  exact ⟨by simpa using this.1,grownBy_trans hs.2 this.2⟩
theorem setCells_heapV (B:Nat):∀ (vs:List Value) (o:Nat) (w:World),(w.setCells B o vs).heap.size=w.heap.size:=by
 intro vs
 induction vs with
 | nil=>intro o w;rfl
 | cons v r ih=>intro o w;rw [World.setCells,ih];simp
theorem OwnVw.fill {w:World} {lo hi g c:Nat} {A B:List SlotA} {z:SlotA} (h:OwnVw w lo hi (some ⟨g,0,none⟩) c (A++z::B)) (q:SlotA) {l u:Nat} (hq:q.own w l u) (hl:hi≤l) (hlo:lo≤hi) (hu:u≤w.heap.size):
  ∃ W,Hid (w.setCells g (A.length*4) q.cells=W)∧OwnVw W lo (max hi u) (some ⟨g,0,none⟩) c (A++q::B)∧Touch [g] w W∧W.heap.size=w.heap.size:=by
 have hrow:=h.row
 rw [cellsVw_app,cellsVw_cons,List.length_append,List.length_cons] at hrow
 have hg:lo≤g∧g<hi:=⟨(hrow.lt g rfl).1,h.blk g rfl⟩
 obtain ⟨h1,h2⟩:=row_setCellsV q.cells (cellsVw A) z.cells (cellsVw B) w hrow rfl
 rw [cellsVw_len] at h1 h2
 have ht:Touch [g] w (w.setCells g (A.length*4) q.cells):=Touch.of_grown h2 (fun k hk=>by cases hk;simp)
 have hap:=h.apart
 simp only [List.flatMap_append,List.flatMap_cons,Value.ownBlock,Option.toList,List.singleton_append,List.nodup_cons,List.nodup_append,List.mem_append,not_or] at hap
 obtain ⟨⟨n1,n2,n3⟩,a1,⟨a2,a3,a4⟩,a5⟩:=hap
 have hqb:=SlotA.blocks_lt hq
 have hA:∀ x∈A.flatMap SlotA.blocks,lo≤x∧x<hi:=fun x hx=>by
  obtain ⟨r,hr,hx⟩:=List.mem_flatMap.1 hx
  exact SlotA.blocks_lt (h.each r (by simp [hr])) x hx
 have hB:∀ x∈B.flatMap SlotA.blocks,lo≤x∧x<hi:=fun x hx=>by
  obtain ⟨r,hr,hx⟩:=List.mem_flatMap.1 hx
  exact SlotA.blocks_lt (h.each r (by simp [hr])) x hx
 have hsz:=setCells_heapV g q.cells (A.length*4) w
 refine ⟨_,rfl,⟨?_,?_,fun k hk=>?_,fun r hr=>?_,?_⟩,ht,hsz⟩
 ·rw [cellsVw_app,cellsVw_cons,List.length_append,List.length_cons]
  exact h1
 ·rw [hsz]
  have:=h.top
  omega
 ·cases hk
  show g<max hi u
  omega
 ·rcases List.mem_append.1 hr with hr | hr
  ·exact (SlotA.touch (h.each r (by simp [hr])) ht (fun k hk hk'=>n1 (by rw [← List.mem_singleton.1 hk'];exact List.mem_flatMap.2 ⟨r,hr,hk⟩))).widen (Nat.le_refl _) (by omega) (by rw [hsz];have:=h.top;omega)
  ·rcases List.mem_cons.1 hr with rfl | hr
   ·exact (SlotA.touch hq ht (fun k hk hk'=>by have:=hqb k hk;have:=List.mem_singleton.1 hk';omega)).widen (by omega) (by omega) (by rw [hsz];have:=h.top;omega)
   ·exact (SlotA.touch (h.each r (by simp [hr])) ht (fun k hk hk'=>n3 (by rw [← List.mem_singleton.1 hk'];exact List.mem_flatMap.2 ⟨r,hr,hk⟩))).widen (Nat.le_refl _) (by omega) (by rw [hsz];have:=h.top;omega)
 ·simp only [List.flatMap_append,List.flatMap_cons,Value.ownBlock,Option.toList,List.singleton_append,List.nodup_cons,List.nodup_append,List.mem_append,not_or]
  refine ⟨⟨n1,fun hk=>by have:=hqb g hk;omega,n3⟩,a1,⟨SlotA.blocks_nodup hq,a3,fun x hx y hy e=>by have:=hqb x hx;have:=hB y hy;omega⟩,fun x hx y hy e=>?_⟩
  rcases hy with hy | hy
  ·have:=hqb y hy;have:=hA x hx;omega
  ·exact a5 x hx y (.inr hy) e
theorem Try.infoSlotV:(Try.prog.info? 46).map (fun i=>(i.zero,i.size,i.bytes))=some (some (.agg zeroS.cells.toArray),4,64):=by kernel_rfl
def SlotA.short (s:SlotA) (m:Nat):Prop:=s.v.o.ints.length≤m∧s.v.o.refs.length≤m
theorem slot_oneV (t:SlotA):t.cells.toArray.all (·.oneCell')=true:=all_oneCell_toArray (by intro v hv;simp only [SlotA.cells,List.mem_cons,List.not_mem_nil,or_false] at hv;rcases hv with rfl | rfl | rfl | rfl<;>rfl)
theorem rep_lenV (n:Nat) (r:SlotA):(List.replicate n r).length=n:=by simp
theorem zero_cellsVw (n:Nat):(madeCells (Value.agg zeroS.cells.toArray).cells (n*4)).toList=cellsVw (List.replicate n zeroS):=by
 apply List.ext_getElem?
 intro i
 by_cases h:i<n*4
 ·have e:=cellsVw_at (List.replicate n zeroS) (i / 4) (i % 4) (by simp;omega) (Nat.mod_lt _ (by omega))
  rw [show i / 4*4+i % 4=i by omega] at e
  rw [e]
  have hg:(List.replicate n zeroS).getD (i / 4) zeroS=zeroS:=by simp [List.getD,show i / 4<n by omega]
  rw [hg]
  simp only [madeCells,Array.toList_map,List.getElem?_map,Array.toList_range,List.getElem?_range h,Option.map_some]
  have hm:i % 4<4:=Nat.mod_lt _ (by omega)
  have hz:∀ j,j<4→some ((Value.agg zeroS.cells.toArray).cells[j]!)=zeroS.cells[j]? :=by
   intro j hj
   rcases (by omega:j=0∨j=1∨j=2∨j=3) with rfl | rfl | rfl | rfl<;>rfl
  exact hz _ hm
 ·rw [List.getElem?_eq_none (by simp [size_madeCells];omega),List.getElem?_eq_none (by rw [cellsVw_len];simp;omega)]
theorem own_zeroVw {w:World} {lo hi g c:Nat} (n:Nat) (h:w.ownsRow lo 46 4 (.slice (some ⟨g,0,none⟩) n c) n (cellsVw (List.replicate n zeroS))) (ht:hi≤w.heap.size) (hg:g<hi):OwnVw w lo hi (some ⟨g,0,none⟩) c (List.replicate n zeroS):=by
 refine ⟨by rw [rep_lenV];exact h,ht,fun k hk=>by cases hk;exact hg,fun r hr=>?_,?_⟩
 ·rw [(List.mem_replicate.1 hr).2]
  exact ⟨ownI_nil _ _ _ ht,ownI_nil _ _ _ ht,fun k hk=>by cases hk⟩
 ·have e:(List.replicate n zeroS).flatMap SlotA.blocks=[]:=by
   rw [List.flatMap_eq_nil_iff]
   intro r hr
   rw [(List.mem_replicate.1 hr).2]
   rfl
  rw [e]
  simp [Value.ownBlock]
theorem range_belowV {w w':World} {b o:Nat} {r:SlotA} (h:w.rangeAt b o r.cells) (hb:Below w.heap.size w w'):w'.rangeAt b o r.cells:=rangeAt_belowV h hb (rangeV_lt h)
theorem mapVw_nil {ts:List SlotA} (h:ts.map SlotA.v=([]:List SlotA).map SlotA.v):ts=[]:=by simpa using h
theorem mapVw_len {rs ts:List SlotA} (h:ts.map SlotA.v=rs.map SlotA.v):ts.length=rs.length:=by simpa using congrArg List.length h
theorem mapVw_at {rs ts:List SlotA} (h:ts.map SlotA.v=rs.map SlotA.v) (k:Nat) (hk:k<rs.length):(ts.getD k zeroS).v=(rs.getD k zeroS).v:=by
 have hk':k<ts.length:=by rw [mapVw_len h];exact hk
 have:=congrArg (fun x=>x[k]?) h
 simpa [List.getD,hk,hk'] using this
theorem eqSlotS_same (a b:Option Addr) (ca cb:Nat) (rs ts:List SlotA) (he:ts.map SlotA.v=rs.map SlotA.v) (w:World) (ha:ReadsVw w a rs) (hb:ReadsVw w b ts) (hl:rs.length≤1099511627776) (hs:∀ r∈rs,r.short 1099511627776):
  Calls Try.prog 8 #[.slice a rs.length ca,.slice b ts.length cb] w fun e w'=>e=.returned (.bool true)∧Below w.heap.size w w':=by
 rcases ha.cases with rfl | ⟨b1,o1,rfl,hpos,hc1⟩
 ·obtain rfl:=mapVw_nil he
  go_enter Try.func8,Try.ntmps8
  go_wp2
  refine wp_loop_rounds 1 ?_
  rw [rounds_succ]
  go_wp2
  go_ret
  exact ⟨rfl,Below.refl _ _⟩
 ·have hlen:=mapVw_len he
  rcases hb.cases with rfl | ⟨b2,o2,rfl,_,hc2⟩
  ·simp at hlen;omega
  ·have HV:Hid (∀ k,k<rs.length→(ts.getD k zeroS).v=(rs.getD k zeroS).v):=fun k hk=>mapVw_at he k hk
   have HS:Hid (∀ k,k<rs.length→(rs.getD k zeroS).short 1099511627776):=fun k hk=>hs _ (slotD_mem rs k hk)
   have HI:Hid ((Try.prog.info? 46).map (·.size)=some 4):=by rw [Hid];kernel_rfl
   have hu:=Try.underlying46
   rw [hlen] at hc2 ⊢
   clear he hs hlen
   go_enter Try.func8,Try.ntmps8
   go_wp2
   go_loopw [5] (fun i wr=>∃ k:Nat,k≤rs.length∧i=.int .i64 k∧Below w.heap.size w wr) (fun i _=>rs.length-(RowKit.intOf i).toNat)
   case atStart=>exact ⟨0,Nat.zero_le _,rfl,Below.refl _ _⟩
   case round=>
    obtain ⟨k,hk,rfl,hbl⟩:=hrel
    by_cases hlt:k<rs.length
    ·obtain ⟨h1,r1⟩:=hc1 k hlt
     obtain ⟨h2,r2⟩:=hc2 k hlt
     have hv:=HV.out k hlt
     have hsh:=HS.out k hlt
     clear hc1 hc2
     generalize rs.getD k zeroS=z at*
     generalize ts.getD k zeroS=y at*
     have HR:Hid (∀ w1,Below w.heap.size w w1→w1.rangeAt b1 (o1+k*4) z.cells∧w1.rangeAt b2 (o2+k*4) y.cells):=fun w1 hh=>⟨range_belowV h1 hh,range_belowV h2 hh⟩
     have HD:Hid (∀ w1,Below w.heap.size w w1→z.reads w1∧y.reads w1):=fun w1 hh=>⟨ReadsO.below r1 hh,ReadsO.below r2 hh⟩
     clear h1 h2 r1 r2
     go_wp2_with fail
     refine wp_region_held_drew (S:=fun w'=>w'.rangeAt b1 (o1+k*4) z.cells∧w'.rangeAt b2 (o2+k*4) y.cells) (by kernel_rfl) ?_ (fun hHeld=>?_)
     ·exact HR.out _ hbl.drew
     refine tq 0 (v:=.slice (some ⟨b1,o1,none⟩) rs.length ca) rfl hHeld ?_
     try simp only [zz]
     refine tq 1 (v:=.int .i64 k) rfl hHeld ?_
     try simp only [zz]
     refine tq 2 (v:=.pointer (some ⟨b1,o1+k*4,none⟩)) rfl hHeld ?_
     try simp only [zz]
     refine tk 3 rfl (yieldsIf_load_mid (by rfl) _ _ rfl _ _ rfl z.cells _ (fun _ h=>h.1) Try.underlying46 rfl HI.out) hHeld ?_
     try simp only [zz]
     refine tq 4 (v:=.slice (some ⟨b2,o2,none⟩) rs.length cb) rfl hHeld ?_
     try simp only [zz]
     refine tq 5 (v:=.int .i64 k) rfl hHeld ?_
     try simp only [zz]
     refine tq 6 (v:=.pointer (some ⟨b2,o2+k*4,none⟩)) rfl hHeld ?_
     try simp only [zz]
     refine tk 7 rfl (yieldsIf_load_mid (by rfl) _ _ rfl _ _ rfl y.cells _ (fun _ h=>h.2) Try.underlying46 rfl HI.out) hHeld ?_
     try simp only [zz]
     refine wpAnyH_ready (rs:=[8]) (by kernel_rfl) (by simp) ?_
     refine AllReadyH.cons rfl (fun K hK=>?_) AllReadyH.nil
     go_simp
     refine (eqSlot_same z y hv _ (HD.out _ hbl.drew).1 (HD.out _ hbl.drew).2 hsh.1 hsh.2).mono ?_
     rintro e w2 ⟨rfl,hb2⟩
     have hw2:Below w.heap.size w w2:=(hbl.drew).trans (hb2.mono hbl.size)
     refine hK.out _ _ (HR.out _ hw2) (fun hHeld=>?_)
     clear hK K
     try simp only [zz]
     refine tq 9 (v:=.bool false) rfl hHeld ?_
     try simp only [zz]
     refine wpAnyH_done (by kernel_rfl) ?_ _
     go_wp2_with fail
     go_roundw
     case rel=>exact ⟨k+1,by omega,by go_num,hw2⟩
     case measure=>simp [RowKit.intOf];omega
    ·go_wp2
     go_ret
     exact ⟨rfl,hbl⟩
def markV1 (s:SlotA) (k:Int):SlotA:=⟨⟨(k % 3 == 0),⟨k+1,marksI (k+1+1) s.v.o.ints.length,marksI (k+1+1+s.v.o.ints.length) s.v.o.refs.length⟩⟩,s.aI,s.cI,s.aR,s.cR⟩
def countV1 (s:SlotA):Nat:=2+s.v.o.ints.length+s.v.o.refs.length
theorem markV1_blocks (r:SlotA) (k:Int):(markV1 r k).blocks=r.blocks:=by simp [markV1,SlotA.blocks,marksI_len]
theorem ownsRow_atV {w:World} {base:Nat} {e:TypeId} {size n:Nat} {v:Value} {xs:List Value} (h:w.ownsRow base e size v n xs) {k:Nat} (hk:v.ownBlock=some k):∃ cur,w.heap[k]? =some (.cells cur e (0,0)):=by
 rcases h.2 with ⟨rfl,_⟩ | ⟨g,cap,cur,rfl,_,hg,_⟩
 ·cases hk
 ·cases hk
  exact ⟨cur,hg⟩
theorem row_apartV {w:World} {base lo hi n:Nat} {v:Value} {xs:List Value} {r:SlotA} (h:w.ownsRow base 46 4 v n xs) (hr:r.own w lo hi):∀ k,v.ownBlock=some k→k∉r.blocks:=by
 intro k hk hm
 have no:∀ {b2 s2 n2:Nat} {e2:TypeId} {v2:Value} {x2:List Value},w.ownsRow b2 e2 s2 v2 n2 x2→v2.ownBlock=some k→e2=46:=by
  intro b2 s2 n2 e2 v2 x2 h2 hk2
  obtain ⟨c1,h1⟩:=ownsRow_atV h hk
  obtain ⟨c2,h3⟩:=ownsRow_atV h2 hk2
  rw [h1] at h3
  simp only [Option.some.injEq,Obj.cells.injEq] at h3
  exact h3.2.1.symm
 simp only [SlotA.blocks,List.mem_append,Option.mem_toList] at hm
 rcases hm with h1 | h1
 ·have:=no hr.ints.1 h1;cases this
 ·have:=no hr.refs.1 h1;cases this
def markVs:List SlotA→Int→List SlotA
 | [],_=>[]
 | r::t,k=>markV1 r k::markVs t (k+countV1 r)
def countVs:List SlotA→Nat
 | []=>0
 | r::t=>countV1 r+countVs t
theorem markVs_len (rs:List SlotA):∀ k,(markVs rs k).length=rs.length:=by
 induction rs with
 | nil=>intro k;rfl
 | cons x r ih=>intro k;simp [markVs,ih]
theorem markVs_app (A B:List SlotA):∀ k,markVs (A++B) k=markVs A k++markVs B (k+countVs A):=by
 induction A with
 | nil=>intro k;simp [markVs,countVs]
 | cons x r ih=>
  intro k
  simp only [List.cons_append,markVs,ih,countVs]
  congr 3
  omega
theorem countVs_app (A B:List SlotA):countVs (A++B)=countVs A+countVs B:=by
 induction A with
 | nil=>simp [countVs]
 | cons x r ih=>simp only [List.cons_append,countVs,ih];omega
theorem slots_splitV (rs:List SlotA) (j:Nat) (h:j<rs.length):rs.drop j=rs.getD j zeroS::rs.drop (j+1)∧rs.take (j+1)=rs.take j++[rs.getD j zeroS]:=by
 have e:rs.getD j zeroS=rs[j]:=by simp [List.getD,h]
 exact ⟨by rw [List.drop_eq_getElem_cons h,e],by rw [List.take_succ_eq_append_getElem h,e]⟩
def halfVs (rs:List SlotA) (k:Int) (j:Nat):List SlotA:=markVs (rs.take j) k++rs.drop j
theorem halfVs_len (rs:List SlotA) (k:Int) (j:Nat) (h:j≤rs.length):(halfVs rs k j).length=rs.length:=by simp [halfVs,markVs_len];omega
theorem halfVs_at (rs:List SlotA) (k:Int) (j:Nat) (h:j<rs.length):halfVs rs k j=markVs (rs.take j) k++rs.getD j zeroS::rs.drop (j+1):=by rw [halfVs,(slots_splitV rs j h).1]
theorem halfVs_next (rs:List SlotA) (k:Int) (j:Nat) (h:j<rs.length):halfVs rs k (j+1)=markVs (rs.take j) k++markV1 (rs.getD j zeroS) (k+countVs (rs.take j))::rs.drop (j+1):=by
 rw [halfVs,(slots_splitV rs j h).2,markVs_app]
 simp [markVs]
theorem countVs_next (rs:List SlotA) (j:Nat) (h:j<rs.length):countVs (rs.take (j+1))=countVs (rs.take j)+countV1 (rs.getD j zeroS):=by
 rw [(slots_splitV rs j h).2,countVs_app]
 simp [countVs]
theorem countVs_le (rs:List SlotA) (j:Nat):countVs (rs.take j)≤countVs rs:=by
 have:countVs rs=countVs (rs.take j)+countVs (rs.drop j):=by rw [← countVs_app,List.take_append_drop]
 omega
def RowV (w:World) (base g n cap:Nat) (pre cs post:List Value):Prop:=w.ownsRow base 46 4 (.slice (some ⟨g,0,none⟩) n cap) n (pre++(cs++post))
theorem RowV.cell {w:World} {base g n cap j:Nat} {pre cs post:List Value} (h:RowV w base g n cap pre cs post) (hp:pre.length=j*4) (hc:cs.length=4) (i:Nat) (v:Value) (hv:cs[i]? =some v):w.cell? ⟨g,j*4+i,none⟩=some v:=by
 have hi:i<4:=by have:=(List.getElem?_eq_some_iff.1 hv).1;omega
 have hl:=h.1
 rw [List.length_append,List.length_append] at hl
 rw [World.ownsRow.cellAt h (j*4+i) (by omega),List.getElem?_append_right (by omega),List.getElem?_append_left (by omega),show j*4+i-pre.length=i by omega]
 exact hv
theorem RowV.frozen {w:World} {base g n cap:Nat} {pre cs post:List Value} (h:RowV w base g n cap pre cs post) (i:Nat):w.frozen? ⟨g,i,none⟩=false:=World.ownsRow.frozenAt h i
theorem RowV.set {w:World} {base g n cap j:Nat} {pre cs post:List Value} (h:RowV w base g n cap pre cs post) (hp:pre.length=j*4) (hc:cs.length=4) (i:Nat) (hi:i<4) (v:Value):RowV (w.setCell ⟨g,j*4+i,none⟩ v) base g n cap pre (cs.set i v) post∧w.grownBy (w.setCell ⟨g,j*4+i,none⟩ v) (some g):=by
 have:=World.ownsRow.stored h (j*4+i) v
 rw [List.set_append_right _ _ (by omega),show j*4+i-pre.length=i by omega,List.set_append_left _ _ (by omega)] at this
 exact this
theorem RowV.block {w w':World} {base g n cap:Nat} {pre cs post:List Value} (h:RowV w base g n cap pre cs post) (hb:w'.heap[g]? =w.heap[g]?):RowV w' base g n cap pre cs post:=ownsRow_block h (fun k hk=>by cases hk;exact hb)
theorem RowV.keep {w w':World} {base g n cap:Nat} {pre cs post:List Value} {bl:List Nat} (h:RowV w base g n cap pre cs post) (ht:Touch bl w w') (hd:g∉bl):RowV w' base g n cap pre cs post:=h.block (ht.block g (World.ownsRow.lt h g rfl).2 hd)
theorem markIntS_touchV (lo hi:Nat) (a:Option Addr) (cap:Nat) (k0:Int) (xs:List Int) (w:World) (ho:OwnI w lo hi a cap xs) (h0:0≤k0) (hl:k0+xs.length≤4611686018427387904):
  Calls Try.prog 39 #[.slice a xs.length cap,.int .i64 k0] w fun e w'=>e=.returned (.int .i64 (k0+xs.length))∧OwnI w' lo hi a cap (marksI k0 xs.length)∧Touch (Value.slice a xs.length cap).ownBlock.toList w w':=by
 refine (markIntS_any lo a cap k0 xs w ho.1 h0 hl).mono ?_
 rintro e w' ⟨rfl,h1,h2⟩
 exact ⟨rfl,⟨by rw [marksI_len];exact h1,Nat.le_trans ho.2.1 h2.size,by rw [marksI_len];exact ho.2.2⟩,Touch.of_grown h2 (fun j hj=>Option.mem_toList.2 hj)⟩
theorem OwnI.keepV {w w':World} {lo hi:Nat} {a:Option Addr} {c:Nat} {ns:List Int} {bl:List Nat} (h:OwnI w lo hi a c ns) (ht:Touch bl w w') (hd:∀ k,k∈(Value.slice a ns.length c).ownBlock.toList→k∉bl):OwnI w' lo hi a c ns:=h.touch ht (fun k hk=>hd k (Option.mem_toList.2 hk))
theorem OwnVw.replace {w w':World} {lo hi g c:Nat} {A B:List SlotA} {z y:SlotA} (h:OwnVw w lo hi (some ⟨g,0,none⟩) c (A++z::B)) (ht:Touch (g::z.blocks) w w') (hrow:RowV w' lo g (A++z::B).length c (cellsVw A) y.cells (cellsVw B)) (hy:y.own w' lo hi) (hb:y.blocks=z.blocks):OwnVw w' lo hi (some ⟨g,0,none⟩) c (A++y::B):=by
 have hap:=h.apart
 simp only [List.flatMap_append,List.flatMap_cons,Value.ownBlock,Option.toList,List.singleton_append,List.nodup_cons,List.nodup_append,List.mem_append,not_or] at hap
 obtain ⟨⟨n1,n2,n3⟩,a1,⟨a2,a3,a4⟩,a5⟩:=hap
 refine ⟨?_,Nat.le_trans h.top ht.size,fun k hk=>by cases hk;exact h.blk g rfl,fun r hr=>?_,?_⟩
 ·have e:(A++y::B).length=(A++z::B).length:=by simp
  rw [e,cellsVw_app,cellsVw_cons]
  exact hrow
 ·rcases List.mem_append.1 hr with hr | hr
  ·refine SlotA.touch (h.each r (by simp [hr])) ht (fun k hk hk'=>?_)
   have hm:k∈A.flatMap SlotA.blocks:=List.mem_flatMap.2 ⟨r,hr,hk⟩
   rcases List.mem_cons.1 hk' with rfl | hk'
   ·exact n1 hm
   ·exact a5 k hm k (.inl hk') rfl
  ·rcases List.mem_cons.1 hr with rfl | hr
   ·exact hy
   ·refine SlotA.touch (h.each r (by simp [hr])) ht (fun k hk hk'=>?_)
    have hm:k∈B.flatMap SlotA.blocks:=List.mem_flatMap.2 ⟨r,hr,hk⟩
    rcases List.mem_cons.1 hk' with rfl | hk'
    ·exact n3 hm
    ·exact a4 k hk' k hm rfl
 ·have:=h.apart
  simp only [List.flatMap_append,List.flatMap_cons] at this ⊢
  rw [hb]
  exact this
theorem markVs_at (rs:List SlotA) (k:Int) (j:Nat) (h:j<rs.length):(markVs rs k).getD j zeroS=markV1 (rs.getD j zeroS) (k+countVs (rs.take j)):=by
 have e:markVs rs k=markVs (rs.take j) k++markVs (rs.drop j) (k+countVs (rs.take j)):=by rw [← markVs_app,List.take_append_drop]
 have hl:(markVs (rs.take j) k).length=j:=by rw [markVs_len,List.length_take];omega
 rw [e,(slots_splitV rs j h).1,markVs]
 simp [List.getD,hl]
theorem markSlotS_touch (lo hi:Nat) (a:Option Addr) (cap:Nat) (k0:Int) (rs:List SlotA) (w:World) (ho:OwnVw w lo hi a cap rs) (hl:∀ r∈rs,r.short 1099511627776) (h0:0≤k0) (hk:k0+countVs rs≤1152921504606846976):
  Calls Try.prog 11 #[.slice a rs.length cap,.int .i64 k0] w fun e w'=>e=.returned (.int .i64 (k0+countVs rs))∧OwnVw w' lo hi a cap (markVs rs k0)∧Touch (blocksVw a cap rs) w w':=by
 rcases ho.row.2 with ⟨hv,h00⟩ | ⟨g,cap',cur,hv,hg,hgg,hr⟩
 ·simp only [Value.slice.injEq] at hv
  obtain ⟨rfl,_,rfl⟩:=hv
  obtain rfl:=List.length_eq_zero_iff.1 h00
  go_enter Try.func11,Try.ntmps11
  go_wp2
  refine wp_loop_rounds 1 ?_
  rw [rounds_succ]
  go_wp2
  go_ret
  exact ⟨by simp [countVs],ho,Touch.refl _ _⟩
 ·simp only [Value.slice.injEq] at hv
  obtain ⟨rfl,_,rfl⟩:=hv
  have hlm:rs.length≤maxLen:=Nat.le_trans hr.1 hr.2.1
  simp only [maxLen] at hlm
  clear hgg hr
  have HH:Hid (halfVs rs k0 0=rs∧halfVs rs k0 rs.length=markVs rs k0):=⟨by simp [halfVs,markVs],by simp [halfVs]⟩
  have HST:Hid (OwnVw w lo hi (some ⟨g,0,none⟩) cap (halfVs rs k0 0)):=by rw [HH.out.1];exact ho
  have HSH:Hid (∀ j,j<rs.length→(rs.getD j zeroS).short 1099511627776):=fun j hj=>hl _ (slotD_mem rs j hj)
  have HSUB:Hid (∀ j,j<rs.length→∀ k∈g::(rs.getD j zeroS).blocks,k∈blocksVw (some ⟨g,0,none⟩) cap rs):=fun j hj k hk=>by
   rcases List.mem_cons.1 hk with rfl | hk
   ·exact List.mem_append.2 (.inl (by simp [Value.ownBlock]))
   ·exact List.mem_append.2 (.inr (List.mem_flatMap.2 ⟨_,slotD_mem rs j hj,hk⟩))
  clear ho hl
  go_enter Try.func11,Try.ntmps11
  go_wp2
  go_loopw [1,5] (fun kk i wr=>∃ j:Nat,j≤rs.length∧i=.int .i64 j∧kk=.int .i64 (k0+countVs (rs.take j))∧Hid (OwnVw wr lo hi (some ⟨g,0,none⟩) cap (halfVs rs k0 j))∧Touch (blocksVw (some ⟨g,0,none⟩) cap rs) w wr)
   (fun _ i _=>rs.length-(RowKit.intOf i).toNat)
  case atStart=>exact ⟨0,Nat.zero_le _,rfl,by simp [countVs],HST,Touch.refl _ _⟩
  case round=>
   obtain ⟨j,hj,rfl,rfl,hown,htw⟩:=hrel
   clear HST
   by_cases hlt:j<rs.length
   ·have hsh:=HSH.out j hlt
    have hsub:=HSUB.out j hlt
    have hcn:=countVs_next rs j hlt
    have hcl:=countVs_le rs (j+1)
    have ho:=hown.out
    rw [halfVs_at rs k0 j hlt] at ho
    have hlen:=halfVs_len rs k0 j hj
    rw [halfVs_at rs k0 j hlt] at hlen
    have HN:Hid (halfVs rs k0 (j+1)=_):=halfVs_next rs k0 j hlt
    have hA:(cellsVw (markVs (rs.take j) k0)).length=j*4:=by rw [cellsVw_len,markVs_len,List.length_take];congr 1;omega
    have HCN:Hid (k0+countVs (rs.take (j+1))=k0+countVs (rs.take j)+countV1 (rs.getD j zeroS)):=by rw [Hid,hcn];omega
    have hkb:0≤k0+(countVs (rs.take j):Int)∧k0+(countVs (rs.take j):Int)+countV1 (rs.getD j zeroS)≤1152921504606846976:=⟨by omega,by omega⟩
    clear hcn hcl hown hk h0
    generalize k0+(countVs (rs.take j):Int)=kk at*
    generalize markVs (rs.take j) k0=A at*
    generalize rs.drop (j+1)=B at*
    generalize rs.getD j zeroS=z at*
    have hz:z.own wr lo hi:=ho.each z (List.mem_append.2 (.inr (List.mem_cons.2 (.inl rfl))))
    have HG:Hid (g∉z.blocks):=row_apartV ho.row hz g rfl
    have HGN:Hid (g∉(Value.slice z.aI z.v.o.ints.length z.cI).ownBlock.toList∧g∉(Value.slice z.aR z.v.o.refs.length z.cR).ownBlock.toList):=by
     have:=HG.out
     simp only [SlotA.blocks,List.mem_append,not_or] at this
     exact this
    have HAP:Hid (∀ k,k∈(Value.slice z.aI z.v.o.ints.length z.cI).ownBlock.toList→k∉(Value.slice z.aR z.v.o.refs.length z.cR).ownBlock.toList):=by
     have:=SlotA.blocks_nodup hz
     simp only [SlotA.blocks,List.nodup_append] at this
     exact fun k h1 h2=>this.2.2 k h1 k h2 rfl
    have HM:Hid ((∀ k∈(Value.slice z.aI z.v.o.ints.length z.cI).ownBlock.toList,k∈g::z.blocks)∧(∀ k∈(Value.slice z.aR z.v.o.refs.length z.cR).ownBlock.toList,k∈g::z.blocks)):=⟨fun k h=>List.mem_cons.2 (.inr (List.mem_append.2 (.inl h))),fun k h=>List.mem_cons.2 (.inr (List.mem_append.2 (.inr h)))⟩
    have row:RowV wr lo g rs.length cap (cellsVw A) z.cells (cellsVw B):=by
     have:=ho.row
     rw [hlen,cellsVw_app,cellsVw_cons] at this
     exact this
    have hI:=hz.ints
    have hR:=hz.refs
    have hcz:countV1 z=2+z.v.o.ints.length+z.v.o.refs.length:=rfl
    have HGB:Hid (∀ k∈[g],k∈g::z.blocks):=fun k hk=>List.mem_cons.2 (.inl (List.mem_singleton.1 hk))
    have HNG:Hid (∀ (L:List Nat),g∉L→∀ k,k∈L→k∉[g]):=fun L hg k hk hk'=>hg (by rw [← List.mem_singleton.1 hk'];exact hk)
    clear hz
    simp only [SlotA.cells] at row
    have x0:wr.cell? ⟨g,j*4,none⟩=_:=row.cell hA rfl 0 _ rfl
    have x1:=row.cell hA rfl 1 _ rfl
    have f0:wr.frozen? ⟨g,j*4,none⟩=false:=row.frozen _
    have f1:=row.frozen (j*4+1)
    obtain ⟨a0,g0⟩:=row.set hA rfl 0 (by omega) (.bool (kk % 3 == 0))
    obtain ⟨a1,g1⟩:=a0.set hA rfl 1 (by omega) (.int .i64 (kk+1))
    have t1:Touch [g] wr _:=Touch.of_grown (grownBy_trans g0 g1) (fun k hk=>by cases hk;simp)
    obtain ⟨W1,hW1⟩:∃ W1,Hid ((wr.setCell ⟨g,j*4,none⟩ (.bool (kk % 3 == 0))).setCell ⟨g,j*4+1,none⟩ (.int .i64 (kk+1))=W1):=⟨_,rfl⟩
    have row1:RowV W1 lo g rs.length cap (cellsVw A) [.bool (kk % 3 == 0),.int .i64 (kk+1),.slice z.aI z.v.o.ints.length z.cI,.slice z.aR z.v.o.refs.length z.cR] (cellsVw B):=by rw [← hW1.out];exact a1
    have t1':Touch [g] wr W1:=by rw [← hW1.out];exact t1
    have HT:Hid (Touch (g::z.blocks) wr W1):=t1'.mono HGB.out
    have I1:=hI.keepV t1' (HNG.out _ HGN.out.1)
    have R1:=hR.keepV t1' (HNG.out _ HGN.out.2)
    clear t1 t1' hI hR row a0 a1 g0 g1
    go_upto_region 8 with fail
    rw [hW1.out]
    clear hW1 x0 x1 f0 f1
    have y2:=row1.cell hA rfl 2 _ rfl
    have C:=markIntS_touchV lo hi z.aI z.cI (kk+1+1) z.v.o.ints W1 I1 (by omega) (by omega)
    go_wp2_with fail
    refine C.mono ?_
    clear C y2
    rintro e w2 ⟨rfl,mI,t2⟩
    have row2:=row1.keep t2 HGN.out.1
    have HT2:Hid (Touch (g::z.blocks) wr w2):=HT.out.trans (t2.mono HM.out.1)
    have R2:=R1.keepV t2 (fun k hk h=>HAP.out k h hk)
    clear I1 R1 t2 row1 HT
    have y3:=row2.cell hA rfl 3 _ rfl
    have C:=markIntS_touchV lo hi z.aR z.cR (kk+1+1+z.v.o.ints.length) z.v.o.refs w2 R2 (by omega) (by omega)
    go_wp2_with fail
    refine C.mono ?_
    clear C y3
    rintro e w3 ⟨rfl,mR,t3⟩
    have row3:=row2.keep t3 HGN.out.2
    have HT3:Touch (g::z.blocks) wr w3:=HT2.out.trans (t3.mono HM.out.2)
    have mI3:=mI.keepV t3 (fun k hk h=>HAP.out k (by rw [marksI_len] at hk;exact hk) h)
    have HEND:Hid (OwnVw w3 lo hi (some ⟨g,0,none⟩) cap (halfVs rs k0 (j+1))∧Touch (blocksVw (some ⟨g,0,none⟩) cap rs) w w3):=by
     refine ⟨?_,htw.trans (HT3.mono hsub)⟩
     rw [HN.out]
     refine ho.replace HT3 ?_ ⟨mI3,mR,fun k hk hk'=>?_⟩ (markV1_blocks _ _)
     ·rw [hlen]
      simp only [markV1,SlotA.cells,marksI_len]
      exact row3
     ·have h1:(Value.slice z.aI z.v.o.ints.length z.cI).ownBlock=some k:=by
       have:=hk
       simpa only [markV1,marksI_len] using this
      have h2:(Value.slice z.aR z.v.o.refs.length z.cR).ownBlock=some k:=by
       have:=hk'
       simpa only [markV1,marksI_len] using this
      exact HAP.out k (Option.mem_toList.2 h1) (Option.mem_toList.2 h2)
    have HNUM:Hid (k0+(countVs (rs.take (j+1)):Int)=kk+1+1+z.v.o.ints.length+z.v.o.refs.length):=by rw [Hid,HCN.out,hcz];omega
    clear mI mI3 mR t3 row2 row3 HT2 HT3 ho htw R2 HCN HN
    go_wp2_with fail
    go_roundw
    case rel=>exact ⟨j+1,by omega,by go_num,by rw [HNUM.out],HEND.out.1,HEND.out.2⟩
    case measure=>simp [RowKit.intOf];omega
   ·have HE:Hid (OwnVw wr lo hi (some ⟨g,0,none⟩) cap (markVs rs k0)∧k0+(countVs (rs.take j):Int)=k0+countVs rs):=by
     have e:j=rs.length:=by omega
     have:=hown.out
     rw [e,HH.out.2] at this
     exact ⟨this,by rw [e,List.take_length]⟩
    rw [HE.out.2]
    go_wp2
    go_ret
    exact ⟨rfl,HE.out.1,htw⟩
theorem heldSlotS_any (a:Option Addr) (cap:Nat) (k0:Int) (rs:List SlotA) (w:World) (hr:ReadsVw w a (markVs rs k0)) (h0:0≤k0) (hk:k0+countVs rs≤1152921504606846976) (hlm:rs.length≤9223372036854775807):
  Calls Try.prog 12 #[.slice a rs.length cap,.int .i64 k0] w fun e w'=>e=.returned (.int .i64 (k0+countVs rs))∧w'=w:=by
 have hml:=markVs_len rs k0
 rcases hr.cases with h | ⟨b,off,rfl,hpos,hcell⟩
 ·have h':=congrArg List.length h
  rw [hml] at h'
  obtain rfl:=List.length_eq_zero_iff.1 h'
  go_enter Try.func12,Try.ntmps12
  go_wp2
  refine wp_loop_rounds 1 ?_
  rw [rounds_succ]
  go_wp2
  go_ret
  exact ⟨by simp [countVs],rfl⟩
 ·rw [hml] at hpos hcell
  go_enter Try.func12,Try.ntmps12
  go_wp2
  go_loop [1,5] (fun kk i=>∃ j:Nat,j≤rs.length∧i=.int .i64 j∧kk=.int .i64 (k0+countVs (rs.take j))) (fun _ i=>rs.length-(RowKit.intOf i).toNat)
  case atStart=>exact ⟨0,Nat.zero_le _,rfl,by simp [countVs]⟩
  case round=>
   obtain ⟨j,hj,rfl,rfl⟩:=hrel
   by_cases hlt:j<rs.length
   ·obtain ⟨hc,hrd⟩:=hcell j hlt
    have hcn:=countVs_next rs j hlt
    have hcl:=countVs_le rs (j+1)
    rw [markVs_at rs k0 j hlt] at hc hrd
    have HCN:Hid (k0+countVs (rs.take (j+1))=k0+countVs (rs.take j)+countV1 (rs.getD j zeroS)):=by rw [Hid,hcn];omega
    have hkb:0≤k0+(countVs (rs.take j):Int)∧k0+(countVs (rs.take j):Int)+countV1 (rs.getD j zeroS)≤1152921504606846976:=⟨by omega,by omega⟩
    clear hcn hcl hk h0 hcell hpos hr hml
    generalize k0+(countVs (rs.take j):Int)=kk at*
    generalize rs.getD j zeroS=z at*
    have hcz:countV1 z=2+z.v.o.ints.length+z.v.o.refs.length:=rfl
    have x0:w.cell? ⟨b,off+j*4,none⟩=some (.bool (kk % 3 == 0)):=hc 0 _ rfl
    have x1:w.cell? ⟨b,off+j*4+1,none⟩=some (.int .i64 (kk+1)):=hc 1 _ rfl
    have x2:w.cell? ⟨b,off+j*4+2,none⟩=some (.slice z.aI z.v.o.ints.length z.cI):=(hc 2 _ rfl).trans (by simp only [markV1,marksI_len])
    have x3:w.cell? ⟨b,off+j*4+3,none⟩=some (.slice z.aR z.v.o.refs.length z.cR):=(hc 3 _ rfl).trans (by simp only [markV1,marksI_len])
    have C1:=heldIntS_any z.aI z.cI (kk+1+1) z.v.o.ints.length w (ReadsO.ints hrd) (by omega) (by omega)
    have C2:=heldIntS_any z.aR z.cR (kk+1+1+z.v.o.ints.length) z.v.o.refs.length w (ReadsO.refs hrd) (by omega) (by omega)
    have HNUM:Hid (k0+(countVs (rs.take (j+1)):Int)=kk+1+1+z.v.o.ints.length+z.v.o.refs.length):=by rw [Hid,HCN.out,hcz];omega
    clear hc hrd HCN
    go_wp2_with fail
    refine C1.mono ?_
    clear C1 x0 x1 x2
    rintro e w1 ⟨rfl,h1⟩
    rw [h1]
    clear h1 w1
    go_wp2_with fail
    refine C2.mono ?_
    clear C2 x3
    rintro e w1 ⟨rfl,h1⟩
    rw [h1]
    clear h1 w1
    go_wp2_with fail
    go_round
    case rel=>exact ⟨j+1,by omega,by go_num,by rw [HNUM.out]⟩
    case measure=>simp [RowKit.intOf];omega
   ·have HE:Hid (k0+(countVs (rs.take j):Int)=k0+countVs rs):=by
     have e:j=rs.length:=by omega
     rw [Hid,e,List.take_length]
    rw [HE.out]
    go_wp2
    go_ret
    exact ⟨rfl,rfl⟩
end Go.Proofs.Ytfehemepdoomdaa
namespace Go.Proofs.Ytfehemepdoomdaa
open Go.RowKit
def oidsTo (k:Nat):List Value:=(List.range 31).map (fun i=>Value.int .i64 (if i<k then (i:Int)+1 else 0))
theorem oidsTo_at (k i:Nat) (hi:i<31):(oidsTo k)[i]? =some (Value.int .i64 (if i<k then (i:Int)+1 else 0)):=by
 unfold oidsTo
 rw [List.getElem?_map,List.getElem?_range hi]
 rfl
theorem oidsTo_set (k:Nat):(oidsTo k).set k (Value.int .i64 ((k:Int)+1))=oidsTo (k+1):=by
 apply List.ext_getElem?
 intro i
 by_cases hi:i<31
 ·rw [oidsTo_at (k+1) i hi,List.getElem?_set]
  by_cases h:k=i
  ·subst h
   rw [if_pos rfl,if_pos (by simp [oidsTo];exact hi),if_pos (by omega)]
  ·rw [if_neg h,oidsTo_at k i hi]
   by_cases h2:i<k
   ·rw [if_pos h2,if_pos (by omega)]
   ·rw [if_neg h2,if_neg (by omega)]
 ·rw [List.getElem?_eq_none (by simp [oidsTo];omega),List.getElem?_eq_none (by simp [oidsTo];omega)]
theorem allOids_any (w:World):
  Calls Try.prog 25 #[] w fun r w'=>r=.returned (.slice (some ⟨w.heap.size,0,none⟩) 31 31)∧Box w' w.heap.size (oidsTo 31) 3∧Below w.heap.size w w':=by
 obtain ⟨i0,hi,hz0,hz1,hz2⟩:=info_parts Try.infoInt
 go_enter Try.func25,Try.ntmps25
 go_wp2_with (at_make;refine wpList_make_full _ rfl _ _ 22 rfl w.heap.size 3 i0 (.int .i64 0) 1 Try.underlying22 hi hz0 hz1 _ _ _ _ 31 rfl rfl rfl rfl (by rw [hz2];omega) (by simp [maxLen]) (Nat.le_refl _) ?_)
 intro w0 hown0 hgrow0
 have hb0:Below w.heap.size w w0:=(Below.refl _ _).grown hgrow0 (Nat.le_refl _) (fun k h=>by cases h)
 have b0:Box w0 w.heap.size (oidsTo 0) 3:=by
  obtain ⟨hlen,hcase⟩:=hown0
  rcases hcase with ⟨hv,_⟩ | ⟨g,cap',cur,hv,hg,hgg,hn,hm,hcs,htk⟩
  ·cases hv
  simp only [Value.slice.injEq,Option.some.injEq,Addr.mk.injEq,and_true,true_and] at hv
  obtain ⟨rfl,rfl⟩:=hv
  have hcl:cur.toList.length≤31*1:=by rw [Array.length_toList,hcs];exact Nat.le_refl _
  rw [List.take_of_length_le hcl] at htk
  have he:cur.toList=oidsTo 0:=by
   rw [htk]
   show (madeCells #[Value.int .i64 0] 31).toList=oidsTo 0
   kernel_rfl
  unfold Box
  rw [hgg,← he]
 clear hown0 hgrow0
 go_wp2
 go_loopw [6] (fun i wr=>∃ k:Nat,i=.int .i64 k∧k≤31∧Hid (Box wr w.heap.size (oidsTo k) 3)∧Below w.heap.size w wr) (fun i _=>31-(RowKit.intOf i).toNat)
 case atStart=>exact ⟨0,rfl,by omega,b0,hb0⟩
 case round=>
  obtain ⟨k,rfl,hk,bx,hb⟩:=hrel
  clear b0 hb0
  by_cases hlt:k<31
  ·have hk31:(k:Int)<31:=by omega
   have hc:=bx.out.cell k _ (oidsTo_at k k hlt)
   have hf:=bx.out.frozen k
   obtain ⟨W1,hW1,b1,hw1,hs1⟩:=box_set bx.out k (.int .i64 ((k:Int)+1))
   rw [oidsTo_set] at b1
   have hb1:Below w.heap.size w W1:=hb.trans (hw1.below (Nat.le_refl _) hb.size)
   clear bx hw1 hs1
   go_wp2
   rw [hW1.out]
   go_roundw
   case rel=>exact ⟨k+1,by go_num,by omega,b1,hb1⟩
   case measure=>simp [RowKit.intOf];omega
  ·have hke:k=31:=by omega
   subst hke
   go_wp2
   go_ret
   exact ⟨rfl,bx.out,hb⟩
end Go.Proofs.Ytfehemepdoomdaa