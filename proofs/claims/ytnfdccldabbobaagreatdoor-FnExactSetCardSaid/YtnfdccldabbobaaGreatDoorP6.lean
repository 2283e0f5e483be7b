/- Texts. -/
import Derived.Deep.AppendLies
import Derived.Test.YtnfdccldabbobaaGreatDoorP3
set_option maxHeartbeats 8000000
set_option maxRecDepth 100000
namespace Go.Proofs.YtnfdccldabbobaaGreatDoor
open Go.RowKit Go.Proofs.Tryz
theorem Y3 {w:World} (ty:TypeId) (lo hi:Nat) (a:Option Addr) (c:Nat) (xs:List Int) (hown:kD w lo hi a c xs)
  (sa:Option Addr) (sc:Nat) (zs:List Int) (hr:xH w sa zs) (hc:sa=none→sc=0) (hb:xs.length+zs.length≤1099511627776) (hlo:lo≤w.heap.size):
  ∃ a' c' ys w',(Builtin.append_ #[22,22] ty #[.slice a xs.length c,.slice sa zs.length sc]).run prog w=.ok (.slice a' ys.length c') w'∧Hid (ys=xs++zs)∧kD w' lo w'.heap.size a' c' ys∧w.grownBy w' (Value.slice a xs.length c).ownBlock∧
   (∀ k,(Value.slice a' ys.length c').ownBlock=some k→(Value.slice a xs.length c).ownBlock=some k∨k=w.heap.size):=by
 obtain ⟨i0,hi0,hz0,hz1,hz2⟩:=qft Tryz.NH;cases sa with
 | none=>
  have hz:zs=[]:=by
   by_cases e:zs=[]
   ·exact e
   ·obtain ⟨b,off,hh,_⟩:=hr e;cases hh
  subst hz;have:=hc rfl;subst this;refine ⟨a,c,xs,w,run_append_owned_none (P:=prog) (w:=w) lo 22 ty 3 i0 1 underlying22 hi0 _ _ _ hown.1,(by simp [Hid]),⟨hown.1,qcN _,fun k hk=>(hown.1.lt k hk).2⟩,qeR _ _,fun k hk=>.inl hk⟩
 | some ad=>
  obtain ⟨v',w',h1,h2,h3,_,h5⟩:=run_append_own_at (P:=prog) w lo 22 ty 3 i0 (.int .i64 0) 1 8 underlying22 hi0 hz0 hz1 hz2 rfl (by decide) _ _ _ hown.1 ad zs.length sc (zs.map (Value.int .i64)) (by simp) (by
   intro j u hj;have hjl:j<zs.length:=by
    by_cases e:j<zs.length
    ·exact e
    ·simp [List.getElem?_eq_none (Nat.le_of_not_lt e)] at hj
   have hne:zs≠[]:=by intro e;simp [e] at hjl
   obtain ⟨b,off,hh,hcell⟩:=hr hne;cases hh;rw [zI,hcell j hjl]
   simpa [hjl] using hj) (ints_oneCell _ _) (by simp only [maxLen];omega) (by omega) hlo
  rw [← qdd,← qai] at h2;have sh:∃ a' c',v'=.slice a' (xs++zs).length c':=by
   rcases h2.2 with ⟨rfl,h0⟩ | ⟨g,cap,cur,rfl,_⟩
   ·exact ⟨none,0,by rw [h0]⟩
   ·exact ⟨_,_,rfl⟩
  obtain ⟨a',c',rfl⟩:=sh;refine ⟨a',c',xs++zs,w',h1,rfl,⟨h2,qcN _,fun k hk=>(h2.lt k hk).2⟩,h3,fun k hk=>?_⟩;rcases h5 with h5 | h5
  ·exact .inl (by rw [← h5];exact hk)
  ·rw [h5] at hk;exact .inr (qfb hk).symm
theorem Yu {w:World} {ops:Array Oper} {o:Oper} {act:Act} {K:Act→World→Prop} {Q:Exit→Act→World→Prop} {E:Prop} (hgd:o.guard=none) (s x:Operand)
  (ho:o.op=.call { callee:=.builtin .append,args:=#[s,x],argTypes:=#[22,22] })
  (lo hi:Nat) (a:Option Addr) (c:Nat) (xs:List Int) (hs:act.eval s=.slice a xs.length c) (hown:kD w lo hi a c xs)
  (sa:Option Addr) (sc:Nat) (zs:List Int) (hx:act.eval x=.slice sa zs.length sc) (hr:xH w sa zs) (hc:sa=none→sc=0)
  (hb:xs.length+zs.length≤1099511627776) (hlo:lo≤w.heap.size)
  (h:∀ a' c' ys w',Hid (ys=xs++zs)→kD w' lo w'.heap.size a' c' ys→w.grownBy w' (Value.slice a xs.length c).ownBlock→
   (∀ k,(Value.slice a' ys.length c').ownBlock=some k→(Value.slice a xs.length c).ownBlock=some k∨k=w.heap.size)→K (act.put o.dst (.slice a' ys.length c')) w'):
  if Region.wanted o (yielded ops act.tmps)=true then Oper.wp prog o act w K Q else E:=by
 have hw:Region.wanted o (yielded ops act.tmps)=true:=by simp [Region.wanted,hgd]
 rw [qan hw];obtain ⟨a',c',ys,w',hrun,h1,h2,h3,h4⟩:=Y3 (w:=w) o.type lo hi a c xs hown sa sc zs hr hc hb hlo;unfold Oper.wp execOp;simp only [ho,resolve,invoke,builtin,qdq,qeJ,qdf,qe8,qdG,qfe,hs,hx,hrun];exact h a' c' ys w' h1 h2 h3 h4
theorem Box.grown {w w':World} {C B:Nat} {vs:List Value} {t:TypeId} (h:Box w C vs t) (hg:w.grownBy w' (some B)) (hne:C≠B):Box w' C vs t:=h.block (hg.block C h.lt (fun e=>hne (qfb e)))
theorem vH {W w':World} (h:qa W w') (o:Obj):qa W (w'.alloc o):=h.alloc h.size o
theorem blG {W w' w2:World} {g:Nat} (h:qa W w') (hg:w'.grownBy w2 (some g)) (hn:W.heap.size≤g):qa W w2:=h.grown hg h.size (fun k e=>by cases e;exact hn)
theorem PO {w:World} {g lo:Nat} (h:Box w g [] 3) (hlo:lo≤g):kD w lo w.heap.size (some ⟨g,0,none⟩) 0 []:=
 ⟨⟨by simp,.inr ⟨g,0,#[],rfl,hlo,h,qcN _,by simp [maxLen],rfl,rfl⟩⟩,qcN _,fun k hk=>by cases hk;exact h.lt⟩
theorem eX (o:yo) (aI:Option Addr) (cI:Nat) (aR:Option Addr) (cR:Nat) (w:World) (hr:jd w aI cI aR cR o) (KR:o.ints.length≤1099511627776) (J8:o.refs.length≤1099511627776):
  Calls prog 116 #[.agg #[.int .i64 o.kind,.slice aI o.ints.length cI,.slice aR o.refs.length cR]] w fun e w'=>∃ EL EM EN cR',e=.returned (.agg #[.int .i64 o.kind,.slice EL o.ints.length EM,.slice EN o.refs.length cR'])∧
   OwnO w' w.heap.size w'.heap.size EL EM EN cR' o∧qa w w':=by
 obtain ⟨k,ints,refs⟩:=o;obtain ⟨hI,hR,hni,hnr⟩:=hr;simp only at*
 obtain ⟨W,hW,b0,b1,hbW,qD⟩:=jK w [.int .i64 k,.slice aI ints.length cI,.slice aR refs.length cR] [.int .i64 0,.slice none 0 0,.slice none 0 0] 43 43;have hI':=hI.below hbW;have hR':=hR.below hbW;have mq:w.heap.size+1<W.heap.size:=by omega
 clear qD hI hR;go_enter func116,ntmps116;go_wp2_with fail;rw [hW.out];clear hW;have hkeep:∀ w'',qa W w''→Box w'' w.heap.size [.int .i64 k,.slice aI ints.length cI,.slice aR refs.length cR] 43∧Box w'' (w.heap.size+1) [.int .i64 0,.slice none 0 0,.slice none 0 0] 43:=
  fun w'' hh=>⟨b0.below hh b0.lt,b1.below hh b1.lt⟩
 have hcells:∀ w'',qa W w''→(w''.cell? ⟨w.heap.size,0,none⟩=some (.int .i64 k)∧w''.cell? ⟨w.heap.size,1,none⟩=some (.slice aI ints.length cI)∧w''.cell? ⟨w.heap.size,2,none⟩=some (.slice aR refs.length cR))∧(w''.cell? ⟨w.heap.size+1,0,none⟩=some (.int .i64 0)∧w''.cell? ⟨w.heap.size+1,1,none⟩=some (.slice none 0 0)∧w''.cell? ⟨w.heap.size+1,2,none⟩=some (.slice none 0 0))∧(w''.frozen? ⟨w.heap.size+1,0,none⟩=false∧w''.frozen? ⟨w.heap.size+1,1,none⟩=false∧w''.frozen? ⟨w.heap.size+1,2,none⟩=false):=by
  intro w'' hh;obtain ⟨ba,bb⟩:=hkeep w'' hh;exact ⟨⟨ba.cell 0 _ rfl,ba.cell 1 _ rfl,ba.cell 2 _ rfl⟩,⟨bb.cell 0 _ rfl,bb.cell 1 _ rfl,bb.cell 2 _ rfl⟩,bb.frozen 0,bb.frozen 1,bb.frozen 2⟩
 have hh:=hcells W (qab _ _);have q1:Box (W.drew.alloc (.cells #[] 3)) W.heap.size [] 3:=wF W.drew [] _;have q2a:Box ((W.drew.alloc (.cells #[] 3)).alloc (.cells #[] 3)) W.heap.size [] 3:=(wF W.drew [] _).alloc _;have q2b:Box ((W.drew.alloc (.cells #[] 3)).alloc (.cells #[] 3)) (W.heap.size+1) [] 3:=by
  have:=wF (W.drew.alloc (.cells #[] 3)) [] 3
  simpa using this
 have Q1:Hid (_∧_∧_):=⟨q1,q2a,q2b⟩;clear q1 q2a q2b;have HK:Hid _:=hkeep;have HC:Hid _:=hcells;have hne:¬ (w.heap.size=w.heap.size+1):=by omega
 have HNI:Hid _:=hni;have HNR:Hid _:=hnr;clear hkeep hcells b0 b1 hni hnr
 go_region_held3 (fun w''=>w''.cell? ⟨w.heap.size,0,none⟩=some (.int .i64 k)∧w''.cell? ⟨w.heap.size,1,none⟩=some (.slice aI ints.length cI)∧w''.cell? ⟨w.heap.size,2,none⟩=some (.slice aR refs.length cR))
  (first | exact (HC.out _ (by first | exact hb2 | exact hb1 | exact vH hb2 _ | exact vH hb1 _ | exact (qab _ _).drew | exact vH (qab _ _).drew _ | exact vH (vH (qab _ _).drew _) _ | fail)).1 | exact ⟨((((HK.out _ (by first | exact hb2 | exact hb1 | fail)).1.other hne).other hne).other hne).cell 0 _ rfl,((((HK.out _ (by first | exact hb2 | exact hb1 | fail)).1.other hne).other hne).other hne).cell 1 _ rfl,((((HK.out _ (by first | exact hb2 | exact hb1 | fail)).1.other hne).other hne).other hne).cell 2 _ rfl⟩ | go_keep | fail)
  ((first
   | (refine Yu rfl (.tmp 5) (.tmp 7) (by rfl) (w.heap.size+1+1) _ _ _ [] (by rfl) (PO (by first | exact Q1.out.1 | exact Q1.out.2.1 | exact Q1.out.2.2 | assumption | exact (Q1.out.2.2).grown hg1 (by dsimp only;omega) | exact (Q1.out.2.1).grown hg1 (by dsimp only;omega) | exact wF _ [] _ | fail) (by first | omega | (have:=hb1.size;omega))) aI cI ints (by rfl) (hI'.below (by first | exact hb2 | exact hb1 | exact vH hb2 _ | exact vH hb1 _ | exact (qab _ _).drew | exact vH (qab _ _).drew _ | exact vH (vH (qab _ _).drew _) _ | fail)) HNI.out (by simp only [qdo];omega) (qcx (by omega) (Below.size (B:=W.heap.size) (w:=W) (by first | exact hb2 | exact hb1 | exact vH hb2 _ | exact vH hb1 _ | exact (qab _ _).drew | exact vH (qab _ _).drew _ | exact vH (vH (qab _ _).drew _) _ | fail))) ?_;intro a1 c1 y1 u1 hy1 Yv hg1 qeA;have HA1:Hid _:=qeA;clear qeA;have UJ:ints=y1:=(by simpa using hy1.out.symm);subst UJ;have hb1:=blG (W:=W) (by first | exact hb2 | exact hb1 | exact vH hb2 _ | exact vH hb1 _ | exact (qab _ _).drew | exact vH (qab _ _).drew _ | exact vH (vH (qab _ _).drew _) _ | fail) hg1 (by dsimp only;omega))
   | (refine Yu rfl (.tmp 9) (.tmp 11) (by rfl) (w.heap.size+1+1) _ _ _ [] (by rfl) (PO (by first | exact Q1.out.1 | exact Q1.out.2.1 | exact Q1.out.2.2 | assumption | exact (Q1.out.2.2).grown hg1 (by dsimp only;omega) | exact (Q1.out.2.1).grown hg1 (by dsimp only;omega) | exact wF _ [] _ | fail) (by first | omega | (have:=hb1.size;omega))) aR cR refs (by rfl) (hR'.below (by first | exact hb2 | exact hb1 | exact vH hb2 _ | exact vH hb1 _ | exact (qab _ _).drew | exact vH (qab _ _).drew _ | exact vH (vH (qab _ _).drew _) _ | fail)) HNR.out (by simp only [qdo];omega) (qcx (by omega) (Below.size (B:=W.heap.size) (w:=W) (by first | exact hb2 | exact hb1 | exact vH hb2 _ | exact vH hb1 _ | exact (qab _ _).drew | exact vH (qab _ _).drew _ | exact vH (vH (qab _ _).drew _) _ | fail))) ?_;intro a2 c2 y2 u2 hy2 hO2 hg2 qeB;have HA2:Hid _:=qeB;clear qeB;have UJ:refs=y2:=(by simpa using hy2.out.symm);subst UJ;have hb2:=blG (W:=W) (by first | exact hb2 | exact hb1 | exact vH hb2 _ | exact vH hb1 _ | exact (qab _ _).drew | exact vH (qab _ _).drew _ | exact vH (vH (qab _ _).drew _) _ | fail) hg2 (by dsimp only;first | omega | (have:=hb1.size;omega));obtain ⟨⟨m0,m1,m2⟩,⟨n0,n1,n2⟩,e0,e1,e2⟩:=HC.out _ hb2) | fail))
 all_goals
  have qlz:kD u2 (w.heap.size+1+1) u2.heap.size a1 c1 ints:=by
   first
   | exact (Yv.kept hg2 (fun k hk e=>by have h1:=HA1.out k hk;have h2:=(Yv.lt k hk).2;simp [Value.ownBlock] at h1 e;omega)).widen qg hg2.size qg
   | exact ((Yv.below ((qab _ _).alloc qg _)).kept hg2 (fun k hk e=>by have h2:=(Yv.lt k hk).2;simp [Value.ownBlock] at e;omega)).widen qg (qcx (by simp) hg2.size) qg
   | fail
  have hap:∀ k,(Value.slice a1 ints.length c1).ownBlock=some k→(Value.slice a2 refs.length c2).ownBlock≠some k:=by
   intro k hk hk';have h1:=HA1.out k hk;have h2:=HA2.out k hk';have h3:=(Yv.lt k hk).2;simp [Value.ownBlock] at h1 h2;omega
  obtain ⟨WF,qK,bF,hwF,q8⟩:=EO (HK.out _ hb2).2 (.int .i64 k) (.slice a1 ints.length c1) (.slice a2 refs.length c2);clear HA1 HA2 hg1 hg2 Q1 hb1 Yv;rw [qK.out];go_wp2;obtain ⟨q0,q1,q2,_,_,_⟩:=bF.three;have hs2:=hb2.size;have ER:OwnO WF (w.heap.size+1+1) u2.heap.size a1 c1 a2 c2 ⟨k,ints,refs⟩:=(⟨qlz,hO2,hap⟩:OwnO u2 (w.heap.size+1+1) u2.heap.size a1 c1 a2 c2 ⟨k,ints,refs⟩).within hwF (.inr (by omega));exact qa3 (v:=.agg #[.int .i64 k,.slice a1 ints.length c1,.slice a2 refs.length c2]) (by simp [results,results116,go_sem,q0,q1,q2]) rfl ⟨a1,c1,a2,c2,rfl,ER.widen (by omega) (by omega) qg,(hbW.trans (hb2.mono (by omega))).trans (hwF.below (by omega) (by omega))⟩
theorem Y4 (v x:Value) (L:List Value) (i:Nat):(v::L).set (1+i) x=v::L.set i x:=by rw [Nat.add_comm,qe3]
theorem VG {w:World} {B:Nat} {v:Value} {ss:List qj} {ty:TypeId} (b:Box w B (v::cellsS ss) ty) (k:Nat) (hk:k<ss.length) (t:qj):
  ∃ W,Hid ((((w.setCell ⟨B,1+k*4,none⟩ (.bool t.v.has)).setCell ⟨B,1+k*4+1,none⟩ (.int .i64 t.v.o.kind)).setCell ⟨B,1+k*4+2,none⟩ (.slice t.aI t.v.o.ints.length t.cI)).setCell ⟨B,1+k*4+3,none⟩ (.slice t.aR t.v.o.refs.length t.cR)=W)∧Box W B (v::cellsS (ss.set k t)) ty∧Within B (B+1) w W∧W.heap.size=w.heap.size:=by
 refine ⟨_,rfl,?_,?_,?_⟩
 ·have:=(((b.set (1+k*4) (.bool t.v.has)).set (1+k*4+1) (.int .i64 t.v.o.kind)).set (1+k*4+2) (.slice t.aI t.v.o.ints.length t.cI)).set (1+k*4+3) (.slice t.aR t.v.o.refs.length t.cR);rw [Nat.add_assoc,Nat.add_assoc 1 (k*4) 2,Nat.add_assoc 1 (k*4) 3,Y4,Y4,Y4,Y4,GD ss k hk t] at this;rw [Nat.add_assoc,Nat.add_assoc 1 (k*4) 2,Nat.add_assoc 1 (k*4) 3];exact this
 ·exact (((jL w B _ _ (by omega)).trans (jL _ B _ _ (by omega))).trans (jL _ B _ _ (by omega))).trans (jL _ B _ _ (by omega))
 ·simp
theorem qP.set {w:World} {lo mid mid' hi:Nat} {ss:List qj} {t:qj} (h:qP w lo mid ss) (k:Nat) (ht:t.own w mid' hi) (h1:lo≤mid') (h2:mid≤mid') (h3:mid'≤hi):qP w lo hi (ss.set k t):=by
 have hhi:hi≤w.heap.size:=ht.ints.2.1;refine ⟨fun s hs=>?_,?_⟩
 ·rcases qcV hs with h' | rfl
  ·exact OwnO.widen (h.each s h') qg (by omega) hhi
  ·exact OwnO.widen ht h1 qg hhi
 ·have hb:=qj.qC ht;have hn:=qj.Q3 ht;have hl:=h.qC;have ha:=h.apart;clear h ht
  induction ss generalizing k with
  | nil=>exact ha
  | cons s r ih=>
   rw [qaY,qav] at ha;cases k with
   | zero=>
    rw [qdL,qaY,qav];refine ⟨hn,ha.2.1,fun a ha' b hb' e=>?_⟩;have h5:=(hb a ha').1;have h6:=(hl b (by rw [qaY];exact qaa.2 (.inr hb'))).2;omega
   | succ k=>
    rw [qe3,qaY,qav];refine ⟨ha.1,ih k (fun x hx=>hl x (by rw [qaY];exact qaa.2 (.inr hx))) ha.2.1,fun a ha' b hb' e=>?_⟩;subst e;obtain ⟨x,hx,hbx⟩:=qag.1 hb';rcases qcV hx with h' | rfl
    ·exact ha.2.2 a ha' a (qag.2 ⟨x,h',hbx⟩) rfl
    ·have h5:=(hb a hbx).1;have h6:=(hl a (by rw [qaY];exact qaa.2 (.inl ha'))).2;omega
theorem uB (s:qj) (w:World) (hr:s.reads w) (KR:s.v.o.ints.length≤1099511627776) (J8:s.v.o.refs.length≤1099511627776):
  Calls prog 68 #[.agg s.cells.toArray] w fun e w'=>∃ t:qj,e=.returned (.agg t.cells.toArray)∧Hid (t.v=s.v)∧t.own w' w.heap.size w'.heap.size∧qa w w':=by
 obtain ⟨⟨h,⟨k,ints,refs⟩⟩,aI,cI,aR,cR⟩:=s;simp only [qj.cells,qj.reads,qj.own] at*
 obtain ⟨W,hW,b0,b1,hbW,qD⟩:=jK w [.bool h,.int .i64 k,.slice aI ints.length cI,.slice aR refs.length cR] [.bool false,.int .i64 0,.slice none 0 0,.slice none 0 0] 45 45;have hr':=hr.below hbW;have mq:w.heap.size+1<W.heap.size:=by omega
 clear qD;have HC:Hid (∀ w'',qa W w''→w''.cell? ⟨w.heap.size,0,none⟩=some (.bool h)∧w''.cell? ⟨w.heap.size,1,none⟩=some (.int .i64 k)∧w''.cell? ⟨w.heap.size,2,none⟩=some (.slice aI ints.length cI)∧w''.cell? ⟨w.heap.size,3,none⟩=some (.slice aR refs.length cR)):=by
  intro w'' hh;have ba:=b0.below hh b0.lt;exact ⟨ba.cell 0 _ rfl,ba.cell 1 _ rfl,ba.cell 2 _ rfl,ba.cell 3 _ rfl⟩
 have HB:Hid (∀ w'',qa W w''→Box w'' w.heap.size [.bool h,.int .i64 k,.slice aI ints.length cI,.slice aR refs.length cR] 45∧Box w'' (w.heap.size+1) [.bool false,.int .i64 0,.slice none 0 0,.slice none 0 0] 45):=fun w'' hh=>⟨b0.below hh b0.lt,b1.below hh b1.lt⟩
 have hh:=HC.out W (qab _ _);have hne:¬ (w.heap.size=w.heap.size+1):=by omega
 clear b0 b1;go_enter func68,ntmps68;go_wp2_with fail;rw [hW.out];clear hW
 go_region_held3 (fun w''=>w''.cell? ⟨w.heap.size,0,none⟩=some (.bool h)∧w''.cell? ⟨w.heap.size,1,none⟩=some (.int .i64 k)∧w''.cell? ⟨w.heap.size,2,none⟩=some (.slice aI ints.length cI)∧w''.cell? ⟨w.heap.size,3,none⟩=some (.slice aR refs.length cR))
  (first | exact HC.out _ hB1 | exact HC.out _ (qab _ _).drew | exact ⟨(((((HB.out _ (by first | exact hB1 | fail)).1.other hne).other hne).other hne).other hne).cell 0 _ rfl,(((((HB.out _ (by first | exact hB1 | fail)).1.other hne).other hne).other hne).other hne).cell 1 _ rfl,(((((HB.out _ (by first | exact hB1 | fail)).1.other hne).other hne).other hne).other hne).cell 2 _ rfl,(((((HB.out _ (by first | exact hB1 | fail)).1.other hne).other hne).other hne).other hne).cell 3 _ rfl⟩ | go_keep | fail)
  (first
  | (go_at_call 116;refine (eX ⟨k,ints,refs⟩ aI cI aR cR _ hr'.drew KR J8).mono ?_;rintro e u1 ⟨a1,c1,a2,c2,rfl,ho1,hb1⟩;have hB1:qa W u1:=((qab _ _).drew).trans hb1;obtain ⟨m0,m1,m2,m3,e0,e1,e2,e3⟩:=(HB.out _ hB1).2.four)
  | fail)
 obtain ⟨WF,qK,bF,hwF,q8⟩:=Y5 (HB.out _ hB1).2 (.bool h) (.int .i64 k) (.slice a1 ints.length c1) (.slice a2 refs.length c2);have qeC:W.heap.size≤u1.heap.size:=hB1.size;have hO:OwnO u1 W.heap.size u1.heap.size a1 c1 a2 c2 ⟨k,ints,refs⟩:=ho1;have ER:OwnO WF W.heap.size u1.heap.size a1 c1 a2 c2 ⟨k,ints,refs⟩:=hO.within hwF (.inr (by omega));have KT:Hid (qa w WF):=(hbW.trans (hB1.mono (by omega))).trans (hwF.below (by omega) (by omega));rw [qK.out];clear hwF ho1 hO;go_wp2;obtain ⟨q0,q1,q2,q3,_⟩:=bF.four;exact qa3 (v:=.agg #[.bool h,.int .i64 k,.slice a1 ints.length c1,.slice a2 refs.length c2]) (by simp [results,results68,go_sem,q0,q1,q2,q3]) rfl ⟨⟨⟨h,⟨k,ints,refs⟩⟩,a1,c1,a2,c2⟩,rfl,rfl,ER.widen (by omega) (by omega) qg,KT.out⟩
theorem Ye (p:qA) (h4:p.ss.length=4) (w:World) (hr:jS w p.ss) (hl:Fit p.ss):
  Calls prog 64 #[.agg p.cells.toArray] w fun e w'=>∃ ts:List qj,e=.returned (.agg (qA.cells ⟨p.lsn,ts⟩).toArray)∧Hid (ts.map (·.v)=p.ss.map (·.v))∧qP w' w.heap.size w'.heap.size ts∧qa w w':=by
 obtain ⟨n,ss⟩:=p;simp only [qA.cells] at*
 obtain ⟨W,hW,b0,b1,b2,hbW,qD⟩:=yK w (.int .i64 n::cellsS ss) [.int .i64 0,.bool false,.int .i64 0,.slice none 0 0,.slice none 0 0,.bool false,.int .i64 0,.slice none 0 0,.slice none 0 0,.bool false,.int .i64 0,.slice none 0 0,.slice none 0 0,.bool false,.int .i64 0,.slice none 0 0,.slice none 0 0] [.int .i64 n,.bool false,.int .i64 0,.slice none 0 0,.slice none 0 0,.bool false,.int .i64 0,.slice none 0 0,.slice none 0 0,.bool false,.int .i64 0,.slice none 0 0,.slice none 0 0,.bool false,.int .i64 0,.slice none 0 0,.slice none 0 0] 48 48 48;have b1':Box W (w.heap.size+1) ([]++((.int .i64 0::cellsS Kh)++[])) 48:=b1;have b2':Box W (w.heap.size+1+1) (.int .i64 n::cellsS ([]++List.replicate (4-0) qw)) 48:=b2;have sP:w.heap.size+1+1<W.heap.size:=by omega
 have hc0:(((w.alloc (.cells (.int .i64 n::cellsS ss).toArray 48)).alloc (.cells #[.int .i64 0,.bool false,.int .i64 0,.slice none 0 0,.slice none 0 0,.bool false,.int .i64 0,.slice none 0 0,.slice none 0 0,.bool false,.int .i64 0,.slice none 0 0,.slice none 0 0,.bool false,.int .i64 0,.slice none 0 0,.slice none 0 0] 48))).cell? ⟨w.heap.size,0,none⟩=some (.int .i64 n):=((wF w (.int .i64 n::cellsS ss) 48).alloc _).cell 0 _ rfl;have H4:Hid (ss.length=4):=h4;clear b1 b2 qD h4;go_enter func64,ntmps64;go_wp2_with fail;rw [hW.out];clear hW hc0;go_loopw [4] (fun i wr=>∃ (k:Nat) (ts:List qj),i=.int .i64 k∧k≤4∧Hid (ts.length=k∧ts.map (·.v)=(ss.take k).map (·.v))∧qP wr W.heap.size wr.heap.size ts∧Box wr (w.heap.size+1+1) (.int .i64 n::cellsS (ts++List.replicate (4-k) qw)) 48∧Below (w.heap.size+1+1) W wr)
  (fun i _=>4-(intOf i).toNat)
 case atStart=>exact ⟨0,[],rfl,by omega,⟨rfl,rfl⟩,qP.nil _ _ _,b2',qab _ _⟩
 case round=>
  obtain ⟨k,ts,rfl,hk,hts,hown,uh,hbl⟩:=hrel;clear b2';have Uf:=b0.below hbl (by omega);have UK:=b1'.below hbl (by omega);have QF:=hbl.size;have hsz:=uh.lt;by_cases hlt:k<4
  ·have hkl:k<ss.length:=by rw [H4.out];exact hlt
   obtain ⟨c0,c1,c2,c3,_⟩:=Uf.GG k hkl;have hi0:(0:Int)≤(k:Int):=by omega
   have hi4:(k:Int)<4:=by omega
   have Vb:=(hr _ (xh hkl)).below (hbW.trans (hbl.mono (by omega)));have hlk:=hl _ (xh hkl);have HV:Hid ((ss.take (k+1)).map (·.v)=(ss.take k).map (·.v)++[(ss.getD k qw).v]):=by
    rw [Hid,qf9,qdd];simp [List.getD,hkl]
   generalize ss.getD k qw=s at*
   have C:=uB s wr Vb hlk.1 hlk.2;simp only [qj.cells] at C;go_wp2_with fail;refine C.mono ?_;clear C Vb hlk c0 c1 c2 c3;rintro e w1 ⟨t,rfl,hv,ho,hb1⟩;have hs1:=hb1.size;have hbx:=uh.below hb1 hsz;have hkt:k<(ts++List.replicate (4-k) qw).length:=by have:=hts.out.1;simp;omega
   obtain ⟨W2,hW2,b2,hw2,hs2⟩:=VG hbx k hkt t;obtain ⟨x0,x1,x2,x3,hfz⟩:=hbx.GG k hkt;have f0:=hfz (1+k*4);have f1:=hfz (1+k*4+1);have f2:=hfz (1+k*4+2);have f3:=hfz (1+k*4+3);generalize (ts++List.replicate (4-k) qw).getD k qw=old at*
   have b2':Box W2 (w.heap.size+1+1) (.int .i64 n::cellsS ((ts++[t])++List.replicate (4-(k+1)) qw)) 48:=by
    rw [show 4-k=(4-(k+1))+1 by omega] at b2;have e:=dF ts (4-(k+1)) t;rw [hts.out.1] at e;rw [e] at b2;exact b2
   have Yv:qP w1 W.heap.size w1.heap.size (ts++[t]):=(hown.below hb1).snoc ho QF hs1 qg;have hO2:qP W2 W.heap.size W2.heap.size (ts++[t]):=(Yv.within hw2 (.inr (by omega))).widen qg (by omega) qg;have hB2:Below (w.heap.size+1+1) W W2:=(hbl.trans (hb1.mono (by omega))).trans (hw2.below qg (by omega));have HT:Hid ((ts++[t]).length=k+1∧(ts++[t]).map (·.v)=(ss.take (k+1)).map (·.v)):=by
    refine ⟨by have:=hts.out.1;simp;omega,?_⟩;rw [HV.out,qdd,hts.out.2,← hv.out];rfl
   clear hfz hs2 hw2 b2 Yv hown uh hbx hts HV hkt hb1 ho;go_wp2_with fail;rw [hW2.out];go_roundw
   case rel=>exact ⟨k+1,ts++[t],by go_num,by omega,HT,hO2,b2',hB2⟩
   case measure=>simp [intOf];omega
  ·obtain rfl:k=4:=by omega
   have hkk:¬ ((4:Nat):Int)<4:=by omega
   have Yw:ts++List.replicate (4-4) qw=ts:=by simp
   rw [Yw] at uh;have htl:ts.length=4:=hts.out.1;have Tu:Hid (ts.map (·.v)=ss.map (·.v)):=by rw [Hid,hts.out.2,qdD (by rw [H4.out];omega)]
   obtain ⟨WF,qK,bF,hwF,q8⟩:=jE [] (.int .i64 0::cellsS Kh) (.int .i64 n::cellsS ts) [] UK (by simp only [qcS,jW,htl];rfl);have Qw:Hid (wr.setCells (w.heap.size+1) 0 (.int .i64 n::cellsS ts)=WF):=qK.out;have HR2:Hid (wr.rangeAt (w.heap.size+1+1) 0 (.int .i64 n::cellsS ts)):=qN uh;have jI:Hid (wr.there (w.heap.size+1) 0 (.int .i64 n::cellsS ts).toArray.size):=UK.there 0 _ (by simp only [qcY,jW,htl,qai,qcS,qdo];decide);have Vd:WF.rangeAt (w.heap.size+1) 0 (.int .i64 n::cellsS ts):=qN bF;have HI:Hid ((prog.info? 48).map (·.size)=some (.int .i64 n::cellsS ts).length):=by rw [Hid,qcS,jW,htl];kernel_rfl
   have HO:Hid (_):=qaf (uM ⟨n,ts⟩);have xA:Hid (_):=qeI (P:=prog) _ (w.heap.size+1) 0 48 (.int .i64 n::cellsS ts) _ Vd underlying48 rfl HI.out;have Y6:Hid (qP WF w.heap.size WF.heap.size ts):=(hown.within hwF (.inr (by omega))).widen (by omega) (by omega) qg;have KT:Hid (qa w WF):=(hbW.trans (hbl.mono (by omega))).trans (hwF.below (by omega) (by omega));simp only [qA.cells] at HO;clear qK bF hwF q8 Vd Yw htl uh hown hts;go_wp2_with (first | (guard_target=qp 20;refine qH 48 3 (w.heap.size+1+1) 0 (.int .i64 n::cellsS ts) HR2.out underlying48 HI.out ?_) | (guard_target=ja 2;refine jb 48 2 20 (w.heap.size+1) 0 (.int .i64 n::cellsS ts).toArray jI.out (jG HI.out) HO.out ?_) | fail);rw [Qw.out];exact qa3 (v:=.agg (.int .i64 n::cellsS ts).toArray) (jQ results64 rfl xA.out) rfl ⟨ts,rfl,Tu,Y6.out,KT.out⟩
end Go.Proofs.YtnfdccldabbobaaGreatDoor
