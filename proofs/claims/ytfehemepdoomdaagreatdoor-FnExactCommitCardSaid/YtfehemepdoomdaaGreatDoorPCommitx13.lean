/- Several texts in one, in their order. -/
import Derived.Test.YtfehemepdoomdaaGreatDoorPCommitx12
import Derived.Test.YtfehemepdoomdaaGreatDoorPCommitx5
import Derived.Test.YtfehemepdoomdaaGreatDoorPCommitx10
import Derived.Test.YtfehemepdoomdaaGreatDoorPCommitx9
import Derived.Deep.Cut
import Derived.Test.YtfehemepdoomdaaGreatDoorPCommitx4
import Derived.Test.YtfehemepdoomdaaGreatDoorPCommitx6
import Derived.Test.YtfehemepdoomdaaGreatDoorPCommitx8
import Derived.Test.YtfehemepdoomdaaGreatDoorPCommitx7
import Derived.Test.YtfehemepdoomdaaGreatDoorPCommitx1
set_option maxHeartbeats 8000000
set_option maxRecDepth 100000
namespace Go.Proofs.YtfehemepdoomdaaGreatDoor
open Go.RowKit Go.Shelf
attribute [local go_sem] Oper.semAt_some
theorem OwnI.stayed {w w':World} {lo hi:Nat} {a:Option Addr} {c:Nat} {ns:List Int} (h:OwnI w lo hi a c ns) (hs:w.heap.size≤w'.heap.size) (hb:∀ k,(Value.slice a ns.length c).ownBlock=some k→w'.heap[k]? =w.heap[k]?):OwnI w' lo hi a c ns:=
 ⟨ownsRow_block h.1 hb,Nat.le_trans h.2.1 hs,h.2.2⟩
theorem chain_appended {w V w3:World} {B T:Nat} {r:Loop} {x:Int} {a:Option Addr} {c n lc ln:Nat} {la:Option Addr} {tx:Int} (hg:(V.alloc (.cells #[.int .i64 x] 3)).grownBy w3 (Value.slice a n c).ownBlock)
  (kV:Box V (B+1+1+1) [.slice a n c] 22) (tV:Box V (B+1) [.int .i64 tx] 3) (rV:Box V (B+1+1+1+1) [.slice la ln lc] 52)
  (hL:V.heap[B+1+1+1+1+1+1]? =some (.loop r)) (hD:V.heap[B+1+1+1+1+1]? =some (.deferred (some []))) (BV:Below w.heap.size w V) (hB:w.heap.size≤B) (hT:B+1+1+1+1+1+1<T)
  (oB:∀ k,(Value.slice a n c).ownBlock=some k→k=B+1+1∨T≤k):
  Box w3 (B+1+1+1) [.slice a n c] 22∧Box w3 (B+1) [.int .i64 tx] 3∧Box w3 (B+1+1+1+1) [.slice la ln lc] 52∧w3.heap[B+1+1+1+1+1+1]? =some (.loop r)∧w3.heap[B+1+1+1+1+1]? =some (.deferred (some []))∧Below w.heap.size w w3∧V.heap.size<w3.heap.size:=by
 have hA:Below V.heap.size V (V.alloc (.cells #[.int .i64 x] 3)):=(Below.refl _ _).alloc (Nat.le_refl _) _
 have hs:(V.alloc (.cells #[.int .i64 x] 3)).heap.size=V.heap.size+1:=by simp
 have hb:∀ k,k<V.heap.size→k≠B+1+1→k<T→w3.heap[k]? =V.heap[k]? :=fun k hk h2 h3=>(hg.block k (by omega) (fun e=>by have:=oB k e.symm;omega)).trans (hA.block k hk)
 have hl1:=(Array.getElem?_eq_some_iff.1 hL).1
 have hl2:=(Array.getElem?_eq_some_iff.1 hD).1
 have k1:=kV.lt
 have k2:=tV.lt
 have k3:=rV.lt
 refine ⟨kV.block (hb _ k1 (by omega) (by omega)),tV.block (hb _ k2 (by omega) (by omega)),rV.block (hb _ k3 (by omega) (by omega)),(hb _ hl1 (by omega) (by omega)).trans hL,(hb _ hl2 (by omega) (by omega)).trans hD,?_,by have:=hg.size;omega⟩
 exact ⟨hg.os.trans BV.os,hg.tape.trans BV.tape,hg.output.trans BV.output,Nat.le_trans BV.size (by have:=hg.size;omega),fun k hk=>(hb k (by have:=BV.size;omega) (by omega) (by omega)).trans (BV.block k hk)⟩
structure ChJ (w:World) (B L D T:Nat) (r:Loop) (la:Option Addr) (lc:Nat) (rs:List RecA) (tx:Int) (R:List Int) (k:Nat) (W:World):Prop where
 own:∃ a c,∃ ys:List Int,Box W (B+1+1+1) [.slice a ys.length c] 22∧OwnI W (B+1+1) W.heap.size a c ys∧(∀ k,(Value.slice a ys.length c).ownBlock=some k→k=B+1+1∨T≤k)∧ys++chainDown tx (rs.map RecA.v) k=R∧ys.length+k≤rs.length
 tx:Box W (B+1) [.int .i64 tx] 3
 row:Box W (B+1+1+1+1) [.slice la rs.length lc] 52
 loop:W.heap[L]? =some (.loop r)
 dfr:W.heap[D]? =some (.deferred (some []))
 bel:Below w.heap.size w W
 top:T≤W.heap.size
theorem implChain_any (l:LogA) (tx:Int) (w:World) (hr:l.reads w) (hl:l.recs.length≤1048576):
  Calls Tryz.prog 152 #[.agg l.cells.toArray,.int .i64 tx] w fun e w'=>∃ a c,∃ ys:List Int,e=.returned (.slice a ys.length c)∧Hid (ys=chainOf l.v tx)∧OwnI w' w.heap.size w'.heap.size a c ys∧Below w.heap.size w w':=by
 obtain ⟨rs,sure,la,lc⟩:=l
 simp only [LogA.cells,LogA.reads,LogA.v] at*
 have HF:Hid ([]++chainDown tx (rs.map RecA.v) rs.length=chainOf ⟨rs.map RecA.v,sure⟩ tx):=by rw [Hid];simp [chainOf]
 generalize chainOf ⟨rs.map RecA.v,sure⟩ tx=R at*
 refine (callsIn_wide (n:=4)).1 ?_
 refine callsIn_of_wp_marks Tryz.func152 rfl trivial ?_ rfl
 simp only [Tryz.ntmps152,List.size_toArray,List.length_cons,List.length_nil,Nat.reduceAdd,Nat.reduceSub,Array.replicate_succ,Array.replicate_zero,List.push_toArray,List.append_toArray,List.nil_append,List.cons_append]
 obtain ⟨W0,hW0,b0,b1,b2,hbW0,hsW0⟩:=boxes3 w [.slice la rs.length lc,.int .i64 sure] [.int .i64 tx] [] 54 3 3
 obtain ⟨W,hW,b3,hb1,hs1⟩:=boxes1 W0 [.slice (some ⟨w.heap.size+1+1,0,none⟩) 0 0] 22
 rw [hsW0] at b3
 have hbW:Below w.heap.size w W:=hbW0.trans (hb1.mono hbW0.size)
 have k0:=b0.below hb1 b0.lt
 have k1:=b1.below hb1 b1.lt
 have k2:=b2.below hb1 b2.lt
 have k3:Box W (w.heap.size+1+1+1) [.slice (some ⟨w.heap.size+1+1,0,none⟩) 0 0] 22:=b3
 have HSW:Hid (W.heap.size=w.heap.size+1+1+1+1):=by rw [Hid];omega
 have hsW1:W.heap.size≤w.heap.size+1+1+1+1:=by omega
 have hsW2:w.heap.size+1+1+1+1≤W.heap.size:=by omega
 have o2:OwnI W (w.heap.size+1+1) W.heap.size (some ⟨w.heap.size+1+1,0,none⟩) 0 []:=by
  have h:=ownI_lit0 ((w.alloc (.cells #[.slice la rs.length lc,.int .i64 sure] 54)).alloc (.cells #[.int .i64 tx] 3))
  have e:(((w.alloc (.cells #[.slice la rs.length lc,.int .i64 sure] 54)).alloc (.cells #[.int .i64 tx] 3)).alloc (.cells #[] 3))=W0:=hW0.out
  rw [e,World.size_alloc,World.size_alloc] at h
  exact (h.below hb1).widen (by omega) (by omega) (by omega)
 clear hsW0 hs1 b0 b1 b2 b3 hb1 hbW0 k2
 have x0:=k0.cell 0 _ rfl
 have HI:Hid ((Tryz.prog.info? 99).map (·.size)=some 15):=by rw [Hid];kernel_rfl
 have hW':(((w.alloc (.cells #[.slice la rs.length lc,.int .i64 sure] 54)).alloc (.cells #[.int .i64 tx] 3)).alloc (.cells #[] 3)).alloc (.cells #[.slice (some ⟨w.heap.size+1+1,0,none⟩) 0 0] 22)=W:=by rw [← hW.out,← hW0.out]
 have HW':Hid (_=W):=hW'
 clear hW' hW hW0
 gi_upto_region 2 with fail
 rw [HW'.out]
 clear HW'
 gi_wp2_with fail
 refine ⟨trivial,?_⟩
 gi_at_call 185
 refine (callsIn_wide.2 (backward_any la rs.length lc W)).mono ?_
 rintro e w1 ⟨rfl,h1⟩
 obtain ⟨W3,hW3,b4,hb3,hs3⟩:=boxes1 W [.slice la rs.length lc] 52
 have hW3':W.alloc (.cells #[.slice la rs.length lc] 52)=W3:=hW3.out
 rw [hW3'] at h1
 subst h1
 have HS3:Hid (w1.heap.size=w.heap.size+1+1+1+1+1):=by rw [Hid,hs3,HSW.out]
 have k13:=k1.below hb3 k1.lt
 have k33:=k3.below hb3 k3.lt
 have o23:=o2.below hb3
 have D3:Below w.heap.size w w1:=hbW.trans (hb3.mono hbW.size)
 clear hW3 hW3' hs3 k0 k1 k3 x0 o2
 rw [HSW.out] at b4
 gi_wp2_with fail
 refine rangeFunc_here (gf:=197) (lb:=#[.pointer (some ⟨W.heap.size,0,none⟩)]) rfl (enters_of Tryz.func197 (by kernel_rfl) rfl) ?_
 intro r W4 hst hpd htm hps has hbd hL hD hB4 hS4
 have HBD:Hid (r.body=_):=hbd
 have HAS:Hid (r.assign=_):=has
 have HTM:Hid (r.tmps=_):=htm
 have HPS:Hid (r.params=_):=hps
 have HST:Hid (r.state=_):=hst
 have HPD:Hid (r.pending=none):=hpd
 clear hst hpd htm hps has hbd
 rw [HS3.out] at hL hD hS4
 have hlo6:w.heap.size+1+1+1+1+1+1<W4.heap.size:=by omega
 clear hS4
 rw [show #[Value.func (.yield (w1.heap.size+1)) #[] #[]]++#[Value.pointer (some ⟨W.heap.size,0,none⟩)]=#[Value.func (.yield (w1.heap.size+1)) #[] #[],Value.pointer (some ⟨W.heap.size,0,none⟩)] from rfl,HS3.out,HSW.out]
 have hJ0:ChJ w w.heap.size (w.heap.size+1+1+1+1+1+1) (w.heap.size+1+1+1+1+1) W4.heap.size r la lc rs tx R rs.length W4:=
  ⟨⟨some ⟨w.heap.size+1+1,0,none⟩,0,[],k33.below hB4 k33.lt,(o23.below hB4).widen (Nat.le_refl _) (by have:=hB4.size;have:=hb3.size;omega) (Nat.le_refl _),fun k hk=>by cases hk;exact .inl rfl,HF.out,by simp⟩,k13.below hB4 k13.lt,b4.below hB4 b4.lt,hL,hD,D3.trans (hB4.mono D3.size),Nat.le_refl _⟩
 refine (backward_in 2 (w.heap.size+1+1+1+1+1+1) (w.heap.size+1+1+1+1) la lc rs (by omega) (ChJ w w.heap.size (w.heap.size+1+1+1+1+1+1) (w.heap.size+1+1+1+1+1) W4.heap.size r la lc rs tx R) ?_ ?_ W4 hJ0).mono ?_
 ·intro k X j
  exact ⟨j.row,hr.below j.bel⟩
 ·intro k X hk j
  obtain ⟨a,c,ys,kR,oR,oB,hEq,hLen⟩:=j.own
  have HS0:Hid (_=R):=chain_step tx rs k ys R hEq
  clear hEq
  generalize rs.getD k zeroR=z at*
  obtain ⟨X1,hX1,z1,hb1,hs1⟩:=boxes1 X [.int .i64 0,.int .i64 0,.int .i64 0,.int .i64 0,.int .i64 0,.bool false,.int .i64 0,.slice none 0 0,.slice none 0 0,.bool false,.int .i64 0,.slice none 0 0,.slice none 0 0,.int .i64 0,.slice none 0 0] 99
  obtain ⟨X2,hX2,hw2,hs2,HT2,_,z2⟩:=rec_out z _ rfl z1
  have N2:Below X.heap.size X X2:=hb1.trans (hw2.below (Nat.le_refl _) (by omega))
  have hT:=j.top
  have hlt2:=z2.lt
  have hs2':=N2.size
  have kR2:=kR.below N2 kR.lt
  have oR2:=oR.below N2
  have tx2:=j.tx.below N2 j.tx.lt
  have row2:=j.row.below N2 j.row.lt
  have L2:=(N2.block _ (Array.getElem?_eq_some_iff.1 j.loop).1).trans j.loop
  have d2:=(N2.block _ (Array.getElem?_eq_some_iff.1 j.dfr).1).trans j.dfr
  have B2:=j.bel.trans (N2.mono j.bel.size)
  have hOt:=rec_one z
  clear z1 hb1 hw2 hs1 hs2 kR oR
  refine yield_here j.loop (by rw [HPS.out];rfl) HST.out ?_
  rw [HAS.out,HPS.out,HTM.out]
  simp only [List.zip_toArray,List.zip_cons_cons,List.zip_nil_right,List.foldl_toArray',List.foldl_cons,List.foldl_nil,List.setIfInBounds_toArray,List.set_cons_zero,List.set_cons_succ]
  gi_wp2_with (first | (guard_target=wpListIn _ _ _ _ _ (Oper.mk none (Op.store _ (Operand.tmp 7) _) _ _ _ _::_) _ _;refine storeIn_mid rfl (fun _=>trivial) rfl 99 (.tmp 7) (.tmp 13) rfl X.heap.size 0 z.cells.toArray rfl rfl (by rw [hX1.out];exact HT2.out) HI.out hOt ?_;rw [hX1.out,show X1.setCells X.heap.size 0 z.cells.toArray.toList=X2 from hX2.out]) | fail)
  clear hX1 hX2 HT2 hOt
  intro V hVL0 hVw hVs
  have hVL:V.heap[w.heap.size+1+1+1+1+1+1]? =some (.loop { r with state:=.busy }):=hVL0.trans (by rw [HAS.out,HPS.out,HTM.out])
  clear hVL0
  rw [HBD.out]
  have hVs1:=Nat.le_of_eq hVs
  have hVs2:=Nat.le_of_eq hVs.symm
  clear hVs
  have kV:=kR2.within hVw (by omega)
  have zV:=z2.within hVw (by omega)
  have tV:=tx2.within hVw (by omega)
  have rV:=row2.within hVw (by omega)
  have oV:OwnI V (w.heap.size+1+1) X.heap.size a c ys:=oR2.stayed hVw.size (fun k hk=>hVw.block k (by have:=oR2.2.2 k hk;omega) (by have:=oB k hk;omega))
  have dV:=(hVw.block _ (Array.getElem?_eq_some_iff.1 d2).1 (by omega)).trans d2
  have BV:Below w.heap.size w V:=B2.trans (hVw.below (by omega) (by have:=B2.size;omega))
  have hbl:=j.bel.size
  clear hVw j kR2 oR2 z2 tx2 row2 L2 d2 B2 N2
  have x0:=kV.cell 0 _ rfl
  have xf:=kV.frozen 0
  have t0:=tV.cell 0 _ rfl
  have z0:V.cell? ⟨X.heap.size,0,none⟩=some (.int .i64 z.lsn):=zV.cell 0 _ rfl
  have z1:V.cell? ⟨X.heap.size,1,none⟩=some (.int .i64 z.tx):=zV.cell 1 _ rfl
  have z3:V.cell? ⟨X.heap.size,3,none⟩=some (.int .i64 z.kind):=zV.cell 3 _ rfl
  clear zV
  have HS:=HS0.out
  clear HS0
  by_cases hq:ofTx tx z.v=true
  ·have HS':Hid ((ys++[z.lsn])++chainDown tx (rs.map RecA.v) k=R):=by rw [if_pos hq] at HS;exact HS
   have h6b:(z.kind != 6)=true:=by simp [ofTx,RecA.v] at hq;simpa using hq.2
   have hqb:(z.tx == tx)=true:=by simp [ofTx,RecA.v] at hq;simpa using hq.1
   clear HS hq
   have hA:Below V.heap.size V (V.alloc (.cells #[.int .i64 z.lsn] 3)):=(Below.refl _ _).alloc (Nat.le_refl _) _
   have oA:=oV.below hA
   gi_wp2_with (first | (guard_target=wpListIn _ _ _ _ _ (Oper.mk (some 27) _ _ _ _ _::_) _ _;refine append_intsIn rfl (fun _=>trivial) rfl _ _ rfl (w.heap.size+1+1) X.heap.size a c ys rfl oA _ _ [z.lsn] rfl (readsI_cell V z.lsn _) (fun h=>by cases h) (by simp;omega) (by simp;omega) ?_;intro a3 c3 y3 w3 hy3 ho3 hg3 hk3;have HA:=chain_appended (B:=w.heap.size) (T:=W4.heap.size) hg3 kV tV rV hVL dV BV (by omega) (by omega) oB;obtain ⟨kA,tA,rA,LA,dA,BA,hsA⟩:=HA;have m0:=kA.cell 0 _ rfl;have mf:=kA.frozen 0) | fail)
   obtain ⟨U,hU,kU,hwU,hsU⟩:=box_set kA 0 (.slice a3 y3.length c3)
   simp only [List.set] at kU
   rw [hU.out]
   have oB3:∀ k,(Value.slice a3 y3.length c3).ownBlock=some k→k=w.heap.size+1+1∨W4.heap.size≤k:=fun k hk=>(hk3 k hk).elim (fun h=>oB k h) (fun h=>.inr (by rw [World.size_alloc] at h;omega))
   have LU:=(hwU.block _ (Array.getElem?_eq_some_iff.1 LA).1 (by omega)).trans LA
   have dU:=(hwU.block _ (Array.getElem?_eq_some_iff.1 dA).1 (by omega)).trans dA
   have oU:OwnI U (w.heap.size+1+1) w3.heap.size a3 c3 y3:=ho3.stayed hwU.size (fun k hk=>hwU.block k (ho3.2.2 k hk) (by have:=oB3 k hk;omega))
   have BU:Below w.heap.size w U:=BA.trans (hwU.below (by omega) (by omega))
   have tU:=tA.within hwU (by omega)
   have rU:=rA.within hwU (by omega)
   obtain ⟨Y,hrun,hYL,hYw,hYs⟩:=end_go (P:=Tryz.prog) (V:=U) (r:=r) HST.out HPD.out LU
   refine ⟨_,Y,hrun,rfl,⟨a3,c3,y3,kU.within hYw (by omega),?_,oB3,by rw [hy3.out];exact HS'.out,by rw [hy3.out];simp;omega⟩,tU.within hYw (by omega),rU.within hYw (by omega),hYL,(hYw.block _ (Array.getElem?_eq_some_iff.1 dU).1 (by omega)).trans dU,BU.trans (hYw.below (by omega) (by omega)),by omega⟩
   exact (oU.stayed hYw.size (fun k hk=>hYw.block k (by have:=oU.2.2 k hk;have:=hwU.size;omega) (by have:=oB3 k hk;omega))).widen (Nat.le_refl _) (by omega) (Nat.le_refl _)
  ·have HS':Hid (ys++chainDown tx (rs.map RecA.v) k=R):=by rw [if_neg hq] at HS;exact HS
   clear HS
   by_cases h6:z.kind=6
   ·have h6b:(z.kind != 6)=false:=by simpa using h6
    clear h6 hq
    gi_wp2_with fail
    obtain ⟨Y,hrun,hYL,hYw,hYs⟩:=end_go (P:=Tryz.prog) (V:=V) (r:=r) HST.out HPD.out hVL
    refine ⟨_,Y,hrun,rfl,⟨a,c,ys,kV.within hYw (by omega),?_,oB,HS'.out,by omega⟩,tV.within hYw (by omega),rV.within hYw (by omega),hYL,(hYw.block _ (Array.getElem?_eq_some_iff.1 dV).1 (by omega)).trans dV,BV.trans (hYw.below (by omega) (by omega)),by omega⟩
    exact (oV.stayed hYw.size (fun k hk=>hYw.block k (by have:=oV.2.2 k hk;omega) (by have:=oB k hk;omega))).widen (Nat.le_refl _) (by omega) (Nat.le_refl _)
   ·have h6b:(z.kind != 6)=true:=by simpa using h6
    have hqb:(z.tx == tx)=false:=by simp [ofTx,RecA.v,h6] at hq;simpa using hq
    clear h6 hq
    gi_wp2_with fail
    obtain ⟨Y,hrun,hYL,hYw,hYs⟩:=end_go (P:=Tryz.prog) (V:=V) (r:=r) HST.out HPD.out hVL
    refine ⟨_,Y,hrun,rfl,⟨a,c,ys,kV.within hYw (by omega),?_,oB,HS'.out,by omega⟩,tV.within hYw (by omega),rV.within hYw (by omega),hYL,(hYw.block _ (Array.getElem?_eq_some_iff.1 dV).1 (by omega)).trans dV,BV.trans (hYw.below (by omega) (by omega)),by omega⟩
    exact (oV.stayed hYw.size (fun k hk=>hYw.block k (by have:=oV.2.2 k hk;omega) (by have:=oB k hk;omega))).widen (Nat.le_refl _) (by omega) (Nat.le_refl _)
 ·rintro e W5 ⟨⟨v,rfl⟩,j⟩
  obtain ⟨a,c,ys,k5,o5,oB,hEq,hLen⟩:=j.own
  have HE:Hid (ys=R):=by rw [Hid];simpa [chainDown] using hEq
  have L5:=j.loop
  have D5:=j.dfr
  have B5:=j.bel
  have hT:=j.top
  have hs5:=B5.size
  clear hEq j
  obtain ⟨W6,hW6⟩:∃ W6,Hid (W5.putObj (w.heap.size+1+1+1+1+1+1) (.loop { r with state:=.exhausted })=W6):=⟨_,rfl⟩
  have hw6:Within (w.heap.size+1+1+1+1+1+1) (w.heap.size+1+1+1+1+1+1+1) W5 W6:=by rw [← hW6.out];exact (within_putObj _ _ _).1
  have hs6:=hw6.size
  have hrun6:(Instr.endLoop (w.heap.size+1+1+1+1+1+1)).run Tryz.prog W5=.ok none W6:=by rw [← hW6.out,← HPD.out];exact run_endLoop L5 (by rw [HST.out];simp)
  refine ⟨none,W6,hrun6,?_⟩
  clear hrun6 hW6 L5
  have k6:=k5.within hw6 (by omega)
  have o6:OwnI W6 (w.heap.size+1+1) W5.heap.size a c ys:=o5.stayed hw6.size (fun k hk=>hw6.block k (by have:=o5.2.2 k hk;omega) (by have:=oB k hk;omega))
  have d6:=(hw6.block _ (Array.getElem?_eq_some_iff.1 D5).1 (by omega)).trans D5
  have B6:Below w.heap.size w W6:=B5.trans (hw6.below (by omega) (by omega))
  clear k5 o5 D5 B5 hw6
  have x6:=k6.cell 0 _ rfl
  show Exit.inBlock _ _ _ _ _
  gi_wp2_with fail
  obtain ⟨Y,hY⟩:∃ Y,Hid (W6.putObj (w.heap.size+1+1+1+1+1) (.deferred none)=Y):=⟨_,rfl⟩
  have hYw:Within (w.heap.size+1+1+1+1+1) (w.heap.size+1+1+1+1+1+1) W6 Y:=by rw [← hY.out];exact (within_putObj _ _ _).1
  have hYs:=hYw.size
  have oY:OwnI Y (w.heap.size+1+1) W5.heap.size a c ys:=o6.stayed hYs (fun k hk=>hYw.block k (by have:=o6.2.2 k hk;omega) (by have:=oB k hk;omega))
  have oY':=oY.widen (show w.heap.size≤w.heap.size+1+1 by omega) (show W5.heap.size≤Y.heap.size by omega) (Nat.le_refl _)
  have BY:Below w.heap.size w Y:=B6.trans (hYw.below (by omega) (by omega))
  refine ⟨by simp,.inl ⟨_,_,rfl,run_takeDeferred d6,?_⟩⟩
  rw [hY.out]
  exact ⟨.slice a ys.length c,by simp [results,Tryz.results152,go_sem],a,c,ys,rfl,HE,oY',BY⟩
end Go.Proofs.YtfehemepdoomdaaGreatDoor
namespace Go.Proofs.YtfehemepdoomdaaGreatDoor
open Go.RowKit
theorem isBare_any (e:EngA) (se:e.shape) (w:World):
  Calls Tryz.prog 91 #[.agg e.cells.toArray] w fun r w'=>r=.returned (.bool (bareB e.v))∧Below w.heap.size w w':=by
 have HBB:Hid (bareB e.v=(decide (e.seats.length=0) && (decide (e.txs.length=0) && decide (e.holds.length=0)))):=by (rw [Hid];simp [bareB,EngA.v])
 obtain ⟨RB,hRB⟩:∃ RB,bareB e.v=RB:=⟨_,rfl⟩
 rw [hRB] at HBB ⊢
 clear hRB
 obtain ⟨W,hW,b0,hbW,hsW⟩:=boxes1 w e.cells 58
 obtain ⟨_,p1,_,p3,p4,_,_⟩:=eng_parts se b0
 have p10:W.cell? ⟨w.heap.size,136,none⟩=some (.slice e.aS e.seats.length e.cS):=p1 0 _ rfl
 clear p1 b0 hsW
 go_enter Tryz.func91,Tryz.ntmps91
 go_upto_region 1 with fail
 rw [hW.out]
 by_cases k1:e.seats.length=0
 ·have q1:((e.seats.length:Int) == 0)=true:=by simp [k1]
  by_cases k2:e.txs.length=0
  ·have q2:((e.txs.length:Int) == 0)=true:=by simp [k2]
   by_cases k3:e.holds.length=0
   ·have q3:((e.holds.length:Int) == 0)=true:=by simp [k3]
    have HF:Hid (RB=true):=by rw [Hid,HBB.out];simp [k1,k2,k3]
    clear k1 k2 k3
    go_wp2
    go_ret
    exact ⟨ret_bool HF.out.symm,hbW⟩
   ·have q3:((e.holds.length:Int) == 0)=false:=beq_eq_false_iff_ne.2 (by omega)
    have HF:Hid (RB=false):=by rw [Hid,HBB.out];simp [k1,k2,k3]
    clear k1 k2 k3
    go_wp2
    go_ret
    exact ⟨ret_bool HF.out.symm,hbW⟩
  ·have q2:((e.txs.length:Int) == 0)=false:=beq_eq_false_iff_ne.2 (by omega)
   have HF:Hid (RB=false):=by rw [Hid,HBB.out];simp [k1,k2]
   clear k1 k2
   go_wp2
   go_ret
   exact ⟨ret_bool HF.out.symm,hbW⟩
 ·have q1:((e.seats.length:Int) == 0)=false:=beq_eq_false_iff_ne.2 (by omega)
  have HF:Hid (RB=false):=by rw [Hid,HBB.out];simp [k1]
  clear k1
  go_wp2
  go_ret
  exact ⟨ret_bool HF.out.symm,hbW⟩
theorem pages_take (ps:List PageA) (h8:Disk8 ps) (k:Nat) (hk:k<8):((cellsPs ps).drop (k*17)).take 17=(ps.getD k zeroP).cells:=by
 have hkl:k<ps.length:=by rw [h8.eight];exact hk
 have hl:=cellsPs_len (ps.take k) (fun p hp=>h8.four p (List.mem_of_mem_take hp))
 rw [List.length_take,Nat.min_eq_left (Nat.le_of_lt hkl)] at hl
 have h4:=page_len _ (h8.four _ (List.getElem_mem hkl))
 rw [cellsPs_split ps k hkl,← hl,List.drop_left,List.take_append_of_le_length (by omega),List.take_of_length_le (by omega),pageD_eq hkl]
theorem run_index_page (ps:List PageA) (h8:Disk8 ps) (k:Nat) (hk:k<8) (w:World):
  (Instr.index 48 (.agg (cellsPs ps).toArray) (.int .i64 (k:Int))).run Tryz.prog w=.ok (.agg (ps.getD k zeroP).cells.toArray) w:=by
 have he:=pages_take ps h8 k hk
 have hz:(sizeOf 47).run Tryz.prog w=.ok 17 w:=by kernel_rfl
 simp [Instr.index,asIntOf,Go.part,run_underlying Tryz.underlying48,hz]
 rw [if_pos hk,he]
 simp [List.getD]
theorem diskOk_any (e:EngA) (se:e.shape) (w:World) (hg:ErrT w) (re:e.reads w) (hl:e.short 1048576):
  Calls Tryz.prog 92 #[.agg e.cells.toArray] w fun r w'=>r=.returned (.bool (diskB e.v))∧Below w.heap.size w w':=by
 have HNO:Hid (∀ k,k<8→diskAt e.v k=false→diskB e.v=false):=fun k hk h=>all_no k hk h
 have HYES:Hid ((∀ k,k<8→diskAt e.v k=true)→diskB e.v=true):=fun h=>all_yes h
 have HDA:Hid (∀ k,k<8→diskAt e.v k=(okP (e.disk.getD k zeroP).lsn ((e.disk.getD k zeroP).ss.map (·.v)) && decide ((e.disk.getD k zeroP).lsn≤e.log.sure))):=fun k hk=>by (rw [diskAt,diskV_at se k hk];rfl)
 obtain ⟨RB,hRB⟩:∃ RB,diskB e.v=RB:=⟨_,rfl⟩
 rw [hRB] at HNO HYES ⊢
 clear hRB
 have HFD:Hid (∀ p∈e.disk,Fit p.ss):=fun p hp s hs=>by have:=hl.disk p hp s hs;omega
 obtain ⟨W,hW,b0,hbW,hsW⟩:=boxes1 w e.cells 58
 have HB:Hid (∀ u,Below W.heap.size W u→Box u w.heap.size e.cells 58):=fun u hu=>b0.below hu b0.lt
 have HR:Hid (∀ u,Below W.heap.size W u→e.reads u):=fun u hu=>(re.below hbW).below hu
 have HEND:Hid (∀ u,Below W.heap.size W u→Below w.heap.size w u):=fun u hu=>hbW.trans (hu.mono hbW.size)
 have hw0:w.heap.size<W.heap.size:=by omega
 have N:Below W.heap.size W W:=Below.refl _ _
 clear b0 hsW
 have hgB:∀ u,Below W.heap.size W u→ErrT u:=fun u hu=>hg.keep (HEND.out u hu)
 obtain ⟨p0,_,_,_,_,_,_⟩:=eng_parts se (HB.out W N)
 have hid:=disk8_info se.disk8
 have hix0:=run_index_page e.disk se.disk8
 have HIX:Hid (_):=hix0
 clear hix0
 go_enter Tryz.func92,Tryz.ntmps92
 go_wp2_with (first | (guard_target=wpList _ _ _ (Oper.mk (some 6) _ _ _ _ _::_) _ _;refine wpList_load_mid rfl 48 (.tmp 5) rfl w.heap.size 0 rfl (cellsPs e.disk) _ (by rw [hW.out];exact p0) Tryz.underlying48 rfl hid ?_) | fail)
 rw [hW.out]
 clear hW p0 hid
 go_loopw [7] (fun i wr=>∃ k:Nat,k≤8∧i=.int .i64 (k:Int)∧Hid (∀ j,j<k→diskAt e.v j=true)∧Below W.heap.size W wr) (fun i _=>8-(intOf i).toNat)
 case atStart=>exact ⟨0,Nat.zero_le _,rfl,fun j hj=>by omega,N⟩
 case round=>
  obtain ⟨k,hk,rfl,hall,hbr⟩:=hrel
  clear N
  have hsr:=hbr.size
  by_cases hlt:k<8
  ·have hkl:k<e.disk.length:=by rw [se.eight];exact hlt
   have HDK:Hid (_=_):=HDA.out k hlt
   have HDN:Hid (_→_):=HNO.out k hlt
   have HP4:=se.disk8.at hlt
   have F1:=HFD.out _ (pageD_mem (k:=k) hkl)
   have HRP:Hid (∀ u,Below W.heap.size W u→ReadsS u (e.disk.getD k zeroP).ss):=fun u hu=>(HR.out _ hu).disk _ (pageD_mem (k:=k) hkl)
   have hix:=HIX.out k hlt
   generalize e.disk.getD k zeroP=p at*
   have HIp:=page_infoP p HP4
   have HOp:=all_oneCell_toArray (oneP p)
   obtain ⟨ZV,hZV,bZ,hbZ,hsZ⟩:=boxes1 wr [.int .i64 0,.bool false,.int .i64 0,.slice none 0 0,.slice none 0 0,.bool false,.int .i64 0,.slice none 0 0,.slice none 0 0,.bool false,.int .i64 0,.slice none 0 0,.slice none 0 0,.bool false,.int .i64 0,.slice none 0 0,.slice none 0 0] 47
   obtain ⟨V,hV,hwS,hsS,HT,_,bS⟩:=page_out (C:=wr.heap.size) (T:=47) p HP4 _ rfl bZ Tryz.underlying47 rfl (by kernel_rfl)
   have nb:Below wr.heap.size wr V:=hbZ.trans (hwS.below (Nat.le_refl _) (by omega))
   have nV:Below W.heap.size W V:=hbr.trans (nb.mono hbr.size)
   have rS:V.rangeAt wr.heap.size 0 p.cells:=Box.range [] p.cells [] (by simpa using bS)
   have EV:Hid (ZV.setCells wr.heap.size 0 p.cells.toArray.toList=V):=hV.out
   have C1:=implPageOk_any p HP4 V (hgB _ nV) (HRP.out _ nV) F1
   have hlV:=bS.lt
   have hi0:(0:Int)≤(k:Int):=by omega
   have hi8:(k:Int)<8:=by omega
   clear bZ hbZ hsZ hwS hsS hV nb
   go_wp2_with (first | (guard_target=wpList _ _ _ (Oper.mk none (Op.store _ (Operand.tmp 4) _) _ _ _ _::_) _ _;refine wpList_store_mid rfl 47 (.tmp 4) (.tmp 9) rfl wr.heap.size 0 p.cells.toArray rfl rfl (by rw [hZV.out];exact HT.out) (by rw [List.size_toArray];exact HIp) HOp ?_) | (guard_target=wpList _ _ _ (Oper.mk (some 10) _ _ _ _ _::_) _ _;refine wpList_load_mid rfl 47 (.tmp 4) rfl wr.heap.size 0 rfl (p.cells) _ (by rw [hZV.out,EV.out];exact rS) Tryz.underlying47 rfl HIp ?_) | fail)
   rw [hZV.out,EV.out]
   clear hZV EV HT rS hix
   refine C1.mono ?_
   clear C1
   rintro r w1 ⟨rfl,hb1⟩
   have n1:Below W.heap.size W w1:=nV.trans (hb1.mono nV.size)
   have x0:=(bS.below hb1 bS.lt).cell 0 _ rfl
   obtain ⟨_,_,p2,_,_,_,_⟩:=eng_parts se (HB.out _ n1)
   have x1:=p2 1 _ rfl
   clear p2 bS hb1 nV
   obtain ⟨bA,hA⟩:∃ bA,Hid (okP p.lsn (p.ss.map (·.v))=bA):=⟨_,rfl⟩
   rw [hA.out]
   cases bA with
   | false=>
    have HE:Hid (RB=false∧Below w.heap.size w w1):=⟨HDN.out (by rw [HDK.out,hA.out];rfl),HEND.out _ n1⟩
    go_wp2
    go_ret
    exact ⟨ret_bool HE.out.1.symm,HE.out.2⟩
   | true=>
    by_cases hx:p.lsn≤e.log.sure
    ·have hxn:¬ e.log.sure<p.lsn:=by omega
     have HK:Hid (∀ j,j<k+1→diskAt e.v j=true):=fun j hj=>by
      by_cases q:j=k
      ·rw [q,HDK.out,hA.out,decide_eq_true hx];rfl
      ·exact hall.out j (by omega)
     clear hx
     go_wp2_with fail
     go_roundw
     case rel=>exact ⟨k+1,by omega,by go_num,HK,n1⟩
     case measure=>simp [intOf];omega
    ·have hxn:e.log.sure<p.lsn:=by omega
     have HE:Hid (RB=false∧Below w.heap.size w w1):=⟨HDN.out (by rw [HDK.out,hA.out,decide_eq_false hx];rfl),HEND.out _ n1⟩
     clear hx
     go_wp2
     go_ret
     exact ⟨ret_bool HE.out.1.symm,HE.out.2⟩
  ·obtain rfl:k=8:=by omega
   have hkk:¬ ((8:Nat):Int)<8:=by omega
   have HE:Hid (RB=true∧Below w.heap.size w wr):=⟨HYES.out hall.out,HEND.out _ hbr⟩
   go_wp2
   go_ret
   exact ⟨ret_bool HE.out.1.symm,HE.out.2⟩
theorem seatsOk_any (e:EngA) (se:e.shape) (w:World) (re:e.reads w) (hl:e.short 1048576) (hno:∀ k,k<e.seats.length→∃ n:Nat,(e.seats.getD k zeroSt).no=n∧n<8):
  Calls Tryz.prog 93 #[.agg e.cells.toArray] w fun r w'=>r=.returned (.bool (seatsB e.v))∧Below w.heap.size w w':=by
 have hvl:e.v.seats.length=e.seats.length:=by simp [EngA.v]
 have HNO:Hid (∀ k,k<e.seats.length→seatAt e.v k=false→seatsB e.v=false):=fun k hk h=>all_no k (by omega) h
 have HYES:Hid ((∀ k,k<e.seats.length→seatAt e.v k=true)→seatsB e.v=true):=fun h=>all_yes (fun k hk=>h k (by omega))
 have HSA:Hid (∀ k (n:Nat),(e.seats.getD k zeroSt).no=n→n<8→seatAt e.v k=(decide ((e.seats.getD k zeroSt).lsn≤(e.log.recs.length:Int)) && ((e.seats.getD k zeroSt).dirty || samePg ((e.seats.getD k zeroSt).lsn,(e.seats.getD k zeroSt).ss.map (·.v)) ((e.disk.getD n zeroP).lsn,(e.disk.getD n zeroP).ss.map (·.v))))):=fun k n hn h8=>by
  have e1:e.v.seats.getD k zeroStV=(e.seats.getD k zeroSt).v:=seatV_at e.seats k
  have e2:(e.seats.getD k zeroSt).v.no=n:=hn
  rw [seatAt,e1,e2,Int.toNat_natCast,diskV_at se n h8]
  simp only [EngA.v,LogA.v,List.length_map]
  rfl
 have HNN:Hid (_):=hno
 obtain ⟨ROK,hRB⟩:∃ RB,seatsB e.v=RB:=⟨_,rfl⟩
 rw [hRB] at HNO HYES ⊢
 clear hRB hno hvl
 have HFD:Hid (∀ p∈e.disk,Fit p.ss):=fun p hp s hs=>by have:=hl.disk p hp s hs;omega
 have HFS:Hid (∀ s∈e.seats,Fit s.ss):=fun s hs x hx=>by have:=hl.pool.each s hs x hx;omega
 have hrl:e.log.recs.length≤1048576:=hl.log.len
 have hsl:e.seats.length≤1048576:=hl.pool.len
 obtain ⟨W,hW,b0,hbW,hsW⟩:=boxes1 w e.cells 58
 have HB:Hid (∀ u,Below W.heap.size W u→Box u w.heap.size e.cells 58):=fun u hu=>b0.below hu b0.lt
 have HR:Hid (∀ u,Below W.heap.size W u→e.reads u):=fun u hu=>(re.below hbW).below hu
 have HEND:Hid (∀ u,Below W.heap.size W u→Below w.heap.size w u):=fun u hu=>hbW.trans (hu.mono hbW.size)
 have hw0:w.heap.size<W.heap.size:=by omega
 have N:Below W.heap.size W W:=Below.refl _ _
 clear b0 hsW
 obtain ⟨_,p1,_,_,_,_,_⟩:=eng_parts se (HB.out W N)
 have l0:W.cell? ⟨w.heap.size,136,none⟩=some (.slice e.aS e.seats.length e.cS):=p1 0 _ rfl
 clear p1 hl re
 go_enter Tryz.func93,Tryz.ntmps93
 go_upto_region 1 with fail
 rw [hW.out]
 clear hW
 go_wp2_with fail
 clear l0
 go_loopw [9] (fun i wr=>∃ k:Nat,k≤e.seats.length∧i=.int .i64 (k:Int)∧Hid (∀ j,j<k→seatAt e.v j=true)∧Below W.heap.size W wr) (fun i _=>e.seats.length-(intOf i).toNat)
 case atStart=>exact ⟨0,Nat.zero_le _,rfl,fun j hj=>by omega,N⟩
 case round=>
  clear N
  obtain ⟨i,hi,rfl,hall,hbr⟩:=hrel
  have hsr:=hbr.size
  by_cases hlt3:i<e.seats.length
  ·obtain ⟨b,off,ha,hc⟩:=seat_rngE (HR.out _ hbr).pool i hlt3
   have hcr:wr.rangeAt b (off+i*20) (e.seats.getD i zeroSt).cells:=(hc i hlt3).1
   obtain ⟨nn,hnn,hn8⟩:=HNN.out i hlt3
   have HSK:Hid (_=_):=HSA.out i nn hnn hn8
   have HSN:Hid (_→_):=HNO.out i hlt3
   have F1:=HFS.out _ (seatD_mem e.seats i hlt3)
   have hnl:nn<e.disk.length:=by rw [se.eight];exact hn8
   have F2:=HFD.out _ (pageD_mem (k:=nn) hnl)
   have HQ4:=se.disk8.at hn8
   have HRS:Hid (∀ u,Below W.heap.size W u→ReadsS u (e.seats.getD i zeroSt).ss∧ReadsS u (e.disk.getD nn zeroP).ss):=fun u hu=>⟨by
    obtain ⟨_,_,_,hc2⟩:=seat_rngE (HR.out _ hu).pool i hlt3
    exact (hc2 i hlt3).2,(HR.out _ hu).disk _ (pageD_mem (k:=nn) hnl)⟩
   have HDG:Hid (∀ u,Below W.heap.size W u→u.rangeAt w.heap.size (nn*17) (e.disk.getD nn zeroP).cells):=fun u hu=>by
    have rp:=EngA.page_at se (HB.out u hu) nn hnl
    rw [pageD_eq hnl] at rp
    exact rp
   have ha':e.aS=some ⟨b,off,none⟩:=ha
   rw [ha']
   clear hc ha ha'
   generalize e.seats.getD i zeroSt=s at*
   generalize e.disk.getD nn zeroP=p at*
   obtain ⟨ZV,hZV,bZ,hbZ,hsZ⟩:=boxes1 wr [.int .i64 0,.int .i64 0,.bool false,.int .i64 0,.slice none 0 0,.slice none 0 0,.bool false,.int .i64 0,.slice none 0 0,.slice none 0 0,.bool false,.int .i64 0,.slice none 0 0,.slice none 0 0,.bool false,.int .i64 0,.slice none 0 0,.slice none 0 0,.bool false,.bool false] 144
   obtain ⟨V,hV,hwS,hsS,HT,_,bS⟩:=seat_out s _ rfl bZ
   have nb:Below wr.heap.size wr V:=hbZ.trans (hwS.below (Nat.le_refl _) (by omega))
   have nV:Below W.heap.size W V:=hbr.trans (nb.mono hbr.size)
   have hlV:=bS.lt
   have HS:Hid (∀ u,Below V.heap.size V u→(u.cell? ⟨wr.heap.size,1,none⟩=some (.int .i64 s.lsn)∧u.cell? ⟨w.heap.size,138,none⟩=some (.slice e.log.a e.log.recs.length e.log.c)∧u.cell? ⟨wr.heap.size,18,none⟩=some (.bool s.dirty)∧u.rangeAt wr.heap.size 1 s.page.cells∧u.cell? ⟨wr.heap.size,0,none⟩=some (.int .i64 (nn:Int))∧u.rangeAt w.heap.size (nn*17) p.cells)):=fun u hu=>by
    have bu:=bS.below hu bS.lt
    have nu:=nV.trans (hu.mono nV.size)
    obtain ⟨_,_,q2,_,_,_,_⟩:=eng_parts se (HB.out u nu)
    have z0:=bu.cell 0 _ rfl
    rw [hnn] at z0
    exact ⟨bu.cell 1 _ rfl,q2 0 _ rfl,bu.cell 18 _ rfl,seat_page s bu,z0,HDG.out u nu⟩
   have hil:(i:Int)<(e.seats.length:Int):=by omega
   have hi0:(0:Int)≤(i:Int):=by omega
   have EV:Hid (ZV.setCells wr.heap.size 0 s.cells.toArray.toList=V):=hV.out
   clear bZ hbZ hsZ hwS hsS bS hV
   go_upto_region 4 with (first | (guard_target=wpList _ _ _ (Oper.mk (some 12) _ _ _ _ _::_) _ _;refine wpList_load_mid rfl 144 (.tmp 11) rfl b (off+i*20) rfl (s.cells) _ hcr Tryz.underlying144 rfl (seat_info _) ?_) | (guard_target=wpList _ _ _ (Oper.mk none (Op.store _ (Operand.tmp 4) _) _ _ _ _::_) _ _;refine wpList_store_mid rfl 144 (.tmp 4) (.tmp 12) rfl wr.heap.size 0 s.cells.toArray rfl rfl (by rw [hZV.out];exact HT.out) (by rw [List.size_toArray];exact seat_info _) (seat_one _) ?_) | fail)
   rw [hZV.out,EV.out]
   clear hZV EV HT hcr
   have D0:Below V.heap.size V V.drew:=(Below.refl _ _).drew
   have N2:Below W.heap.size W V.drew:=nV.trans (D0.mono nV.size)
   have hn0i:(0:Int)≤(nn:Int):=by omega
   have hn8i:(nn:Int)<8:=by omega
   obtain ⟨dr,hdr⟩:∃ dr,Hid (s.dirty=dr):=⟨_,rfl⟩
   rw [hdr.out] at HS
   by_cases hx:s.lsn≤(e.log.recs.length:Int)
   ·have hxn:¬ (e.log.recs.length:Int)<s.lsn:=by omega
    cases dr with
    | true=>
     have HK:Hid (∀ j,j<i+1→seatAt e.v j=true):=fun j hj=>by
      by_cases q:j=i
      ·rw [q,HSK.out,decide_eq_true hx,hdr.out];rfl
      ·exact hall.out j (by omega)
     clear hx
     refine wp_region_held_drew (S:=fun u=>(u.cell? ⟨wr.heap.size,1,none⟩=some (.int .i64 s.lsn)∧u.cell? ⟨w.heap.size,138,none⟩=some (.slice e.log.a e.log.recs.length e.log.c)∧u.cell? ⟨wr.heap.size,18,none⟩=some (.bool true)∧u.rangeAt wr.heap.size 1 s.page.cells∧u.cell? ⟨wr.heap.size,0,none⟩=some (.int .i64 (nn:Int))∧u.rangeAt w.heap.size (nn*17) p.cells)) (by kernel_rfl) (HS.out _ D0) (fun hHeld=>?_)
     generalize V.drew=d0 at*
     refine tq 0 (v:=.pointer (some ⟨wr.heap.size,1,none⟩)) rfl hHeld ?_
     try simp only [zz]
     refine tq 1 (v:=.pointer (some ⟨wr.heap.size,1,none⟩)) rfl hHeld ?_
     try simp only [zz]
     refine tk 2 (v:=.int .i64 s.lsn) rfl (Or.inl ⟨by rfl,?_⟩) hHeld ?_
     ·intro w' hSw
      have hx:=hSw.1
      go_simp<;>rfl
     try simp only [zz]
     refine tq 3 (v:=.pointer (some ⟨w.heap.size,138,none⟩)) rfl hHeld ?_
     try simp only [zz]
     refine tq 4 (v:=.pointer (some ⟨w.heap.size,138,none⟩)) rfl hHeld ?_
     try simp only [zz]
     refine tk 5 (v:=.slice e.log.a e.log.recs.length e.log.c) rfl (Or.inl ⟨by rfl,?_⟩) hHeld ?_
     ·intro w' hSw
      have hx:=hSw.2.1
      go_simp<;>rfl
     try simp only [zz]
     refine tq 6 (v:=.int .i64 (e.log.recs.length:Int)) rfl hHeld ?_
     try simp only [zz]
     refine tq 7 (v:=.bool false) rfl hHeld ?_
     try simp only [zz]
     refine tq 8 (v:=.bool false) rfl hHeld ?_
     try simp only [zz]
     refine tq 9 (v:=.pointer (some ⟨wr.heap.size,18,none⟩)) rfl hHeld ?_
     try simp only [zz]
     refine tk 10 (v:=.bool true) rfl (Or.inl ⟨by rfl,?_⟩) hHeld ?_
     ·intro w' hSw
      have hx:=hSw.2.2.1
      go_simp<;>rfl
     try simp only [zz]
     refine tq 11 (v:=.bool false) rfl hHeld ?_
     try simp only [zz]
     refine tq 12 (v:=.bool false) rfl hHeld ?_
     try simp only [zz]
     refine tk 13 (v:=undef) rfl (Or.inr ⟨by rfl,rfl⟩) hHeld ?_
     try simp only [zz]
     refine tk 14 (v:=undef) rfl (Or.inr ⟨by rfl,rfl⟩) hHeld ?_
     try simp only [zz]
     refine tk 15 (v:=undef) rfl (Or.inr ⟨by rfl,rfl⟩) hHeld ?_
     try simp only [zz]
     refine tk 16 (v:=undef) rfl (Or.inr ⟨by rfl,rfl⟩) hHeld ?_
     try simp only [zz]
     refine tk 17 (v:=undef) rfl (Or.inr ⟨by rfl,rfl⟩) hHeld ?_
     try simp only [zz]
     refine tk 18 (v:=undef) rfl (Or.inr ⟨by rfl,rfl⟩) hHeld ?_
     try simp only [zz]
     refine tk 19 (v:=undef) rfl (Or.inr ⟨by rfl,rfl⟩) hHeld ?_
     try simp only [zz]
     refine tk 20 (v:=undef) rfl (Or.inr ⟨by rfl,rfl⟩) hHeld ?_
     try simp only [zz]
     refine tk 21 (v:=undef) rfl (Or.inr ⟨by rfl,rfl⟩) hHeld ?_
     try simp only [zz]
     refine tq 22 (v:=.bool false) rfl hHeld ?_
     try simp only [zz]
     refine tq 23 (v:=.bool false) rfl hHeld ?_
     try simp only [zz]
     refine wpAnyH_done (by kernel_rfl) ?_ _
     clear hHeld
     go_wp2_with fail
     go_roundw
     case rel=>exact ⟨i+1,by omega,by go_num,HK,N2⟩
     case measure=>simp [intOf];omega
    | false=>
     obtain ⟨sm,HSM⟩:∃ sm,Hid (samePg (s.lsn,s.ss.map (·.v)) (p.lsn,p.ss.map (·.v))=sm):=⟨_,rfl⟩
     have HSM':Hid (_=_):=HSM.out
     replace HSM:Hid (samePg (s.page.lsn,s.page.ss.map (·.v)) (p.lsn,p.ss.map (·.v))=sm):=HSM.out
     cases sm with
     | true=>
      have HK:Hid (∀ j,j<i+1→seatAt e.v j=true):=fun j hj=>by
       by_cases q:j=i
       ·rw [q,HSK.out,decide_eq_true hx,hdr.out,HSM'.out];rfl
       ·exact hall.out j (by omega)
      clear hx
      refine wp_region_held_drew (S:=fun u=>(u.cell? ⟨wr.heap.size,1,none⟩=some (.int .i64 s.lsn)∧u.cell? ⟨w.heap.size,138,none⟩=some (.slice e.log.a e.log.recs.length e.log.c)∧u.cell? ⟨wr.heap.size,18,none⟩=some (.bool false)∧u.rangeAt wr.heap.size 1 s.page.cells∧u.cell? ⟨wr.heap.size,0,none⟩=some (.int .i64 (nn:Int))∧u.rangeAt w.heap.size (nn*17) p.cells)) (by kernel_rfl) (HS.out _ D0) (fun hHeld=>?_)
      generalize V.drew=d0 at*
      refine tq 0 (v:=.pointer (some ⟨wr.heap.size,1,none⟩)) rfl hHeld ?_
      try simp only [zz]
      refine tq 1 (v:=.pointer (some ⟨wr.heap.size,1,none⟩)) rfl hHeld ?_
      try simp only [zz]
      refine tk 2 (v:=.int .i64 s.lsn) rfl (Or.inl ⟨by rfl,?_⟩) hHeld ?_
      ·intro w' hSw
       have hx:=hSw.1
       go_simp<;>rfl
      try simp only [zz]
      refine tq 3 (v:=.pointer (some ⟨w.heap.size,138,none⟩)) rfl hHeld ?_
      try simp only [zz]
      refine tq 4 (v:=.pointer (some ⟨w.heap.size,138,none⟩)) rfl hHeld ?_
      try simp only [zz]
      refine tk 5 (v:=.slice e.log.a e.log.recs.length e.log.c) rfl (Or.inl ⟨by rfl,?_⟩) hHeld ?_
      ·intro w' hSw
       have hx:=hSw.2.1
       go_simp<;>rfl
      try simp only [zz]
      refine tq 6 (v:=.int .i64 (e.log.recs.length:Int)) rfl hHeld ?_
      try simp only [zz]
      refine tq 7 (v:=.bool false) rfl hHeld ?_
      try simp only [zz]
      refine tq 8 (v:=.bool false) rfl hHeld ?_
      try simp only [zz]
      refine tq 9 (v:=.pointer (some ⟨wr.heap.size,18,none⟩)) rfl hHeld ?_
      try simp only [zz]
      refine tk 10 (v:=.bool false) rfl (Or.inl ⟨by rfl,?_⟩) hHeld ?_
      ·intro w' hSw
       have hx:=hSw.2.2.1
       go_simp<;>rfl
      try simp only [zz]
      refine tq 11 (v:=.bool true) rfl hHeld ?_
      try simp only [zz]
      refine tq 12 (v:=.bool true) rfl hHeld ?_
      try simp only [zz]
      refine tq 13 (v:=.pointer (some ⟨wr.heap.size,1,none⟩)) rfl hHeld ?_
      try simp only [zz]
      refine tk 14 rfl (yieldsIf_load_mid (by rfl) _ _ rfl _ _ rfl (s.page.cells) _ (fun _ h=>h.2.2.2.1) Tryz.underlying47 rfl (page_infoP _ rfl)) hHeld ?_
      try simp only [zz]
      refine tq 15 (v:=.pointer (some ⟨wr.heap.size,0,none⟩)) rfl hHeld ?_
      try simp only [zz]
      refine tk 16 (v:=.int .i64 (nn:Int)) rfl (Or.inl ⟨by rfl,?_⟩) hHeld ?_
      ·intro w' hSw
       have hx:=hSw.2.2.2.2.1
       go_simp<;>rfl
      try simp only [zz]
      refine tq 17 (v:=.pointer (some ⟨w.heap.size,0,none⟩)) rfl hHeld ?_
      try simp only [zz]
      refine tq 18 (v:=.pointer (some ⟨w.heap.size,nn*17,none⟩)) rfl hHeld ?_
      try simp only [zz]
      refine tk 19 rfl (yieldsIf_load_mid (by rfl) _ _ rfl _ _ rfl (p.cells) _ (fun _ h=>h.2.2.2.2.2) Tryz.underlying47 rfl (page_infoP _ HQ4)) hHeld ?_
      try simp only [zz]
      refine wpAnyH_ready (rs:=[20]) (by kernel_rfl) (by simp) ?_
      refine AllReadyH.cons rfl (fun K hK=>?_) AllReadyH.nil
      go_simp
      refine (implSamePage_any s.page p rfl HQ4 _ (HRS.out _ N2).1 (HRS.out _ N2).2 F1 F2).mono ?_
      rintro r d1 ⟨rfl,hb1⟩
      have D1:Below V.heap.size V d1:=D0.trans (hb1.mono D0.size)
      have N3:Below W.heap.size W d1:=nV.trans (D1.mono nV.size)
      rw [HSM.out]
      refine hK.out _ _ (HS.out _ D1) (fun hHeld=>?_)
      clear hK K hb1
      try simp only [zz]
      refine tq 21 (v:=.bool false) rfl hHeld ?_
      try simp only [zz]
      refine tq 22 (v:=.bool false) rfl hHeld ?_
      try simp only [zz]
      refine tq 23 (v:=.bool false) rfl hHeld ?_
      try simp only [zz]
      refine wpAnyH_done (by kernel_rfl) ?_ _
      clear hHeld
      go_wp2_with fail
      go_roundw
      case rel=>exact ⟨i+1,by omega,by go_num,HK,N3⟩
      case measure=>simp [intOf];omega
     | false=>
      have HXF:Hid (ROK=false):=HSN.out (by rw [HSK.out,decide_eq_true hx,hdr.out,HSM'.out];rfl)
      clear hx
      refine wp_region_held_drew (S:=fun u=>(u.cell? ⟨wr.heap.size,1,none⟩=some (.int .i64 s.lsn)∧u.cell? ⟨w.heap.size,138,none⟩=some (.slice e.log.a e.log.recs.length e.log.c)∧u.cell? ⟨wr.heap.size,18,none⟩=some (.bool false)∧u.rangeAt wr.heap.size 1 s.page.cells∧u.cell? ⟨wr.heap.size,0,none⟩=some (.int .i64 (nn:Int))∧u.rangeAt w.heap.size (nn*17) p.cells)) (by kernel_rfl) (HS.out _ D0) (fun hHeld=>?_)
      generalize V.drew=d0 at*
      refine tq 0 (v:=.pointer (some ⟨wr.heap.size,1,none⟩)) rfl hHeld ?_
      try simp only [zz]
      refine tq 1 (v:=.pointer (some ⟨wr.heap.size,1,none⟩)) rfl hHeld ?_
      try simp only [zz]
      refine tk 2 (v:=.int .i64 s.lsn) rfl (Or.inl ⟨by rfl,?_⟩) hHeld ?_
      ·intro w' hSw
       have hx:=hSw.1
       go_simp<;>rfl
      try simp only [zz]
      refine tq 3 (v:=.pointer (some ⟨w.heap.size,138,none⟩)) rfl hHeld ?_
      try simp only [zz]
      refine tq 4 (v:=.pointer (some ⟨w.heap.size,138,none⟩)) rfl hHeld ?_
      try simp only [zz]
      refine tk 5 (v:=.slice e.log.a e.log.recs.length e.log.c) rfl (Or.inl ⟨by rfl,?_⟩) hHeld ?_
      ·intro w' hSw
       have hx:=hSw.2.1
       go_simp<;>rfl
      try simp only [zz]
      refine tq 6 (v:=.int .i64 (e.log.recs.length:Int)) rfl hHeld ?_
      try simp only [zz]
      refine tq 7 (v:=.bool false) rfl hHeld ?_
      try simp only [zz]
      refine tq 8 (v:=.bool false) rfl hHeld ?_
      try simp only [zz]
      refine tq 9 (v:=.pointer (some ⟨wr.heap.size,18,none⟩)) rfl hHeld ?_
      try simp only [zz]
      refine tk 10 (v:=.bool false) rfl (Or.inl ⟨by rfl,?_⟩) hHeld ?_
      ·intro w' hSw
       have hx:=hSw.2.2.1
       go_simp<;>rfl
      try simp only [zz]
      refine tq 11 (v:=.bool true) rfl hHeld ?_
      try simp only [zz]
      refine tq 12 (v:=.bool true) rfl hHeld ?_
      try simp only [zz]
      refine tq 13 (v:=.pointer (some ⟨wr.heap.size,1,none⟩)) rfl hHeld ?_
      try simp only [zz]
      refine tk 14 rfl (yieldsIf_load_mid (by rfl) _ _ rfl _ _ rfl (s.page.cells) _ (fun _ h=>h.2.2.2.1) Tryz.underlying47 rfl (page_infoP _ rfl)) hHeld ?_
      try simp only [zz]
      refine tq 15 (v:=.pointer (some ⟨wr.heap.size,0,none⟩)) rfl hHeld ?_
      try simp only [zz]
      refine tk 16 (v:=.int .i64 (nn:Int)) rfl (Or.inl ⟨by rfl,?_⟩) hHeld ?_
      ·intro w' hSw
       have hx:=hSw.2.2.2.2.1
       go_simp<;>rfl
      try simp only [zz]
      refine tq 17 (v:=.pointer (some ⟨w.heap.size,0,none⟩)) rfl hHeld ?_
      try simp only [zz]
      refine tq 18 (v:=.pointer (some ⟨w.heap.size,nn*17,none⟩)) rfl hHeld ?_
      try simp only [zz]
      refine tk 19 rfl (yieldsIf_load_mid (by rfl) _ _ rfl _ _ rfl (p.cells) _ (fun _ h=>h.2.2.2.2.2) Tryz.underlying47 rfl (page_infoP _ HQ4)) hHeld ?_
      try simp only [zz]
      refine wpAnyH_ready (rs:=[20]) (by kernel_rfl) (by simp) ?_
      refine AllReadyH.cons rfl (fun K hK=>?_) AllReadyH.nil
      go_simp
      refine (implSamePage_any s.page p rfl HQ4 _ (HRS.out _ N2).1 (HRS.out _ N2).2 F1 F2).mono ?_
      rintro r d1 ⟨rfl,hb1⟩
      have D1:Below V.heap.size V d1:=D0.trans (hb1.mono D0.size)
      have N3:Below W.heap.size W d1:=nV.trans (D1.mono nV.size)
      rw [HSM.out]
      refine hK.out _ _ (HS.out _ D1) (fun hHeld=>?_)
      clear hK K hb1
      try simp only [zz]
      refine tq 21 (v:=.bool true) rfl hHeld ?_
      try simp only [zz]
      refine tq 22 (v:=.bool true) rfl hHeld ?_
      try simp only [zz]
      refine tq 23 (v:=.bool true) rfl hHeld ?_
      try simp only [zz]
      refine wpAnyH_done (by kernel_rfl) ?_ _
      clear hHeld
      have HE:Hid (ROK=false∧Below w.heap.size w d1):=⟨HXF.out,HEND.out _ N3⟩
      go_wp2
      go_ret
      exact ⟨ret_bool HE.out.1.symm,HE.out.2⟩
   ·have hxn:(e.log.recs.length:Int)<s.lsn:=by omega
    have HXF:Hid (ROK=false):=HSN.out (by rw [HSK.out,decide_eq_false hx];rfl)
    clear hx
    refine wp_region_held_drew (S:=fun u=>(u.cell? ⟨wr.heap.size,1,none⟩=some (.int .i64 s.lsn)∧u.cell? ⟨w.heap.size,138,none⟩=some (.slice e.log.a e.log.recs.length e.log.c)∧u.cell? ⟨wr.heap.size,18,none⟩=some (.bool dr)∧u.rangeAt wr.heap.size 1 s.page.cells∧u.cell? ⟨wr.heap.size,0,none⟩=some (.int .i64 (nn:Int))∧u.rangeAt w.heap.size (nn*17) p.cells)) (by kernel_rfl) (HS.out _ D0) (fun hHeld=>?_)
    generalize V.drew=d0 at*
    refine tq 0 (v:=.pointer (some ⟨wr.heap.size,1,none⟩)) rfl hHeld ?_
    try simp only [zz]
    refine tq 1 (v:=.pointer (some ⟨wr.heap.size,1,none⟩)) rfl hHeld ?_
    try simp only [zz]
    refine tk 2 (v:=.int .i64 s.lsn) rfl (Or.inl ⟨by rfl,?_⟩) hHeld ?_
    ·intro w' hSw
     have hx:=hSw.1
     go_simp<;>rfl
    try simp only [zz]
    refine tq 3 (v:=.pointer (some ⟨w.heap.size,138,none⟩)) rfl hHeld ?_
    try simp only [zz]
    refine tq 4 (v:=.pointer (some ⟨w.heap.size,138,none⟩)) rfl hHeld ?_
    try simp only [zz]
    refine tk 5 (v:=.slice e.log.a e.log.recs.length e.log.c) rfl (Or.inl ⟨by rfl,?_⟩) hHeld ?_
    ·intro w' hSw
     have hx:=hSw.2.1
     go_simp<;>rfl
    try simp only [zz]
    refine tq 6 (v:=.int .i64 (e.log.recs.length:Int)) rfl hHeld ?_
    try simp only [zz]
    refine tq 7 (v:=.bool true) rfl hHeld ?_
    try simp only [zz]
    refine tq 8 (v:=.bool true) rfl hHeld ?_
    try simp only [zz]
    refine tk 9 (v:=undef) rfl (Or.inr ⟨by rfl,rfl⟩) hHeld ?_
    try simp only [zz]
    refine tk 10 (v:=undef) rfl (Or.inr ⟨by rfl,rfl⟩) hHeld ?_
    try simp only [zz]
    refine tk 11 (v:=undef) rfl (Or.inr ⟨by rfl,rfl⟩) hHeld ?_
    try simp only [zz]
    refine tk 12 (v:=undef) rfl (Or.inr ⟨by rfl,rfl⟩) hHeld ?_
    try simp only [zz]
    refine tk 13 (v:=undef) rfl (Or.inr ⟨by rfl,rfl⟩) hHeld ?_
    try simp only [zz]
    refine tk 14 (v:=undef) rfl (Or.inr ⟨by rfl,rfl⟩) hHeld ?_
    try simp only [zz]
    refine tk 15 (v:=undef) rfl (Or.inr ⟨by rfl,rfl⟩) hHeld ?_
    try simp only [zz]
    refine tk 16 (v:=undef) rfl (Or.inr ⟨by rfl,rfl⟩) hHeld ?_
    try simp only [zz]
    refine tk 17 (v:=undef) rfl (Or.inr ⟨by rfl,rfl⟩) hHeld ?_
    try simp only [zz]
    refine tk 18 (v:=undef) rfl (Or.inr ⟨by rfl,rfl⟩) hHeld ?_
    try simp only [zz]
    refine tk 19 (v:=undef) rfl (Or.inr ⟨by rfl,rfl⟩) hHeld ?_
    try simp only [zz]
    refine tk 20 (v:=undef) rfl (Or.inr ⟨by rfl,rfl⟩) hHeld ?_
    try simp only [zz]
    refine tk 21 (v:=undef) rfl (Or.inr ⟨by rfl,rfl⟩) hHeld ?_
    try simp only [zz]
    refine tk 22 (v:=undef) rfl (Or.inr ⟨by rfl,rfl⟩) hHeld ?_
    try simp only [zz]
    refine tq 23 (v:=.bool true) rfl hHeld ?_
    try simp only [zz]
    refine wpAnyH_done (by kernel_rfl) ?_ _
    clear hHeld
    have HE:Hid (ROK=false∧Below w.heap.size w d0):=⟨HXF.out,HEND.out _ N2⟩
    go_wp2
    go_ret
    exact ⟨ret_bool HE.out.1.symm,HE.out.2⟩
  ·have e1:i=e.seats.length:=by omega
   have HE:Hid (ROK=true∧Below w.heap.size w wr):=⟨HYES.out (by rw [e1] at hall;exact hall.out),HEND.out _ hbr⟩
   have hge:¬ (i:Int)<(e.seats.length:Int):=by omega
   clear hall e1
   go_wp2
   go_ret
   exact ⟨ret_bool HE.out.1.symm,HE.out.2⟩
theorem copyPage_own (p:PageA) (h4:p.ss.length=4) (w:World) (hr:ReadsS w p.ss) (hl:Fit p.ss):
  Calls Tryz.prog 59 #[.agg p.cells.toArray] w fun e w'=>∃ ts:List SlotA,e=.returned (.agg (PageA.cells ⟨p.lsn,ts⟩).toArray)∧Hid (ts.map (·.v)=p.ss.map (·.v))∧OwnS w' w.heap.size w'.heap.size ts∧Below w.heap.size w w':=by
 obtain ⟨n,ss⟩:=p
 simp only [PageA.cells] at*
 obtain ⟨W,hW,b0,b1,b2,hbW,hsW⟩:=boxes3 w (.int .i64 n::cellsS ss) [.int .i64 0,.bool false,.int .i64 0,.slice none 0 0,.slice none 0 0,.bool false,.int .i64 0,.slice none 0 0,.slice none 0 0,.bool false,.int .i64 0,.slice none 0 0,.slice none 0 0,.bool false,.int .i64 0,.slice none 0 0,.slice none 0 0] [.int .i64 n,.bool false,.int .i64 0,.slice none 0 0,.slice none 0 0,.bool false,.int .i64 0,.slice none 0 0,.slice none 0 0,.bool false,.int .i64 0,.slice none 0 0,.slice none 0 0,.bool false,.int .i64 0,.slice none 0 0,.slice none 0 0] 47 47 47
 have b1':Box W (w.heap.size+1) ([]++((.int .i64 0::cellsS zero4)++[])) 47:=b1
 have b2':Box W (w.heap.size+1+1) (.int .i64 n::cellsS ([]++List.replicate (4-0) zeroS)) 47:=b2
 have hsW':w.heap.size+1+1<W.heap.size:=by omega
 have hc0:(((w.alloc (.cells (.int .i64 n::cellsS ss).toArray 47)).alloc (.cells #[.int .i64 0,.bool false,.int .i64 0,.slice none 0 0,.slice none 0 0,.bool false,.int .i64 0,.slice none 0 0,.slice none 0 0,.bool false,.int .i64 0,.slice none 0 0,.slice none 0 0,.bool false,.int .i64 0,.slice none 0 0,.slice none 0 0] 47))).cell? ⟨w.heap.size,0,none⟩=some (.int .i64 n):=((box_new w (.int .i64 n::cellsS ss) 47).alloc _).cell 0 _ rfl
 have hrg0:W.rangeAt w.heap.size 1 (cellsS ss):=Box.range [.int .i64 n] (cellsS ss) [] (by simpa using b0)
 have hi0:(Tryz.prog.info? 45).map (·.size)=some (cellsS ss).length:=by rw [cellsS_len,h4];kernel_rfl
 have HX:=run_index_slot ss h4
 have H4:Hid (ss.length=4):=h4
 clear b1 b2 hsW h4
 go_enter Tryz.func59,Tryz.ntmps59
 go_wp2_with (first | (guard_target=wpList _ _ _ (Oper.mk (some 10) _ _ _ _ _::_) _ _;refine wpList_load_mid rfl 45 (.tmp 9) rfl w.heap.size 1 rfl (cellsS ss) _ (by rw [hW.out];exact hrg0) Tryz.underlying45 rfl hi0 ?_) | fail)
 rw [hW.out]
 clear hW hrg0 hi0 hc0
 go_loopw [11] (fun i wr=>∃ (k:Nat) (ts:List SlotA),i=.int .i64 k∧k≤4∧Hid (ts.length=k∧ts.map (·.v)=(ss.take k).map (·.v))∧OwnS wr W.heap.size wr.heap.size ts∧Box wr (w.heap.size+1+1) (.int .i64 n::cellsS (ts++List.replicate (4-k) zeroS)) 47∧Below (w.heap.size+1+1) W wr)
  (fun i _=>4-(intOf i).toNat)
 case atStart=>exact ⟨0,[],rfl,by omega,⟨rfl,rfl⟩,OwnS.nil _ _ _,b2',Below.refl _ _⟩
 case round=>
  obtain ⟨k,ts,rfl,hk,hts,hown,hbox,hbl⟩:=hrel
  clear b2'
  have b1r:=b1'.below hbl (by omega)
  have hsr:=hbl.size
  have hsz:=hbox.lt
  by_cases hlt:k<4
  ·have hkl:k<ss.length:=by rw [H4.out];exact hlt
   have hx:=HX k hlt
   clear HX
   have hrk:=(hr _ (getD_mem hkl)).below (hbW.trans (hbl.mono (by omega)))
   have hlk:=hl _ (getD_mem hkl)
   have HV:Hid ((ss.take (k+1)).map (·.v)=(ss.take k).map (·.v)++[(ss.getD k zeroS).v]):=by
    rw [Hid,List.take_add_one,List.map_append]
    simp [List.getD,hkl]
   generalize ss.getD k zeroS=s at*
   simp only [SlotA.cells] at hx
   obtain ⟨W1,hW1,bx,hbx1,hsx1⟩:=boxes1 wr [.bool s.v.has,.int .i64 s.v.o.kind,.slice s.aI s.v.o.ints.length s.cI,.slice s.aR s.v.o.refs.length s.cR] 44
   have C:=copySlot_own s W1 (ReadsO.below hrk hbx1) hlk.1 hlk.2
   simp only [SlotA.cells] at C
   go_wp2_with fail
   rw [hW1.out]
   refine C.mono ?_
   clear C hx hrk hlk
   rintro e w1 ⟨t,rfl,hv,ho,hb1⟩
   have hs1:=hb1.size
   have N1:Below wr.heap.size wr w1:=hbx1.trans (hb1.mono (by omega))
   have hbx:=hbox.below N1 hsz
   have hkt:k<(ts++List.replicate (4-k) zeroS).length:=by have:=hts.out.1;simp;omega
   obtain ⟨W2,hW2,b2,hw2,hs2⟩:=pslot_fill hbx k hkt t
   obtain ⟨x0,x1,x2,x3,hfz⟩:=hbx.pslot k hkt
   have f0:=hfz (1+k*4)
   have f1:=hfz (1+k*4+1)
   have f2:=hfz (1+k*4+2)
   have f3:=hfz (1+k*4+3)
   generalize (ts++List.replicate (4-k) zeroS).getD k zeroS=old at*
   have b2':Box W2 (w.heap.size+1+1) (.int .i64 n::cellsS ((ts++[t])++List.replicate (4-(k+1)) zeroS)) 47:=by
    rw [show 4-k=(4-(k+1))+1 by omega] at b2
    have e:=set_snoc ts (4-(k+1)) t
    rw [hts.out.1] at e
    rw [e] at b2
    exact b2
   have hown1:OwnS w1 W.heap.size W1.heap.size ts:=(hown.below N1).widen (Nat.le_refl _) (by omega) (by omega)
   have hO1:OwnS w1 W.heap.size w1.heap.size (ts++[t]):=hown1.snoc ho (by omega) hs1 (Nat.le_refl _)
   have hO2:OwnS W2 W.heap.size W2.heap.size (ts++[t]):=(hO1.within hw2 (.inr (by omega))).widen (Nat.le_refl _) (by omega) (Nat.le_refl _)
   have hB2:Below (w.heap.size+1+1) W W2:=(hbl.trans (N1.mono (by omega))).trans (hw2.below (Nat.le_refl _) (by omega))
   have HT:Hid ((ts++[t]).length=k+1∧(ts++[t]).map (·.v)=(ss.take (k+1)).map (·.v)):=by
    refine ⟨by have:=hts.out.1;simp;omega,?_⟩
    rw [HV.out,List.map_append,hts.out.2,← hv.out]
    rfl
   have hi0:(0:Int)≤(k:Int):=by omega
   have hi4:(k:Int)<4:=by omega
   clear hfz hs2 hw2 b2 hO1 hown hown1 hbox hbx hts HV hkt hb1 ho N1 hbx1
   go_wp2_with fail
   rw [hW2.out]
   go_roundw
   case rel=>exact ⟨k+1,ts++[t],by go_num,by omega,HT,hO2,b2',hB2⟩
   case measure=>simp [intOf];omega
  ·obtain rfl:k=4:=by omega
   have hkk:¬ ((4:Nat):Int)<4:=by omega
   have hrp:ts++List.replicate (4-4) zeroS=ts:=by simp
   rw [hrp] at hbox
   have htl:ts.length=4:=hts.out.1
   have HMV:Hid (ts.map (·.v)=ss.map (·.v)):=by rw [Hid,hts.out.2,List.take_of_length_le (by rw [H4.out];omega)]
   obtain ⟨WF,hWF,bF,hwF,hsF⟩:=range_fill [] (.int .i64 0::cellsS zero4) (.int .i64 n::cellsS ts) [] b1r (by simp only [List.length_cons,cellsS_len,htl];rfl)
   have HWF:Hid (wr.setCells (w.heap.size+1) 0 (.int .i64 n::cellsS ts)=WF):=hWF.out
   have HR2:Hid (wr.rangeAt (w.heap.size+1+1) 0 (.int .i64 n::cellsS ts)):=Box.range [] (.int .i64 n::cellsS ts) [] (by simpa using hbox)
   have HTF:Hid (wr.there (w.heap.size+1) 0 (.int .i64 n::cellsS ts).toArray.size):=b1r.there 0 _ (by simp only [List.size_toArray,cellsS_len,htl,List.length_append,List.length_cons,List.length_nil];decide)
   have hrF:WF.rangeAt (w.heap.size+1) 0 (.int .i64 n::cellsS ts):=Box.range [] (.int .i64 n::cellsS ts) [] (by simpa using bF)
   have HI:Hid ((Tryz.prog.info? 47).map (·.size)=some (.int .i64 n::cellsS ts).length):=by rw [Hid,List.length_cons,cellsS_len,htl];kernel_rfl
   have HO:Hid (_):=all_oneCell_toArray (oneP ⟨n,ts⟩)
   have HLF:Hid (_):=run_loadVar_mid (P:=Tryz.prog) _ (w.heap.size+1) 0 47 (.int .i64 n::cellsS ts) _ hrF Tryz.underlying47 rfl HI.out
   have HOF:Hid (OwnS WF w.heap.size WF.heap.size ts):=(hown.within hwF (.inr (by omega))).widen (by omega) (by omega) (Nat.le_refl _)
   have HBF:Hid (Below w.heap.size w WF):=(hbW.trans (hbl.mono (by omega))).trans (hwF.below (by omega) (by omega))
   simp only [PageA.cells] at HO
   clear hWF bF hwF hsF hrF hrp htl hbox hown HX hts
   go_wp2_with (first | (guard_target=wpList _ _ _ (Oper.mk (some 21) _ _ _ _ _::_) _ _;refine wpList_load_mid rfl 47 (.tmp 3) rfl (w.heap.size+1+1) 0 rfl (.int .i64 n::cellsS ts) _ HR2.out Tryz.underlying47 rfl HI.out ?_) | (guard_target=wpList _ _ _ (Oper.mk none (Op.store _ (Operand.tmp 2) _) _ _ _ _::_) _ _;refine wpList_store_mid rfl 47 (.tmp 2) (.tmp 21) rfl (w.heap.size+1) 0 (.int .i64 n::cellsS ts).toArray rfl rfl HTF.out (by rw [List.size_toArray];exact HI.out) HO.out ?_) | fail)
   rw [HWF.out]
   exact bodyPost_ret (v:=.agg (.int .i64 n::cellsS ts).toArray) (results_one Tryz.results59 rfl HLF.out) rfl ⟨ts,rfl,HMV,HOF.out,HBF.out⟩
end Go.Proofs.YtfehemepdoomdaaGreatDoor
namespace Go.Proofs.YtfehemepdoomdaaGreatDoor
open Go.RowKit
theorem build_seats1 {w:World} {ops:Array Oper} {rest:List Oper} {dst:Option Nat} {ty:TypeId} {pos:String} {aft:Array Edge} {act:Act} {Q:Exit→Act→World→Prop} (x:Operand)
  (q:SeatA) (hx:act.eval x=.agg q.cells.toArray)
  (h:wpList Tryz.prog ops Q rest (act.put dst (.slice (some ⟨w.heap.size,0,none⟩) 1 1)) (w.alloc (.cells q.cells.toArray 144))):
  wpList Tryz.prog ops Q ({ dst:=dst,op:=.buildSlice 49 1 #[(0,x)],type:=ty,pos:=pos,after:=aft,guard:=none }::rest) act w:=by
 refine wpList_plain rfl fun K hK=>?_
 unfold Oper.wp execOp
 simp only [List.map_toArray,List.map_cons,List.map_nil,hx]
 go_simp
 simp only [cellsSt_len,lit_seat,not_true_eq_false,Nat.lt_irrefl,or_self,if_false]
 go_simp
 exact hK _ _ h
theorem copyPool_any (l:PoolA) (w:World) (hr:l.reads w) (hl:l.short 1048576):
  Calls Tryz.prog 60 #[.agg l.cells.toArray] w fun e w'=>∃ t:PoolA,e=.returned (.agg t.cells.toArray)∧Hid (t.v=l.v)∧t.own w' w.heap.size w'.heap.size∧Below w.heap.size w w':=by
 obtain ⟨rs,s,a,c⟩:=l
 have hl2:=(PoolA.short_wide hl).each
 have hl0:=hl.len
 simp only [PoolA.reads,PoolA.cells,PoolA.own] at*
 obtain ⟨W,hW,b0,b1,b2,hbW,hsW⟩:=boxes3 w [.slice a rs.length c,.int .i64 s] [.slice none 0 0,.int .i64 0] [.slice none 0 0,.int .i64 s] 51 51 51
 have hs0:w.heap.size+1+1<W.heap.size:=by omega
 clear hsW
 have x0:=b0.cell 0 _ rfl
 have HC:Hid (∀ k,k<rs.length→∃ b off,a=some ⟨b,off,none⟩∧w.rangeAt b (off+k*20) (rs.getD k zeroSt).cells∧(rs.getD k zeroSt).reads w∧(rs.getD k zeroSt).short 1099511627776):=fun k hk=>by
  obtain ⟨b,off,ha,hc⟩:=hr (by intro e;rw [e] at hk;simp at hk)
  exact ⟨b,off,ha,(hc k hk).1,(hc k hk).2,hl2 _ (seatD_mem rs k hk)⟩
 have HJ:Hid ((Tryz.prog.info? 144).map (·.size)=some 20):=by rw [Hid];kernel_rfl
 clear hr hl hl2
 go_enter Tryz.func60,Tryz.ntmps60
 go_wp2_with fail
 rw [hW.out]
 clear hW x0
 go_loopw [12] (fun i wr=>∃ (k:Nat) (ts:List SeatA) (a':Option Addr) (c':Nat),k≤rs.length∧i=.int .i64 k∧Hid (CameSt rs ts k)∧Box wr (w.heap.size+1+1) [.slice a' ts.length c',.int .i64 s] 51∧Box wr (w.heap.size+1) [.slice none 0 0,.int .i64 0] 51∧OwnSts wr W.heap.size wr.heap.size a' c' ts∧Below w.heap.size w wr∧W.heap.size≤wr.heap.size)
  (fun i _=>rs.length-(intOf i).toNat)
 case atStart=>exact ⟨0,[],none,0,Nat.zero_le _,rfl,cameSt_none rs,b2,b1,ownSts_nil _ _ _ (Nat.le_refl _),hbW,Nat.le_refl _⟩
 case round=>
  obtain ⟨k,ts,a',c',hk,rfl,hc,k2,k1,hown,hnx,hsz⟩:=hrel
  clear b0 b1 b2 hbW
  by_cases hlt:k<rs.length
  ·obtain ⟨b,off,rfl,hcell,hrd,hsh⟩:=HC.out k hlt
   have hnw:=hnx.size
   have HRG:Hid (wr.rangeAt b (off+k*20) (rs.getD k zeroSt).cells):=rangeAt_below hcell hnx (rangeSt_lt hcell)
   have HS:Hid (∀ q:SeatA,q.v=(rs.getD k zeroSt).v→CameSt rs (ts++[q]) (k+1)):=fun q hq=>hc.out.snoc hlt hq
   have hll:ts.length+1≤68719476736:=by have:=hc.out.1;omega
   have hrdw:=hrd.below hnx
   have hkk:(k:Int)<(rs.length:Int):=by omega
   have hk0:(0:Int)≤(k:Int):=by omega
   clear hcell HC hrd hc
   generalize rs.getD k zeroSt=z at*
   obtain ⟨W1,hW1,d1,hb1,hs1⟩:=boxes1 wr [.int .i64 0,.int .i64 0,.bool false,.int .i64 0,.slice none 0 0,.slice none 0 0,.bool false,.int .i64 0,.slice none 0 0,.slice none 0 0,.bool false,.int .i64 0,.slice none 0 0,.slice none 0 0,.bool false,.int .i64 0,.slice none 0 0,.slice none 0 0,.bool false,.bool false] 144
   obtain ⟨W2,hW2,hw2,hs2,HT2,_,d2⟩:=seat_out z _ rfl d1
   have hB2:Below wr.heap.size wr W2:=hb1.trans (hw2.below (Nat.le_refl _) (by omega))
   have xp:W2.rangeAt wr.heap.size 1 z.page.cells:=seat_page z d2
   have HIP:=Tryz.infoPg z.page rfl
   have C:=copyPage_own z.page rfl W2 (hrdw.below hB2) hsh
   have HW2:Hid (W1.setCells wr.heap.size 0 z.cells.toArray.toList=W2):=hW2.out
   have hOz:=seat_one z
   have k22:=k2.below hB2 k2.lt
   have k12:=k1.below hB2 k1.lt
   have o2:=hown.below hB2
   have hn2:Below w.heap.size w W2:=hnx.trans (hB2.mono hnw)
   have hs2':=hB2.size
   have hd2:=d2.lt
   clear hs1 hs2 d1 hb1 hw2 hW2 hrdw hsh k2 k1 hown hnx
   generalize hpc:z.page.cells=pc at*
   go_wp2_with (first | (guard_target=wpList _ _ _ (Oper.mk (some 15) _ _ _ _ _::_) _ _;refine wpList_load_mid rfl 144 (.tmp 14) rfl b (off+k*20) rfl z.cells _ HRG.out Tryz.underlying144 rfl HJ.out ?_) | (guard_target=wpList _ _ _ (Oper.mk none (Op.store _ (Operand.tmp 5) _) _ _ _ _::_) _ _;refine wpList_store_mid rfl 144 (.tmp 5) (.tmp 15) rfl wr.heap.size 0 z.cells.toArray rfl rfl (by rw [hW1.out];exact HT2.out) HJ.out hOz ?_;rw [hW1.out,HW2.out]) | (guard_target=wpList _ _ _ (Oper.mk (some 17) _ _ _ _ _::_) _ _;refine wpList_load_mid rfl 47 (.tmp 16) rfl wr.heap.size 1 rfl pc _ xp Tryz.underlying47 rfl HIP ?_) | fail)
   refine C.mono ?_
   clear C xp HIP HRG hW1 HW2 HT2 hpc
   rintro e w3 ⟨us,rfl,hv,ho,hb3⟩
   obtain ⟨y0,y1,y2,y3,rfl⟩:=four_slots' (ts:=us) (by have:=congrArg List.length hv.out;simpa [SeatA.page,SeatA.ss] using this)
   have hs3:=hb3.size
   have d3:=d2.below hb3 d2.lt
   obtain ⟨W4,hW4,d4,hw4,hs4,hth4⟩:=seat_fill z d3 z.page.lsn y0 y1 y2 y3
   obtain ⟨q,hq⟩:∃ q:SeatA,Hid ((⟨z.no,z.page.lsn,y0,y1,y2,y3,z.dirty,z.hot⟩:SeatA)=q):=⟨_,rfl⟩
   rw [hq.out] at d4
   have oq:q.own w3 W2.heap.size w3.heap.size:=by rw [← hq.out];exact ho
   have HV:Hid (q.v=z.v):=by rw [Hid,← hq.out];simp only [SeatA.v,SeatA.ss];rw [show List.map (fun x:SlotA=>x.v) [y0,y1,y2,y3]=z.page.ss.map (·.v) from hv.out];rfl
   have k24:=(k22.below hb3 k22.lt).within hw4 (by omega)
   have k14:=(k12.below hb3 k12.lt).within hw4 (by omega)
   have o4:=(o2.below hb3).within hw4 (.inl (by omega))
   have oq4:=oq.within hw4 (.inr (by omega))
   have hn4:Below w.heap.size w W4:=(hn2.trans (hb3.mono hn2.size)).trans (hw4.below (by omega) (by omega))
   have rq:W4.rangeAt wr.heap.size 0 q.cells:=Box.range [] q.cells [] (by simpa using d4)
   have HI1:=Tryz.infoPg ⟨z.page.lsn,[y0,y1,y2,y3]⟩ rfl
   have HO1:=page_one ⟨z.page.lsn,[y0,y1,y2,y3]⟩
   have HI2:=seat_info q
   have HW4:Hid (w3.setCells wr.heap.size 1 (PageA.cells ⟨z.page.lsn,[y0,y1,y2,y3]⟩).toArray.toList=W4):=hW4.out
   have e0:=k24.cell 0 _ rfl
   have hs4a:=Nat.le_of_eq hs4
   have hs4b:=Nat.le_of_eq hs4.symm
   obtain ⟨W5,hW5,d5,hb5,hs5⟩:=boxes1 W4 q.cells 144
   have k25:=k24.below hb5 k24.lt
   have k15:=k14.below hb5 k14.lt
   have o5:=o4.below hb5
   have oq5:=oq4.below hb5
   have hn5:Below w.heap.size w W5:=hn4.trans (hb5.mono hn4.size)
   have r5:W5.rangeAt W4.heap.size 0 q.cells:=Box.range [] q.cells [] (by simpa using d5)
   have hs5':=hb5.size
   clear hW4 hq hs4 hw4 d3 d4 d2 oq ho hv hb3 k22 k12 o2 k24 k14 o4 oq4 hn2 hn4 hb5 d5 hs5
   generalize PageA.cells ⟨z.page.lsn,[y0,y1,y2,y3]⟩=pc2 at*
   go_wp2_with (first | (guard_target=wpList _ _ _ (Oper.mk none (Op.store _ (Operand.tmp 19) _) _ _ _ _::_) _ _;refine wpList_store_mid rfl 47 (.tmp 19) (.tmp 18) rfl wr.heap.size 1 pc2.toArray rfl rfl hth4 (by rw [List.size_toArray];exact HI1) HO1 ?_;rw [HW4.out]) | (guard_target=wpList _ _ _ (Oper.mk (some 22) _ _ _ _ _::_) _ _;refine wpList_load_mid rfl 144 (.tmp 5) rfl wr.heap.size 0 rfl q.cells _ rq Tryz.underlying144 rfl HI2 ?_) | (guard_target=wpList _ _ _ (Oper.mk (some 23) _ _ _ _ _::_) _ _;refine build_seats1 (.tmp 22) q rfl ?_;rw [hW5.out]) | (guard_target=wpList _ _ _ (Oper.mk (some 24) _ _ _ _ _::_) _ _;refine append_seat rfl _ _ rfl W.heap.size wr.heap.size a' c' ts rfl o5 W4.heap.size 0 1 q rfl r5 W2.heap.size w3.heap.size oq5 (by omega) (by omega) hll (by omega) ?_) | fail)
   intro a9 c9 w9 o9 g9
   have HCM:=HS.out q HV.out
   obtain ⟨ys,hys⟩:∃ ys,Hid (ts++[q]=ys):=⟨_,rfl⟩
   have hyl:ts.length+1=ys.length:=by rw [← hys.out];simp
   rw [hys.out] at o9 HCM
   rw [hyl]
   clear hyl
   have hw9:Within W.heap.size wr.heap.size W5 w9:=Within.of_grown g9 (fun j hj=>⟨(o5.row.lt j hj).1,o5.blk j hj⟩)
   have hs9:=hw9.size
   have hn9:Below w.heap.size w w9:=hn5.trans (hw9.below (by omega) (by omega))
   have k29:=k25.within hw9 (by omega)
   have k19:=k15.within hw9 (by omega)
   have m0:=k29.cell 0 _ rfl
   have mf0:=k29.frozen 0
   obtain ⟨WF,hWF,kF,hwF,hsF⟩:=box_set k29 0 (.slice a9 ys.length c9)
   simp only [List.set] at kF
   have hsFa:=Nat.le_of_eq hsF
   have hsFb:=Nat.le_of_eq hsF.symm
   have k1F:=k19.within hwF (by omega)
   have oF:=(o9.within hwF (.inr (by omega))).widen (Nat.le_refl _) hsFb (Nat.le_refl _)
   have hnF:Below w.heap.size w WF:=hn9.trans (hwF.below (by omega) (by omega))
   clear hwF k29 k19 o9 hsF g9 hw9 e0 k25 k15 o5 oq5 r5 rq HW4 hW5
   go_wp2_with fail
   rw [hWF.out]
   go_roundw
   case rel=>exact ⟨k+1,ys,a9,c9,by omega,by go_num,HCM,kF,k1F,oF,hnF,by omega⟩
   case measure=>simp [intOf];omega
  ·have HE:Hid (ts.map SeatA.v=rs.map SeatA.v):=by
    have e:k=rs.length:=by omega
    rw [e] at hc
    exact hc.out.all
   have e0:=k2.cell 0 _ rfl
   have e1:=k2.cell 1 _ rfl
   have m0:=k1.cell 0 _ rfl
   have m1:=k1.cell 1 _ rfl
   have mf0:=k1.frozen 0
   have mf1:=k1.frozen 1
   obtain ⟨WF,hWF,bF,hwF,hsF⟩:=box2_fill k1 (.slice a' ts.length c') (.int .i64 s)
   have q0:=bF.cell 0 _ rfl
   have q1:=bF.cell 1 _ rfl
   have hoF:=(hown.within hwF (.inr (by omega))).widen (show w.heap.size≤W.heap.size by omega) (show wr.heap.size≤WF.heap.size by omega) (Nat.le_refl _)
   have hbF:Below w.heap.size w WF:=hnx.trans (hwF.below (by omega) (by have:=hnx.size;omega))
   clear hwF hsF bF
   go_wp2
   rw [hWF.out]
   exact bodyPost_ret (v:=.agg #[.slice a' ts.length c',.int .i64 s]) (by simp [results,Tryz.results60,go_sem,q0,q1]) rfl ⟨⟨ts,s,a',c'⟩,rfl,by simp only [Hid,PoolA.v];rw [HE.out],hoF,hbF⟩
end Go.Proofs.YtfehemepdoomdaaGreatDoor