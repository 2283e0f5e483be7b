/- Several texts in one, in their order. -/
import Derived.Test.YtfehemepdoomdaaPViewx5
import Derived.Test.YtfehemepdoomdaaPViewx3
import Derived.Test.YtfehemepdoomdaaPViewx6
import Derived.Laws.Tables
import Derived.Deep.Cut
import Derived.Test.YtfehemepdoomdaaPViewx4
import Derived.Deep.RegionLaw
import Derived.Deep.DrawnRows
import Derived.Test.YtfehemepdoomdaaPViewx2
import Derived.Test.YtfehemepdoomdaaPViewx1
import Derived.Deep.MidRow
import Derived.Deep.RegionHeld3
import Derived.RangeFuncNested
import Derived.RangeFuncBound
import Derived.RangeFuncCalls
import Derived.RangeFuncLeaves
import Derived.Shelf.Abstract
import Derived.Shelf.RegionOpen
import Derived.WalkKit
import Derived.OwnWalkIn
import Derived.TacticsInMore
import Derived.LoopNIn
import Derived.LoopIn
import Derived.Sort.CutIn
set_option maxHeartbeats 8000000
set_option maxRecDepth 100000
namespace Go.Proofs.Ytfehemepdoomdaa
open Go.RowKit
def EngA.poolA (e:EngA):PoolA:=⟨e.seats,e.hand,e.aS,e.cS⟩
theorem EngA.shape.disk8 {e:EngA} (h:e.shape):Disk8 e.disk:=⟨h.eight,h.four⟩
structure EngA.reads (w:World) (e:EngA):Prop where
 disk:∀ p∈e.disk,ReadsS w p.ss
 pool:e.poolA.reads w
 log:e.log.reads w
 txs:ReadsL w e.aT e.txs
 holds:ReadsH w e.aH e.holds
structure EngA.short (e:EngA) (m:Nat):Prop where
 disk:∀ p∈e.disk,∀ x∈p.ss,x.v.o.ints.length≤m∧x.v.o.refs.length≤m
 pool:e.poolA.short m
 log:e.log.short m
 txs:e.txs.length≤m
 holds:e.holds.length≤m
theorem EngA.short.fit {e:EngA} (h:e.short 1099511627776):∀ p∈e.disk,Fit p.ss:=fun p hp s hs=>h.disk p hp s hs
theorem EngA.reads.below {w w':World} {e:EngA} (h:e.reads w) (hb:Below w.heap.size w w'):e.reads w':=
 ⟨fun p hp=>(h.disk p hp).below hb,h.pool.below hb,h.log.below hb,h.txs.below hb,h.holds.below hb⟩
theorem OwnS.readsAll {w:World} {lo hi:Nat} {ps:List PageA} (h:OwnS w lo hi (ps.flatMap (·.ss))):∀ p∈ps,ReadsS w p.ss:=fun p hp s hs=>h.reads s (List.mem_flatMap.2 ⟨p,hp,hs⟩)
theorem EngA.own.reads {w:World} {lo hi:Nat} {e:EngA} (h:e.own w lo hi):e.reads w:=⟨OwnS.readsAll h.disk,OwnSts.reads h.pool,OwnRs.reads h.log,h.txs.reads,h.holds.reads⟩
theorem eng_parts {w:World} {B:Nat} {t:TypeId} {e:EngA} (h:e.shape) (b:Box w B e.cells t):
  w.rangeAt B 0 (cellsPs e.disk)∧w.rangeAt B 136 e.poolA.cells∧w.rangeAt B 138 e.log.cells∧w.cell? ⟨B,140,none⟩=some (.slice e.aT e.txs.length e.cT)∧w.cell? ⟨B,141,none⟩=some (.slice e.aH e.holds.length e.cH)∧w.cell? ⟨B,142,none⟩=some (.int .i64 e.next)∧w.cell? ⟨B,143,none⟩=some (.bool e.down):=by
 have hl:=EngA.disk_len h
 refine ⟨?_,?_,?_,EngA.cell_at h b 4 _ rfl,EngA.cell_at h b 5 _ rfl,EngA.cell_at h b 6 _ rfl,EngA.cell_at h b 7 _ rfl⟩
 ·exact Box.range [] (cellsPs e.disk) e.tail b
 ·have:=Box.range (cellsPs e.disk) e.poolA.cells [.slice e.log.a e.log.recs.length e.log.c,.int .i64 e.log.sure,.slice e.aT e.txs.length e.cT,.slice e.aH e.holds.length e.cH,.int .i64 e.next,.bool e.down] b
  rwa [hl] at this
 ·have:=Box.range (cellsPs e.disk++e.poolA.cells) e.log.cells [.slice e.aT e.txs.length e.cT,.slice e.aH e.holds.length e.cH,.int .i64 e.next,.bool e.down] (by rw [List.append_assoc];exact b)
  rw [List.length_append,hl] at this
  exact this
theorem eqEngine_same (e f:EngA) (se:e.shape) (sf:f.shape) (he:f.v=e.v) (w:World) (re:e.reads w) (rf:f.reads w) (hl:e.short 1099511627776):
  Calls Try.prog 9 #[.agg e.cells.toArray,.agg f.cells.toArray] w fun r w'=>r=.returned (.bool true)∧Below w.heap.size w w':=by
 simp only [EngA.v,EngV.mk.injEq] at he
 obtain ⟨h1,h2,h3,h4,h5,h6,h7,h8⟩:=he
 have HD:Hid (f.disk.map pgv=e.disk.map pgv):=h1
 have HPV:Hid (f.poolA.v=e.poolA.v):=by rw [Hid,PoolA.v,PoolA.v];simp only [EngA.poolA,h2,h3]
 have HLV:Hid (f.log.v=e.log.v):=h4
 obtain ⟨W,hW,b0,b1,hbW,hsW⟩:=boxes2 w e.cells f.cells 60 60
 have HE:Hid (∀ u,Below W.heap.size W u→_):=fun u hu=>eng_parts se (b0.below hu b0.lt)
 have HF:Hid (∀ u,Below W.heap.size W u→_):=fun u hu=>eng_parts sf (b1.below hu b1.lt)
 have HR:Hid (∀ u,Below W.heap.size W u→e.reads u∧f.reads u):=fun u hu=>⟨(re.below hbW).below hu,(rf.below hbW).below hu⟩
 have hie:=disk8_info se.disk8
 have hif:=disk8_info sf.disk8
 clear h1 h2 h3 h4 hsW b0 b1
 have N:Below W.heap.size W W:=Below.refl _ _
 obtain ⟨p0,p1,p2,p3,p4,p5,p6⟩:=HE.out _ N
 obtain ⟨q0,q1,q2,q3,q4,q5,q6⟩:=HF.out _ N
 go_enter Try.func9,Try.ntmps9
 go_wp2_with (first | (guard_target=wpList _ _ _ (Oper.mk (some 6) _ _ _ _ _::_) _ _;refine wpList_load_mid rfl 50 (.tmp 5) rfl w.heap.size 0 rfl (cellsPs e.disk) _ (by rw [hW.out];exact p0) Try.underlying50 rfl hie ?_) | (guard_target=wpList _ _ _ (Oper.mk (some 8) _ _ _ _ _::_) _ _;refine wpList_load_mid rfl 50 (.tmp 7) rfl (w.heap.size+1) 0 rfl (cellsPs f.disk) _ (by rw [hW.out];exact q0) Try.underlying50 rfl hif ?_) | fail)
 rw [hW.out]
 clear hW
 refine (eqPageA8_same e.disk f.disk se.disk8 sf.disk8 HD.out W (HR.out _ N).1.disk (HR.out _ N).2.disk hl.fit).mono ?_
 rintro r w1 ⟨rfl,hbw1⟩
 replace N:=N.trans (hbw1.mono N.size)
 clear p0 p1 p2 p3 p4 p5 p6 q0 q1 q2 q3 q4 q5 q6 hbw1
 obtain ⟨p0,p1,p2,p3,p4,p5,p6⟩:=HE.out _ N
 obtain ⟨q0,q1,q2,q3,q4,q5,q6⟩:=HF.out _ N
 go_wp2_with (first | (guard_target=wpList _ _ _ (Oper.mk (some 12) _ _ _ _ _::_) _ _;refine wpList_load_mid rfl 53 (.tmp 11) rfl w.heap.size 136 rfl (e.poolA.cells) _ p1 Try.underlying53 rfl (pool_info _) ?_) | (guard_target=wpList _ _ _ (Oper.mk (some 14) _ _ _ _ _::_) _ _;refine wpList_load_mid rfl 53 (.tmp 13) rfl (w.heap.size+1) 136 rfl (f.poolA.cells) _ q1 Try.underlying53 rfl (pool_info _) ?_) | fail)
 refine (eqPool_same e.poolA f.poolA HPV.out w1 (HR.out _ N).1.pool (HR.out _ N).2.pool hl.pool).mono ?_
 rintro r w2 ⟨rfl,hbw2⟩
 replace N:=N.trans (hbw2.mono N.size)
 clear p0 p1 p2 p3 p4 p5 p6 q0 q1 q2 q3 q4 q5 q6 hbw2
 obtain ⟨p0,p1,p2,p3,p4,p5,p6⟩:=HE.out _ N
 obtain ⟨q0,q1,q2,q3,q4,q5,q6⟩:=HF.out _ N
 go_wp2_with (first | (guard_target=wpList _ _ _ (Oper.mk (some 18) _ _ _ _ _::_) _ _;refine wpList_load_mid rfl 56 (.tmp 17) rfl w.heap.size 138 rfl (e.log.cells) _ p2 Try.underlying56 rfl (log_info _) ?_) | (guard_target=wpList _ _ _ (Oper.mk (some 20) _ _ _ _ _::_) _ _;refine wpList_load_mid rfl 56 (.tmp 19) rfl (w.heap.size+1) 138 rfl (f.log.cells) _ q2 Try.underlying56 rfl (log_info _) ?_) | fail)
 refine (eqLog_same e.log f.log HLV.out w2 (HR.out _ N).1.log (HR.out _ N).2.log hl.log).mono ?_
 rintro r w3 ⟨rfl,hbw3⟩
 replace N:=N.trans (hbw3.mono N.size)
 clear p0 p1 p2 p3 p4 p5 p6 q0 q1 q2 q3 q4 q5 q6 hbw3
 obtain ⟨p0,p1,p2,p3,p4,p5,p6⟩:=HE.out _ N
 obtain ⟨q0,q1,q2,q3,q4,q5,q6⟩:=HF.out _ N
 rw [h5] at q3
 have C4:=eqLiveS_same e.aT f.aT e.cT f.cT e.txs w3 (HR.out _ N).1.txs (by have:=(HR.out _ N).2.txs;rwa [h5] at this) hl.txs
 go_wp2_with fail
 refine (C4).mono ?_
 rintro r w4 ⟨rfl,hbw4⟩
 replace N:=N.trans (hbw4.mono N.size)
 clear p0 p1 p2 p3 p4 p5 p6 q0 q1 q2 q3 q4 q5 q6 hbw4
 obtain ⟨p0,p1,p2,p3,p4,p5,p6⟩:=HE.out _ N
 obtain ⟨q0,q1,q2,q3,q4,q5,q6⟩:=HF.out _ N
 clear C4
 rw [h6] at q4
 have C5:=eqHoldS_same e.aH f.aH e.cH f.cH e.holds w4 (HR.out _ N).1.holds (by have:=(HR.out _ N).2.holds;rwa [h6] at this) hl.holds
 go_wp2_with fail
 refine (C5).mono ?_
 rintro r w5 ⟨rfl,hbw5⟩
 replace N:=N.trans (hbw5.mono N.size)
 clear p0 p1 p2 p3 p4 p5 p6 q0 q1 q2 q3 q4 q5 q6 hbw5
 obtain ⟨p0,p1,p2,p3,p4,p5,p6⟩:=HE.out _ N
 obtain ⟨q0,q1,q2,q3,q4,q5,q6⟩:=HF.out _ N
 clear C5
 rw [h7] at q5
 rw [h8] at q6
 have HEND:Hid (Below w.heap.size w w5):=hbW.trans (N.mono hbW.size)
 clear h5 h6 h7 h8
 go_wp2
 go_ret
 exact ⟨rfl,HEND.out⟩
def EngA.kP (e:EngA) (k:Int):Int:=k+countS (slots8 e.disk)
def EngA.kL (e:EngA) (k:Int):Int:=e.kP k+e.poolA.count
def EngA.kT (e:EngA) (k:Int):Int:=e.kL k+e.log.count
def EngA.kH (e:EngA) (k:Int):Int:=e.kT k+3*e.txs.length
def EngA.kE (e:EngA) (k:Int):Int:=e.kH k+2*e.holds.length
structure EngA.marked (w:World) (lo hi:Nat) (e:EngA) (k:Int):Prop where
 disk:OwnS w lo hi (markSs (slots8 e.disk) k)
 pool:(e.poolA.mark (e.kP k)).own w lo hi
 log:(e.log.mark (e.kL k)).own w lo hi
 txs:OwnL w lo hi e.aT e.cT (marksL (e.kT k) e.txs.length)
 holds:OwnH w lo hi e.aH e.cH (marksH (e.kH k) e.holds.length)
theorem EngA.marked.touch {w w':World} {lo hi:Nat} {e:EngA} {k:Int} {bl:List Nat} (h:e.marked w lo hi k) (ht:Touch bl w w') (hd:∀ j∈e.blocks,j∉bl):e.marked w' lo hi k:=by
 simp only [EngA.blocks,List.mem_append] at hd
 refine ⟨h.disk.touch ht (fun j hj=>hd j (.inl (by rw [markSs_blocks] at hj;exact hj))),h.pool.touch ht (fun j hj=>hd j (.inr (.inl ?_))),h.log.touch ht (fun j hj=>hd j (.inr (.inr (.inl ?_)))),h.txs.touch ht (fun j hj=>hd j (.inr (.inr (.inr (.inl ?_))))),h.holds.touch ht (fun j hj=>hd j (.inr (.inr (.inr (.inr ?_)))))⟩
 ·simpa [PoolA.blocks,PoolA.mark,blocksSts,markSts_len,markSts_blocks,EngA.poolA] using hj
 ·simpa [LogA.blocks,LogA.mark,blocksRs,markRs_len,markRs_blocks] using hj
 ·rw [marksL_len] at hj;exact Option.mem_toList.2 hj
 ·rw [marksH_len] at hj;exact Option.mem_toList.2 hj
theorem markEngine_touch (e:EngA) (se:e.shape) (lo hi:Nat) (k0:Int) (w:World) (ho:e.own w lo hi) (hl:e.short 1099511627776) (h0:0≤k0) (hk:e.kP k0≤10995116277760∧e.kE k0≤1152921504606846976) (hhi:hi≤w.heap.size):
  Calls Try.prog 10 #[.agg e.cells.toArray,.int .i64 k0] w fun r w'=>r=.returned (.int .i64 (e.kE k0))∧e.marked w' lo hi k0∧Touch e.blocks w w':=by
 have hbl:=ho.blocks_lt
 have HAP:=ho.apart
 obtain ⟨W,hW,b0,hbW,hsW⟩:=boxes1 w e.cells 60
 have hs0:w.heap.size<W.heap.size:=by omega
 have hwB:w.heap.size∉e.blocks:=fun h=>by have:=(hbl _ h).2;omega
 have HE:Hid (∀ u,Touch e.blocks W u→_):=fun u hu=>eng_parts se (b0.touch hu hwB)
 have hie:=disk8_info se.disk8
 have hb1:0≤e.kP k0∧e.kP k0≤10995116277760∧0≤e.kL k0∧e.kL k0≤1152921504606846976∧0≤e.kT k0∧e.kT k0≤1152921504606846976∧0≤e.kH k0∧e.kH k0≤1152921504606846976:=by unfold EngA.kE EngA.kH EngA.kT EngA.kL EngA.kP at *;omega
 simp only [EngA.blocks,List.nodup_append,List.mem_append] at HAP
 obtain ⟨_,⟨_,⟨_,⟨_,_,a45⟩,a3⟩,a2⟩,a1⟩:=HAP
 have od:=ho.disk.below hbW
 have op:e.poolA.own W lo hi:=OwnSts.below ho.pool hbW
 have ol:e.log.own W lo hi:=OwnRs.below ho.log hbW
 have ot:=ho.txs.below hbW
 have oh:=ho.holds.below hbW
 have N:Touch e.blocks W W:=Touch.refl _ _
 obtain ⟨p0,p1,p2,p3,p4,_,_⟩:=HE.out _ N
 have C1:=markPageA8_touch e.disk se.disk8 lo hi k0 W od hl.fit h0 (by have:=hb1.2.1;unfold EngA.kP at this;exact this) (by omega)
 go_enter Try.func10,Try.ntmps10
 go_wp2_with (first | (guard_target=wpList _ _ _ (Oper.mk (some 6) _ _ _ _ _::_) _ _;refine wpList_load_mid rfl 50 (.tmp 5) rfl w.heap.size 0 rfl (cellsPs e.disk) _ (by rw [hW.out];exact p0) Try.underlying50 rfl hie ?_) | fail)
 rw [hW.out]
 clear hW hsW
 refine C1.mono ?_
 clear C1 p0 p1 p2 p3 p4 od
 rintro r w1 ⟨rfl,od,t1⟩
 have T1:Touch e.blocks W w1:=t1.mono (fun k hk=>List.mem_append.2 (.inl hk))
 replace op:e.poolA.own w1 lo hi:=op.touch t1 (fun k hk hk'=>a1 k hk' k (.inl hk) rfl)
 replace ol:e.log.own w1 lo hi:=ol.touch t1 (fun k hk hk'=>a1 k hk' k (.inr (.inl hk)) rfl)
 replace ot:=ot.touch t1 (fun k hk hk'=>a1 k hk' k (.inr (.inr (.inl (Option.mem_toList.2 hk)))) rfl)
 replace oh:=oh.touch t1 (fun k hk hk'=>a1 k hk' k (.inr (.inr (.inr (Option.mem_toList.2 hk)))) rfl)
 obtain ⟨p0,p1,p2,p3,p4,_,_⟩:=HE.out _ T1
 have C2:=markPool_touch e.poolA lo hi (e.kP k0) w1 op hl.pool hb1.1 (by have:=hb1.2.2.2.1;unfold EngA.kL at this;omega)
 go_wp2_with (first | (guard_target=wpList _ _ _ (Oper.mk (some 10) _ _ _ _ _::_) _ _;refine wpList_load_mid rfl 53 (.tmp 9) rfl w.heap.size 136 rfl (e.poolA.cells) _ p1 Try.underlying53 rfl (pool_info _) ?_) | fail)
 refine C2.mono ?_
 clear C2 p0 p1 p2 p3 p4 op t1
 rintro r w2 ⟨rfl,op,t2⟩
 have hpb:e.poolA.blocks=blocksSts e.aS e.cS e.seats:=rfl
 have T2:Touch e.blocks W w2:=T1.trans (t2.mono (fun k hk=>List.mem_append.2 (.inr (List.mem_append.2 (.inl hk)))))
 replace od:=od.touch t2 (fun k hk hk'=>a1 k (by rw [markSs_blocks] at hk;exact hk) k (.inl hk') rfl)
 replace ol:e.log.own w2 lo hi:=ol.touch t2 (fun k hk hk'=>a2 k hk' k (.inl hk) rfl)
 replace ot:=ot.touch t2 (fun k hk hk'=>a2 k hk' k (.inr (.inl (Option.mem_toList.2 hk))) rfl)
 replace oh:=oh.touch t2 (fun k hk hk'=>a2 k hk' k (.inr (.inr (Option.mem_toList.2 hk))) rfl)
 obtain ⟨p0,p1,p2,p3,p4,_,_⟩:=HE.out _ T2
 have C3:=markLog_touch e.log lo hi (e.kL k0) w2 ol hl.log hb1.2.2.1 (by have:=hb1.2.2.2.2.2.1;unfold EngA.kT at this;omega)
 go_wp2_with (first | (guard_target=wpList _ _ _ (Oper.mk (some 14) _ _ _ _ _::_) _ _;refine wpList_load_mid rfl 56 (.tmp 13) rfl w.heap.size 138 rfl (e.log.cells) _ p2 Try.underlying56 rfl (log_info _) ?_) | fail)
 refine C3.mono ?_
 clear C3 p0 p1 p2 p3 p4 ol t2
 rintro r w3 ⟨rfl,ol,t3⟩
 have T3:Touch e.blocks W w3:=T2.trans (t3.mono (fun k hk=>List.mem_append.2 (.inr (List.mem_append.2 (.inr (List.mem_append.2 (.inl hk)))))))
 replace od:=od.touch t3 (fun k hk hk'=>a1 k (by rw [markSs_blocks] at hk;exact hk) k (.inr (.inl hk')) rfl)
 replace op:(e.poolA.mark (e.kP k0)).own w3 lo hi:=op.touch t3 (fun k hk hk'=>a2 k (by simpa [PoolA.blocks,PoolA.mark,blocksSts,markSts_len,markSts_blocks,EngA.poolA] using hk) k (.inl hk') rfl)
 replace ot:=ot.touch t3 (fun k hk hk'=>a3 k hk' k (.inl (Option.mem_toList.2 hk)) rfl)
 replace oh:=oh.touch t3 (fun k hk hk'=>a3 k hk' k (.inr (Option.mem_toList.2 hk)) rfl)
 obtain ⟨p0,p1,p2,p3,p4,_,_⟩:=HE.out _ T3
 have C4:=markLiveS_own lo hi e.aT e.cT (e.kT k0) e.txs w3 ot hb1.2.2.2.2.1 (by have:=hb1.2.2.2.2.2.2.2;unfold EngA.kH at this;omega)
 have E3:Hid (e.kL k0+(e.log.count:Int)=e.kT k0):=rfl
 rw [E3.out]
 go_wp2_with fail
 refine C4.mono ?_
 clear C4 p0 p1 p2 p3 p4 ot t3 E3
 rintro r w4 ⟨rfl,ot,t4⟩
 have T4:Touch e.blocks W w4:=T3.trans (t4.mono (fun k hk=>List.mem_append.2 (.inr (List.mem_append.2 (.inr (List.mem_append.2 (.inr (List.mem_append.2 (.inl hk)))))))))
 replace od:=od.touch t4 (fun k hk hk'=>a1 k (by rw [markSs_blocks] at hk;exact hk) k (.inr (.inr (.inl hk'))) rfl)
 replace op:(e.poolA.mark (e.kP k0)).own w4 lo hi:=op.touch t4 (fun k hk hk'=>a2 k (by simpa [PoolA.blocks,PoolA.mark,blocksSts,markSts_len,markSts_blocks,EngA.poolA] using hk) k (.inr (.inl hk')) rfl)
 replace ol:(e.log.mark (e.kL k0)).own w4 lo hi:=ol.touch t4 (fun k hk hk'=>a3 k (by simpa [LogA.blocks,LogA.mark,blocksRs,markRs_len,markRs_blocks] using hk) k (.inl hk') rfl)
 replace oh:=oh.touch t4 (fun k hk hk'=>a45 k hk' k (Option.mem_toList.2 hk) rfl)
 obtain ⟨p0,p1,p2,p3,p4,_,_⟩:=HE.out _ T4
 have C5:=markHoldS_own lo hi e.aH e.cH (e.kH k0) e.holds w4 oh hb1.2.2.2.2.2.2.1 (by unfold EngA.kE at hk;omega)
 have E4:Hid (e.kT k0+3*(e.txs.length:Int)=e.kH k0):=rfl
 rw [E4.out]
 go_wp2_with fail
 refine C5.mono ?_
 clear C5 p0 p1 p2 p3 p4 oh E4
 rintro r w5 ⟨rfl,oh,t5⟩
 have T5:Touch e.blocks W w5:=T4.trans (t5.mono (fun k hk=>List.mem_append.2 (.inr (List.mem_append.2 (.inr (List.mem_append.2 (.inr (List.mem_append.2 (.inr hk)))))))))
 replace od:=od.touch t5 (fun k hk hk'=>a1 k (by rw [markSs_blocks] at hk;exact hk) k (.inr (.inr (.inr hk'))) rfl)
 replace op:(e.poolA.mark (e.kP k0)).own w5 lo hi:=op.touch t5 (fun k hk hk'=>a2 k (by simpa [PoolA.blocks,PoolA.mark,blocksSts,markSts_len,markSts_blocks,EngA.poolA] using hk) k (.inr (.inr hk')) rfl)
 replace ol:(e.log.mark (e.kL k0)).own w5 lo hi:=ol.touch t5 (fun k hk hk'=>a3 k (by simpa [LogA.blocks,LogA.mark,blocksRs,markRs_len,markRs_blocks] using hk) k (.inr hk') rfl)
 replace ot:=ot.touch t5 (fun k hk hk'=>a45 k (by rw [marksL_len] at hk;exact Option.mem_toList.2 hk) k hk' rfl)
 have HEND:Hid (e.marked w5 lo hi k0∧Touch e.blocks w w5):=⟨⟨od,op,ol,ot,oh⟩,(Touch.of_below hbW).trans T5⟩
 go_wp2
 go_ret
 exact ⟨rfl,HEND.out.1,HEND.out.2⟩
theorem eng_info {e:EngA} (h:e.shape):(Try.prog.info? 60).map (·.size)=some e.cells.length:=by rw [EngA.cells_len h];exact Try.infoEng
theorem oneE (e:EngA):∀ v∈e.cells,v.oneCell'=true:=by
 intro v hv
 simp only [EngA.cells,List.mem_append] at hv
 rcases hv with hv | hv
 ·obtain ⟨p,_,hp⟩:=List.mem_flatMap.1 hv
  exact oneP p v hp
 ·simp only [EngA.tail,List.mem_cons,List.not_mem_nil,or_false] at hv
  rcases hv with rfl | rfl | rfl | rfl | rfl | rfl | rfl | rfl<;>rfl
theorem zeroE_shape:zeroE.shape:=⟨rfl,fun p hp=>by
 simp only [zeroE,List.mem_cons,List.not_mem_nil,or_false] at hp
 have:p=zeroP:=by rcases hp with h | h | h | h | h | h | h | h<;>exact h
 rw [this];rfl⟩
theorem eng_out {w:World} {C:Nat} {q old:EngA} (hq:q.shape) (ho:old.shape) (bC:Box w C old.cells TE):
  ∃ WF,Hid (w.setCells C 0 q.cells.toArray.toList=WF)∧Within C (C+1) w WF∧WF.heap.size=w.heap.size∧Hid (w.there C 0 q.cells.toArray.size)∧Box WF C q.cells TE:=by
 obtain ⟨WF,hWF,bF,hwF,hsF⟩:=range_fill [] old.cells q.cells [] (by simpa using bC) (by rw [EngA.cells_len hq,EngA.cells_len ho])
 refine ⟨WF,hWF,hwF,hsF,bC.there 0 _ (by rw [List.size_toArray,EngA.cells_len hq,EngA.cells_len ho];omega),by simpa using bF⟩
theorem eng_load {w:World} {C:Nat} {q:EngA} (hq:q.shape) (b:Box w C q.cells TE):(loadVar 60 ⟨C,0,none⟩).run Try.prog w=.ok (.agg q.cells.toArray) w:=
 run_loadVar_mid (P:=Try.prog) w C 0 60 q.cells _ (Box.range [] q.cells [] (by simpa using b)) Try.underlying60 rfl (eng_info hq)
theorem alloc_of {w:World} {ops:Array Oper} {rest:List Oper} {dst:Option Nat} {ty:TypeId} {pos:String} {aft:Array Edge} {act:Act} {Q:Exit→Act→World→Prop} (T:TypeId) (cs:List Value)
  (hz:(Try.prog.info? T).map (·.zero)=some (some (.agg cs.toArray)))
  (h:wpList Try.prog ops Q rest (act.put dst (.pointer (some ⟨w.heap.size,0,none⟩))) (w.alloc (.cells cs.toArray T))):
  wpList Try.prog ops Q ({ dst:=dst,op:=.alloc T,type:=ty,pos:=pos,after:=aft,guard:=none }::rest) act w:=by
 refine wpList_plain rfl fun K hK=>?_
 cases hi:Try.prog.info? T with
 | none=>rw [hi] at hz;cases hz
 | some inf=>
  rw [hi] at hz
  have hz':inf.zero=some (.agg cs.toArray):=by simpa using hz
  unfold Oper.wp execOp
  have e1:(zeroValue T).run Try.prog w=.ok (.agg cs.toArray) w:=by simp [zeroValue,typeInfo,hi,hz']
  have e2:(Instr.alloc T true (.tuple #[])).run Try.prog w=.ok (.pointer (some ⟨w.heap.size,0,none⟩)) (w.alloc (.cells cs.toArray T)):=by
   unfold Instr.alloc
   simp only [Sem.run_bind,e1,Result.andThen_ok]
   simp [newVar,go_sem]
  simp only [Sem.run_bind,e2,Result.andThen_ok,Sem.run_pure]
  exact hK _ _ h
def zero8:List PageA:=List.replicate 8 zeroP
theorem zero8_d:Disk8 zero8:=⟨rfl,fun p hp=>by rw [List.eq_of_mem_replicate hp];rfl⟩
theorem Try.zeroA8:(Try.prog.info? 50).map (·.zero)=some (some (.agg (cellsPs zero8).toArray)):=by kernel_rfl
theorem cellsPs_app (a b:List PageA):cellsPs (a++b)=cellsPs a++cellsPs b:=by simp only [cellsPs,List.flatMap_append]
theorem cellsPs_cons (p:PageA) (b:List PageA):cellsPs (p::b)=p.cells++cellsPs b:=by simp only [cellsPs,List.flatMap_cons]
theorem onePs (ps:List PageA):∀ v∈cellsPs ps,v.oneCell'=true:=fun v hv=>by
 obtain ⟨p,_,hp⟩:=List.mem_flatMap.1 hv
 exact oneP p v hp
theorem lpage_info (p:PageA) (h:p.ss.length=4):(Try.prog.info? 29).map (·.size)=some p.cells.length:=by rw [page_len _ h];kernel_rfl
theorem ldisk8_info {ps:List PageA} (h:Disk8 ps):(Try.prog.info? 30).map (·.size)=some (cellsPs ps).length:=by rw [cellsPs_len _ h.four,h.eight];kernel_rfl
theorem OwnS.snocs {w:World} {lo mid hi:Nat} {A B:List SlotA} (h:OwnS w lo mid A) (hb:OwnS w mid hi B) (h1:lo≤mid) (h2:mid≤hi) (hhi:hi≤w.heap.size):OwnS w lo hi (A++B):=by
 have ha:=h.widen (Nat.le_refl _) h2 hhi
 have hb':=hb.widen h1 (Nat.le_refl _) hhi
 refine ⟨fun s hs=>(List.mem_append.1 hs).elim (ha.each s) (hb'.each s),?_⟩
 rw [List.flatMap_append,List.nodup_append]
 exact ⟨h.apart,hb.apart,fun x hx y hy e=>by have:=h.blocks_lt x hx;have:=hb.blocks_lt y hy;omega⟩
theorem toPageA8_any (ps:List PageA) (hp:Disk8 ps) (w:World) (hr:∀ p∈ps,ReadsS w p.ss) (hf:∀ p∈ps,Fit p.ss):
  Calls Try.prog 20 #[.agg (cellsPs ps).toArray] w fun e w'=>∃ ts:List PageA,e=.returned (.agg (cellsPs ts).toArray)∧Disk8 ts∧Hid (ts.map pgv=ps.map pgv)∧OwnS w' w.heap.size w'.heap.size (slots8 ts)∧Below w.heap.size w w':=by
 obtain ⟨Z,hZ⟩:∃ Z,Hid (zero8=Z):=⟨_,rfl⟩
 have hz8:Disk8 Z:=by rw [← hZ.out];exact zero8_d
 have HZ:=Try.zeroA8
 rw [hZ.out] at HZ
 obtain ⟨W,hW,b1,b2,b3,hbW,hsW⟩:=boxes3 w (cellsPs ps) (cellsPs Z) (cellsPs Z) 30 50 50
 have hs0:w.heap.size+1+1<W.heap.size:=by omega
 go_enter Try.func20,Try.ntmps20
 go_wp2_with (first | (guard_target=wpList _ _ _ (Oper.mk _ (Op.alloc _) _ _ _ _::_) _ _;refine alloc_of 50 (cellsPs Z) HZ ?_) | fail)
 rw [hW.out]
 clear hW hsW
 have b3':Box W (w.heap.size+1+1) (cellsPs ([]++List.replicate (8-0) zeroP)) 50:=by rw [← hZ.out] at b3;exact b3
 clear b3
 go_loopw [4] (fun i wr=>∃ (k:Nat) (ts:List PageA),k≤8∧i=.int .i64 (k:Int)∧Hid (ts.length=k∧(∀ p∈ts,p.ss.length=4)∧ts.map pgv=(ps.take k).map pgv)∧OwnS wr W.heap.size wr.heap.size (slots8 ts)∧Box wr w.heap.size (cellsPs ps) 30∧Box wr (w.heap.size+1) (cellsPs Z) 50∧Box wr (w.heap.size+1+1) (cellsPs (ts++List.replicate (8-k) zeroP)) 50∧Below w.heap.size w wr∧W.heap.size≤wr.heap.size) (fun i _=>8-(intOf i).toNat)
 case atStart=>exact ⟨0,[],Nat.zero_le _,rfl,⟨rfl,fun p hp=>by (simp at hp),rfl⟩,OwnS.nil _ _ _,b1,b2,b3',hbW,Nat.le_refl _⟩
 case round=>
  obtain ⟨k,ts,hk,rfl,hts,hown,c1,c2,c3,hnx,hsr⟩:=hrel
  clear b1 b2 b3'
  by_cases hlt:k<8
  ·have hkl:k<ps.length:=by rw [hp.eight];exact hlt
   have r1:=page_in hp c1 k hlt
   have HP4:=hp.at hlt
   have F1:=hf _ (pageD_mem (k:=k) hkl)
   have R1:=(hr _ (pageD_mem (k:=k) hkl)).below hnx
   have HTK:Hid ((ps.take (k+1)).map pgv=(ps.take k).map pgv++[pgv (ps.getD k zeroP)]):=by rw [Hid,List.take_succ_eq_append_getElem hkl,pageD_eq hkl,List.map_append];rfl
   have C:=toPage_own (ps.getD k zeroP) HP4 wr R1 F1
   generalize ps.getD k zeroP=p at*
   have HIp:=lpage_info p HP4
   have hi0:(0:Int)≤(k:Int):=by omega
   have hi8:(k:Int)<8:=by omega
   go_wp2_with (first | (guard_target=wpList _ _ _ (Oper.mk (some 12) _ _ _ _ _::_) _ _;refine wpList_load_mid rfl 29 (.tmp 11) rfl w.heap.size (k*17) rfl (p.cells) _ r1 Try.underlying29 rfl HIp ?_) | fail)
   refine C.mono ?_
   clear C r1
   rintro e w1 ⟨us,rfl,hv,ho1,hb1⟩
   have hu4:us.length=4:=by have:=congrArg List.length hv.out;simp only [List.length_map] at this;omega
   have s1:=hb1.size
   obtain ⟨q,hq⟩:∃ q:PageA,Hid ((⟨p.lsn,us⟩:PageA)=q):=⟨_,rfl⟩
   have hq4:q.ss.length=4:=by rw [← hq.out];exact hu4
   have oq:OwnS w1 wr.heap.size w1.heap.size q.ss:=by rw [← hq.out];exact ho1
   have HQV:Hid (pgv q=pgv p):=by rw [Hid,← hq.out];simp only [pgv];rw [hv.out]
   rw [hq.out]
   clear hq hv ho1 hu4
   replace c1:=c1.below hb1 c1.lt
   replace c2:=c2.below hb1 c2.lt
   replace c3:=c3.below hb1 c3.lt
   have hown1:=hown.below hb1
   replace hnx:=hnx.trans (hb1.mono hnx.size)
   have e8:8-k=(8-(k+1))+1:=by omega
   rw [cellsPs_app,e8,List.replicate_succ,cellsPs_cons] at c3
   obtain ⟨W2,hW2,d3,hw2,hs2⟩:=range_fill (cellsPs ts) zeroP.cells q.cells (cellsPs (List.replicate (8-(k+1)) zeroP)) c3 (by rw [page_len q hq4];rfl)
   have hl3:(cellsPs ts).length=k*17:=by rw [cellsPs_len _ hts.out.2.1,hts.out.1]
   rw [hl3] at hW2
   have HTH:Hid (w1.there (w.heap.size+1+1) (k*17) q.cells.toArray.size):=c3.there _ _ (by rw [List.size_toArray,page_len q hq4,List.length_append,List.length_append,hl3,page_len zeroP rfl];omega)
   have s2:=hw2.size
   have d3':Box W2 (w.heap.size+1+1) (cellsPs ((ts++[q])++List.replicate (8-(k+1)) zeroP)) 50:=by
    rw [List.append_assoc,cellsPs_app,List.singleton_append,cellsPs_cons];exact d3
   have c1':=c1.within hw2 (by omega)
   have c2':=c2.within hw2 (by omega)
   have HOW:Hid (OwnS W2 W.heap.size W2.heap.size (slots8 (ts++[q]))):=by
    rw [Hid,slots8_app,slots8_cons]
    have o:=(hown1.snocs oq hsr (by omega) (Nat.le_refl _))
    simpa [slots8] using (o.within hw2 (.inr (by omega))).widen (Nat.le_refl _) s2 (Nat.le_refl _)
   have HTS:Hid ((ts++[q]).length=k+1∧(∀ p∈ts++[q],p.ss.length=4)∧(ts++[q]).map pgv=(ps.take (k+1)).map pgv):=by
    refine ⟨by rw [List.length_append,hts.out.1];rfl,fun x hx=>?_,?_⟩
    ·rcases List.mem_append.1 hx with h | h
     ·exact hts.out.2.1 x h
     ·rw [List.mem_singleton.1 h];exact hq4
    ·rw [HTK.out,List.map_append,hts.out.2.2,← HQV.out];rfl
   have HN:Hid (Below w.heap.size w W2∧W.heap.size≤W2.heap.size):=⟨hnx.trans (hw2.below (by have:=hbW.size;omega) (by omega)),by omega⟩
   have HIq:Hid ((Try.prog.info? 49).map (·.size)=some q.cells.toArray.size):=page_infoP q hq4
   have HOq:=all_oneCell_toArray (oneP q)
   have HW2:Hid (w1.setCells (w.heap.size+1+1) (k*17) q.cells.toArray.toList=W2):=hW2.out
   clear c1 c2 c3 d3 hown hown1 oq hw2 hs2 hW2 hnx hts HTK HQV hl3 e8 hb1
   go_wp2_with (first | (guard_target=wpList _ _ _ (Oper.mk none (Op.store _ (Operand.tmp 14) _) _ _ _ _::_) _ _;refine wpList_store_mid rfl 49 (.tmp 14) (.tmp 13) rfl (w.heap.size+1+1) (k*17) (q.cells).toArray rfl rfl HTH.out HIq.out HOq ?_) | fail)
   rw [HW2.out]
   go_roundw
   case rel=>exact ⟨k+1,ts++[q],by omega,by go_num,HTS,HOW.out,c1',c2',d3',HN.out.1,HN.out.2⟩
   case measure=>simp [intOf];omega
  ·obtain rfl:k=8:=by omega
   have hkk:¬ ((8:Nat):Int)<8:=by omega
   have e0:ts++List.replicate (8-8) zeroP=ts:=by simp
   rw [e0] at c3
   have ht8:Disk8 ts:=⟨hts.out.1,hts.out.2.1⟩
   have HV:Hid (ts.map pgv=ps.map pgv):=by rw [Hid,hts.out.2.2,← hp.eight,List.take_length]
   have r3:wr.rangeAt (w.heap.size+1+1) 0 (cellsPs ts):=Box.range [] (cellsPs ts) [] (by simpa using c3)
   obtain ⟨WF,hWF,bF,hwF,hsF⟩:=range_fill [] (cellsPs Z) (cellsPs ts) [] (by simpa using c2) (by rw [cellsPs_len _ ht8.four,cellsPs_len _ hz8.four,ht8.eight,hz8.eight])
   have sF:=hwF.size
   have bF':Box WF (w.heap.size+1) (cellsPs ts) 50:=by simpa using bF
   have HTH:Hid (wr.there (w.heap.size+1) 0 (cellsPs ts).toArray.size):=c2.there _ _ (by rw [List.size_toArray,cellsPs_len _ ht8.four,cellsPs_len _ hz8.four,ht8.eight,hz8.eight];omega)
   have HL:Hid ((loadVar 50 ⟨w.heap.size+1,0,none⟩).run Try.prog WF=.ok (.agg (cellsPs ts).toArray) WF):=run_loadVar_mid (P:=Try.prog) WF (w.heap.size+1) 0 50 (cellsPs ts) _ (Box.range [] (cellsPs ts) [] (by simpa using bF')) Try.underlying50 rfl (disk8_info ht8)
   have HEND:Hid (OwnS WF w.heap.size WF.heap.size (slots8 ts)∧Below w.heap.size w WF):=⟨(hown.within hwF (.inr (by omega))).widen (by omega) (by omega) (Nat.le_refl _),hnx.trans (hwF.below (by omega) (by have:=hnx.size;omega))⟩
   have HWF:Hid (wr.setCells (w.heap.size+1) 0 (cellsPs ts).toArray.toList=WF):=hWF.out
   have HI:=disk8_info ht8
   have HO:=all_oneCell_toArray (onePs ts)
   clear c1 c2 c3 hown hwF hsF bF bF' hWF hnx e0 hts
   go_wp2_with (first | (guard_target=wpList _ _ _ (Oper.mk (some 15) _ _ _ _ _::_) _ _;refine wpList_load_mid rfl 50 (.tmp 3) rfl (w.heap.size+1+1) 0 rfl (cellsPs ts) _ r3 Try.underlying50 rfl HI ?_) | (guard_target=wpList _ _ _ (Oper.mk none (Op.store _ (Operand.tmp 2) _) _ _ _ _::_) _ _;refine wpList_store_mid rfl 50 (.tmp 2) (.tmp 15) rfl (w.heap.size+1) 0 (cellsPs ts).toArray rfl rfl HTH.out (by rw [List.size_toArray];exact HI) HO ?_) | fail)
   rw [HWF.out]
   exact bodyPost_ret (v:=.agg (cellsPs ts).toArray) (results_one Try.results20 rfl HL.out) rfl ⟨ts,rfl,ht8,HV,HEND.out.1,HEND.out.2⟩
theorem szPageA8_any (ps:List PageA) (hp:Disk8 ps) (left:Int) (w:World) (hn:∀ p∈ps,Small p.ss) (h0:0≤left∧left≤1048576):
  Calls Try.prog 13 #[.agg (cellsPs ps).toArray,.int .i64 left] w fun e w'=>∃ z:Int,e=.returned (.int .i64 z)∧(z<0∨(0≤z∧z≤left∧∀ p∈ps,∀ s∈p.ss,s.v.o.ints.length≤1048576∧s.v.o.refs.length≤1048576))∧Below w.heap.size w w':=by
 obtain ⟨W,hW,b0,hbW,hsW⟩:=boxes1 w (cellsPs ps) 30
 go_enter Try.func13,Try.ntmps13
 go_wp2_with fail
 rw [hW.out]
 clear hW hsW
 go_loopw [1,5] (fun kk i wr=>∃ (k:Nat) (z:Int),k≤8∧i=.int .i64 (k:Int)∧kk=.int .i64 z∧Hid (0≤z∧z≤left∧∀ p∈ps.take k,∀ s∈p.ss,s.v.o.ints.length≤1048576∧s.v.o.refs.length≤1048576)∧Below W.heap.size W wr) (fun _ i _=>8-(intOf i).toNat)
 case atStart=>exact ⟨0,left,Nat.zero_le _,rfl,rfl,⟨h0.1,Int.le_refl _,fun p hp=>by (simp at hp)⟩,Below.refl _ _⟩
 case round=>
  obtain ⟨k,z,hk8,rfl,rfl,hz,hbr⟩:=hrel
  have hz0:=hz.out.1
  have hz1:=hz.out.2.1
  by_cases hlt:k<8
  ·have hkl:k<ps.length:=by rw [hp.eight];exact hlt
   have r1:=page_in hp (b0.below hbr b0.lt) k hlt
   have HP4:=hp.at hlt
   have C:=szPage_any (ps.getD k zeroP) HP4 z wr (hn _ (pageD_mem (k:=k) hkl)) ⟨hz0,by omega⟩
   have HTK:Hid (∀ p∈ps.take (k+1),p∈ps.take k∨p=ps.getD k zeroP):=fun p hp=>by
    rw [List.take_succ_eq_append_getElem hkl,pageD_eq hkl] at hp
    rcases List.mem_append.1 hp with h | h
    ·exact .inl h
    ·exact .inr (List.mem_singleton.1 h)
   generalize ps.getD k zeroP=p at*
   have HIp:=lpage_info p HP4
   have hi0:(0:Int)≤(k:Int):=by omega
   have hi8:(k:Int)<8:=by omega
   go_wp2_with (first | (guard_target=wpList _ _ _ (Oper.mk (some 12) _ _ _ _ _::_) _ _;refine wpList_load_mid rfl 29 (.tmp 11) rfl w.heap.size (k*17) rfl (p.cells) _ r1 Try.underlying29 rfl HIp ?_) | fail)
   refine C.mono ?_
   clear C r1
   rintro e w1 ⟨y,rfl,hy,hb1⟩
   have HB:Hid (Below W.heap.size W w1):=hbr.trans (hb1.mono hbr.size)
   clear hbr hb1
   rcases hy with hy | ⟨hy0,hyz,hys⟩
   ·have HE:Hid (Below w.heap.size w w1):=hbW.trans (HB.out.mono hbW.size)
    go_wp2
    go_ret
    exact ⟨-1,rfl,.inl (by omega),HE.out⟩
   ·have hny:¬ y<0:=by omega
    have HH:Hid (0≤y∧y≤left∧∀ p∈ps.take (k+1),∀ s∈p.ss,s.v.o.ints.length≤1048576∧s.v.o.refs.length≤1048576):=⟨hy0,by omega,fun q hq s hs=>by
     rcases HTK.out q hq with h | h
     ·exact hz.out.2.2 q h s hs
     ·rw [h] at hs;exact hys s hs⟩
    clear hys hz HTK
    go_wp2_with fail
    go_roundw
    case rel=>exact ⟨k+1,y,by omega,by go_num,rfl,HH,HB.out⟩
    case measure=>simp [intOf];omega
  ·obtain rfl:k=8:=by omega
   have hkk:¬ ((8:Nat):Int)<8:=by omega
   have e1:ps.take 8=ps:=by rw [← hp.eight,List.take_length]
   have HE:Hid (Below w.heap.size w wr∧(0≤z∧z≤left∧∀ p∈ps,∀ s∈p.ss,s.v.o.ints.length≤1048576∧s.v.o.refs.length≤1048576)):=⟨hbW.trans (hbr.mono hbW.size),by have:=hz.out;rw [e1] at this;exact this⟩
   clear e1 hz
   go_wp2
   go_ret
   exact ⟨z,rfl,.inr HE.out.2,HE.out.1⟩
theorem szHoldS_any (a:Option Addr) (c n:Nat) (left:Int) (w:World) (hn:n≤9223372036854775807) (h0:0≤left∧left≤1048576):
  Calls Try.prog 17 #[.slice a n c,.int .i64 left] w fun e w'=>e=.returned (.int .i64 (szOf n left))∧w'=w:=by
 by_cases h:left-n<0
 ·have HS:Hid (szOf n left= -1):=by unfold szOf;rw [Hid,if_pos h]
  go_enter Try.func17,Try.ntmps17
  go_wp2
  go_ret
  exact ⟨ret_int HS.out.symm,rfl⟩
 ·have HS:Hid (szOf n left=left-n):=by unfold szOf;rw [Hid,if_neg h]
  go_enter Try.func17,Try.ntmps17
  go_wp2
  go_ret
  exact ⟨ret_int HS.out.symm,rfl⟩
theorem leng_info {e:EngA} (h:e.shape):(Try.prog.info? 40).map (·.size)=some e.cells.length:=by rw [EngA.cells_len h];kernel_rfl
theorem lpool_infoE (q:PoolA):(Try.prog.info? 33).map (·.size)=some q.cells.length:=by show _=some 2;kernel_rfl
theorem llog_infoE (q:LogA):(Try.prog.info? 36).map (·.size)=some q.cells.length:=by show _=some 2;kernel_rfl
theorem tail_fill {w:World} {B:Nat} {A R:List Value} {t:TypeId} (b:Box w B (A++R) t) (hA:A.length=136) (j:Nat) (v:Value):
  ∃ W,Hid (w.setCell ⟨B,136+j,none⟩ v=W)∧Box W B (A++R.set j v) t∧Within B (B+1) w W∧W.heap.size=w.heap.size:=by
 obtain ⟨W,hW,b',hw,hs⟩:=box_set b (136+j) v
 refine ⟨W,hW,?_,hw,hs⟩
 rw [List.set_append_right _ _ (by omega),hA,show 136+j-136=j by omega] at b'
 exact b'
theorem eng_own_of {w:World} {e:EngA} {a0 a1 a2 a3 a4 a5:Nat} (h1:OwnS w a0 a1 (slots8 e.disk)) (h2:OwnSts w a1 a2 e.aS e.cS e.seats) (h3:OwnRs w a2 a3 e.log.a e.log.c e.log.recs) (h4:OwnL w a3 a4 e.aT e.cT e.txs) (h5:OwnH w a4 a5 e.aH e.cH e.holds)
  (l1:a0≤a1) (l2:a1≤a2) (l3:a2≤a3) (l4:a3≤a4) (l5:a4≤a5) (h:a5≤w.heap.size):e.own w a0 a5:=by
 refine ⟨h1.widen (Nat.le_refl _) (by omega) h,h2.widen (by omega) (by omega) h,h3.widen (by omega) (by omega) h,h4.widen (by omega) (by omega) h,h5.widen (by omega) (Nat.le_refl _) h,?_⟩
 simp only [EngA.blocks,List.nodup_append,List.mem_append]
 have b1:=h1.blocks_lt
 have b2:=h2.blocks_lt
 have b3:=h3.blocks_lt
 have b4:∀ k∈rowOf e.aT e.txs.length e.cT,a3≤k∧k<a4:=fun k hk=>h4.lt k (Option.mem_toList.1 hk)
 have b5:∀ k∈rowOf e.aH e.holds.length e.cH,a4≤k∧k<a5:=fun k hk=>h5.lt k (Option.mem_toList.1 hk)
 have nr:∀ o:Option Nat,o.toList.Nodup:=fun o=>by cases o<;>simp
 refine ⟨h1.apart,⟨h2.apart,⟨h3.apart,⟨nr _,nr _,fun x hx y hy q=>?_⟩,fun x hx y hy q=>?_⟩,fun x hx y hy q=>?_⟩,fun x hx y hy q=>?_⟩
 ·have:=b4 x hx;have:=b5 y hy;omega
 ·have:=b3 x hx
  rcases hy with hy | hy
  ·have:=b4 y hy;omega
  ·have:=b5 y hy;omega
 ·have:=b2 x hx
  rcases hy with hy | hy | hy
  ·have:=b3 y hy;omega
  ·have:=b4 y hy;omega
  ·have:=b5 y hy;omega
 ·have:=b1 x hx
  rcases hy with hy | hy | hy | hy
  ·have:=b2 y hy;omega
  ·have:=b3 y hy;omega
  ·have:=b4 y hy;omega
  ·have:=b5 y hy;omega
theorem toEngine_any (e:EngA) (se:e.shape) (w:World) (re:e.reads w) (hl:e.short 1048576):
  Calls Try.prog 6 #[.agg e.cells.toArray] w fun r w'=>∃ t:EngA,r=.returned (.agg t.cells.toArray)∧t.shape∧Hid (t.v=e.v)∧t.own w' w.heap.size w'.heap.size∧Below w.heap.size w w':=by
 obtain ⟨Z,hZ⟩:∃ Z,Hid (zeroE=Z):=⟨_,rfl⟩
 have sZ:Z.shape:=by rw [← hZ.out];exact zeroE_shape
 have HZ:=Try.zeroEng
 rw [hZ.out] at HZ
 obtain ⟨W,hW,b1,b2,b3,hbW,hsW⟩:=boxes3 w e.cells Z.cells Z.cells 40 60 60
 have hs0:w.heap.size+1+1<W.heap.size:=by omega
 have N:Below w.heap.size w W:=hbW
 have b3':Box W (w.heap.size+1+1) (cellsPs Z.disk++[.slice none 0 0,.int .i64 0,.slice none 0 0,.int .i64 0,.slice none 0 0,.slice none 0 0,.int .i64 0,.bool false]) 60:=by rw [← hZ.out] at b3 ⊢;exact b3
 have HE:Hid (∀ u,Below w.heap.size w u→e.reads u):=fun u hu=>re.below hu
 have hld:=ldisk8_info se.disk8
 clear b3 hsW hbW
 go_enter Try.func6,Try.ntmps6
 obtain ⟨p0,p1,p2,p3,p4,p5,p6⟩:=eng_parts se b1
 go_wp2_with (first | (guard_target=wpList _ _ _ (Oper.mk _ (Op.alloc _) _ _ _ _::_) _ _;refine alloc_of 60 Z.cells HZ ?_) | (guard_target=wpList _ _ _ (Oper.mk (some 5) _ _ _ _ _::_) _ _;refine wpList_load_mid rfl 30 (.tmp 4) rfl w.heap.size 0 rfl (cellsPs e.disk) _ (by rw [hW.out];exact p0) Try.underlying30 rfl hld ?_) | fail)
 rw [hW.out]
 clear hW p0 p1 p2 p3 p4 p5 p6
 refine (toPageA8_any e.disk se.disk8 W (HE.out _ N).disk (fun p hp s hs=>by have:=hl.disk p hp s hs;omega)).mono ?_
 rintro r w1 ⟨ts,rfl,ht8,hvd,od,hb⟩
 have s1:=hb.size
 have sz:=hb.size
 replace b1:=b1.below hb b1.lt
 replace b2:=b2.below hb b2.lt
 replace b3':=b3'.below hb b3'.lt
 replace N:=N.trans (hb.mono N.size)
 clear hb
 obtain ⟨w2,h2,c3,hw,hs⟩:=range_fill [] (cellsPs Z.disk) (cellsPs ts) [.slice none 0 0,.int .i64 0,.slice none 0 0,.int .i64 0,.slice none 0 0,.slice none 0 0,.int .i64 0,.bool false] b3' (by rw [cellsPs_len _ ht8.four,ht8.eight,EngA.disk_len sZ])
 have HT:Hid (w1.there (w.heap.size+1+1) 0 (cellsPs ts).toArray.size):=b3'.there _ _ (by rw [List.size_toArray,cellsPs_len _ ht8.four,ht8.eight,List.length_append,EngA.disk_len sZ];simp)
 have sy:=hw.size
 replace b1:=b1.within hw (by omega)
 replace b2:=b2.within hw (by omega)
 replace N:=N.trans (hw.below (by omega) (by have:=N.size;omega))
 replace od:=od.within hw (.inr (by omega))
 clear hw hs
 have hA:(cellsPs ts).length=136:=by rw [cellsPs_len _ ht8.four,ht8.eight]
 have E2:Hid (w1.setCells (w.heap.size+1+1) 0 (cellsPs ts).toArray.toList=w2):=h2.out
 have HI:=disk8_info ht8
 have HO:=all_oneCell_toArray (onePs ts)
 clear h2 b3'
 have b3':Box w2 (w.heap.size+1+1) (cellsPs ts++[.slice none 0 0,.int .i64 0,.slice none 0 0,.int .i64 0,.slice none 0 0,.slice none 0 0,.int .i64 0,.bool false]) 60:=c3
 clear c3
 have HA:Hid ((cellsPs ts).length=136):=hA
 clear hA
 obtain ⟨p0,p1,p2,p3,p4,p5,p6⟩:=eng_parts se b1
 go_wp2_with (first | (guard_target=wpList _ _ _ (Oper.mk none (Op.store _ (Operand.tmp 7) _) _ _ _ _::_) _ _;refine wpList_store_mid rfl 50 (.tmp 7) (.tmp 6) rfl (w.heap.size+1+1) 0 (cellsPs ts).toArray rfl rfl HT.out (by rw [List.size_toArray];exact HI) HO ?_) | (guard_target=wpList _ _ _ (Oper.mk (some 9) _ _ _ _ _::_) _ _;refine wpList_load_mid rfl 33 (.tmp 8) rfl w.heap.size 136 rfl (e.poolA.cells) _ (by rw [E2.out];exact p1) Try.underlying33 rfl (lpool_infoE _) ?_) | fail)
 rw [E2.out]
 clear E2 HT HI HO p0 p1 p2 p3 p4 p5 p6
 refine (toPool_any e.poolA w2 (HE.out _ N).pool hl.pool).mono ?_
 rintro r w3 ⟨q,rfl,hvp,op,hb⟩
 have s3:=hb.size
 have sz:=hb.size
 replace b1:=b1.below hb b1.lt
 replace b2:=b2.below hb b2.lt
 replace b3':=b3'.below hb b3'.lt
 replace N:=N.trans (hb.mono N.size)
 replace od:=od.below hb
 clear hb
 obtain ⟨w4,h4,c3,hw,hs⟩:=range_fill (cellsPs ts) [.slice none 0 0,.int .i64 0] q.cells [.slice none 0 0,.int .i64 0,.slice none 0 0,.slice none 0 0,.int .i64 0,.bool false] b3' rfl
 rw [HA.out] at h4
 have HT:Hid (w3.there (w.heap.size+1+1) 136 q.cells.toArray.size):=b3'.there _ _ (by rw [List.length_append,HA.out];show 136+2≤_;simp)
 have sy:=hw.size
 replace b1:=b1.within hw (by omega)
 replace b2:=b2.within hw (by omega)
 replace N:=N.trans (hw.below (by omega) (by have:=N.size;omega))
 replace od:=od.within hw (.inr (by omega))
 replace op:=op.within hw (.inr (by omega))
 clear hw hs
 have E4:Hid (w3.setCells (w.heap.size+1+1) 136 q.cells.toArray.toList=w4):=h4.out
 clear h4 b3'
 have b3':Box w4 (w.heap.size+1+1) ((cellsPs ts++q.cells)++[.slice none 0 0,.int .i64 0,.slice none 0 0,.slice none 0 0,.int .i64 0,.bool false]) 60:=by rw [List.append_assoc];exact c3
 clear c3
 have HA2:Hid ((cellsPs ts++q.cells).length=138):=by rw [Hid,List.length_append,HA.out];rfl
 obtain ⟨p0,p1,p2,p3,p4,p5,p6⟩:=eng_parts se b1
 go_wp2_with (first | (guard_target=wpList _ _ _ (Oper.mk none (Op.store _ (Operand.tmp 11) _) _ _ _ _::_) _ _;refine wpList_store_mid rfl 53 (.tmp 11) (.tmp 10) rfl (w.heap.size+1+1) 136 (q.cells).toArray rfl rfl HT.out (by rw [List.size_toArray];exact pool_info _) (pool_one _) ?_) | (guard_target=wpList _ _ _ (Oper.mk (some 13) _ _ _ _ _::_) _ _;refine wpList_load_mid rfl 36 (.tmp 12) rfl w.heap.size 138 rfl (e.log.cells) _ (by rw [E4.out];exact p2) Try.underlying36 rfl (llog_infoE _) ?_) | fail)
 rw [E4.out]
 clear E4 HT p0 p1 p2 p3 p4 p5 p6
 refine (toLog_any e.log w4 (HE.out _ N).log hl.log).mono ?_
 rintro r w5 ⟨l,rfl,hvl,ol,hb⟩
 have s5:=hb.size
 have sz:=hb.size
 replace b1:=b1.below hb b1.lt
 replace b2:=b2.below hb b2.lt
 replace b3':=b3'.below hb b3'.lt
 replace N:=N.trans (hb.mono N.size)
 replace od:=od.below hb
 replace op:=op.below hb
 clear hb
 obtain ⟨w6,h6,c3,hw,hs⟩:=range_fill (cellsPs ts++q.cells) [.slice none 0 0,.int .i64 0] l.cells [.slice none 0 0,.slice none 0 0,.int .i64 0,.bool false] b3' rfl
 rw [HA2.out] at h6
 have HT:Hid (w5.there (w.heap.size+1+1) 138 l.cells.toArray.size):=b3'.there _ _ (by rw [List.length_append,HA2.out];show 138+2≤_;simp)
 have sy:=hw.size
 replace b1:=b1.within hw (by omega)
 replace b2:=b2.within hw (by omega)
 replace N:=N.trans (hw.below (by omega) (by have:=N.size;omega))
 replace od:=od.within hw (.inr (by omega))
 replace op:=op.within hw (.inr (by omega))
 replace ol:=ol.within hw (.inr (by omega))
 clear hw hs
 have E6:Hid (w5.setCells (w.heap.size+1+1) 138 l.cells.toArray.toList=w6):=h6.out
 clear h6 b3'
 have b3':Box w6 (w.heap.size+1+1) (cellsPs ts++[.slice q.a q.seats.length q.c,.int .i64 q.hand,.slice l.a l.recs.length l.c,.int .i64 l.sure,.slice none 0 0,.slice none 0 0,.int .i64 0,.bool false]) 60:=by rw [List.append_assoc] at c3;exact c3
 clear c3
 obtain ⟨p0,p1,p2,p3,p4,p5,p6⟩:=eng_parts se b1
 have C7:=toLiveS_any e.aT e.cT e.txs w6 (HE.out _ N).txs (by have:=hl.txs;omega)
 go_upto_region 5 with (first | (guard_target=wpList _ _ _ (Oper.mk none (Op.store _ (Operand.tmp 15) _) _ _ _ _::_) _ _;refine wpList_store_mid rfl 56 (.tmp 15) (.tmp 14) rfl (w.heap.size+1+1) 138 (l.cells).toArray rfl rfl HT.out (by rw [List.size_toArray];exact log_info _) (log_one _) ?_) | fail)
 rw [E6.out]
 clear E6 HT
 go_wp2_with fail
 refine C7.mono ?_
 clear C7 p0 p1 p2 p3 p4 p5 p6
 rintro r w7 ⟨aT,cT,rfl,ot,hb⟩
 have s7:=hb.size
 have sz:=hb.size
 replace b1:=b1.below hb b1.lt
 replace b2:=b2.below hb b2.lt
 replace b3':=b3'.below hb b3'.lt
 replace N:=N.trans (hb.mono N.size)
 replace od:=od.below hb
 replace op:=op.below hb
 replace ol:=ol.below hb
 clear hb
 have x0:=b3'.cell 140 (.slice none 0 0) (by rw [List.getElem?_append_right (by rw [HA.out];omega),HA.out];rfl)
 have f0:=b3'.frozen 140
 obtain ⟨w8,hw8,c3,hw,hs⟩:=tail_fill b3' HA.out 4 (.slice aT e.txs.length cT)
 have sy:=hw.size
 replace b1:=b1.within hw (by omega)
 replace b2:=b2.within hw (by omega)
 replace N:=N.trans (hw.below (by omega) (by have:=N.size;omega))
 replace od:=od.within hw (.inr (by omega))
 replace op:=op.within hw (.inr (by omega))
 replace ol:=ol.within hw (.inr (by omega))
 replace ot:=ot.within hw (.inr (by omega))
 clear hw hs
 have Ew8:Hid (w7.setCell ⟨w.heap.size+1+1,140,none⟩ (.slice aT e.txs.length cT)=w8):=hw8.out
 clear hw8 b3'
 have b3':Box w8 (w.heap.size+1+1) (cellsPs ts++[.slice q.a q.seats.length q.c,.int .i64 q.hand,.slice l.a l.recs.length l.c,.int .i64 l.sure,.slice aT e.txs.length cT,.slice none 0 0,.int .i64 0,.bool false]) 60:=c3
 clear c3
 obtain ⟨p0,p1,p2,p3,p4,p5,p6⟩:=eng_parts se b1
 have C9:=toHoldS_any e.aH e.cH e.holds w8 (HE.out _ N).holds (by have:=hl.holds;omega)
 go_upto_region 6 with fail
 rw [Ew8.out]
 clear Ew8 x0 f0
 go_wp2_with fail
 refine C9.mono ?_
 clear C9 p0 p1 p2 p3 p4 p5 p6
 rintro r w9 ⟨aH,cH,rfl,oh,hb⟩
 have s9:=hb.size
 have sz:=hb.size
 replace b1:=b1.below hb b1.lt
 replace b2:=b2.below hb b2.lt
 replace b3':=b3'.below hb b3'.lt
 replace N:=N.trans (hb.mono N.size)
 replace od:=od.below hb
 replace op:=op.below hb
 replace ol:=ol.below hb
 replace ot:=ot.below hb
 clear hb
 have x0:=b3'.cell 141 (.slice none 0 0) (by rw [List.getElem?_append_right (by rw [HA.out];omega),HA.out];rfl)
 have f0:=b3'.frozen 141
 obtain ⟨w10,hw10,c3,hw,hs⟩:=tail_fill b3' HA.out 5 (.slice aH e.holds.length cH)
 have sy:=hw.size
 replace b1:=b1.within hw (by omega)
 replace b2:=b2.within hw (by omega)
 replace N:=N.trans (hw.below (by omega) (by have:=N.size;omega))
 replace od:=od.within hw (.inr (by omega))
 replace op:=op.within hw (.inr (by omega))
 replace ol:=ol.within hw (.inr (by omega))
 replace ot:=ot.within hw (.inr (by omega))
 replace oh:=oh.within hw (.inr (by omega))
 clear hw hs
 have Ew10:Hid (w9.setCell ⟨w.heap.size+1+1,141,none⟩ (.slice aH e.holds.length cH)=w10):=hw10.out
 clear hw10 b3'
 have b3':Box w10 (w.heap.size+1+1) (cellsPs ts++[.slice q.a q.seats.length q.c,.int .i64 q.hand,.slice l.a l.recs.length l.c,.int .i64 l.sure,.slice aT e.txs.length cT,.slice aH e.holds.length cH,.int .i64 0,.bool false]) 60:=c3
 clear c3
 obtain ⟨p0,p1,p2,p3,p4,p5,p6⟩:=eng_parts se b1
 go_upto_region 7 with fail
 rw [Ew10.out]
 clear Ew10 x0 f0
 have x0:=b3'.cell 142 (.int .i64 0) (by rw [List.getElem?_append_right (by rw [HA.out];omega),HA.out];rfl)
 have f0:=b3'.frozen 142
 obtain ⟨w11,hw11,c3,hw,hs⟩:=tail_fill b3' HA.out 6 (.int .i64 e.next)
 have sy:=hw.size
 replace b1:=b1.within hw (by omega)
 replace b2:=b2.within hw (by omega)
 replace N:=N.trans (hw.below (by omega) (by have:=N.size;omega))
 replace od:=od.within hw (.inr (by omega))
 replace op:=op.within hw (.inr (by omega))
 replace ol:=ol.within hw (.inr (by omega))
 replace ot:=ot.within hw (.inr (by omega))
 replace oh:=oh.within hw (.inr (by omega))
 clear hw hs
 have Ew11:Hid (w10.setCell ⟨w.heap.size+1+1,142,none⟩ (.int .i64 e.next)=w11):=hw11.out
 clear hw11 b3'
 have b3':Box w11 (w.heap.size+1+1) (cellsPs ts++[.slice q.a q.seats.length q.c,.int .i64 q.hand,.slice l.a l.recs.length l.c,.int .i64 l.sure,.slice aT e.txs.length cT,.slice aH e.holds.length cH,.int .i64 e.next,.bool false]) 60:=c3
 clear c3
 clear p0 p1 p2 p3 p4 p6
 go_upto_region 8 with fail
 rw [Ew11.out]
 clear Ew11 x0 f0 p5
 obtain ⟨p0,p1,p2,p3,p4,p5,p6⟩:=eng_parts se b1
 have x0:=b3'.cell 143 (.bool false) (by rw [List.getElem?_append_right (by rw [HA.out];omega),HA.out];rfl)
 have f0:=b3'.frozen 143
 obtain ⟨w12,hw12,c3,hw,hs⟩:=tail_fill b3' HA.out 7 (.bool e.down)
 have sy:=hw.size
 replace b1:=b1.within hw (by omega)
 replace b2:=b2.within hw (by omega)
 replace N:=N.trans (hw.below (by omega) (by have:=N.size;omega))
 replace od:=od.within hw (.inr (by omega))
 replace op:=op.within hw (.inr (by omega))
 replace ol:=ol.within hw (.inr (by omega))
 replace ot:=ot.within hw (.inr (by omega))
 replace oh:=oh.within hw (.inr (by omega))
 clear hw hs
 have Ew12:Hid (w11.setCell ⟨w.heap.size+1+1,143,none⟩ (.bool e.down)=w12):=hw12.out
 clear hw12 b3'
 have b3':Box w12 (w.heap.size+1+1) (cellsPs ts++[.slice q.a q.seats.length q.c,.int .i64 q.hand,.slice l.a l.recs.length l.c,.int .i64 l.sure,.slice aT e.txs.length cT,.slice aH e.holds.length cH,.int .i64 e.next,.bool e.down]) 60:=c3
 clear c3
 clear p0 p1 p2 p3 p4 p5
 go_upto_region 9 with fail
 rw [Ew12.out]
 clear Ew12 x0 f0 p6
 obtain ⟨T,hT⟩:∃ T:EngA,Hid ((⟨ts,q.seats,q.a,q.c,q.hand,l,e.txs,aT,cT,e.holds,aH,cH,e.next,e.down⟩:EngA)=T):=⟨_,rfl⟩
 have sT:T.shape:=by rw [← hT.out];exact ⟨ht8.eight,ht8.four⟩
 have bT:Box w12 (w.heap.size+1+1) T.cells 60:=by rw [← hT.out];exact b3'
 have HV:Hid (T.v=e.v):=by
  rw [Hid,← hT.out]
  have v1:=hvd.out
  have v2:=hvp.out
  have v3:=hvl.out
  simp only [PoolA.v,EngA.poolA,PoolV.mk.injEq] at v2
  simp only [EngA.v,v2.1,v2.2,v3]
  congr 1
 have oT:T.own w12 W.heap.size w12.heap.size:=by
  rw [← hT.out]
  exact eng_own_of (a0:=W.heap.size) (a1:=w1.heap.size) (a2:=w3.heap.size) (a3:=w5.heap.size) (a4:=w7.heap.size) (a5:=w12.heap.size) od (OwnSts.widen op (by omega) (Nat.le_refl _) (by omega)) (OwnRs.widen ol (by omega) (Nat.le_refl _) (by omega)) (ot.widen (by omega) (Nat.le_refl _) (by omega)) (oh.widen (by omega) (by omega) (Nat.le_refl _)) (by omega) (by omega) (by omega) (by omega) (by omega) (Nat.le_refl _)
 clear od op ol ot oh b3' hT hvd hvp hvl
 obtain ⟨WF,hWF,hwF,hsF,HTF,bF⟩:=eng_out sT sZ b2
 have HLF:=eng_load sT bF
 have HLF':Hid (_=_):=HLF
 have rT:w12.rangeAt (w.heap.size+1+1) 0 T.cells:=Box.range [] T.cells [] (by simpa using bT)
 have HEND:Hid (T.own WF w.heap.size WF.heap.size∧Below w.heap.size w WF):=⟨(oT.within hwF (.inr (by omega))).widen (by omega) (by omega) (Nat.le_refl _),N.trans (hwF.below (by omega) (by have:=N.size;omega))⟩
 have HI:=eng_info sT
 have HO:=all_oneCell_toArray (oneE T)
 clear hwF hsF bF HLF oT bT b1 b2
 go_wp2_with (first | (guard_target=wpList _ _ _ (Oper.mk (some 30) _ _ _ _ _::_) _ _;refine wpList_load_mid rfl 60 (.tmp 3) rfl (w.heap.size+1+1) 0 rfl (T.cells) _ rT Try.underlying60 rfl HI ?_) | (guard_target=wpList _ _ _ (Oper.mk none (Op.store _ (Operand.tmp 2) _) _ _ _ _::_) _ _;refine wpList_store_mid rfl 60 (.tmp 2) (.tmp 30) rfl (w.heap.size+1) 0 (T.cells).toArray rfl rfl HTF.out (by rw [List.size_toArray];exact HI) HO ?_) | fail)
 rw [hWF.out]
 exact bodyPost_ret (v:=.agg T.cells.toArray) (results_one Try.results6 rfl HLF'.out) rfl ⟨T,rfl,sT,HV,HEND.out.1,HEND.out.2⟩
structure EngA.wide (e:EngA):Prop where
 disk:∀ p∈e.disk,Small p.ss
 pool:e.poolA.short 9223372036854775807
 log:e.log.short 9223372036854775807
 txs:e.txs.length≤9223372036854775807
 holds:e.holds.length≤9223372036854775807
theorem szOf_ans {n:Nat} {left:Int} (h:0≤left∧left≤1048576):szOf n left<0∨(0≤szOf n left∧szOf n left≤left∧n≤1048576):=by
 unfold szOf
 split
 ·exact .inl (by omega)
 ·exact .inr (by omega)
theorem szEngine_any (e:EngA) (se:e.shape) (w:World) (re:e.reads w) (hw:e.wide):
  Calls Try.prog 4 #[.agg e.cells.toArray,.int .i64 1048576] w fun r w'=>∃ z:Int,r=.returned (.int .i64 z)∧(z<0∨(0≤z∧e.short 1048576))∧Below w.heap.size w w':=by
 obtain ⟨W,hW,b0,hbW,hsW⟩:=boxes1 w e.cells 40
 have HE:Hid (∀ u,Below W.heap.size W u→_):=fun u hu=>eng_parts se (b0.below hu b0.lt)
 have hie:=ldisk8_info se.disk8
 have HR:Hid (∀ u,Below W.heap.size W u→e.reads u):=fun u hu=>(re.below hbW).below hu
 have N:Below W.heap.size W W:=Below.refl _ _
 obtain ⟨p0,p1,p2,p3,p4,_,_⟩:=HE.out _ N
 have C1:=szPageA8_any e.disk se.disk8 1048576 W hw.disk (by omega)
 go_enter Try.func4,Try.ntmps4
 go_wp2_with (first | (guard_target=wpList _ _ _ (Oper.mk (some 6) _ _ _ _ _::_) _ _;refine wpList_load_mid rfl 30 (.tmp 5) rfl w.heap.size 0 rfl (cellsPs e.disk) _ (by rw [hW.out];exact p0) Try.underlying30 rfl hie ?_) | fail)
 rw [hW.out]
 clear hW hsW
 refine C1.mono ?_
 clear C1 p0 p1 p2 p3 p4
 rintro r w1 ⟨z1,rfl,hz1,hb⟩
 replace N:=N.trans (hb.mono N.size)
 clear hb
 rcases hz1 with hz1 | ⟨hz10,hz11,hz1s⟩
 ·have HB:Hid (Below w.heap.size w w1):=hbW.trans (N.mono hbW.size)
  go_wp2
  go_ret
  exact ⟨-1,rfl,.inl (by omega),HB.out⟩
 have nz1:¬ z1<0:=by omega
 obtain ⟨p0,p1,p2,p3,p4,_,_⟩:=HE.out _ N
 have Hz1:Hid _:=hz1s
 clear hz1s
 have C2:=szPool_any e.poolA z1 w1 (HR.out _ N).pool hw.pool ⟨hz10,by omega⟩
 go_wp2_with (first | (guard_target=wpList _ _ _ (Oper.mk (some 12) _ _ _ _ _::_) _ _;refine wpList_load_mid rfl 33 (.tmp 11) rfl w.heap.size 136 rfl (e.poolA.cells) _ p1 Try.underlying33 rfl (lpool_infoE _) ?_) | fail)
 refine C2.mono ?_
 clear C2 p0 p1 p2 p3 p4
 rintro r w2 ⟨z2,rfl,hz2,hb⟩
 replace N:=N.trans (hb.mono N.size)
 clear hb
 rcases hz2 with hz2 | ⟨hz20,hz21,hz2s⟩
 ·have HB:Hid (Below w.heap.size w w2):=hbW.trans (N.mono hbW.size)
  go_wp2
  go_ret
  exact ⟨-1,rfl,.inl (by omega),HB.out⟩
 have nz2:¬ z2<0:=by omega
 obtain ⟨p0,p1,p2,p3,p4,_,_⟩:=HE.out _ N
 have Hz2:Hid _:=hz2s
 clear hz2s
 have C3:=szLog_any e.log z2 w2 (HR.out _ N).log hw.log ⟨hz20,by omega⟩
 go_wp2_with (first | (guard_target=wpList _ _ _ (Oper.mk (some 18) _ _ _ _ _::_) _ _;refine wpList_load_mid rfl 36 (.tmp 17) rfl w.heap.size 138 rfl (e.log.cells) _ p2 Try.underlying36 rfl (llog_infoE _) ?_) | fail)
 refine C3.mono ?_
 clear C3 p0 p1 p2 p3 p4
 rintro r w3 ⟨z3,rfl,hz3,hb⟩
 replace N:=N.trans (hb.mono N.size)
 clear hb
 rcases hz3 with hz3 | ⟨hz30,hz31,hz3s⟩
 ·have HB:Hid (Below w.heap.size w w3):=hbW.trans (N.mono hbW.size)
  go_wp2
  go_ret
  exact ⟨-1,rfl,.inl (by omega),HB.out⟩
 have nz3:¬ z3<0:=by omega
 obtain ⟨p0,p1,p2,p3,p4,_,_⟩:=HE.out _ N
 have Hz3:Hid _:=hz3s
 clear hz3s
 have C4:=szLiveS_any e.aT e.cT e.txs.length z3 w3 hw.txs ⟨hz30,by omega⟩
 have A4:=szOf_ans (n:=e.txs.length) (left:=z3) ⟨hz30,by omega⟩
 go_wp2_with fail
 refine C4.mono ?_
 clear C4
 rintro r w4 ⟨rfl,rfl⟩
 generalize szOf e.txs.length z3=z4 at*
 rcases A4 with hz4 | ⟨hz40,hz41,hz4s⟩
 ·have HB:Hid (Below w.heap.size w w4):=hbW.trans (N.mono hbW.size)
  go_wp2
  go_ret
  exact ⟨-1,rfl,.inl (by omega),HB.out⟩
 have nz4:¬ z4<0:=by omega
 have C5:=szHoldS_any e.aH e.cH e.holds.length z4 w4 hw.holds ⟨hz40,by omega⟩
 have A5:=szOf_ans (n:=e.holds.length) (left:=z4) ⟨hz40,by omega⟩
 go_wp2_with fail
 refine C5.mono ?_
 clear C5
 rintro r w5 ⟨rfl,rfl⟩
 generalize szOf e.holds.length z4=z5 at*
 have HB:Hid (Below w.heap.size w w5):=hbW.trans (N.mono hbW.size)
 rcases A5 with hz5 | ⟨hz50,hz51,hz5s⟩
 ·go_wp2
  go_ret
  exact ⟨-1,rfl,.inl (by omega),HB.out⟩
 have nz5:¬ z5<0:=by omega
 have HS:Hid (e.short 1048576):=⟨Hz1.out,Hz2.out,Hz3.out,hz4s,hz5s⟩
 clear Hz1 Hz2 Hz3 hz4s hz5s
 go_wp2
 go_ret
 exact ⟨z5,rfl,.inr ⟨hz50,HS.out⟩,HB.out⟩
end Go.Proofs.Ytfehemepdoomdaa
namespace Go.Proofs.Ytfehemepdoomdaa
open Go.ChangeShapes Go.WideShapes Go.ChangeAt Go.RowKit
structure InEng (w:World) (e:EngA):Prop where
 shape:e.shape
 reads:e.reads w
 wide:e.wide
theorem chunks (f:Nat→PageA):∀ (n:Nat) (cs:List Value),cs.length=n*17→(∀ i,i<n→(cs.drop (i*17)).take 17=(f i).cells)→cs=cellsPs ((List.range n).map f):=by
 intro n
 induction n with
 | zero=>intro cs h _;simp only [Nat.zero_mul,List.length_eq_zero_iff] at h;subst h;rfl
 | succ n ih=>
  intro cs h hf
  have h1:=ih (cs.take (n*17)) (by rw [List.length_take];omega) (fun i hi=>by
   rw [List.drop_take,List.take_take,Nat.min_eq_left (by omega)]
   exact hf i (by omega))
  have h2:=hf n (by omega)
  rw [List.take_of_length_le (by rw [List.length_drop];omega)] at h2
  rw [List.range_succ,List.map_append,List.map_singleton,cellsPs_app,cellsPs_cons,← h1,← h2]
  simp [cellsPs]
section
variable {H:Type} {enc:TypeId × Value→H} {w:World} {base:Nat} {spare:Nat→Bool} {held:Bool}
theorem Try.cellsHd:Try.prog.cellsOf 109=2:=by kernel_rfl
theorem Try.cellsHds:Try.prog.cellsOf 38=1:=by kernel_rfl
theorem Try.cellsLvE:Try.prog.cellsOf 37=1:=by kernel_rfl
theorem Try.cellsP8:Try.prog.cellsOf 30=136:=by kernel_rfl
theorem Try.cellsEg:Try.prog.cellsOf 40=144:=by kernel_rfl
theorem Try.cellsLgE:Try.prog.cellsOf 36=2:=by kernel_rfl
theorem trod_hold {fuel:Nat} {cs:List Value} {x:DataW H × List MemPlace} (h:DataW.trod enc Try.prog w base spare held fuel 109 cs=some x):∃ t:HoldV,cs=t.cells:=by
 obtain ⟨xs,n,_,_,hlen,hxl,hf⟩:=DataW.trod_struct Try.underlying109 h
 rw [Try.cellsHd] at hlen
 match cs,hlen with
 | [v0,v1],_=>
  have f0:=hf 0 _ rfl
  have f1:=hf 1 _ rfl
  obtain ⟨y0,hx0⟩:=some_at xs 0 (by rw [hxl];decide)
  obtain ⟨y1,hx1⟩:=some_at xs 1 (by rw [hxl];decide)
  rw [hx0] at f0
  rw [hx1] at f1
  simp only [List.getElem_toArray,List.getElem_cons_zero,List.getElem_cons_succ,Try.cellsI,List.drop,List.take] at f0 f1
  obtain ⟨a,e0,_⟩:=trod_num f0
  obtain ⟨b,e1,_⟩:=trod_num f1
  simp only [List.cons.injEq,and_true] at e0 e1
  subst e0 e1
  exact ⟨⟨a,b⟩,rfl⟩
theorem trod_holds {fuel:Nat} {cs:List Value} {x:DataW H × List MemPlace} (h:DataW.trod enc Try.prog w base spare held fuel 38 cs=some x):
  ∃ (a:Option Addr) (c:Nat) (ls:List HoldV),cs=[.slice a ls.length c]∧ReadsH w a ls∧ls.length≤maxLen:=by
 rcases DataW.trod_slice Try.underlying38 h with ⟨rfl,_⟩ | ⟨a,len,cap,elems,rest,n,_,rfl,_,_,hl,hm,hlen,hel,_,_⟩
 ·exact ⟨none,0,[],rfl,ReadsH.nil _ _,by simp⟩
 rw [Try.cellsHd] at hel
 have each:∀ i,i<len→∃ t:HoldV,w.cells? base (a.add (i*2)) 2=some t.cells:=by
  intro i hi
  have hy:=hel i hi
  rw [List.getElem?_eq_getElem (by omega:i<elems.length),Option.bind_eq_some_iff] at hy
  obtain ⟨cs',hcs,hy'⟩:=hy
  obtain ⟨t,e⟩:=trod_hold hy'
  exact ⟨t,by rw [hcs,e]⟩
 obtain ⟨f,hf⟩:∃ f:Nat→HoldV,∀ i,i<len→w.cells? base (a.add (i*2)) 2=some (f i).cells:=by
  refine ⟨fun i=>if h:i<len then (each i h).choose else zeroH,fun i hi=>?_⟩
  simp only [dif_pos hi]
  exact (each i hi).choose_spec
 refine ⟨some a,cap,(List.range len).map f,by simp,?_,by simp;omega⟩
 intro hne
 have hpos:=List.length_pos_iff.2 hne
 simp only [List.length_map,List.length_range] at hpos ⊢
 obtain ⟨b,off,spot⟩:=a
 have c0:=(World.cells?_some (hf 0 hpos)).2.2 0 (by decide)
 have hspot:spot=none:=by simpa [Addr.add] using World.cell?_spot c0
 subst hspot
 refine ⟨b,off,rfl,fun k hk=>?_⟩
 have e:((List.range len).map f).getD k zeroH=f k:=by simp [List.getD,hk]
 rw [e]
 have hc:=(World.cells?_some (hf k hk)).2.2
 have d0:=hc 0 (by decide)
 have d1:=hc 1 (by decide)
 simp only [Addr_add,HoldV.cells] at d0 d1
 exact ⟨by simpa using d0,by simpa using d1⟩
theorem trod_pages {fuel:Nat} {cs:List Value} {x:DataW H × List MemPlace} (h:DataW.trod enc Try.prog w base spare held fuel 30 cs=some x) (hl:cs.length=136):
  ∃ ps:List PageA,cs=cellsPs ps∧Disk8 ps∧∀ p∈ps,∀ s∈p.ss,InSlot w s:=by
 obtain ⟨ys,m,_,_,_,hyl,hg⟩:=DataW.trod_array Try.underlying30 h
 have each:∀ i,i<8→∃ p:PageA,(cs.drop (i*17)).take 17=p.cells∧p.ss.length=4∧∀ s∈p.ss,InSlot w s:=by
  intro i hi
  have g:=hg i hi
  obtain ⟨y,hy⟩:=some_at ys i (by omega)
  rw [hy,Try.cellsPg] at g
  obtain ⟨p,e,h4,_,hs⟩:=trod_page g
  exact ⟨p,e,h4,hs⟩
 obtain ⟨f,hf⟩:∃ f:Nat→PageA,∀ i,i<8→(cs.drop (i*17)).take 17=(f i).cells∧(f i).ss.length=4∧∀ s∈(f i).ss,InSlot w s:=by
  refine ⟨fun i=>if h:i<8 then (each i h).choose else zeroP,fun i hi=>?_⟩
  simp only [dif_pos hi]
  exact (each i hi).choose_spec
 have hm:∀ p∈(List.range 8).map f,∃ i,i<8∧f i=p:=fun p hp=>by
  obtain ⟨i,hi,rfl⟩:=List.mem_map.1 hp
  exact ⟨i,List.mem_range.1 hi,rfl⟩
 refine ⟨(List.range 8).map f,chunks f 8 cs (by omega) (fun i hi=>(hf i hi).1),⟨by simp,fun p hp=>?_⟩,fun p hp=>?_⟩
 ·obtain ⟨i,hi,rfl⟩:=hm p hp
  exact (hf i hi).2.1
 ·obtain ⟨i,hi,rfl⟩:=hm p hp
  exact (hf i hi).2.2
theorem trod_eng {fuel:Nat} {cs:List Value} {x:DataW H × List MemPlace} (h:DataW.trod enc Try.prog w base spare held fuel 40 cs=some x):
  ∃ e:EngA,cs=e.cells∧InEng w e:=by
 obtain ⟨xs,n,_,_,hlen,hxl,hf⟩:=DataW.trod_struct Try.underlying40 h
 rw [Try.cellsEg] at hlen
 obtain ⟨ds,rs,rfl,hds,hrs⟩:∃ ds rs,cs=ds++rs∧ds.length=136∧rs.length=8:=⟨cs.take 136,cs.drop 136,(List.take_append_drop _ _).symm,by rw [List.length_take];omega,by rw [List.length_drop];omega⟩
 match rs,hrs with
 | [v0,v1,v2,v3,v4,v5,v6,v7],_=>
  have f0:=hf 0 _ rfl
  have f1:=hf 1 _ rfl
  have f2:=hf 2 _ rfl
  have f3:=hf 3 _ rfl
  have f4:=hf 4 _ rfl
  have f5:=hf 5 _ rfl
  have f6:=hf 6 _ rfl
  obtain ⟨y0,hx0⟩:=some_at xs 0 (by rw [hxl];decide)
  obtain ⟨y1,hx1⟩:=some_at xs 1 (by rw [hxl];decide)
  obtain ⟨y2,hx2⟩:=some_at xs 2 (by rw [hxl];decide)
  obtain ⟨y3,hx3⟩:=some_at xs 3 (by rw [hxl];decide)
  obtain ⟨y4,hx4⟩:=some_at xs 4 (by rw [hxl];decide)
  obtain ⟨y5,hx5⟩:=some_at xs 5 (by rw [hxl];decide)
  obtain ⟨y6,hx6⟩:=some_at xs 6 (by rw [hxl];decide)
  rw [hx0] at f0
  rw [hx1] at f1
  rw [hx2] at f2
  rw [hx3] at f3
  rw [hx4] at f4
  rw [hx5] at f5
  rw [hx6] at f6
  have dr:∀ k,(ds++[v0,v1,v2,v3,v4,v5,v6,v7]).drop (136+k)=[v0,v1,v2,v3,v4,v5,v6,v7].drop k:=fun k=>by rw [← hds,← List.drop_drop,List.drop_left]
  have d0:=dr 0
  have d2:=dr 2
  have d4:=dr 4
  have d5:=dr 5
  have d6:=dr 6
  have d7:=dr 7
  simp only [Nat.add_zero,Nat.reduceAdd] at d0 d2 d4 d5 d6 d7
  simp only [List.getElem_toArray,List.getElem_cons_zero,List.getElem_cons_succ,Try.cellsI,Try.cellsB,Try.cellsP8,Try.cellsPl,Try.cellsLgE,Try.cellsLvE,Try.cellsHds,List.drop_zero] at f0 f1 f2 f3 f4 f5 f6
  rw [← hds,List.take_left] at f0
  rw [d0] at f1
  rw [d2] at f2
  rw [d4] at f3
  rw [d5] at f4
  rw [d6] at f5
  rw [d7] at f6
  simp only [List.drop,List.take] at f1 f2 f3 f4 f5 f6
  obtain ⟨ps,e0,hp8,hps⟩:=trod_pages f0 hds
  obtain ⟨pl,e1,hpl⟩:=trod_pool f1
  obtain ⟨lg,e2,hlg⟩:=trod_log f2
  obtain ⟨aT,cT,ls,e3,hL,lL⟩:=trod_lives f3
  obtain ⟨aH,cH,hs,e4,hH,lH⟩:=trod_holds f4
  obtain ⟨nx,e5,_⟩:=trod_num f5
  obtain ⟨dn,e6,_⟩:=DataW.trod_bool Try.underlying4 f6
  simp only [PoolA.cells,LogA.cells,List.cons.injEq,and_true] at e1 e2 e3 e4 e5 e6
  obtain ⟨rfl,rfl⟩:=e1
  obtain ⟨rfl,rfl⟩:=e2
  subst e0 e3 e4 e5 e6
  simp only [maxLen] at lL lH
  refine ⟨⟨ps,pl.seats,pl.a,pl.c,pl.hand,lg,ls,aT,cT,hs,aH,cH,nx,dn⟩,rfl,⟨hp8.eight,hp8.four⟩,⟨fun p hp s hs=>(hps p hp s hs).reads,hpl.reads,hlg.reads,hL,hH⟩,⟨fun p hp s hs=>?_,hpl.short,hlg.short,by show ls.length≤_;omega,by show hs.length≤_;omega⟩⟩
  have h1:=(hps p hp s hs).lI
  have h2:=(hps p hp s hs).lR
  simp only [maxLen] at h1 h2
  omega
theorem open_eng {b0:Nat} {v:Value} {d:DataW H} {ps:List MemPlace} (hval:Value.okWide Try.prog w .any b0 40 v) (h:DataW.Trod enc Try.prog w base spare held 40 v d ps):
  ∃ e:EngA,v=.agg e.cells.toArray∧InEng w e:=by
 obtain ⟨cs,rfl,hcs⟩:=okWide_struct Try.underlying40 hval
 obtain ⟨fuel,hf⟩:=h
 have e:(Value.agg cs).cells.toList=cs.toList:=rfl
 rw [e] at hf
 obtain ⟨r,hc,rest⟩:=trod_eng hf
 refine ⟨r,?_,rest⟩
 congr 1
 rw [← hc]
end
end Go.Proofs.Ytfehemepdoomdaa
namespace Go.Proofs.Ytfehemepdoomdaa
open Go.RowKit
theorem EngA.short_of {l t:EngA} {m:Nat} (h:t.v=l.v) (hl:l.short m):t.short m:=by
 simp only [EngA.v,EngV.mk.injEq] at h
 obtain ⟨h1,h2,h3,h4,h5,h6,_,_⟩:=h
 refine ⟨fun p hp x hx=>?_,PoolA.short_of (l:=l.poolA) (t:=t.poolA) (by simp only [PoolA.v,PoolV.mk.injEq];exact ⟨h2,h3⟩) hl.pool,LogA.short_of h4 hl.log,by rw [h5];exact hl.txs,by rw [h6];exact hl.holds⟩
 have hm:(p.lsn,p.ss.map (·.v))∈t.disk.map (fun p=>(p.lsn,p.ss.map (·.v))):=List.mem_map.2 ⟨p,hp,rfl⟩
 rw [h1] at hm
 obtain ⟨q,hq,he⟩:=List.mem_map.1 hm
 have hs:q.ss.map (·.v)=p.ss.map (·.v):=(Prod.mk.inj he).2
 have hx':x.v∈p.ss.map (·.v):=List.mem_map.2 ⟨x,hx,rfl⟩
 rw [← hs] at hx'
 obtain ⟨y,hy,hv⟩:=List.mem_map.1 hx'
 rw [← hv]
 exact hl.disk q hq y hy
theorem EngA.short_wide {e:EngA} (h:e.short 1048576):e.short 1099511627776:=
 ⟨fun p hp x hx=>by have:=h.disk p hp x hx;omega,PoolA.short_wide h.pool,LogA.short_wide h.log,by have:=h.txs;omega,by have:=h.holds;omega⟩
end Go.Proofs.Ytfehemepdoomdaa
namespace Go.Proofs.Ytfehemepdoomdaa
open Go.RowKit
attribute [local go_sem ↓] Go.wp_at_zero Go.wp_at_succ
end Go.Proofs.Ytfehemepdoomdaa
namespace Go.Proofs.Ytfehemepdoomdaa
open Go.RowKit
theorem seatFrom_at (ss:List SeatV):∀ (no:Int) (b k:Nat),k<ss.length→(ss.getD k zeroStV).no=no→(∀ j,j<k→(ss.getD j zeroStV).no≠no)→seatFrom no ss b=((b+k:Nat):Int):=by
 induction ss with
 | nil=>intro no b k h;simp at h
 | cons s r ih=>
  intro no b k hk he hn
  rw [seatFrom]
  cases k with
  | zero=>simp only [List.getD_cons_zero] at he;rw [if_pos he];simp
  | succ k=>
   have h0:=hn 0 (by omega)
   simp only [List.getD_cons_zero] at h0
   simp only [List.getD_cons_succ] at he
   rw [if_neg h0,ih no (b+1) k (by simpa using hk) he (fun j hj=>by have:=hn (j+1) (by omega);simpa using this)]
   omega
theorem seatFrom_none (ss:List SeatV):∀ (no:Int) (b:Nat),(∀ j,j<ss.length→(ss.getD j zeroStV).no≠no)→seatFrom no ss b= -1:=by
 induction ss with
 | nil=>intro no b _;rfl
 | cons s r ih=>
  intro no b hn
  have h0:=hn 0 (by simp)
  simp only [List.getD_cons_zero] at h0
  rw [seatFrom,if_neg h0,ih no (b+1) (fun j hj=>by have:=hn (j+1) (by simpa using hj);simpa using this)]
theorem seated_at {ss:List SeatV} {no:Int} {k:Nat} (hk:k<ss.length) (he:(ss.getD k zeroStV).no=no) (hn:∀ j,j<k→(ss.getD j zeroStV).no≠no):seatedOf ss no=k:=by
 have:=seatFrom_at ss no 0 k hk he hn
 simpa [seatedOf] using this
theorem seated_none {ss:List SeatV} {no:Int} (hn:∀ j,j<ss.length→(ss.getD j zeroStV).no≠no):seatedOf ss no= -1:=seatFrom_none ss no 0 hn
theorem seated_cases (ss:List SeatV) (no:Int):(∃ k:Nat,k<ss.length∧(ss.getD k zeroStV).no=no∧(∀ j,j<k→(ss.getD j zeroStV).no≠no)∧seatedOf ss no=k)∨((∀ j,j<ss.length→(ss.getD j zeroStV).no≠no)∧seatedOf ss no= -1):=by
 by_cases h:∃ k,k<ss.length∧(ss.getD k zeroStV).no=no
 ·have hm:∃ k,(k<ss.length∧(ss.getD k zeroStV).no=no)∧∀ j,j<k→¬ (j<ss.length∧(ss.getD j zeroStV).no=no):=by
   obtain ⟨k,hk⟩:=h
   induction k using Nat.strongRecOn with
   | _ k ih=>
    by_cases h2:∃ j,j<k∧(j<ss.length∧(ss.getD j zeroStV).no=no)
    ·obtain ⟨j,hj,hp⟩:=h2
     exact ih j hj hp
    ·exact ⟨k,hk,fun j hj hp=>h2 ⟨j,hj,hp⟩⟩
  obtain ⟨k,⟨h1,h2⟩,h3⟩:=hm
  have h4:∀ j,j<k→(ss.getD j zeroStV).no≠no:=fun j hj e=>h3 j hj ⟨by omega,e⟩
  exact .inl ⟨k,h1,h2,h4,seated_at h1 h2 h4⟩
 ·have h2:∀ j,j<ss.length→(ss.getD j zeroStV).no≠no:=fun j hj e=>h ⟨j,hj,e⟩
  exact .inr ⟨h2,seated_none h2⟩
theorem specSeatedP_any (p:PoolA) (no:Int) (w:World) (hr:p.reads w) (hl:p.short 1099511627776):
  Calls Try.prog 45 #[.agg p.cells.toArray,.int .i64 no] w fun r w'=>r=.returned (.int .i64 (seatedOf p.v.seats no))∧Below w.heap.size w w':=
 specSeated_any p.a p.c p.seats p.hand no w hr hl.len
theorem implSeated_any (p:PoolA) (no:Int) (w:World) (hr:p.reads w) (hl:p.short 1099511627776):
  Calls Try.prog 52 #[.agg p.cells.toArray,.int .i64 no] w fun r w'=>r=.returned (.int .i64 (seatedOf p.v.seats no))∧Below w.heap.size w w':=by
 obtain ⟨ls,hand,a,c⟩:=p
 have hlen:=hl.len
 simp only [PoolA.cells,PoolA.reads,PoolA.v] at*
 obtain ⟨W,hW,b0,hbW,hsW⟩:=boxes1 w [.slice a ls.length c,.int .i64 hand] 53
 have HR:Hid (∀ u,Below W.heap.size W u→ReadsSts u a ls):=fun u hu=>hr.below (hbW.trans (hu.mono hbW.size))
 have HF:Hid (seatFrom no ((ls.map SeatA.v).drop 0) 0=seatedOf (ls.map SeatA.v) no):=rfl
 have HJ:Hid ((Try.prog.info? 98).map (·.size)=some 20):=by rw [Hid];kernel_rfl
 generalize seatedOf (ls.map SeatA.v) no=R at*
 clear hsW hr hl
 have x0:=b0.cell 0 _ rfl
 go_enter Try.func52,Try.ntmps52
 go_upto_region 1 with fail
 rw [hW.out]
 clear hW
 go_wp2_with fail
 clear x0 b0
 go_loopw [10] (fun i wr=>∃ (k:Nat),i=.int .i64 k∧k≤ls.length∧Hid (seatFrom no ((ls.map SeatA.v).drop k) k=R)∧Below W.heap.size W wr)
  (fun i _=>ls.length-(intOf i).toNat)
 case atStart=>exact ⟨0,rfl,by omega,HF,Below.refl _ _⟩
 case round=>
  obtain ⟨k,rfl,hk,hR,hbl⟩:=hrel
  have hrr:=HR.out wr hbl
  have hbT:Below w.heap.size w wr:=hbW.trans (hbl.mono hbW.size)
  by_cases hlt:k<ls.length
  ·obtain ⟨b,off,rfl,hcell⟩:=hrr (by rintro rfl;simp at hlt)
   have HRG:Hid (wr.rangeAt b (off+k*20) (ls.getD k zeroSt).cells):=(hcell k hlt).1
   clear hcell
   have hkk:(k:Int)<(ls.length:Int):=by omega
   have hi0:(0:Int)≤(k:Int):=by omega
   have HR2:Hid ((if (ls.getD k zeroSt).no=no then (k:Int) else seatFrom no ((ls.map SeatA.v).drop (k+1)) (k+1))=R):=by
    have h:=hR.out
    rw [dropSt_at ls k hlt,seatFrom] at h
    exact h
   generalize ls.getD k zeroSt=z at*
   obtain ⟨W1,hW1,b1,hb1,hs1⟩:=boxes1 wr [.int .i64 0,.int .i64 0,.bool false,.int .i64 0,.slice none 0 0,.slice none 0 0,.bool false,.int .i64 0,.slice none 0 0,.slice none 0 0,.bool false,.int .i64 0,.slice none 0 0,.slice none 0 0,.bool false,.int .i64 0,.slice none 0 0,.slice none 0 0,.bool false,.bool false] 98
   obtain ⟨W2,hW2,hw2,hs2,HT2,_,b2⟩:=seat_out z _ rfl b1
   have hB2:Below W.heap.size W W2:=(hbl.trans (hb1.mono hbl.size)).trans (hw2.below hbl.size (by have:=hbl.size;omega))
   have hbT2:Below w.heap.size w W2:=hbW.trans (hB2.mono hbW.size)
   have x0:W2.cell? ⟨wr.heap.size,0,none⟩=some (.int .i64 z.no):=b2.cell 0 _ rfl
   have HW2:Hid (W1.setCells wr.heap.size 0 z.cells.toArray.toList=W2):=hW2.out
   have hOz:=seat_one z
   clear hs1 hs2 b1 b2 hb1 hw2 hW2 hR hbl hbT
   by_cases hq:z.no=no
   ·have HR3:Hid ((k:Int)=R):=by have h:=HR2.out;rw [if_pos hq] at h;exact h
    have hqb:(z.no == no)=true:=by simpa using hq
    clear hq HR2
    go_wp2_with (first | (guard_target=wpList _ _ _ (Oper.mk (some 14) _ _ _ _ _::_) _ _;refine wpList_load_mid rfl 98 (.tmp 13) rfl b (off+k*20) rfl z.cells _ HRG.out Try.underlying98 rfl HJ.out ?_) | (guard_target=wpList _ _ _ (Oper.mk none (Op.store _ (Operand.tmp 6) _) _ _ _ _::_) _ _;refine wpList_store_mid rfl 98 (.tmp 6) (.tmp 14) rfl wr.heap.size 0 z.cells.toArray rfl rfl (by rw [hW1.out];exact HT2.out) HJ.out hOz ?_;rw [hW1.out,HW2.out]) | fail)
    go_ret
    exact ⟨ret_int HR3.out,hbT2⟩
   ·have HR3:Hid (seatFrom no ((ls.map SeatA.v).drop (k+1)) (k+1)=R):=by have h:=HR2.out;rw [if_neg hq] at h;exact h
    have hqb:(z.no == no)=false:=by simpa using hq
    clear hq HR2
    go_wp2_with (first | (guard_target=wpList _ _ _ (Oper.mk (some 14) _ _ _ _ _::_) _ _;refine wpList_load_mid rfl 98 (.tmp 13) rfl b (off+k*20) rfl z.cells _ HRG.out Try.underlying98 rfl HJ.out ?_) | (guard_target=wpList _ _ _ (Oper.mk none (Op.store _ (Operand.tmp 6) _) _ _ _ _::_) _ _;refine wpList_store_mid rfl 98 (.tmp 6) (.tmp 14) rfl wr.heap.size 0 z.cells.toArray rfl rfl (by rw [hW1.out];exact HT2.out) HJ.out hOz ?_;rw [hW1.out,HW2.out]) | fail)
    go_roundw
    case rel=>exact ⟨k+1,by go_num,by omega,HR3,hB2⟩
    case measure=>simp [intOf];omega
  ·have hkk:¬ (k:Int)<(ls.length:Int):=by omega
   have HR':Hid (-1=R):=by
    have h:=hR.out
    rw [List.drop_eq_nil_of_le (by rw [List.length_map];omega),seatFrom] at h
    exact h
   clear hR
   go_wp2
   go_ret
   exact ⟨ret_int HR'.out,hbT⟩
end Go.Proofs.Ytfehemepdoomdaa
namespace Go.Proofs.Ytfehemepdoomdaa
open Go.RowKit Go.Shelf
end Go.Proofs.Ytfehemepdoomdaa
namespace Go.Proofs.Ytfehemepdoomdaa
open Go.RowKit Go.Shelf
attribute [local go_sem] Oper.semAt_some
end Go.Proofs.Ytfehemepdoomdaa
namespace Go.Proofs.Ytfehemepdoomdaa
open Go.RowKit Go.Shelf
attribute [local go_sem] Oper.semAt_some
end Go.Proofs.Ytfehemepdoomdaa
namespace Go.Proofs.Ytfehemepdoomdaa
open Go.RowKit
end Go.Proofs.Ytfehemepdoomdaa
namespace Go.Proofs.Ytfehemepdoomdaa
open Go.RowKit
theorem touch_belowL {bl:List Nat} {W w w':World} (h:Touch bl w w') (hd:∀ k∈bl,W.heap.size≤k) (hs:W.heap.size≤w.heap.size):Below W.heap.size w w':=
 ⟨h.os,h.tape,h.output,h.size,fun k hk=>h.block k (by omega) (fun hm=>by have:=hd k hm;omega)⟩
theorem slots8_len {ps:List PageA} (h:∀ p∈ps,p.ss.length=4):(slots8 ps).length=ps.length*4:=by
 induction ps with
 | nil=>rfl
 | cons p r ih=>
  have h1:=ih (fun q hq=>h q (List.mem_cons_of_mem _ hq))
  have h2:=h p List.mem_cons_self
  simp only [slots8,List.flatMap_cons,List.length_append,List.length_cons] at h1 ⊢
  omega
theorem countSt_mid4 {t:PoolA} (h:t.short 1048576):(t.count:Int)≤4194304:=by
 have h2:=h.len
 have e:t.count=4*t.seats.length:=rfl
 rw [e]
 omega
theorem count_mid4 {t:LogA} (h:t.short 1048576):(t.count:Int)≤10995116277760:=by
 have h1:=countRs_bound t.recs 1048576 h.each
 have h2:=h.len
 have h3:t.recs.length*(10+7*1048576)≤1048576*(10+7*1048576):=Nat.mul_le_mul_right _ h2
 have e:t.count=countRs t.recs:=rfl
 rw [e]
 omega
theorem EngA.k_short {e:EngA} (se:e.shape) (h:e.short 1048576):e.kP 1≤10995116277760∧e.kE 1≤1152921504606846976:=by
 have h1:=countS_le (slots8 e.disk) 1048576 (fun s hs=>by
  obtain ⟨p,hp,hs⟩:=List.mem_flatMap.1 hs
  exact h.disk p hp s hs)
 rw [slots8_len se.four,se.eight] at h1
 have h2:=countSt_mid4 h.pool
 have h3:=count_mid4 h.log
 have h4:=h.txs
 have h5:=h.holds
 unfold EngA.kE EngA.kH EngA.kT EngA.kL EngA.kP
 omega
theorem EngA.k_pos (e:EngA):0≤e.kE 1:=by unfold EngA.kE EngA.kH EngA.kT EngA.kL EngA.kP;omega
end Go.Proofs.Ytfehemepdoomdaa