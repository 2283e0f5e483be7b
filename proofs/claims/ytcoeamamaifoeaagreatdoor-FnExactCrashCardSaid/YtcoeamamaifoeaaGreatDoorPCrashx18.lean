/- Several texts in one, in their order. -/
import Derived.Test.YtcoeamamaifoeaaGreatDoorPCrashx11
import Derived.Test.YtcoeamamaifoeaaGreatDoorPCrashx6
import Derived.Test.YtcoeamamaifoeaaGreatDoorPCrashx16
import Derived.Test.YtcoeamamaifoeaaGreatDoorPCrashx17
import Derived.Test.YtcoeamamaifoeaaGreatDoorPCrashx12
import Derived.Test.YtcoeamamaifoeaaGreatDoorPCrashx15
import Derived.Laws.Tables
import Derived.Test.YtcoeamamaifoeaaGreatDoorPCrashx5
import Derived.Test.YtcoeamamaifoeaaGreatDoorPCrashx4
import Derived.Test.YtcoeamamaifoeaaGreatDoorPCrashx1
set_option maxHeartbeats 8000000
set_option maxRecDepth 100000
namespace Go.Proofs.YtcoeamamaifoeaaGreatDoor
open Go.RowKit
def EngA.poolA (e:EngA):PoolA:=⟨e.seats,e.hand,e.aS,e.cS⟩
theorem EngA.shape.disk8 {e:EngA} (h:e.shape):Disk8 e.disk:=⟨h.eight,h.four⟩
structure EngA.reads (w:World) (e:EngA):Prop where
 disk:∀ p∈e.disk,ReadsS w p.ss
 pool:e.poolA.reads w
 log:e.log.reads w
 txs:ReadsL w e.aT e.txs
 holds:ReadsH w e.aH e.holds
structure EngA.short (e:EngA) (m:Nat):Prop where
 disk:∀ p∈e.disk,∀ x∈p.ss,x.v.o.ints.length≤m∧x.v.o.refs.length≤m
 pool:e.poolA.short m
 log:e.log.short m
 txs:e.txs.length≤m
 holds:e.holds.length≤m
theorem EngA.short.fit {e:EngA} (h:e.short 1099511627776):∀ p∈e.disk,Fit p.ss:=fun p hp s hs=>h.disk p hp s hs
theorem EngA.reads.below {w w':World} {e:EngA} (h:e.reads w) (hb:Below w.heap.size w w'):e.reads w':=
 ⟨fun p hp=>(h.disk p hp).below hb,h.pool.below hb,h.log.below hb,h.txs.below hb,h.holds.below hb⟩
theorem OwnS.readsAll {w:World} {lo hi:Nat} {ps:List PageA} (h:OwnS w lo hi (ps.flatMap (·.ss))):∀ p∈ps,ReadsS w p.ss:=fun p hp s hs=>h.reads s (List.mem_flatMap.2 ⟨p,hp,hs⟩)
theorem EngA.own.reads {w:World} {lo hi:Nat} {e:EngA} (h:e.own w lo hi):e.reads w:=⟨OwnS.readsAll h.disk,OwnSts.reads h.pool,OwnRs.reads h.log,h.txs.reads,h.holds.reads⟩
theorem eng_parts {w:World} {B:Nat} {t:TypeId} {e:EngA} (h:e.shape) (b:Box w B e.cells t):
  w.rangeAt B 0 (cellsPs e.disk)∧w.rangeAt B 136 e.poolA.cells∧w.rangeAt B 138 e.log.cells∧w.cell? ⟨B,140,none⟩=some (.slice e.aT e.txs.length e.cT)∧w.cell? ⟨B,141,none⟩=some (.slice e.aH e.holds.length e.cH)∧w.cell? ⟨B,142,none⟩=some (.int .i64 e.next)∧w.cell? ⟨B,143,none⟩=some (.bool e.down):=by
 have hl:=EngA.disk_len h
 refine ⟨?_,?_,?_,EngA.cell_at h b 4 _ rfl,EngA.cell_at h b 5 _ rfl,EngA.cell_at h b 6 _ rfl,EngA.cell_at h b 7 _ rfl⟩
 ·exact Box.range [] (cellsPs e.disk) e.tail b
 ·have:=Box.range (cellsPs e.disk) e.poolA.cells [.slice e.log.a e.log.recs.length e.log.c,.int .i64 e.log.sure,.slice e.aT e.txs.length e.cT,.slice e.aH e.holds.length e.cH,.int .i64 e.next,.bool e.down] b
  rwa [hl] at this
 ·have:=Box.range (cellsPs e.disk++e.poolA.cells) e.log.cells [.slice e.aT e.txs.length e.cT,.slice e.aH e.holds.length e.cH,.int .i64 e.next,.bool e.down] (by rw [List.append_assoc];exact b)
  rw [List.length_append,hl] at this
  exact this
theorem eqEngine_same (e f:EngA) (se:e.shape) (sf:f.shape) (he:f.v=e.v) (w:World) (re:e.reads w) (rf:f.reads w) (hl:e.short 1099511627776):
  Calls Tryz.prog 8 #[.agg e.cells.toArray,.agg f.cells.toArray] w fun r w'=>r=.returned (.bool true)∧Below w.heap.size w w':=by
 simp only [EngA.v,EngV.mk.injEq] at he
 obtain ⟨h1,h2,h3,h4,h5,h6,h7,h8⟩:=he
 have HD:Hid (f.disk.map pgv=e.disk.map pgv):=h1
 have HPV:Hid (f.poolA.v=e.poolA.v):=by rw [Hid,PoolA.v,PoolA.v];simp only [EngA.poolA,h2,h3]
 have HLV:Hid (f.log.v=e.log.v):=h4
 obtain ⟨W,hW,b0,b1,hbW,hsW⟩:=boxes2 w e.cells f.cells 58 58
 have HE:Hid (∀ u,Below W.heap.size W u→_):=fun u hu=>eng_parts se (b0.below hu b0.lt)
 have HF:Hid (∀ u,Below W.heap.size W u→_):=fun u hu=>eng_parts sf (b1.below hu b1.lt)
 have HR:Hid (∀ u,Below W.heap.size W u→e.reads u∧f.reads u):=fun u hu=>⟨(re.below hbW).below hu,(rf.below hbW).below hu⟩
 have hie:=disk8_info se.disk8
 have hif:=disk8_info sf.disk8
 clear h1 h2 h3 h4 hsW b0 b1
 have N:Below W.heap.size W W:=Below.refl _ _
 obtain ⟨p0,p1,p2,p3,p4,p5,p6⟩:=HE.out _ N
 obtain ⟨q0,q1,q2,q3,q4,q5,q6⟩:=HF.out _ N
 go_enter Tryz.func8,Tryz.ntmps8
 go_wp2_with (first | (guard_target=wpList _ _ _ (Oper.mk (some 6) _ _ _ _ _::_) _ _;refine wpList_load_mid rfl 48 (.tmp 5) rfl w.heap.size 0 rfl (cellsPs e.disk) _ (by rw [hW.out];exact p0) Tryz.underlying48 rfl hie ?_) | (guard_target=wpList _ _ _ (Oper.mk (some 8) _ _ _ _ _::_) _ _;refine wpList_load_mid rfl 48 (.tmp 7) rfl (w.heap.size+1) 0 rfl (cellsPs f.disk) _ (by rw [hW.out];exact q0) Tryz.underlying48 rfl hif ?_) | fail)
 rw [hW.out]
 clear hW
 refine (eqPageA8_same e.disk f.disk se.disk8 sf.disk8 HD.out W (HR.out _ N).1.disk (HR.out _ N).2.disk hl.fit).mono ?_
 rintro r w1 ⟨rfl,hbw1⟩
 replace N:=N.trans (hbw1.mono N.size)
 clear p0 p1 p2 p3 p4 p5 p6 q0 q1 q2 q3 q4 q5 q6 hbw1
 obtain ⟨p0,p1,p2,p3,p4,p5,p6⟩:=HE.out _ N
 obtain ⟨q0,q1,q2,q3,q4,q5,q6⟩:=HF.out _ N
 go_wp2_with (first | (guard_target=wpList _ _ _ (Oper.mk (some 12) _ _ _ _ _::_) _ _;refine wpList_load_mid rfl 51 (.tmp 11) rfl w.heap.size 136 rfl (e.poolA.cells) _ p1 Tryz.underlying51 rfl (pool_info _) ?_) | (guard_target=wpList _ _ _ (Oper.mk (some 14) _ _ _ _ _::_) _ _;refine wpList_load_mid rfl 51 (.tmp 13) rfl (w.heap.size+1) 136 rfl (f.poolA.cells) _ q1 Tryz.underlying51 rfl (pool_info _) ?_) | fail)
 refine (eqPool_same e.poolA f.poolA HPV.out w1 (HR.out _ N).1.pool (HR.out _ N).2.pool hl.pool).mono ?_
 rintro r w2 ⟨rfl,hbw2⟩
 replace N:=N.trans (hbw2.mono N.size)
 clear p0 p1 p2 p3 p4 p5 p6 q0 q1 q2 q3 q4 q5 q6 hbw2
 obtain ⟨p0,p1,p2,p3,p4,p5,p6⟩:=HE.out _ N
 obtain ⟨q0,q1,q2,q3,q4,q5,q6⟩:=HF.out _ N
 go_wp2_with (first | (guard_target=wpList _ _ _ (Oper.mk (some 18) _ _ _ _ _::_) _ _;refine wpList_load_mid rfl 54 (.tmp 17) rfl w.heap.size 138 rfl (e.log.cells) _ p2 Tryz.underlying54 rfl (log_info _) ?_) | (guard_target=wpList _ _ _ (Oper.mk (some 20) _ _ _ _ _::_) _ _;refine wpList_load_mid rfl 54 (.tmp 19) rfl (w.heap.size+1) 138 rfl (f.log.cells) _ q2 Tryz.underlying54 rfl (log_info _) ?_) | fail)
 refine (eqLog_same e.log f.log HLV.out w2 (HR.out _ N).1.log (HR.out _ N).2.log hl.log).mono ?_
 rintro r w3 ⟨rfl,hbw3⟩
 replace N:=N.trans (hbw3.mono N.size)
 clear p0 p1 p2 p3 p4 p5 p6 q0 q1 q2 q3 q4 q5 q6 hbw3
 obtain ⟨p0,p1,p2,p3,p4,p5,p6⟩:=HE.out _ N
 obtain ⟨q0,q1,q2,q3,q4,q5,q6⟩:=HF.out _ N
 rw [h5] at q3
 have C4:=eqLiveS_same e.aT f.aT e.cT f.cT e.txs w3 (HR.out _ N).1.txs (by have:=(HR.out _ N).2.txs;rwa [h5] at this) hl.txs
 go_wp2_with fail
 refine (C4).mono ?_
 rintro r w4 ⟨rfl,hbw4⟩
 replace N:=N.trans (hbw4.mono N.size)
 clear p0 p1 p2 p3 p4 p5 p6 q0 q1 q2 q3 q4 q5 q6 hbw4
 obtain ⟨p0,p1,p2,p3,p4,p5,p6⟩:=HE.out _ N
 obtain ⟨q0,q1,q2,q3,q4,q5,q6⟩:=HF.out _ N
 clear C4
 rw [h6] at q4
 have C5:=eqHoldS_same e.aH f.aH e.cH f.cH e.holds w4 (HR.out _ N).1.holds (by have:=(HR.out _ N).2.holds;rwa [h6] at this) hl.holds
 go_wp2_with fail
 refine (C5).mono ?_
 rintro r w5 ⟨rfl,hbw5⟩
 replace N:=N.trans (hbw5.mono N.size)
 clear p0 p1 p2 p3 p4 p5 p6 q0 q1 q2 q3 q4 q5 q6 hbw5
 obtain ⟨p0,p1,p2,p3,p4,p5,p6⟩:=HE.out _ N
 obtain ⟨q0,q1,q2,q3,q4,q5,q6⟩:=HF.out _ N
 clear C5
 rw [h7] at q5
 rw [h8] at q6
 have HEND:Hid (Below w.heap.size w w5):=hbW.trans (N.mono hbW.size)
 clear h5 h6 h7 h8
 go_wp2
 go_ret
 exact ⟨rfl,HEND.out⟩
def EngA.kP (e:EngA) (k:Int):Int:=k+countS (slots8 e.disk)
def EngA.kL (e:EngA) (k:Int):Int:=e.kP k+e.poolA.count
def EngA.kT (e:EngA) (k:Int):Int:=e.kL k+e.log.count
def EngA.kH (e:EngA) (k:Int):Int:=e.kT k+3*e.txs.length
def EngA.kE (e:EngA) (k:Int):Int:=e.kH k+2*e.holds.length
structure EngA.marked (w:World) (lo hi:Nat) (e:EngA) (k:Int):Prop where
 disk:OwnS w lo hi (markSs (slots8 e.disk) k)
 pool:(e.poolA.mark (e.kP k)).own w lo hi
 log:(e.log.mark (e.kL k)).own w lo hi
 txs:OwnL w lo hi e.aT e.cT (marksL (e.kT k) e.txs.length)
 holds:OwnH w lo hi e.aH e.cH (marksH (e.kH k) e.holds.length)
theorem EngA.marked.touch {w w':World} {lo hi:Nat} {e:EngA} {k:Int} {bl:List Nat} (h:e.marked w lo hi k) (ht:Touch bl w w') (hd:∀ j∈e.blocks,j∉bl):e.marked w' lo hi k:=by
 simp only [EngA.blocks,List.mem_append] at hd
 refine ⟨h.disk.touch ht (fun j hj=>hd j (.inl (by rw [markSs_blocks] at hj;exact hj))),h.pool.touch ht (fun j hj=>hd j (.inr (.inl ?_))),h.log.touch ht (fun j hj=>hd j (.inr (.inr (.inl ?_)))),h.txs.touch ht (fun j hj=>hd j (.inr (.inr (.inr (.inl ?_))))),h.holds.touch ht (fun j hj=>hd j (.inr (.inr (.inr (.inr ?_)))))⟩
 ·simpa [PoolA.blocks,PoolA.mark,blocksSts,markSts_len,markSts_blocks,EngA.poolA] using hj
 ·simpa [LogA.blocks,LogA.mark,blocksRs,markRs_len,markRs_blocks] using hj
 ·rw [marksL_len] at hj;exact Option.mem_toList.2 hj
 ·rw [marksH_len] at hj;exact Option.mem_toList.2 hj
theorem EngA.marked.below {w w':World} {lo hi:Nat} {e:EngA} {k:Int} (h:e.marked w lo hi k) (hb:Below w.heap.size w w'):e.marked w' lo hi k:=
 ⟨h.disk.below hb,h.pool.below hb,h.log.below hb,h.txs.below hb,h.holds.below hb⟩
theorem markEngine_touch (e:EngA) (se:e.shape) (lo hi:Nat) (k0:Int) (w:World) (ho:e.own w lo hi) (hl:e.short 1099511627776) (h0:0≤k0) (hk:e.kP k0≤10995116277760∧e.kE k0≤1152921504606846976) (hhi:hi≤w.heap.size):
  Calls Tryz.prog 9 #[.agg e.cells.toArray,.int .i64 k0] w fun r w'=>r=.returned (.int .i64 (e.kE k0))∧e.marked w' lo hi k0∧Touch e.blocks w w':=by
 have hbl:=ho.blocks_lt
 have HAP:=ho.apart
 obtain ⟨W,hW,b0,hbW,hsW⟩:=boxes1 w e.cells 58
 have hs0:w.heap.size<W.heap.size:=by omega
 have hwB:w.heap.size∉e.blocks:=fun h=>by have:=(hbl _ h).2;omega
 have HE:Hid (∀ u,Touch e.blocks W u→_):=fun u hu=>eng_parts se (b0.touch hu hwB)
 have hie:=disk8_info se.disk8
 have hb1:0≤e.kP k0∧e.kP k0≤10995116277760∧0≤e.kL k0∧e.kL k0≤1152921504606846976∧0≤e.kT k0∧e.kT k0≤1152921504606846976∧0≤e.kH k0∧e.kH k0≤1152921504606846976:=by unfold EngA.kE EngA.kH EngA.kT EngA.kL EngA.kP at *;omega
 simp only [EngA.blocks,List.nodup_append,List.mem_append] at HAP
 obtain ⟨_,⟨_,⟨_,⟨_,_,a45⟩,a3⟩,a2⟩,a1⟩:=HAP
 have od:=ho.disk.below hbW
 have op:e.poolA.own W lo hi:=OwnSts.below ho.pool hbW
 have ol:e.log.own W lo hi:=OwnRs.below ho.log hbW
 have ot:=ho.txs.below hbW
 have oh:=ho.holds.below hbW
 have N:Touch e.blocks W W:=Touch.refl _ _
 obtain ⟨p0,p1,p2,p3,p4,_,_⟩:=HE.out _ N
 have C1:=markPageA8_touch e.disk se.disk8 lo hi k0 W od hl.fit h0 (by have:=hb1.2.1;unfold EngA.kP at this;exact this) (by omega)
 go_enter Tryz.func9,Tryz.ntmps9
 go_wp2_with (first | (guard_target=wpList _ _ _ (Oper.mk (some 6) _ _ _ _ _::_) _ _;refine wpList_load_mid rfl 48 (.tmp 5) rfl w.heap.size 0 rfl (cellsPs e.disk) _ (by rw [hW.out];exact p0) Tryz.underlying48 rfl hie ?_) | fail)
 rw [hW.out]
 clear hW hsW
 refine C1.mono ?_
 clear C1 p0 p1 p2 p3 p4 od
 rintro r w1 ⟨rfl,od,t1⟩
 have T1:Touch e.blocks W w1:=t1.mono (fun k hk=>List.mem_append.2 (.inl hk))
 replace op:e.poolA.own w1 lo hi:=op.touch t1 (fun k hk hk'=>a1 k hk' k (.inl hk) rfl)
 replace ol:e.log.own w1 lo hi:=ol.touch t1 (fun k hk hk'=>a1 k hk' k (.inr (.inl hk)) rfl)
 replace ot:=ot.touch t1 (fun k hk hk'=>a1 k hk' k (.inr (.inr (.inl (Option.mem_toList.2 hk)))) rfl)
 replace oh:=oh.touch t1 (fun k hk hk'=>a1 k hk' k (.inr (.inr (.inr (Option.mem_toList.2 hk)))) rfl)
 obtain ⟨p0,p1,p2,p3,p4,_,_⟩:=HE.out _ T1
 have C2:=markPool_touch e.poolA lo hi (e.kP k0) w1 op hl.pool hb1.1 (by have:=hb1.2.2.2.1;unfold EngA.kL at this;omega)
 go_wp2_with (first | (guard_target=wpList _ _ _ (Oper.mk (some 10) _ _ _ _ _::_) _ _;refine wpList_load_mid rfl 51 (.tmp 9) rfl w.heap.size 136 rfl (e.poolA.cells) _ p1 Tryz.underlying51 rfl (pool_info _) ?_) | fail)
 refine C2.mono ?_
 clear C2 p0 p1 p2 p3 p4 op t1
 rintro r w2 ⟨rfl,op,t2⟩
 have hpb:e.poolA.blocks=blocksSts e.aS e.cS e.seats:=rfl
 have T2:Touch e.blocks W w2:=T1.trans (t2.mono (fun k hk=>List.mem_append.2 (.inr (List.mem_append.2 (.inl hk)))))
 replace od:=od.touch t2 (fun k hk hk'=>a1 k (by rw [markSs_blocks] at hk;exact hk) k (.inl hk') rfl)
 replace ol:e.log.own w2 lo hi:=ol.touch t2 (fun k hk hk'=>a2 k hk' k (.inl hk) rfl)
 replace ot:=ot.touch t2 (fun k hk hk'=>a2 k hk' k (.inr (.inl (Option.mem_toList.2 hk))) rfl)
 replace oh:=oh.touch t2 (fun k hk hk'=>a2 k hk' k (.inr (.inr (Option.mem_toList.2 hk))) rfl)
 obtain ⟨p0,p1,p2,p3,p4,_,_⟩:=HE.out _ T2
 have C3:=markLog_touch e.log lo hi (e.kL k0) w2 ol hl.log hb1.2.2.1 (by have:=hb1.2.2.2.2.2.1;unfold EngA.kT at this;omega)
 go_wp2_with (first | (guard_target=wpList _ _ _ (Oper.mk (some 14) _ _ _ _ _::_) _ _;refine wpList_load_mid rfl 54 (.tmp 13) rfl w.heap.size 138 rfl (e.log.cells) _ p2 Tryz.underlying54 rfl (log_info _) ?_) | fail)
 refine C3.mono ?_
 clear C3 p0 p1 p2 p3 p4 ol t2
 rintro r w3 ⟨rfl,ol,t3⟩
 have T3:Touch e.blocks W w3:=T2.trans (t3.mono (fun k hk=>List.mem_append.2 (.inr (List.mem_append.2 (.inr (List.mem_append.2 (.inl hk)))))))
 replace od:=od.touch t3 (fun k hk hk'=>a1 k (by rw [markSs_blocks] at hk;exact hk) k (.inr (.inl hk')) rfl)
 replace op:(e.poolA.mark (e.kP k0)).own w3 lo hi:=op.touch t3 (fun k hk hk'=>a2 k (by simpa [PoolA.blocks,PoolA.mark,blocksSts,markSts_len,markSts_blocks,EngA.poolA] using hk) k (.inl hk') rfl)
 replace ot:=ot.touch t3 (fun k hk hk'=>a3 k hk' k (.inl (Option.mem_toList.2 hk)) rfl)
 replace oh:=oh.touch t3 (fun k hk hk'=>a3 k hk' k (.inr (Option.mem_toList.2 hk)) rfl)
 obtain ⟨p0,p1,p2,p3,p4,_,_⟩:=HE.out _ T3
 have C4:=markLiveS_own lo hi e.aT e.cT (e.kT k0) e.txs w3 ot hb1.2.2.2.2.1 (by have:=hb1.2.2.2.2.2.2.2;unfold EngA.kH at this;omega)
 have E3:Hid (e.kL k0+(e.log.count:Int)=e.kT k0):=rfl
 rw [E3.out]
 go_wp2_with fail
 refine C4.mono ?_
 clear C4 p0 p1 p2 p3 p4 ot t3 E3
 rintro r w4 ⟨rfl,ot,t4⟩
 have T4:Touch e.blocks W w4:=T3.trans (t4.mono (fun k hk=>List.mem_append.2 (.inr (List.mem_append.2 (.inr (List.mem_append.2 (.inr (List.mem_append.2 (.inl hk)))))))))
 replace od:=od.touch t4 (fun k hk hk'=>a1 k (by rw [markSs_blocks] at hk;exact hk) k (.inr (.inr (.inl hk'))) rfl)
 replace op:(e.poolA.mark (e.kP k0)).own w4 lo hi:=op.touch t4 (fun k hk hk'=>a2 k (by simpa [PoolA.blocks,PoolA.mark,blocksSts,markSts_len,markSts_blocks,EngA.poolA] using hk) k (.inr (.inl hk')) rfl)
 replace ol:(e.log.mark (e.kL k0)).own w4 lo hi:=ol.touch t4 (fun k hk hk'=>a3 k (by simpa [LogA.blocks,LogA.mark,blocksRs,markRs_len,markRs_blocks] using hk) k (.inl hk') rfl)
 replace oh:=oh.touch t4 (fun k hk hk'=>a45 k hk' k (Option.mem_toList.2 hk) rfl)
 obtain ⟨p0,p1,p2,p3,p4,_,_⟩:=HE.out _ T4
 have C5:=markHoldS_own lo hi e.aH e.cH (e.kH k0) e.holds w4 oh hb1.2.2.2.2.2.2.1 (by unfold EngA.kE at hk;omega)
 have E4:Hid (e.kT k0+3*(e.txs.length:Int)=e.kH k0):=rfl
 rw [E4.out]
 go_wp2_with fail
 refine C5.mono ?_
 clear C5 p0 p1 p2 p3 p4 oh E4
 rintro r w5 ⟨rfl,oh,t5⟩
 have T5:Touch e.blocks W w5:=T4.trans (t5.mono (fun k hk=>List.mem_append.2 (.inr (List.mem_append.2 (.inr (List.mem_append.2 (.inr (List.mem_append.2 (.inr hk)))))))))
 replace od:=od.touch t5 (fun k hk hk'=>a1 k (by rw [markSs_blocks] at hk;exact hk) k (.inr (.inr (.inr hk'))) rfl)
 replace op:(e.poolA.mark (e.kP k0)).own w5 lo hi:=op.touch t5 (fun k hk hk'=>a2 k (by simpa [PoolA.blocks,PoolA.mark,blocksSts,markSts_len,markSts_blocks,EngA.poolA] using hk) k (.inr (.inr hk')) rfl)
 replace ol:(e.log.mark (e.kL k0)).own w5 lo hi:=ol.touch t5 (fun k hk hk'=>a3 k (by simpa [LogA.blocks,LogA.mark,blocksRs,markRs_len,markRs_blocks] using hk) k (.inr hk') rfl)
 replace ot:=ot.touch t5 (fun k hk hk'=>a45 k (by rw [marksL_len] at hk;exact Option.mem_toList.2 hk) k hk' rfl)
 have HEND:Hid (e.marked w5 lo hi k0∧Touch e.blocks w w5):=⟨⟨od,op,ol,ot,oh⟩,(Touch.of_below hbW).trans T5⟩
 go_wp2
 go_ret
 exact ⟨rfl,HEND.out.1,HEND.out.2⟩
theorem heldEngine_any (e:EngA) (se:e.shape) (lo hi:Nat) (k0:Int) (w:World) (ho:e.marked w lo hi k0) (hl:e.short 1099511627776) (h0:0≤k0) (hk:e.kP k0≤10995116277760∧e.kE k0≤1152921504606846976):
  Calls Tryz.prog 10 #[.agg e.cells.toArray,.int .i64 k0] w fun r w'=>r=.returned (.int .i64 (e.kE k0))∧Below w.heap.size w w':=by
 obtain ⟨W,hW,b0,hbW,hsW⟩:=boxes1 w e.cells 58
 have HE:Hid (∀ u,Below W.heap.size W u→_):=fun u hu=>eng_parts se (b0.below hu b0.lt)
 have hie:=disk8_info se.disk8
 have hb1:0≤e.kP k0∧e.kP k0≤10995116277760∧0≤e.kL k0∧e.kL k0≤1152921504606846976∧0≤e.kT k0∧e.kT k0≤1152921504606846976∧0≤e.kH k0∧e.kH k0≤1152921504606846976∧0≤e.kE k0:=by unfold EngA.kE EngA.kH EngA.kT EngA.kL EngA.kP at *;omega
 have HM:Hid (∀ u,Below W.heap.size W u→e.marked u lo hi k0):=fun u hu=>(ho.below hbW).below hu
 have N:Below W.heap.size W W:=Below.refl _ _
 obtain ⟨p0,p1,p2,p3,p4,_,_⟩:=HE.out _ N
 have C1:=heldPageA8_any e.disk se.disk8 lo hi k0 W (HM.out _ N).disk hl.fit h0 (by have:=hb1.2.1;unfold EngA.kP at this;exact this)
 go_enter Tryz.func10,Tryz.ntmps10
 go_wp2_with (first | (guard_target=wpList _ _ _ (Oper.mk (some 6) _ _ _ _ _::_) _ _;refine wpList_load_mid rfl 48 (.tmp 5) rfl w.heap.size 0 rfl (cellsPs e.disk) _ (by rw [hW.out];exact p0) Tryz.underlying48 rfl hie ?_) | fail)
 rw [hW.out]
 clear hW hsW
 refine C1.mono ?_
 clear C1 p0 p1 p2 p3 p4
 rintro r w1 ⟨rfl,hb⟩
 replace N:=N.trans (hb.mono N.size)
 obtain ⟨p0,p1,p2,p3,p4,_,_⟩:=HE.out _ N
 have E1:Hid (k0+(countS (slots8 e.disk):Int)=e.kP k0):=rfl
 rw [E1.out]
 have n1:¬ e.kP k0<0:=by omega
 have C2:=heldPool_any e.poolA lo hi (e.kP k0) w1 (HM.out _ N).pool hl.pool.len hb1.1 (by have:=hb1.2.2.2.1;unfold EngA.kL at this;omega)
 clear hb E1
 go_wp2_with (first | (guard_target=wpList _ _ _ (Oper.mk (some 12) _ _ _ _ _::_) _ _;refine wpList_load_mid rfl 51 (.tmp 11) rfl w.heap.size 136 rfl (e.poolA.cells) _ p1 Tryz.underlying51 rfl (pool_info _) ?_) | fail)
 refine C2.mono ?_
 clear C2 p0 p1 p2 p3 p4
 rintro r w2 ⟨rfl,hb⟩
 replace N:=N.trans (hb.mono N.size)
 obtain ⟨p0,p1,p2,p3,p4,_,_⟩:=HE.out _ N
 have E1:Hid (e.kP k0+(e.poolA.count:Int)=e.kL k0):=rfl
 rw [E1.out]
 have n2:¬ e.kL k0<0:=by omega
 have C3:=heldLog_any e.log lo hi (e.kL k0) w2 (HM.out _ N).log hl.log.len hb1.2.2.1 (by have:=hb1.2.2.2.2.2.1;unfold EngA.kT at this;omega)
 clear hb E1
 go_wp2_with (first | (guard_target=wpList _ _ _ (Oper.mk (some 18) _ _ _ _ _::_) _ _;refine wpList_load_mid rfl 54 (.tmp 17) rfl w.heap.size 138 rfl (e.log.cells) _ p2 Tryz.underlying54 rfl (log_info _) ?_) | fail)
 refine C3.mono ?_
 clear C3 p0 p1 p2 p3 p4
 rintro r w3 ⟨rfl,hb⟩
 replace N:=N.trans (hb.mono N.size)
 obtain ⟨p0,p1,p2,p3,p4,_,_⟩:=HE.out _ N
 have E1:Hid (e.kL k0+(e.log.count:Int)=e.kT k0):=rfl
 rw [E1.out]
 have n3:¬ e.kT k0<0:=by omega
 have C4:=heldLiveS_any e.aT e.cT (e.kT k0) e.txs.length w3 (HM.out _ N).txs.reads hb1.2.2.2.2.1 (by have:=hb1.2.2.2.2.2.2.2.1;unfold EngA.kH at this;omega)
 clear hb E1
 go_wp2_with fail
 refine C4.mono ?_
 clear C4
 rintro r w4 ⟨rfl,rfl⟩
 have E1:Hid (e.kT k0+3*(e.txs.length:Int)=e.kH k0):=rfl
 rw [E1.out]
 have n4:¬ e.kH k0<0:=by omega
 have C5:=heldHoldS_any e.aH e.cH (e.kH k0) e.holds.length w4 (HM.out _ N).holds.reads hb1.2.2.2.2.2.2.1 (by unfold EngA.kE at hk;omega)
 clear E1
 go_wp2_with fail
 refine C5.mono ?_
 clear C5
 rintro r w5 ⟨rfl,rfl⟩
 have E1:Hid (e.kH k0+2*(e.holds.length:Int)=e.kE k0):=rfl
 rw [E1.out]
 have n5:¬ e.kE k0<0:=by omega
 have HEND:Hid (Below w.heap.size w w5):=hbW.trans (N.mono hbW.size)
 go_wp2
 go_ret
 exact ⟨rfl,HEND.out⟩
theorem eng_info {e:EngA} (h:e.shape):(Tryz.prog.info? 58).map (·.size)=some e.cells.length:=by rw [EngA.cells_len h];exact Tryz.infoEng
theorem oneE (e:EngA):∀ v∈e.cells,v.oneCell'=true:=by
 intro v hv
 simp only [EngA.cells,List.mem_append] at hv
 rcases hv with hv | hv
 ·obtain ⟨p,_,hp⟩:=List.mem_flatMap.1 hv
  exact oneP p v hp
 ·simp only [EngA.tail,List.mem_cons,List.not_mem_nil,or_false] at hv
  rcases hv with rfl | rfl | rfl | rfl | rfl | rfl | rfl | rfl<;>rfl
theorem zeroE_shape:zeroE.shape:=⟨rfl,fun p hp=>by
 simp only [zeroE,List.mem_cons,List.not_mem_nil,or_false] at hp
 have:p=zeroP:=by rcases hp with h | h | h | h | h | h | h | h<;>exact h
 rw [this];rfl⟩
theorem eng_out {w:World} {C:Nat} {q old:EngA} (hq:q.shape) (ho:old.shape) (bC:Box w C old.cells TE):
  ∃ WF,Hid (w.setCells C 0 q.cells.toArray.toList=WF)∧Within C (C+1) w WF∧WF.heap.size=w.heap.size∧Hid (w.there C 0 q.cells.toArray.size)∧Box WF C q.cells TE:=by
 obtain ⟨WF,hWF,bF,hwF,hsF⟩:=range_fill [] old.cells q.cells [] (by simpa using bC) (by rw [EngA.cells_len hq,EngA.cells_len ho])
 refine ⟨WF,hWF,hwF,hsF,bC.there 0 _ (by rw [List.size_toArray,EngA.cells_len hq,EngA.cells_len ho];omega),by simpa using bF⟩
theorem eng_load {w:World} {C:Nat} {q:EngA} (hq:q.shape) (b:Box w C q.cells TE):(loadVar 58 ⟨C,0,none⟩).run Tryz.prog w=.ok (.agg q.cells.toArray) w:=
 run_loadVar_mid (P:=Tryz.prog) w C 0 58 q.cells _ (Box.range [] q.cells [] (by simpa using b)) Tryz.underlying58 rfl (eng_info hq)
end Go.Proofs.YtcoeamamaifoeaaGreatDoor
namespace Go.Proofs.YtcoeamamaifoeaaGreatDoor
open Go.RowKit
theorem alloc_of {w:World} {ops:Array Oper} {rest:List Oper} {dst:Option Nat} {ty:TypeId} {pos:String} {aft:Array Edge} {act:Act} {Q:Exit→Act→World→Prop} (T:TypeId) (cs:List Value)
  (hz:(Tryz.prog.info? T).map (·.zero)=some (some (.agg cs.toArray)))
  (h:wpList Tryz.prog ops Q rest (act.put dst (.pointer (some ⟨w.heap.size,0,none⟩))) (w.alloc (.cells cs.toArray T))):
  wpList Tryz.prog ops Q ({ dst:=dst,op:=.alloc T,type:=ty,pos:=pos,after:=aft,guard:=none }::rest) act w:=by
 refine wpList_plain rfl fun K hK=>?_
 cases hi:Tryz.prog.info? T with
 | none=>rw [hi] at hz;cases hz
 | some inf=>
  rw [hi] at hz
  have hz':inf.zero=some (.agg cs.toArray):=by simpa using hz
  unfold Oper.wp execOp
  have e1:(zeroValue T).run Tryz.prog w=.ok (.agg cs.toArray) w:=by simp [zeroValue,typeInfo,hi,hz']
  have e2:(Instr.alloc T true (.tuple #[])).run Tryz.prog w=.ok (.pointer (some ⟨w.heap.size,0,none⟩)) (w.alloc (.cells cs.toArray T)):=by
   unfold Instr.alloc
   simp only [Sem.run_bind,e1,Result.andThen_ok]
   simp [newVar,go_sem]
  simp only [Sem.run_bind,e2,Result.andThen_ok,Sem.run_pure]
  exact hK _ _ h
def zero8:List PageA:=List.replicate 8 zeroP
theorem zero8_d:Disk8 zero8:=⟨rfl,fun p hp=>by rw [List.eq_of_mem_replicate hp];rfl⟩
theorem Tryz.zeroA8:(Tryz.prog.info? 48).map (·.zero)=some (some (.agg (cellsPs zero8).toArray)):=by kernel_rfl
theorem cellsPs_app (a b:List PageA):cellsPs (a++b)=cellsPs a++cellsPs b:=by simp only [cellsPs,List.flatMap_append]
theorem cellsPs_cons (p:PageA) (b:List PageA):cellsPs (p::b)=p.cells++cellsPs b:=by simp only [cellsPs,List.flatMap_cons]
theorem onePs (ps:List PageA):∀ v∈cellsPs ps,v.oneCell'=true:=fun v hv=>by
 obtain ⟨p,_,hp⟩:=List.mem_flatMap.1 hv
 exact oneP p v hp
theorem lpage_info (p:PageA) (h:p.ss.length=4):(Tryz.prog.info? 29).map (·.size)=some p.cells.length:=by rw [page_len _ h];kernel_rfl
theorem ldisk8_info {ps:List PageA} (h:Disk8 ps):(Tryz.prog.info? 30).map (·.size)=some (cellsPs ps).length:=by rw [cellsPs_len _ h.four,h.eight];kernel_rfl
theorem OwnS.snocs {w:World} {lo mid hi:Nat} {A B:List SlotA} (h:OwnS w lo mid A) (hb:OwnS w mid hi B) (h1:lo≤mid) (h2:mid≤hi) (hhi:hi≤w.heap.size):OwnS w lo hi (A++B):=by
 have ha:=h.widen (Nat.le_refl _) h2 hhi
 have hb':=hb.widen h1 (Nat.le_refl _) hhi
 refine ⟨fun s hs=>(List.mem_append.1 hs).elim (ha.each s) (hb'.each s),?_⟩
 rw [List.flatMap_append,List.nodup_append]
 exact ⟨h.apart,hb.apart,fun x hx y hy e=>by have:=h.blocks_lt x hx;have:=hb.blocks_lt y hy;omega⟩
theorem toPageA8_any (ps:List PageA) (hp:Disk8 ps) (w:World) (hr:∀ p∈ps,ReadsS w p.ss) (hf:∀ p∈ps,Fit p.ss):
  Calls Tryz.prog 20 #[.agg (cellsPs ps).toArray] w fun e w'=>∃ ts:List PageA,e=.returned (.agg (cellsPs ts).toArray)∧Disk8 ts∧Hid (ts.map pgv=ps.map pgv)∧OwnS w' w.heap.size w'.heap.size (slots8 ts)∧Below w.heap.size w w':=by
 obtain ⟨Z,hZ⟩:∃ Z,Hid (zero8=Z):=⟨_,rfl⟩
 have hz8:Disk8 Z:=by rw [← hZ.out];exact zero8_d
 have HZ:=Tryz.zeroA8
 rw [hZ.out] at HZ
 obtain ⟨W,hW,b1,b2,b3,hbW,hsW⟩:=boxes3 w (cellsPs ps) (cellsPs Z) (cellsPs Z) 30 48 48
 have hs0:w.heap.size+1+1<W.heap.size:=by omega
 go_enter Tryz.func20,Tryz.ntmps20
 go_wp2_with (first | (guard_target=wpList _ _ _ (Oper.mk _ (Op.alloc _) _ _ _ _::_) _ _;refine alloc_of 48 (cellsPs Z) HZ ?_) | fail)
 rw [hW.out]
 clear hW hsW
 have b3':Box W (w.heap.size+1+1) (cellsPs ([]++List.replicate (8-0) zeroP)) 48:=by rw [← hZ.out] at b3;exact b3
 clear b3
 go_loopw [4] (fun i wr=>∃ (k:Nat) (ts:List PageA),k≤8∧i=.int .i64 (k:Int)∧Hid (ts.length=k∧(∀ p∈ts,p.ss.length=4)∧ts.map pgv=(ps.take k).map pgv)∧OwnS wr W.heap.size wr.heap.size (slots8 ts)∧Box wr w.heap.size (cellsPs ps) 30∧Box wr (w.heap.size+1) (cellsPs Z) 48∧Box wr (w.heap.size+1+1) (cellsPs (ts++List.replicate (8-k) zeroP)) 48∧Below w.heap.size w wr∧W.heap.size≤wr.heap.size) (fun i _=>8-(intOf i).toNat)
 case atStart=>exact ⟨0,[],Nat.zero_le _,rfl,⟨rfl,fun p hp=>by (simp at hp),rfl⟩,OwnS.nil _ _ _,b1,b2,b3',hbW,Nat.le_refl _⟩
 case round=>
  obtain ⟨k,ts,hk,rfl,hts,hown,c1,c2,c3,hnx,hsr⟩:=hrel
  clear b1 b2 b3'
  by_cases hlt:k<8
  ·have hkl:k<ps.length:=by rw [hp.eight];exact hlt
   have r1:=page_in hp c1 k hlt
   have HP4:=hp.at hlt
   have F1:=hf _ (pageD_mem (k:=k) hkl)
   have R1:=(hr _ (pageD_mem (k:=k) hkl)).below hnx
   have HTK:Hid ((ps.take (k+1)).map pgv=(ps.take k).map pgv++[pgv (ps.getD k zeroP)]):=by rw [Hid,List.take_succ_eq_append_getElem hkl,pageD_eq hkl,List.map_append];rfl
   have C:=toPage_own (ps.getD k zeroP) HP4 wr R1 F1
   generalize ps.getD k zeroP=p at*
   have HIp:=lpage_info p HP4
   have hi0:(0:Int)≤(k:Int):=by omega
   have hi8:(k:Int)<8:=by omega
   go_wp2_with (first | (guard_target=wpList _ _ _ (Oper.mk (some 12) _ _ _ _ _::_) _ _;refine wpList_load_mid rfl 29 (.tmp 11) rfl w.heap.size (k*17) rfl (p.cells) _ r1 Tryz.underlying29 rfl HIp ?_) | fail)
   refine C.mono ?_
   clear C r1
   rintro e w1 ⟨us,rfl,hv,ho1,hb1⟩
   have hu4:us.length=4:=by have:=congrArg List.length hv.out;simp only [List.length_map] at this;omega
   have s1:=hb1.size
   obtain ⟨q,hq⟩:∃ q:PageA,Hid ((⟨p.lsn,us⟩:PageA)=q):=⟨_,rfl⟩
   have hq4:q.ss.length=4:=by rw [← hq.out];exact hu4
   have oq:OwnS w1 wr.heap.size w1.heap.size q.ss:=by rw [← hq.out];exact ho1
   have HQV:Hid (pgv q=pgv p):=by rw [Hid,← hq.out];simp only [pgv];rw [hv.out]
   rw [hq.out]
   clear hq hv ho1 hu4
   replace c1:=c1.below hb1 c1.lt
   replace c2:=c2.below hb1 c2.lt
   replace c3:=c3.below hb1 c3.lt
   have hown1:=hown.below hb1
   replace hnx:=hnx.trans (hb1.mono hnx.size)
   have e8:8-k=(8-(k+1))+1:=by omega
   rw [cellsPs_app,e8,List.replicate_succ,cellsPs_cons] at c3
   obtain ⟨W2,hW2,d3,hw2,hs2⟩:=range_fill (cellsPs ts) zeroP.cells q.cells (cellsPs (List.replicate (8-(k+1)) zeroP)) c3 (by rw [page_len q hq4];rfl)
   have hl3:(cellsPs ts).length=k*17:=by rw [cellsPs_len _ hts.out.2.1,hts.out.1]
   rw [hl3] at hW2
   have HTH:Hid (w1.there (w.heap.size+1+1) (k*17) q.cells.toArray.size):=c3.there _ _ (by rw [List.size_toArray,page_len q hq4,List.length_append,List.length_append,hl3,page_len zeroP rfl];omega)
   have s2:=hw2.size
   have d3':Box W2 (w.heap.size+1+1) (cellsPs ((ts++[q])++List.replicate (8-(k+1)) zeroP)) 48:=by
    rw [List.append_assoc,cellsPs_app,List.singleton_append,cellsPs_cons];exact d3
   have c1':=c1.within hw2 (by omega)
   have c2':=c2.within hw2 (by omega)
   have HOW:Hid (OwnS W2 W.heap.size W2.heap.size (slots8 (ts++[q]))):=by
    rw [Hid,slots8_app,slots8_cons]
    have o:=(hown1.snocs oq hsr (by omega) (Nat.le_refl _))
    simpa [slots8] using (o.within hw2 (.inr (by omega))).widen (Nat.le_refl _) s2 (Nat.le_refl _)
   have HTS:Hid ((ts++[q]).length=k+1∧(∀ p∈ts++[q],p.ss.length=4)∧(ts++[q]).map pgv=(ps.take (k+1)).map pgv):=by
    refine ⟨by rw [List.length_append,hts.out.1];rfl,fun x hx=>?_,?_⟩
    ·rcases List.mem_append.1 hx with h | h
     ·exact hts.out.2.1 x h
     ·rw [List.mem_singleton.1 h];exact hq4
    ·rw [HTK.out,List.map_append,hts.out.2.2,← HQV.out];rfl
   have HN:Hid (Below w.heap.size w W2∧W.heap.size≤W2.heap.size):=⟨hnx.trans (hw2.below (by have:=hbW.size;omega) (by omega)),by omega⟩
   have HIq:Hid ((Tryz.prog.info? 47).map (·.size)=some q.cells.toArray.size):=page_infoP q hq4
   have HOq:=all_oneCell_toArray (oneP q)
   have HW2:Hid (w1.setCells (w.heap.size+1+1) (k*17) q.cells.toArray.toList=W2):=hW2.out
   clear c1 c2 c3 d3 hown hown1 oq hw2 hs2 hW2 hnx hts HTK HQV hl3 e8 hb1
   go_wp2_with (first | (guard_target=wpList _ _ _ (Oper.mk none (Op.store _ (Operand.tmp 14) _) _ _ _ _::_) _ _;refine wpList_store_mid rfl 47 (.tmp 14) (.tmp 13) rfl (w.heap.size+1+1) (k*17) (q.cells).toArray rfl rfl HTH.out HIq.out HOq ?_) | fail)
   rw [HW2.out]
   go_roundw
   case rel=>exact ⟨k+1,ts++[q],by omega,by go_num,HTS,HOW.out,c1',c2',d3',HN.out.1,HN.out.2⟩
   case measure=>simp [intOf];omega
  ·obtain rfl:k=8:=by omega
   have hkk:¬ ((8:Nat):Int)<8:=by omega
   have e0:ts++List.replicate (8-8) zeroP=ts:=by simp
   rw [e0] at c3
   have ht8:Disk8 ts:=⟨hts.out.1,hts.out.2.1⟩
   have HV:Hid (ts.map pgv=ps.map pgv):=by rw [Hid,hts.out.2.2,← hp.eight,List.take_length]
   have r3:wr.rangeAt (w.heap.size+1+1) 0 (cellsPs ts):=Box.range [] (cellsPs ts) [] (by simpa using c3)
   obtain ⟨WF,hWF,bF,hwF,hsF⟩:=range_fill [] (cellsPs Z) (cellsPs ts) [] (by simpa using c2) (by rw [cellsPs_len _ ht8.four,cellsPs_len _ hz8.four,ht8.eight,hz8.eight])
   have sF:=hwF.size
   have bF':Box WF (w.heap.size+1) (cellsPs ts) 48:=by simpa using bF
   have HTH:Hid (wr.there (w.heap.size+1) 0 (cellsPs ts).toArray.size):=c2.there _ _ (by rw [List.size_toArray,cellsPs_len _ ht8.four,cellsPs_len _ hz8.four,ht8.eight,hz8.eight];omega)
   have HL:Hid ((loadVar 48 ⟨w.heap.size+1,0,none⟩).run Tryz.prog WF=.ok (.agg (cellsPs ts).toArray) WF):=run_loadVar_mid (P:=Tryz.prog) WF (w.heap.size+1) 0 48 (cellsPs ts) _ (Box.range [] (cellsPs ts) [] (by simpa using bF')) Tryz.underlying48 rfl (disk8_info ht8)
   have HEND:Hid (OwnS WF w.heap.size WF.heap.size (slots8 ts)∧Below w.heap.size w WF):=⟨(hown.within hwF (.inr (by omega))).widen (by omega) (by omega) (Nat.le_refl _),hnx.trans (hwF.below (by omega) (by have:=hnx.size;omega))⟩
   have HWF:Hid (wr.setCells (w.heap.size+1) 0 (cellsPs ts).toArray.toList=WF):=hWF.out
   have HI:=disk8_info ht8
   have HO:=all_oneCell_toArray (onePs ts)
   clear c1 c2 c3 hown hwF hsF bF bF' hWF hnx e0 hts
   go_wp2_with (first | (guard_target=wpList _ _ _ (Oper.mk (some 15) _ _ _ _ _::_) _ _;refine wpList_load_mid rfl 48 (.tmp 3) rfl (w.heap.size+1+1) 0 rfl (cellsPs ts) _ r3 Tryz.underlying48 rfl HI ?_) | (guard_target=wpList _ _ _ (Oper.mk none (Op.store _ (Operand.tmp 2) _) _ _ _ _::_) _ _;refine wpList_store_mid rfl 48 (.tmp 2) (.tmp 15) rfl (w.heap.size+1) 0 (cellsPs ts).toArray rfl rfl HTH.out (by rw [List.size_toArray];exact HI) HO ?_) | fail)
   rw [HWF.out]
   exact bodyPost_ret (v:=.agg (cellsPs ts).toArray) (results_one Tryz.results20 rfl HL.out) rfl ⟨ts,rfl,ht8,HV,HEND.out.1,HEND.out.2⟩
theorem szPageA8_any (ps:List PageA) (hp:Disk8 ps) (left:Int) (w:World) (hn:∀ p∈ps,Small p.ss) (h0:0≤left∧left≤1048576):
  Calls Tryz.prog 11 #[.agg (cellsPs ps).toArray,.int .i64 left] w fun e w'=>∃ z:Int,e=.returned (.int .i64 z)∧(z<0∨(0≤z∧z≤left∧∀ p∈ps,∀ s∈p.ss,s.v.o.ints.length≤1048576∧s.v.o.refs.length≤1048576))∧Below w.heap.size w w':=by
 obtain ⟨W,hW,b0,hbW,hsW⟩:=boxes1 w (cellsPs ps) 30
 go_enter Tryz.func11,Tryz.ntmps11
 go_wp2_with fail
 rw [hW.out]
 clear hW hsW
 go_loopw [1,5] (fun kk i wr=>∃ (k:Nat) (z:Int),k≤8∧i=.int .i64 (k:Int)∧kk=.int .i64 z∧Hid (0≤z∧z≤left∧∀ p∈ps.take k,∀ s∈p.ss,s.v.o.ints.length≤1048576∧s.v.o.refs.length≤1048576)∧Below W.heap.size W wr) (fun _ i _=>8-(intOf i).toNat)
 case atStart=>exact ⟨0,left,Nat.zero_le _,rfl,rfl,⟨h0.1,Int.le_refl _,fun p hp=>by (simp at hp)⟩,Below.refl _ _⟩
 case round=>
  obtain ⟨k,z,hk8,rfl,rfl,hz,hbr⟩:=hrel
  have hz0:=hz.out.1
  have hz1:=hz.out.2.1
  by_cases hlt:k<8
  ·have hkl:k<ps.length:=by rw [hp.eight];exact hlt
   have r1:=page_in hp (b0.below hbr b0.lt) k hlt
   have HP4:=hp.at hlt
   have C:=szPage_any (ps.getD k zeroP) HP4 z wr (hn _ (pageD_mem (k:=k) hkl)) ⟨hz0,by omega⟩
   have HTK:Hid (∀ p∈ps.take (k+1),p∈ps.take k∨p=ps.getD k zeroP):=fun p hp=>by
    rw [List.take_succ_eq_append_getElem hkl,pageD_eq hkl] at hp
    rcases List.mem_append.1 hp with h | h
    ·exact .inl h
    ·exact .inr (List.mem_singleton.1 h)
   generalize ps.getD k zeroP=p at*
   have HIp:=lpage_info p HP4
   have hi0:(0:Int)≤(k:Int):=by omega
   have hi8:(k:Int)<8:=by omega
   go_wp2_with (first | (guard_target=wpList _ _ _ (Oper.mk (some 12) _ _ _ _ _::_) _ _;refine wpList_load_mid rfl 29 (.tmp 11) rfl w.heap.size (k*17) rfl (p.cells) _ r1 Tryz.underlying29 rfl HIp ?_) | fail)
   refine C.mono ?_
   clear C r1
   rintro e w1 ⟨y,rfl,hy,hb1⟩
   have HB:Hid (Below W.heap.size W w1):=hbr.trans (hb1.mono hbr.size)
   clear hbr hb1
   rcases hy with hy | ⟨hy0,hyz,hys⟩
   ·have HE:Hid (Below w.heap.size w w1):=hbW.trans (HB.out.mono hbW.size)
    go_wp2
    go_ret
    exact ⟨-1,rfl,.inl (by omega),HE.out⟩
   ·have hny:¬ y<0:=by omega
    have HH:Hid (0≤y∧y≤left∧∀ p∈ps.take (k+1),∀ s∈p.ss,s.v.o.ints.length≤1048576∧s.v.o.refs.length≤1048576):=⟨hy0,by omega,fun q hq s hs=>by
     rcases HTK.out q hq with h | h
     ·exact hz.out.2.2 q h s hs
     ·rw [h] at hs;exact hys s hs⟩
    clear hys hz HTK
    go_wp2_with fail
    go_roundw
    case rel=>exact ⟨k+1,y,by omega,by go_num,rfl,HH,HB.out⟩
    case measure=>simp [intOf];omega
  ·obtain rfl:k=8:=by omega
   have hkk:¬ ((8:Nat):Int)<8:=by omega
   have e1:ps.take 8=ps:=by rw [← hp.eight,List.take_length]
   have HE:Hid (Below w.heap.size w wr∧(0≤z∧z≤left∧∀ p∈ps,∀ s∈p.ss,s.v.o.ints.length≤1048576∧s.v.o.refs.length≤1048576)):=⟨hbW.trans (hbr.mono hbW.size),by have:=hz.out;rw [e1] at this;exact this⟩
   clear e1 hz
   go_wp2
   go_ret
   exact ⟨z,rfl,.inr HE.out.2,HE.out.1⟩
theorem szHoldS_any (a:Option Addr) (c n:Nat) (left:Int) (w:World) (hn:n≤9223372036854775807) (h0:0≤left∧left≤1048576):
  Calls Tryz.prog 15 #[.slice a n c,.int .i64 left] w fun e w'=>e=.returned (.int .i64 (szOf n left))∧w'=w:=by
 by_cases h:left-n<0
 ·have HS:Hid (szOf n left= -1):=by unfold szOf;rw [Hid,if_pos h]
  go_enter Tryz.func15,Tryz.ntmps15
  go_wp2
  go_ret
  exact ⟨ret_int HS.out.symm,rfl⟩
 ·have HS:Hid (szOf n left=left-n):=by unfold szOf;rw [Hid,if_neg h]
  go_enter Tryz.func15,Tryz.ntmps15
  go_wp2
  go_ret
  exact ⟨ret_int HS.out.symm,rfl⟩
end Go.Proofs.YtcoeamamaifoeaaGreatDoor