/- Several texts in one, in their order. -/
import Derived.Test.YtcoeamamaifoeaaGreatDoorPCrashx18
import Derived.Test.YtcoeamamaifoeaaGreatDoorPCrashx12
import Derived.Test.YtcoeamamaifoeaaGreatDoorPCrashx16
import Derived.Test.YtcoeamamaifoeaaGreatDoorPCrashx8
import Derived.Test.YtcoeamamaifoeaaGreatDoorPCrashx13
import Derived.Test.YtcoeamamaifoeaaGreatDoorPCrashx4
import Derived.Test.YtcoeamamaifoeaaGreatDoorPCrashx11
import Derived.Test.YtcoeamamaifoeaaGreatDoorPCrashx9
import Derived.Deep.Cut
import Derived.Test.YtcoeamamaifoeaaGreatDoorPCrashx1
set_option maxHeartbeats 8000000
set_option maxRecDepth 100000
namespace Go.Proofs.YtcoeamamaifoeaaGreatDoor
open Go.RowKit
theorem leng_info {e:EngA} (h:e.shape):(Tryz.prog.info? 40).map (·.size)=some e.cells.length:=by rw [EngA.cells_len h];kernel_rfl
theorem lpool_infoE (q:PoolA):(Tryz.prog.info? 33).map (·.size)=some q.cells.length:=by show _=some 2;kernel_rfl
theorem llog_infoE (q:LogA):(Tryz.prog.info? 36).map (·.size)=some q.cells.length:=by show _=some 2;kernel_rfl
theorem tail_fill {w:World} {B:Nat} {A R:List Value} {t:TypeId} (b:Box w B (A++R) t) (hA:A.length=136) (j:Nat) (v:Value):
  ∃ W,Hid (w.setCell ⟨B,136+j,none⟩ v=W)∧Box W B (A++R.set j v) t∧Within B (B+1) w W∧W.heap.size=w.heap.size:=by
 obtain ⟨W,hW,b',hw,hs⟩:=box_set b (136+j) v
 refine ⟨W,hW,?_,hw,hs⟩
 rw [List.set_append_right _ _ (by omega),hA,show 136+j-136=j by omega] at b'
 exact b'
theorem eng_own_of {w:World} {e:EngA} {a0 a1 a2 a3 a4 a5:Nat} (h1:OwnS w a0 a1 (slots8 e.disk)) (h2:OwnSts w a1 a2 e.aS e.cS e.seats) (h3:OwnRs w a2 a3 e.log.a e.log.c e.log.recs) (h4:OwnL w a3 a4 e.aT e.cT e.txs) (h5:OwnH w a4 a5 e.aH e.cH e.holds)
  (l1:a0≤a1) (l2:a1≤a2) (l3:a2≤a3) (l4:a3≤a4) (l5:a4≤a5) (h:a5≤w.heap.size):e.own w a0 a5:=by
 refine ⟨h1.widen (Nat.le_refl _) (by omega) h,h2.widen (by omega) (by omega) h,h3.widen (by omega) (by omega) h,h4.widen (by omega) (by omega) h,h5.widen (by omega) (Nat.le_refl _) h,?_⟩
 simp only [EngA.blocks,List.nodup_append,List.mem_append]
 have b1:=h1.blocks_lt
 have b2:=h2.blocks_lt
 have b3:=h3.blocks_lt
 have b4:∀ k∈rowOf e.aT e.txs.length e.cT,a3≤k∧k<a4:=fun k hk=>h4.lt k (Option.mem_toList.1 hk)
 have b5:∀ k∈rowOf e.aH e.holds.length e.cH,a4≤k∧k<a5:=fun k hk=>h5.lt k (Option.mem_toList.1 hk)
 have nr:∀ o:Option Nat,o.toList.Nodup:=fun o=>by cases o<;>simp
 refine ⟨h1.apart,⟨h2.apart,⟨h3.apart,⟨nr _,nr _,fun x hx y hy q=>?_⟩,fun x hx y hy q=>?_⟩,fun x hx y hy q=>?_⟩,fun x hx y hy q=>?_⟩
 ·have:=b4 x hx;have:=b5 y hy;omega
 ·have:=b3 x hx
  rcases hy with hy | hy
  ·have:=b4 y hy;omega
  ·have:=b5 y hy;omega
 ·have:=b2 x hx
  rcases hy with hy | hy | hy
  ·have:=b3 y hy;omega
  ·have:=b4 y hy;omega
  ·have:=b5 y hy;omega
 ·have:=b1 x hx
  rcases hy with hy | hy | hy | hy
  ·have:=b2 y hy;omega
  ·have:=b3 y hy;omega
  ·have:=b4 y hy;omega
  ·have:=b5 y hy;omega
theorem toEngine_any (e:EngA) (se:e.shape) (w:World) (re:e.reads w) (hl:e.short 1048576):
  Calls Tryz.prog 6 #[.agg e.cells.toArray] w fun r w'=>∃ t:EngA,r=.returned (.agg t.cells.toArray)∧t.shape∧Hid (t.v=e.v)∧t.own w' w.heap.size w'.heap.size∧Below w.heap.size w w':=by
 obtain ⟨Z,hZ⟩:∃ Z,Hid (zeroE=Z):=⟨_,rfl⟩
 have sZ:Z.shape:=by rw [← hZ.out];exact zeroE_shape
 have HZ:=Tryz.zeroEng
 rw [hZ.out] at HZ
 obtain ⟨W,hW,b1,b2,b3,hbW,hsW⟩:=boxes3 w e.cells Z.cells Z.cells 40 58 58
 have hs0:w.heap.size+1+1<W.heap.size:=by omega
 have N:Below w.heap.size w W:=hbW
 have b3':Box W (w.heap.size+1+1) (cellsPs Z.disk++[.slice none 0 0,.int .i64 0,.slice none 0 0,.int .i64 0,.slice none 0 0,.slice none 0 0,.int .i64 0,.bool false]) 58:=by rw [← hZ.out] at b3 ⊢;exact b3
 have HE:Hid (∀ u,Below w.heap.size w u→e.reads u):=fun u hu=>re.below hu
 have hld:=ldisk8_info se.disk8
 clear b3 hsW hbW
 go_enter Tryz.func6,Tryz.ntmps6
 obtain ⟨p0,p1,p2,p3,p4,p5,p6⟩:=eng_parts se b1
 go_wp2_with (first | (guard_target=wpList _ _ _ (Oper.mk _ (Op.alloc _) _ _ _ _::_) _ _;refine alloc_of 58 Z.cells HZ ?_) | (guard_target=wpList _ _ _ (Oper.mk (some 5) _ _ _ _ _::_) _ _;refine wpList_load_mid rfl 30 (.tmp 4) rfl w.heap.size 0 rfl (cellsPs e.disk) _ (by rw [hW.out];exact p0) Tryz.underlying30 rfl hld ?_) | fail)
 rw [hW.out]
 clear hW p0 p1 p2 p3 p4 p5 p6
 refine (toPageA8_any e.disk se.disk8 W (HE.out _ N).disk (fun p hp s hs=>by have:=hl.disk p hp s hs;omega)).mono ?_
 rintro r w1 ⟨ts,rfl,ht8,hvd,od,hb⟩
 have s1:=hb.size
 have sz:=hb.size
 replace b1:=b1.below hb b1.lt
 replace b2:=b2.below hb b2.lt
 replace b3':=b3'.below hb b3'.lt
 replace N:=N.trans (hb.mono N.size)
 clear hb
 obtain ⟨w2,h2,c3,hw,hs⟩:=range_fill [] (cellsPs Z.disk) (cellsPs ts) [.slice none 0 0,.int .i64 0,.slice none 0 0,.int .i64 0,.slice none 0 0,.slice none 0 0,.int .i64 0,.bool false] b3' (by rw [cellsPs_len _ ht8.four,ht8.eight,EngA.disk_len sZ])
 have HT:Hid (w1.there (w.heap.size+1+1) 0 (cellsPs ts).toArray.size):=b3'.there _ _ (by rw [List.size_toArray,cellsPs_len _ ht8.four,ht8.eight,List.length_append,EngA.disk_len sZ];simp)
 have sy:=hw.size
 replace b1:=b1.within hw (by omega)
 replace b2:=b2.within hw (by omega)
 replace N:=N.trans (hw.below (by omega) (by have:=N.size;omega))
 replace od:=od.within hw (.inr (by omega))
 clear hw hs
 have hA:(cellsPs ts).length=136:=by rw [cellsPs_len _ ht8.four,ht8.eight]
 have E2:Hid (w1.setCells (w.heap.size+1+1) 0 (cellsPs ts).toArray.toList=w2):=h2.out
 have HI:=disk8_info ht8
 have HO:=all_oneCell_toArray (onePs ts)
 clear h2 b3'
 have b3':Box w2 (w.heap.size+1+1) (cellsPs ts++[.slice none 0 0,.int .i64 0,.slice none 0 0,.int .i64 0,.slice none 0 0,.slice none 0 0,.int .i64 0,.bool false]) 58:=c3
 clear c3
 have HA:Hid ((cellsPs ts).length=136):=hA
 clear hA
 obtain ⟨p0,p1,p2,p3,p4,p5,p6⟩:=eng_parts se b1
 go_wp2_with (first | (guard_target=wpList _ _ _ (Oper.mk none (Op.store _ (Operand.tmp 7) _) _ _ _ _::_) _ _;refine wpList_store_mid rfl 48 (.tmp 7) (.tmp 6) rfl (w.heap.size+1+1) 0 (cellsPs ts).toArray rfl rfl HT.out (by rw [List.size_toArray];exact HI) HO ?_) | (guard_target=wpList _ _ _ (Oper.mk (some 9) _ _ _ _ _::_) _ _;refine wpList_load_mid rfl 33 (.tmp 8) rfl w.heap.size 136 rfl (e.poolA.cells) _ (by rw [E2.out];exact p1) Tryz.underlying33 rfl (lpool_infoE _) ?_) | fail)
 rw [E2.out]
 clear E2 HT HI HO p0 p1 p2 p3 p4 p5 p6
 refine (toPool_any e.poolA w2 (HE.out _ N).pool hl.pool).mono ?_
 rintro r w3 ⟨q,rfl,hvp,op,hb⟩
 have s3:=hb.size
 have sz:=hb.size
 replace b1:=b1.below hb b1.lt
 replace b2:=b2.below hb b2.lt
 replace b3':=b3'.below hb b3'.lt
 replace N:=N.trans (hb.mono N.size)
 replace od:=od.below hb
 clear hb
 obtain ⟨w4,h4,c3,hw,hs⟩:=range_fill (cellsPs ts) [.slice none 0 0,.int .i64 0] q.cells [.slice none 0 0,.int .i64 0,.slice none 0 0,.slice none 0 0,.int .i64 0,.bool false] b3' rfl
 rw [HA.out] at h4
 have HT:Hid (w3.there (w.heap.size+1+1) 136 q.cells.toArray.size):=b3'.there _ _ (by rw [List.length_append,HA.out];show 136+2≤_;simp)
 have sy:=hw.size
 replace b1:=b1.within hw (by omega)
 replace b2:=b2.within hw (by omega)
 replace N:=N.trans (hw.below (by omega) (by have:=N.size;omega))
 replace od:=od.within hw (.inr (by omega))
 replace op:=op.within hw (.inr (by omega))
 clear hw hs
 have E4:Hid (w3.setCells (w.heap.size+1+1) 136 q.cells.toArray.toList=w4):=h4.out
 clear h4 b3'
 have b3':Box w4 (w.heap.size+1+1) ((cellsPs ts++q.cells)++[.slice none 0 0,.int .i64 0,.slice none 0 0,.slice none 0 0,.int .i64 0,.bool false]) 58:=by rw [List.append_assoc];exact c3
 clear c3
 have HA2:Hid ((cellsPs ts++q.cells).length=138):=by rw [Hid,List.length_append,HA.out];rfl
 obtain ⟨p0,p1,p2,p3,p4,p5,p6⟩:=eng_parts se b1
 go_wp2_with (first | (guard_target=wpList _ _ _ (Oper.mk none (Op.store _ (Operand.tmp 11) _) _ _ _ _::_) _ _;refine wpList_store_mid rfl 51 (.tmp 11) (.tmp 10) rfl (w.heap.size+1+1) 136 (q.cells).toArray rfl rfl HT.out (by rw [List.size_toArray];exact pool_info _) (pool_one _) ?_) | (guard_target=wpList _ _ _ (Oper.mk (some 13) _ _ _ _ _::_) _ _;refine wpList_load_mid rfl 36 (.tmp 12) rfl w.heap.size 138 rfl (e.log.cells) _ (by rw [E4.out];exact p2) Tryz.underlying36 rfl (llog_infoE _) ?_) | fail)
 rw [E4.out]
 clear E4 HT p0 p1 p2 p3 p4 p5 p6
 refine (toLog_any e.log w4 (HE.out _ N).log hl.log).mono ?_
 rintro r w5 ⟨l,rfl,hvl,ol,hb⟩
 have s5:=hb.size
 have sz:=hb.size
 replace b1:=b1.below hb b1.lt
 replace b2:=b2.below hb b2.lt
 replace b3':=b3'.below hb b3'.lt
 replace N:=N.trans (hb.mono N.size)
 replace od:=od.below hb
 replace op:=op.below hb
 clear hb
 obtain ⟨w6,h6,c3,hw,hs⟩:=range_fill (cellsPs ts++q.cells) [.slice none 0 0,.int .i64 0] l.cells [.slice none 0 0,.slice none 0 0,.int .i64 0,.bool false] b3' rfl
 rw [HA2.out] at h6
 have HT:Hid (w5.there (w.heap.size+1+1) 138 l.cells.toArray.size):=b3'.there _ _ (by rw [List.length_append,HA2.out];show 138+2≤_;simp)
 have sy:=hw.size
 replace b1:=b1.within hw (by omega)
 replace b2:=b2.within hw (by omega)
 replace N:=N.trans (hw.below (by omega) (by have:=N.size;omega))
 replace od:=od.within hw (.inr (by omega))
 replace op:=op.within hw (.inr (by omega))
 replace ol:=ol.within hw (.inr (by omega))
 clear hw hs
 have E6:Hid (w5.setCells (w.heap.size+1+1) 138 l.cells.toArray.toList=w6):=h6.out
 clear h6 b3'
 have b3':Box w6 (w.heap.size+1+1) (cellsPs ts++[.slice q.a q.seats.length q.c,.int .i64 q.hand,.slice l.a l.recs.length l.c,.int .i64 l.sure,.slice none 0 0,.slice none 0 0,.int .i64 0,.bool false]) 58:=by rw [List.append_assoc] at c3;exact c3
 clear c3
 obtain ⟨p0,p1,p2,p3,p4,p5,p6⟩:=eng_parts se b1
 have C7:=toLiveS_any e.aT e.cT e.txs w6 (HE.out _ N).txs (by have:=hl.txs;omega)
 go_upto_region 5 with (first | (guard_target=wpList _ _ _ (Oper.mk none (Op.store _ (Operand.tmp 15) _) _ _ _ _::_) _ _;refine wpList_store_mid rfl 54 (.tmp 15) (.tmp 14) rfl (w.heap.size+1+1) 138 (l.cells).toArray rfl rfl HT.out (by rw [List.size_toArray];exact log_info _) (log_one _) ?_) | fail)
 rw [E6.out]
 clear E6 HT
 go_wp2_with fail
 refine C7.mono ?_
 clear C7 p0 p1 p2 p3 p4 p5 p6
 rintro r w7 ⟨aT,cT,rfl,ot,hb⟩
 have s7:=hb.size
 have sz:=hb.size
 replace b1:=b1.below hb b1.lt
 replace b2:=b2.below hb b2.lt
 replace b3':=b3'.below hb b3'.lt
 replace N:=N.trans (hb.mono N.size)
 replace od:=od.below hb
 replace op:=op.below hb
 replace ol:=ol.below hb
 clear hb
 have x0:=b3'.cell 140 (.slice none 0 0) (by rw [List.getElem?_append_right (by rw [HA.out];omega),HA.out];rfl)
 have f0:=b3'.frozen 140
 obtain ⟨w8,hw8,c3,hw,hs⟩:=tail_fill b3' HA.out 4 (.slice aT e.txs.length cT)
 have sy:=hw.size
 replace b1:=b1.within hw (by omega)
 replace b2:=b2.within hw (by omega)
 replace N:=N.trans (hw.below (by omega) (by have:=N.size;omega))
 replace od:=od.within hw (.inr (by omega))
 replace op:=op.within hw (.inr (by omega))
 replace ol:=ol.within hw (.inr (by omega))
 replace ot:=ot.within hw (.inr (by omega))
 clear hw hs
 have Ew8:Hid (w7.setCell ⟨w.heap.size+1+1,140,none⟩ (.slice aT e.txs.length cT)=w8):=hw8.out
 clear hw8 b3'
 have b3':Box w8 (w.heap.size+1+1) (cellsPs ts++[.slice q.a q.seats.length q.c,.int .i64 q.hand,.slice l.a l.recs.length l.c,.int .i64 l.sure,.slice aT e.txs.length cT,.slice none 0 0,.int .i64 0,.bool false]) 58:=c3
 clear c3
 obtain ⟨p0,p1,p2,p3,p4,p5,p6⟩:=eng_parts se b1
 have C9:=toHoldS_any e.aH e.cH e.holds w8 (HE.out _ N).holds (by have:=hl.holds;omega)
 go_upto_region 6 with fail
 rw [Ew8.out]
 clear Ew8 x0 f0
 go_wp2_with fail
 refine C9.mono ?_
 clear C9 p0 p1 p2 p3 p4 p5 p6
 rintro r w9 ⟨aH,cH,rfl,oh,hb⟩
 have s9:=hb.size
 have sz:=hb.size
 replace b1:=b1.below hb b1.lt
 replace b2:=b2.below hb b2.lt
 replace b3':=b3'.below hb b3'.lt
 replace N:=N.trans (hb.mono N.size)
 replace od:=od.below hb
 replace op:=op.below hb
 replace ol:=ol.below hb
 replace ot:=ot.below hb
 clear hb
 have x0:=b3'.cell 141 (.slice none 0 0) (by rw [List.getElem?_append_right (by rw [HA.out];omega),HA.out];rfl)
 have f0:=b3'.frozen 141
 obtain ⟨w10,hw10,c3,hw,hs⟩:=tail_fill b3' HA.out 5 (.slice aH e.holds.length cH)
 have sy:=hw.size
 replace b1:=b1.within hw (by omega)
 replace b2:=b2.within hw (by omega)
 replace N:=N.trans (hw.below (by omega) (by have:=N.size;omega))
 replace od:=od.within hw (.inr (by omega))
 replace op:=op.within hw (.inr (by omega))
 replace ol:=ol.within hw (.inr (by omega))
 replace ot:=ot.within hw (.inr (by omega))
 replace oh:=oh.within hw (.inr (by omega))
 clear hw hs
 have Ew10:Hid (w9.setCell ⟨w.heap.size+1+1,141,none⟩ (.slice aH e.holds.length cH)=w10):=hw10.out
 clear hw10 b3'
 have b3':Box w10 (w.heap.size+1+1) (cellsPs ts++[.slice q.a q.seats.length q.c,.int .i64 q.hand,.slice l.a l.recs.length l.c,.int .i64 l.sure,.slice aT e.txs.length cT,.slice aH e.holds.length cH,.int .i64 0,.bool false]) 58:=c3
 clear c3
 obtain ⟨p0,p1,p2,p3,p4,p5,p6⟩:=eng_parts se b1
 go_upto_region 7 with fail
 rw [Ew10.out]
 clear Ew10 x0 f0
 have x0:=b3'.cell 142 (.int .i64 0) (by rw [List.getElem?_append_right (by rw [HA.out];omega),HA.out];rfl)
 have f0:=b3'.frozen 142
 obtain ⟨w11,hw11,c3,hw,hs⟩:=tail_fill b3' HA.out 6 (.int .i64 e.next)
 have sy:=hw.size
 replace b1:=b1.within hw (by omega)
 replace b2:=b2.within hw (by omega)
 replace N:=N.trans (hw.below (by omega) (by have:=N.size;omega))
 replace od:=od.within hw (.inr (by omega))
 replace op:=op.within hw (.inr (by omega))
 replace ol:=ol.within hw (.inr (by omega))
 replace ot:=ot.within hw (.inr (by omega))
 replace oh:=oh.within hw (.inr (by omega))
 clear hw hs
 have Ew11:Hid (w10.setCell ⟨w.heap.size+1+1,142,none⟩ (.int .i64 e.next)=w11):=hw11.out
 clear hw11 b3'
 have b3':Box w11 (w.heap.size+1+1) (cellsPs ts++[.slice q.a q.seats.length q.c,.int .i64 q.hand,.slice l.a l.recs.length l.c,.int .i64 l.sure,.slice aT e.txs.length cT,.slice aH e.holds.length cH,.int .i64 e.next,.bool false]) 58:=c3
 clear c3
 clear p0 p1 p2 p3 p4 p6
 go_upto_region 8 with fail
 rw [Ew11.out]
 clear Ew11 x0 f0 p5
 obtain ⟨p0,p1,p2,p3,p4,p5,p6⟩:=eng_parts se b1
 have x0:=b3'.cell 143 (.bool false) (by rw [List.getElem?_append_right (by rw [HA.out];omega),HA.out];rfl)
 have f0:=b3'.frozen 143
 obtain ⟨w12,hw12,c3,hw,hs⟩:=tail_fill b3' HA.out 7 (.bool e.down)
 have sy:=hw.size
 replace b1:=b1.within hw (by omega)
 replace b2:=b2.within hw (by omega)
 replace N:=N.trans (hw.below (by omega) (by have:=N.size;omega))
 replace od:=od.within hw (.inr (by omega))
 replace op:=op.within hw (.inr (by omega))
 replace ol:=ol.within hw (.inr (by omega))
 replace ot:=ot.within hw (.inr (by omega))
 replace oh:=oh.within hw (.inr (by omega))
 clear hw hs
 have Ew12:Hid (w11.setCell ⟨w.heap.size+1+1,143,none⟩ (.bool e.down)=w12):=hw12.out
 clear hw12 b3'
 have b3':Box w12 (w.heap.size+1+1) (cellsPs ts++[.slice q.a q.seats.length q.c,.int .i64 q.hand,.slice l.a l.recs.length l.c,.int .i64 l.sure,.slice aT e.txs.length cT,.slice aH e.holds.length cH,.int .i64 e.next,.bool e.down]) 58:=c3
 clear c3
 clear p0 p1 p2 p3 p4 p5
 go_upto_region 9 with fail
 rw [Ew12.out]
 clear Ew12 x0 f0 p6
 obtain ⟨T,hT⟩:∃ T:EngA,Hid ((⟨ts,q.seats,q.a,q.c,q.hand,l,e.txs,aT,cT,e.holds,aH,cH,e.next,e.down⟩:EngA)=T):=⟨_,rfl⟩
 have sT:T.shape:=by rw [← hT.out];exact ⟨ht8.eight,ht8.four⟩
 have bT:Box w12 (w.heap.size+1+1) T.cells 58:=by rw [← hT.out];exact b3'
 have HV:Hid (T.v=e.v):=by
  rw [Hid,← hT.out]
  have v1:=hvd.out
  have v2:=hvp.out
  have v3:=hvl.out
  simp only [PoolA.v,EngA.poolA,PoolV.mk.injEq] at v2
  simp only [EngA.v,v2.1,v2.2,v3]
  congr 1
 have oT:T.own w12 W.heap.size w12.heap.size:=by
  rw [← hT.out]
  exact eng_own_of (a0:=W.heap.size) (a1:=w1.heap.size) (a2:=w3.heap.size) (a3:=w5.heap.size) (a4:=w7.heap.size) (a5:=w12.heap.size) od (OwnSts.widen op (by omega) (Nat.le_refl _) (by omega)) (OwnRs.widen ol (by omega) (Nat.le_refl _) (by omega)) (ot.widen (by omega) (Nat.le_refl _) (by omega)) (oh.widen (by omega) (by omega) (Nat.le_refl _)) (by omega) (by omega) (by omega) (by omega) (by omega) (Nat.le_refl _)
 clear od op ol ot oh b3' hT hvd hvp hvl
 obtain ⟨WF,hWF,hwF,hsF,HTF,bF⟩:=eng_out sT sZ b2
 have HLF:=eng_load sT bF
 have HLF':Hid (_=_):=HLF
 have rT:w12.rangeAt (w.heap.size+1+1) 0 T.cells:=Box.range [] T.cells [] (by simpa using bT)
 have HEND:Hid (T.own WF w.heap.size WF.heap.size∧Below w.heap.size w WF):=⟨(oT.within hwF (.inr (by omega))).widen (by omega) (by omega) (Nat.le_refl _),N.trans (hwF.below (by omega) (by have:=N.size;omega))⟩
 have HI:=eng_info sT
 have HO:=all_oneCell_toArray (oneE T)
 clear hwF hsF bF HLF oT bT b1 b2
 go_wp2_with (first | (guard_target=wpList _ _ _ (Oper.mk (some 30) _ _ _ _ _::_) _ _;refine wpList_load_mid rfl 58 (.tmp 3) rfl (w.heap.size+1+1) 0 rfl (T.cells) _ rT Tryz.underlying58 rfl HI ?_) | (guard_target=wpList _ _ _ (Oper.mk none (Op.store _ (Operand.tmp 2) _) _ _ _ _::_) _ _;refine wpList_store_mid rfl 58 (.tmp 2) (.tmp 30) rfl (w.heap.size+1) 0 (T.cells).toArray rfl rfl HTF.out (by rw [List.size_toArray];exact HI) HO ?_) | fail)
 rw [hWF.out]
 exact bodyPost_ret (v:=.agg T.cells.toArray) (results_one Tryz.results6 rfl HLF'.out) rfl ⟨T,rfl,sT,HV,HEND.out.1,HEND.out.2⟩
structure EngA.wide (e:EngA):Prop where
 disk:∀ p∈e.disk,Small p.ss
 pool:e.poolA.short 9223372036854775807
 log:e.log.short 9223372036854775807
 txs:e.txs.length≤9223372036854775807
 holds:e.holds.length≤9223372036854775807
theorem szOf_ans {n:Nat} {left:Int} (h:0≤left∧left≤1048576):szOf n left<0∨(0≤szOf n left∧szOf n left≤left∧n≤1048576):=by
 unfold szOf
 split
 ·exact .inl (by omega)
 ·exact .inr (by omega)
theorem szEngineZ_any (e:EngA) (se:e.shape) (w:World) (re:e.reads w) (hw:e.wide):
  Calls Tryz.prog 4 #[.agg e.cells.toArray,.int .i64 1048576] w fun r w'=>∃ z:Int,r=.returned (.int .i64 z)∧(z<0∨(0≤z∧z≤1048576∧e.short 1048576))∧Below w.heap.size w w':=by
 obtain ⟨W,hW,b0,hbW,hsW⟩:=boxes1 w e.cells 40
 have HE:Hid (∀ u,Below W.heap.size W u→_):=fun u hu=>eng_parts se (b0.below hu b0.lt)
 have hie:=ldisk8_info se.disk8
 have HR:Hid (∀ u,Below W.heap.size W u→e.reads u):=fun u hu=>(re.below hbW).below hu
 have N:Below W.heap.size W W:=Below.refl _ _
 obtain ⟨p0,p1,p2,p3,p4,_,_⟩:=HE.out _ N
 have C1:=szPageA8_any e.disk se.disk8 1048576 W hw.disk (by omega)
 go_enter Tryz.func4,Tryz.ntmps4
 go_wp2_with (first | (guard_target=wpList _ _ _ (Oper.mk (some 6) _ _ _ _ _::_) _ _;refine wpList_load_mid rfl 30 (.tmp 5) rfl w.heap.size 0 rfl (cellsPs e.disk) _ (by rw [hW.out];exact p0) Tryz.underlying30 rfl hie ?_) | fail)
 rw [hW.out]
 clear hW hsW
 refine C1.mono ?_
 clear C1 p0 p1 p2 p3 p4
 rintro r w1 ⟨z1,rfl,hz1,hb⟩
 replace N:=N.trans (hb.mono N.size)
 clear hb
 rcases hz1 with hz1 | ⟨hz10,hz11,hz1s⟩
 ·have HB:Hid (Below w.heap.size w w1):=hbW.trans (N.mono hbW.size)
  go_wp2
  go_ret
  exact ⟨-1,rfl,.inl (by omega),HB.out⟩
 have nz1:¬ z1<0:=by omega
 obtain ⟨p0,p1,p2,p3,p4,_,_⟩:=HE.out _ N
 have Hz1:Hid _:=hz1s
 clear hz1s
 have C2:=szPool_any e.poolA z1 w1 (HR.out _ N).pool hw.pool ⟨hz10,by omega⟩
 go_wp2_with (first | (guard_target=wpList _ _ _ (Oper.mk (some 12) _ _ _ _ _::_) _ _;refine wpList_load_mid rfl 33 (.tmp 11) rfl w.heap.size 136 rfl (e.poolA.cells) _ p1 Tryz.underlying33 rfl (lpool_infoE _) ?_) | fail)
 refine C2.mono ?_
 clear C2 p0 p1 p2 p3 p4
 rintro r w2 ⟨z2,rfl,hz2,hb⟩
 replace N:=N.trans (hb.mono N.size)
 clear hb
 rcases hz2 with hz2 | ⟨hz20,hz21,hz2s⟩
 ·have HB:Hid (Below w.heap.size w w2):=hbW.trans (N.mono hbW.size)
  go_wp2
  go_ret
  exact ⟨-1,rfl,.inl (by omega),HB.out⟩
 have nz2:¬ z2<0:=by omega
 obtain ⟨p0,p1,p2,p3,p4,_,_⟩:=HE.out _ N
 have Hz2:Hid _:=hz2s
 clear hz2s
 have C3:=szLog_any e.log z2 w2 (HR.out _ N).log hw.log ⟨hz20,by omega⟩
 go_wp2_with (first | (guard_target=wpList _ _ _ (Oper.mk (some 18) _ _ _ _ _::_) _ _;refine wpList_load_mid rfl 36 (.tmp 17) rfl w.heap.size 138 rfl (e.log.cells) _ p2 Tryz.underlying36 rfl (llog_infoE _) ?_) | fail)
 refine C3.mono ?_
 clear C3 p0 p1 p2 p3 p4
 rintro r w3 ⟨z3,rfl,hz3,hb⟩
 replace N:=N.trans (hb.mono N.size)
 clear hb
 rcases hz3 with hz3 | ⟨hz30,hz31,hz3s⟩
 ·have HB:Hid (Below w.heap.size w w3):=hbW.trans (N.mono hbW.size)
  go_wp2
  go_ret
  exact ⟨-1,rfl,.inl (by omega),HB.out⟩
 have nz3:¬ z3<0:=by omega
 obtain ⟨p0,p1,p2,p3,p4,_,_⟩:=HE.out _ N
 have Hz3:Hid _:=hz3s
 clear hz3s
 have C4:=szLiveS_any e.aT e.cT e.txs.length z3 w3 hw.txs ⟨hz30,by omega⟩
 have A4:=szOf_ans (n:=e.txs.length) (left:=z3) ⟨hz30,by omega⟩
 go_wp2_with fail
 refine C4.mono ?_
 clear C4
 rintro r w4 ⟨rfl,rfl⟩
 generalize szOf e.txs.length z3=z4 at*
 rcases A4 with hz4 | ⟨hz40,hz41,hz4s⟩
 ·have HB:Hid (Below w.heap.size w w4):=hbW.trans (N.mono hbW.size)
  go_wp2
  go_ret
  exact ⟨-1,rfl,.inl (by omega),HB.out⟩
 have nz4:¬ z4<0:=by omega
 have C5:=szHoldS_any e.aH e.cH e.holds.length z4 w4 hw.holds ⟨hz40,by omega⟩
 have A5:=szOf_ans (n:=e.holds.length) (left:=z4) ⟨hz40,by omega⟩
 go_wp2_with fail
 refine C5.mono ?_
 clear C5
 rintro r w5 ⟨rfl,rfl⟩
 generalize szOf e.holds.length z4=z5 at*
 have HB:Hid (Below w.heap.size w w5):=hbW.trans (N.mono hbW.size)
 rcases A5 with hz5 | ⟨hz50,hz51,hz5s⟩
 ·go_wp2
  go_ret
  exact ⟨-1,rfl,.inl (by omega),HB.out⟩
 have nz5:¬ z5<0:=by omega
 have HS:Hid (e.short 1048576):=⟨Hz1.out,Hz2.out,Hz3.out,hz4s,hz5s⟩
 clear Hz1 Hz2 Hz3 hz4s hz5s
 go_wp2
 go_ret
 exact ⟨z5,rfl,.inr ⟨hz50,by omega,HS.out⟩,HB.out⟩
theorem szEngine_any (e:EngA) (se:e.shape) (w:World) (re:e.reads w) (hw:e.wide):
  Calls Tryz.prog 4 #[.agg e.cells.toArray,.int .i64 1048576] w fun r w'=>∃ z:Int,r=.returned (.int .i64 z)∧(z<0∨(0≤z∧e.short 1048576))∧Below w.heap.size w w':=by
 refine (szEngineZ_any e se w re hw).mono ?_
 rintro r w' ⟨z,hr,h,hb⟩
 exact ⟨z,hr,h.imp id (fun q=>⟨q.1,q.2.2⟩),hb⟩
end Go.Proofs.YtcoeamamaifoeaaGreatDoor
namespace Go.Proofs.YtcoeamamaifoeaaGreatDoor
open Go.ChangeShapes Go.WideShapes Go.ChangeAt Go.RowKit
structure InEng (w:World) (e:EngA):Prop where
 shape:e.shape
 reads:e.reads w
 wide:e.wide
theorem chunks (f:Nat→PageA):∀ (n:Nat) (cs:List Value),cs.length=n*17→(∀ i,i<n→(cs.drop (i*17)).take 17=(f i).cells)→cs=cellsPs ((List.range n).map f):=by
 intro n
 induction n with
 | zero=>intro cs h _;simp only [Nat.zero_mul,List.length_eq_zero_iff] at h;subst h;rfl
 | succ n ih=>
  intro cs h hf
  have h1:=ih (cs.take (n*17)) (by rw [List.length_take];omega) (fun i hi=>by
   rw [List.drop_take,List.take_take,Nat.min_eq_left (by omega)]
   exact hf i (by omega))
  have h2:=hf n (by omega)
  rw [List.take_of_length_le (by rw [List.length_drop];omega)] at h2
  rw [List.range_succ,List.map_append,List.map_singleton,cellsPs_app,cellsPs_cons,← h1,← h2]
  simp [cellsPs]
section
variable {H:Type} {enc:TypeId × Value→H} {w:World} {base:Nat} {spare:Nat→Bool} {held:Bool}
theorem Tryz.cellsHd:Tryz.prog.cellsOf 115=2:=by kernel_rfl
theorem Tryz.cellsHds:Tryz.prog.cellsOf 38=1:=by kernel_rfl
theorem Tryz.cellsLvE:Tryz.prog.cellsOf 37=1:=by kernel_rfl
theorem Tryz.cellsP8:Tryz.prog.cellsOf 30=136:=by kernel_rfl
theorem Tryz.cellsEg:Tryz.prog.cellsOf 40=144:=by kernel_rfl
theorem Tryz.cellsLgE:Tryz.prog.cellsOf 36=2:=by kernel_rfl
theorem trod_hold {fuel:Nat} {cs:List Value} {x:DataW H × List MemPlace} (h:DataW.trod enc Tryz.prog w base spare held fuel 115 cs=some x):∃ t:HoldV,cs=t.cells:=by
 obtain ⟨xs,n,_,_,hlen,hxl,hf⟩:=DataW.trod_struct Tryz.underlying115 h
 rw [Tryz.cellsHd] at hlen
 match cs,hlen with
 | [v0,v1],_=>
  have f0:=hf 0 _ rfl
  have f1:=hf 1 _ rfl
  obtain ⟨y0,hx0⟩:=some_at xs 0 (by rw [hxl];decide)
  obtain ⟨y1,hx1⟩:=some_at xs 1 (by rw [hxl];decide)
  rw [hx0] at f0
  rw [hx1] at f1
  simp only [List.getElem_toArray,List.getElem_cons_zero,List.getElem_cons_succ,Tryz.cellsI,List.drop,List.take] at f0 f1
  obtain ⟨a,e0,_⟩:=trod_num f0
  obtain ⟨b,e1,_⟩:=trod_num f1
  simp only [List.cons.injEq,and_true] at e0 e1
  subst e0 e1
  exact ⟨⟨a,b⟩,rfl⟩
theorem trod_holds {fuel:Nat} {cs:List Value} {x:DataW H × List MemPlace} (h:DataW.trod enc Tryz.prog w base spare held fuel 38 cs=some x):
  ∃ (a:Option Addr) (c:Nat) (ls:List HoldV),cs=[.slice a ls.length c]∧ReadsH w a ls∧ls.length≤maxLen:=by
 rcases DataW.trod_slice Tryz.underlying38 h with ⟨rfl,_⟩ | ⟨a,len,cap,elems,rest,n,_,rfl,_,_,hl,hm,hlen,hel,_,_⟩
 ·exact ⟨none,0,[],rfl,ReadsH.nil _ _,by simp⟩
 rw [Tryz.cellsHd] at hel
 have each:∀ i,i<len→∃ t:HoldV,w.cells? base (a.add (i*2)) 2=some t.cells:=by
  intro i hi
  have hy:=hel i hi
  rw [List.getElem?_eq_getElem (by omega:i<elems.length),Option.bind_eq_some_iff] at hy
  obtain ⟨cs',hcs,hy'⟩:=hy
  obtain ⟨t,e⟩:=trod_hold hy'
  exact ⟨t,by rw [hcs,e]⟩
 obtain ⟨f,hf⟩:∃ f:Nat→HoldV,∀ i,i<len→w.cells? base (a.add (i*2)) 2=some (f i).cells:=by
  refine ⟨fun i=>if h:i<len then (each i h).choose else zeroH,fun i hi=>?_⟩
  simp only [dif_pos hi]
  exact (each i hi).choose_spec
 refine ⟨some a,cap,(List.range len).map f,by simp,?_,by simp;omega⟩
 intro hne
 have hpos:=List.length_pos_iff.2 hne
 simp only [List.length_map,List.length_range] at hpos ⊢
 obtain ⟨b,off,spot⟩:=a
 have c0:=(World.cells?_some (hf 0 hpos)).2.2 0 (by decide)
 have hspot:spot=none:=by simpa [Addr.add] using World.cell?_spot c0
 subst hspot
 refine ⟨b,off,rfl,fun k hk=>?_⟩
 have e:((List.range len).map f).getD k zeroH=f k:=by simp [List.getD,hk]
 rw [e]
 have hc:=(World.cells?_some (hf k hk)).2.2
 have d0:=hc 0 (by decide)
 have d1:=hc 1 (by decide)
 simp only [Addr_add,HoldV.cells] at d0 d1
 exact ⟨by simpa using d0,by simpa using d1⟩
theorem trod_pages {fuel:Nat} {cs:List Value} {x:DataW H × List MemPlace} (h:DataW.trod enc Tryz.prog w base spare held fuel 30 cs=some x) (hl:cs.length=136):
  ∃ ps:List PageA,cs=cellsPs ps∧Disk8 ps∧∀ p∈ps,∀ s∈p.ss,InSlot w s:=by
 obtain ⟨ys,m,_,_,_,hyl,hg⟩:=DataW.trod_array Tryz.underlying30 h
 have each:∀ i,i<8→∃ p:PageA,(cs.drop (i*17)).take 17=p.cells∧p.ss.length=4∧∀ s∈p.ss,InSlot w s:=by
  intro i hi
  have g:=hg i hi
  obtain ⟨y,hy⟩:=some_at ys i (by omega)
  rw [hy,Tryz.cellsPg] at g
  obtain ⟨p,e,h4,_,hs⟩:=trod_page g
  exact ⟨p,e,h4,hs⟩
 obtain ⟨f,hf⟩:∃ f:Nat→PageA,∀ i,i<8→(cs.drop (i*17)).take 17=(f i).cells∧(f i).ss.length=4∧∀ s∈(f i).ss,InSlot w s:=by
  refine ⟨fun i=>if h:i<8 then (each i h).choose else zeroP,fun i hi=>?_⟩
  simp only [dif_pos hi]
  exact (each i hi).choose_spec
 have hm:∀ p∈(List.range 8).map f,∃ i,i<8∧f i=p:=fun p hp=>by
  obtain ⟨i,hi,rfl⟩:=List.mem_map.1 hp
  exact ⟨i,List.mem_range.1 hi,rfl⟩
 refine ⟨(List.range 8).map f,chunks f 8 cs (by omega) (fun i hi=>(hf i hi).1),⟨by simp,fun p hp=>?_⟩,fun p hp=>?_⟩
 ·obtain ⟨i,hi,rfl⟩:=hm p hp
  exact (hf i hi).2.1
 ·obtain ⟨i,hi,rfl⟩:=hm p hp
  exact (hf i hi).2.2
theorem trod_eng {fuel:Nat} {cs:List Value} {x:DataW H × List MemPlace} (h:DataW.trod enc Tryz.prog w base spare held fuel 40 cs=some x):
  ∃ e:EngA,cs=e.cells∧InEng w e:=by
 obtain ⟨xs,n,_,_,hlen,hxl,hf⟩:=DataW.trod_struct Tryz.underlying40 h
 rw [Tryz.cellsEg] at hlen
 obtain ⟨ds,rs,rfl,hds,hrs⟩:∃ ds rs,cs=ds++rs∧ds.length=136∧rs.length=8:=⟨cs.take 136,cs.drop 136,(List.take_append_drop _ _).symm,by rw [List.length_take];omega,by rw [List.length_drop];omega⟩
 match rs,hrs with
 | [v0,v1,v2,v3,v4,v5,v6,v7],_=>
  have f0:=hf 0 _ rfl
  have f1:=hf 1 _ rfl
  have f2:=hf 2 _ rfl
  have f3:=hf 3 _ rfl
  have f4:=hf 4 _ rfl
  have f5:=hf 5 _ rfl
  have f6:=hf 6 _ rfl
  obtain ⟨y0,hx0⟩:=some_at xs 0 (by rw [hxl];decide)
  obtain ⟨y1,hx1⟩:=some_at xs 1 (by rw [hxl];decide)
  obtain ⟨y2,hx2⟩:=some_at xs 2 (by rw [hxl];decide)
  obtain ⟨y3,hx3⟩:=some_at xs 3 (by rw [hxl];decide)
  obtain ⟨y4,hx4⟩:=some_at xs 4 (by rw [hxl];decide)
  obtain ⟨y5,hx5⟩:=some_at xs 5 (by rw [hxl];decide)
  obtain ⟨y6,hx6⟩:=some_at xs 6 (by rw [hxl];decide)
  rw [hx0] at f0
  rw [hx1] at f1
  rw [hx2] at f2
  rw [hx3] at f3
  rw [hx4] at f4
  rw [hx5] at f5
  rw [hx6] at f6
  have dr:∀ k,(ds++[v0,v1,v2,v3,v4,v5,v6,v7]).drop (136+k)=[v0,v1,v2,v3,v4,v5,v6,v7].drop k:=fun k=>by rw [← hds,← List.drop_drop,List.drop_left]
  have d0:=dr 0
  have d2:=dr 2
  have d4:=dr 4
  have d5:=dr 5
  have d6:=dr 6
  have d7:=dr 7
  simp only [Nat.add_zero,Nat.reduceAdd] at d0 d2 d4 d5 d6 d7
  simp only [List.getElem_toArray,List.getElem_cons_zero,List.getElem_cons_succ,Tryz.cellsI,Tryz.cellsB,Tryz.cellsP8,Tryz.cellsPl,Tryz.cellsLgE,Tryz.cellsLvE,Tryz.cellsHds,List.drop_zero] at f0 f1 f2 f3 f4 f5 f6
  rw [← hds,List.take_left] at f0
  rw [d0] at f1
  rw [d2] at f2
  rw [d4] at f3
  rw [d5] at f4
  rw [d6] at f5
  rw [d7] at f6
  simp only [List.drop,List.take] at f1 f2 f3 f4 f5 f6
  obtain ⟨ps,e0,hp8,hps⟩:=trod_pages f0 hds
  obtain ⟨pl,e1,hpl⟩:=trod_pool f1
  obtain ⟨lg,e2,hlg⟩:=trod_log f2
  obtain ⟨aT,cT,ls,e3,hL,lL⟩:=trod_lives f3
  obtain ⟨aH,cH,hs,e4,hH,lH⟩:=trod_holds f4
  obtain ⟨nx,e5,_⟩:=trod_num f5
  obtain ⟨dn,e6,_⟩:=DataW.trod_bool Tryz.underlying4 f6
  simp only [PoolA.cells,LogA.cells,List.cons.injEq,and_true] at e1 e2 e3 e4 e5 e6
  obtain ⟨rfl,rfl⟩:=e1
  obtain ⟨rfl,rfl⟩:=e2
  subst e0 e3 e4 e5 e6
  simp only [maxLen] at lL lH
  refine ⟨⟨ps,pl.seats,pl.a,pl.c,pl.hand,lg,ls,aT,cT,hs,aH,cH,nx,dn⟩,rfl,⟨hp8.eight,hp8.four⟩,⟨fun p hp s hs=>(hps p hp s hs).reads,hpl.reads,hlg.reads,hL,hH⟩,⟨fun p hp s hs=>?_,hpl.short,hlg.short,by show ls.length≤_;omega,by show hs.length≤_;omega⟩⟩
  have h1:=(hps p hp s hs).lI
  have h2:=(hps p hp s hs).lR
  simp only [maxLen] at h1 h2
  omega
theorem open_eng {b0:Nat} {v:Value} {d:DataW H} {ps:List MemPlace} (hval:Value.okWide Tryz.prog w .any b0 40 v) (h:DataW.Trod enc Tryz.prog w base spare held 40 v d ps):
  ∃ e:EngA,v=.agg e.cells.toArray∧InEng w e:=by
 obtain ⟨cs,rfl,hcs⟩:=okWide_struct Tryz.underlying40 hval
 obtain ⟨fuel,hf⟩:=h
 have e:(Value.agg cs).cells.toList=cs.toList:=rfl
 rw [e] at hf
 obtain ⟨r,hc,rest⟩:=trod_eng hf
 refine ⟨r,?_,rest⟩
 congr 1
 rw [← hc]
end
end Go.Proofs.YtcoeamamaifoeaaGreatDoor
namespace Go.Proofs.YtcoeamamaifoeaaGreatDoor
open Go.RowKit
theorem EngA.short_of {l t:EngA} {m:Nat} (h:t.v=l.v) (hl:l.short m):t.short m:=by
 simp only [EngA.v,EngV.mk.injEq] at h
 obtain ⟨h1,h2,h3,h4,h5,h6,_,_⟩:=h
 refine ⟨fun p hp x hx=>?_,PoolA.short_of (l:=l.poolA) (t:=t.poolA) (by simp only [PoolA.v,PoolV.mk.injEq];exact ⟨h2,h3⟩) hl.pool,LogA.short_of h4 hl.log,by rw [h5];exact hl.txs,by rw [h6];exact hl.holds⟩
 have hm:(p.lsn,p.ss.map (·.v))∈t.disk.map (fun p=>(p.lsn,p.ss.map (·.v))):=List.mem_map.2 ⟨p,hp,rfl⟩
 rw [h1] at hm
 obtain ⟨q,hq,he⟩:=List.mem_map.1 hm
 have hs:q.ss.map (·.v)=p.ss.map (·.v):=(Prod.mk.inj he).2
 have hx':x.v∈p.ss.map (·.v):=List.mem_map.2 ⟨x,hx,rfl⟩
 rw [← hs] at hx'
 obtain ⟨y,hy,hv⟩:=List.mem_map.1 hx'
 rw [← hv]
 exact hl.disk q hq y hy
theorem EngA.short_wide {e:EngA} (h:e.short 1048576):e.short 1099511627776:=
 ⟨fun p hp x hx=>by have:=h.disk p hp x hx;omega,PoolA.short_wide h.pool,LogA.short_wide h.log,by have:=h.txs;omega,by have:=h.holds;omega⟩
end Go.Proofs.YtcoeamamaifoeaaGreatDoor
namespace Go.Proofs.YtcoeamamaifoeaaGreatDoor
open Go.RowKit
theorem l3SameSlot_any (s t:SlotA) (w:World) (hs:s.reads w) (ht:t.reads w) (hls:Fit [s]) (hlt:Fit [t]):
  Calls Tryz.prog 89 #[.agg s.cells.toArray,.agg t.cells.toArray] w fun e w'=>e=.returned (.bool (sameS s.v t.v))∧Below w.heap.size w w':=by
 obtain ⟨h1,h2⟩:=hls s (List.mem_singleton.2 rfl)
 obtain ⟨h3,h4⟩:=hlt t (List.mem_singleton.2 rfl)
 obtain ⟨W,hW,b0,b1,hbW,hsW⟩:=boxes2 w s.cells t.cells 44 44
 have C1:=specSameObj_any s.v.o t.v.o s.aI s.cI s.aR s.cR t.aI t.cI t.aR t.cR W (ReadsO.below hs hbW) (ReadsO.below ht hbW) h1 h2 h3 h4
 have HZ:Hid (sameS s.v t.v=((s.v.has == t.v.has) && sameO s.v.o t.v.o)):=rfl
 generalize sameS s.v t.v=R at*
 simp only [SlotA.cells] at*
 obtain ⟨x0,x1,x2,x3,_⟩:=b0.four
 obtain ⟨y0,y1,y2,y3,_⟩:=b1.four
 clear hsW b0 b1
 cases hb:(s.v.has == t.v.has) with
 | false=>
  have HR:Hid (R=false):=by rw [Hid,HZ.out];simp [hb]
  clear HZ C1
  go_enter Tryz.func89,Tryz.ntmps89
  go_wp2
  go_ret
  exact ⟨ret_bool HR.out.symm,by rw [hW.out];exact hbW⟩
 | true=>
  have HR:Hid (R=sameO s.v.o t.v.o):=by rw [Hid,HZ.out];simp [hb]
  clear HZ
  go_enter Tryz.func89,Tryz.ntmps89
  go_wp2_with fail
  rw [hW.out]
  refine C1.mono ?_
  clear C1 x0 x1 x2 x3 y0 y1 y2 y3
  rintro e w1 ⟨rfl,hb1⟩
  go_wp2
  go_ret
  exact ⟨ret_bool HR.out.symm,hbW.trans (hb1.mono hbW.size)⟩
def sameSs (a b:List SlotV):Bool:=(List.range 4).all fun i=>sameS (a.getD i zeroS.v) (b.getD i zeroS.v)
def samePg (a b:Int × List SlotV):Bool:=sameSs a.2 b.2 && decide (a.1=b.1)
theorem samePg_no {a b:Int × List SlotV} (i:Nat) (hi:i<4) (h:sameS (a.2.getD i zeroS.v) (b.2.getD i zeroS.v)=false):samePg a b=false:=by
 have:sameSs a.2 b.2=false:=by
  rw [sameSs,List.all_eq_false]
  exact ⟨i,List.mem_range.2 hi,by rw [h];decide⟩
 rw [samePg,this,Bool.false_and]
theorem samePg_all {a b:Int × List SlotV} (h:∀ i,i<4→sameS (a.2.getD i zeroS.v) (b.2.getD i zeroS.v)=true):samePg a b=decide (a.1=b.1):=by
 have:sameSs a.2 b.2=true:=by
  rw [sameSs,List.all_eq_true]
  exact fun i hi=>h i (List.mem_range.1 hi)
 rw [samePg,this,Bool.true_and]
theorem slotV_at (ss:List SlotA) (k:Nat):(ss.map (·.v)).getD k zeroS.v=(ss.getD k zeroS).v:=by
 simp only [List.getD,List.getElem?_map]
 cases ss[k]? <;>rfl
theorem slot_infoE (s:SlotA):(Tryz.prog.info? 44).map (·.size)=some s.cells.length:=by show _=some 4;kernel_rfl
theorem oneSlE (s:SlotA):∀ v∈s.cells,v.oneCell'=true:=by
 intro v hv
 simp only [SlotA.cells,List.mem_cons,List.not_mem_nil,or_false] at hv
 rcases hv with rfl | rfl | rfl | rfl<;>rfl
theorem slot_rng {w:World} {B:Nat} {t:TypeId} {n:Int} {ss:List SlotA} (b:Box w B (PageA.cells ⟨n,ss⟩) t) (k:Nat) (hk:k<ss.length):w.rangeAt B (1+k*4) (ss.getD k zeroS).cells:=by
 intro j v hv
 have hj:j<4:=(List.getElem?_eq_some_iff.1 hv).1
 have e:=cellsS_at ss k j hk hj
 refine b.cell (1+k*4+j) v ?_
 show (Value.int .i64 n::cellsS ss)[1+k*4+j]? =some v
 rw [show 1+k*4+j=(k*4+j)+1 by omega,List.getElem?_cons_succ,e]
 exact hv
theorem l7SamePage_any (p q:PageA) (hp:p.ss.length=4) (hq:q.ss.length=4) (w:World) (rp:ReadsS w p.ss) (rq:ReadsS w q.ss) (fp:Fit p.ss) (fq:Fit q.ss):
  Calls Tryz.prog 55 #[.agg p.cells.toArray,.agg q.cells.toArray] w fun e w'=>e=.returned (.bool (samePg (p.lsn,p.ss.map (·.v)) (q.lsn,q.ss.map (·.v))))∧Below w.heap.size w w':=by
 have HNO:Hid (∀ i,i<4→sameS (p.ss.getD i zeroS).v (q.ss.getD i zeroS).v=false→samePg (p.lsn,p.ss.map (·.v)) (q.lsn,q.ss.map (·.v))=false):=fun i hi h=>samePg_no i hi (by rw [slotV_at,slotV_at];exact h)
 have HALL:Hid ((∀ i,i<4→sameS (p.ss.getD i zeroS).v (q.ss.getD i zeroS).v=true)→samePg (p.lsn,p.ss.map (·.v)) (q.lsn,q.ss.map (·.v))=decide (p.lsn=q.lsn)):=fun h=>samePg_all (fun i hi=>by rw [slotV_at,slotV_at];exact h i hi)
 generalize samePg (p.lsn,p.ss.map (·.v)) (q.lsn,q.ss.map (·.v))=RR at*
 obtain ⟨n,ss⟩:=p
 obtain ⟨m,ts⟩:=q
 simp only at*
 obtain ⟨W,hW,b0,b1,hbW,hsW⟩:=boxes2 w (PageA.cells ⟨n,ss⟩) (PageA.cells ⟨m,ts⟩) 47 47
 have HB:Hid (∀ u,Below W.heap.size W u→Box u w.heap.size (PageA.cells ⟨n,ss⟩) 47∧Box u (w.heap.size+1) (PageA.cells ⟨m,ts⟩) 47):=fun u hu=>⟨b0.below hu b0.lt,b1.below hu b1.lt⟩
 clear hsW b0 b1
 go_enter Tryz.func55,Tryz.ntmps55
 go_wp2_with fail
 rw [hW.out]
 clear hW
 go_loopw [5] (fun i wr=>∃ k:Nat,k≤4∧i=.int .i64 (k:Int)∧Hid (∀ i,i<k→sameS (ss.getD i zeroS).v (ts.getD i zeroS).v=true)∧Below W.heap.size W wr) (fun i _=>4-(intOf i).toNat)
 case atStart=>exact ⟨0,Nat.zero_le _,rfl,fun i hi=>by omega,Below.refl _ _⟩
 case round=>
  obtain ⟨k,hk,rfl,hall,hbr⟩:=hrel
  by_cases hlt:k<4
  ·have HR:Hid (∀ u,Below W.heap.size W u→u.rangeAt w.heap.size (1+k*4) (ss.getD k zeroS).cells∧u.rangeAt (w.heap.size+1) (1+k*4) (ts.getD k zeroS).cells):=fun u hu=>⟨slot_rng (HB.out u hu).1 k (by omega),slot_rng (HB.out u hu).2 k (by omega)⟩
   have R1:=rp _ (getD_mem (k:=k) (by omega:k<ss.length))
   have R2:=rq _ (getD_mem (k:=k) (by omega:k<ts.length))
   have F1:=fp _ (getD_mem (k:=k) (by omega:k<ss.length))
   have F2:=fq _ (getD_mem (k:=k) (by omega:k<ts.length))
   have HNK:=HNO.out k hlt
   have HK:Hid (∀ b,sameS (ss.getD k zeroS).v (ts.getD k zeroS).v=b→b=true→∀ i,i<k+1→sameS (ss.getD i zeroS).v (ts.getD i zeroS).v=true):=fun b hb hb2 i hi=>by
    by_cases e:i=k
    ·rw [e,hb];exact hb2
    ·exact hall.out i (by omega)
   have HNK':Hid (_):=HNK
   clear HNK
   generalize ss.getD k zeroS=s at*
   generalize ts.getD k zeroS=t at*
   have hi0:(0:Int)≤(k:Int):=by omega
   have hi4:(k:Int)<4:=by omega
   go_wp2_with fail
   have D0:Below W.heap.size W wr.drew:=hbr.trans ((Below.refl _ _).drew.mono hbr.size)
   refine wp_region_held_drew (S:=fun u=>u.rangeAt w.heap.size (1+k*4) s.cells∧u.rangeAt (w.heap.size+1) (1+k*4) t.cells) (by kernel_rfl) (HR.out _ D0) (fun hHeld=>?_)
   generalize wr.drew=d0 at*
   refine tq 0 (v:=.int .i64 (k:Int)) rfl hHeld ?_
   try simp only [zz]
   refine tq 1 (v:=.pointer (some ⟨w.heap.size,1,none⟩)) rfl hHeld ?_
   try simp only [zz]
   refine tq 2 (v:=.pointer (some ⟨w.heap.size,1+k*4,none⟩)) rfl hHeld ?_
   try simp only [zz]
   refine tk 3 rfl (yieldsIf_load_mid (by rfl) _ _ rfl _ _ rfl (s.cells) _ (fun _ h=>h.1) Tryz.underlying44 rfl (slot_infoE _)) hHeld ?_
   try simp only [zz]
   refine tq 4 (v:=.int .i64 (k:Int)) rfl hHeld ?_
   try simp only [zz]
   refine tq 5 (v:=.pointer (some ⟨w.heap.size+1,1,none⟩)) rfl hHeld ?_
   try simp only [zz]
   refine tq 6 (v:=.pointer (some ⟨w.heap.size+1,1+k*4,none⟩)) rfl hHeld ?_
   try simp only [zz]
   refine tk 7 rfl (yieldsIf_load_mid (by rfl) _ _ rfl _ _ rfl (t.cells) _ (fun _ h=>h.2) Tryz.underlying44 rfl (slot_infoE _)) hHeld ?_
   try simp only [zz]
   refine wpAnyH_ready (rs:=[8]) (by kernel_rfl) (by simp) ?_
   refine AllReadyH.cons rfl (fun K hK=>?_) AllReadyH.nil
   go_simp
   refine (l3SameSlot_any s t _ (ReadsO.below R1 (hbW.trans (D0.mono hbW.size))) (ReadsO.below R2 (hbW.trans (D0.mono hbW.size))) (fun x hx=>by obtain rfl:=List.mem_singleton.1 hx;exact F1) (fun x hx=>by obtain rfl:=List.mem_singleton.1 hx;exact F2)).mono ?_
   rintro e d1 ⟨rfl,hb1⟩
   have D1:Below W.heap.size W d1:=D0.trans (hb1.mono D0.size)
   refine hK.out _ _ (HR.out _ D1) (fun hHeld=>?_)
   clear hK K hb1
   try simp only [zz]
   obtain ⟨bb,hsm⟩:∃ bb,Hid (sameS s.v t.v=bb):=⟨_,rfl⟩
   rw [hsm.out]
   cases bb with
   | true=>
    refine tq 9 (v:=.bool false) rfl hHeld ?_
    try simp only [zz]
    refine wpAnyH_done (by kernel_rfl) ?_ _
    clear hHeld
    go_wp2_with fail
    go_roundw
    case rel=>exact ⟨k+1,by omega,by go_num,HK.out _ hsm.out rfl,D1⟩
    case measure=>simp [intOf];omega
   | false=>
    refine tq 9 (v:=.bool true) rfl hHeld ?_
    try simp only [zz]
    refine wpAnyH_done (by kernel_rfl) ?_ _
    clear hHeld
    have HE:Hid (RR=false∧Below w.heap.size w d1):=⟨HNK'.out hsm.out,hbW.trans (D1.mono hbW.size)⟩
    go_wp2
    go_ret
    exact ⟨ret_bool HE.out.1.symm,HE.out.2⟩
  ·obtain rfl:k=4:=by omega
   have hkk:¬ ((4:Nat):Int)<4:=by omega
   have HE:Hid (RR=decide (n=m)∧Below w.heap.size w wr):=⟨HALL.out hall.out,hbW.trans (hbr.mono hbW.size)⟩
   have x0:=(HB.out _ hbr).1.cell 0 _ rfl
   have y0:=(HB.out _ hbr).2.cell 0 _ rfl
   by_cases hnm:n=m
   ·subst hnm
    go_wp2
    go_ret
    exact ⟨ret_bool (by rw [HE.out.1];simp),HE.out.2⟩
   ·have hne:(n == m)=false:=by simpa using hnm
    go_wp2
    go_ret
    exact ⟨ret_bool (by rw [HE.out.1];simp [hnm]),HE.out.2⟩
theorem implSamePage_any (p q:PageA) (hp:p.ss.length=4) (hq:q.ss.length=4) (w:World) (rp:ReadsS w p.ss) (rq:ReadsS w q.ss) (fp:Fit p.ss) (fq:Fit q.ss):
  Calls Tryz.prog 122 #[.agg p.cells.toArray,.agg q.cells.toArray] w fun e w'=>e=.returned (.bool (samePg (p.lsn,p.ss.map (·.v)) (q.lsn,q.ss.map (·.v))))∧Below w.heap.size w w':=by
 have HNO:Hid (∀ i,i<4→sameS (p.ss.getD i zeroS).v (q.ss.getD i zeroS).v=false→samePg (p.lsn,p.ss.map (·.v)) (q.lsn,q.ss.map (·.v))=false):=fun i hi h=>samePg_no i hi (by rw [slotV_at,slotV_at];exact h)
 have HALL:Hid ((∀ i,i<4→sameS (p.ss.getD i zeroS).v (q.ss.getD i zeroS).v=true)→samePg (p.lsn,p.ss.map (·.v)) (q.lsn,q.ss.map (·.v))=decide (p.lsn=q.lsn)):=fun h=>samePg_all (fun i hi=>by rw [slotV_at,slotV_at];exact h i hi)
 generalize samePg (p.lsn,p.ss.map (·.v)) (q.lsn,q.ss.map (·.v))=RR at*
 obtain ⟨n,ss⟩:=p
 obtain ⟨m,ts⟩:=q
 simp only at*
 obtain ⟨W,hW,b0,b1,hbW,hsW⟩:=boxes2 w (PageA.cells ⟨n,ss⟩) (PageA.cells ⟨m,ts⟩) 47 47
 have HB:Hid (∀ u,Below W.heap.size W u→Box u w.heap.size (PageA.cells ⟨n,ss⟩) 47∧Box u (w.heap.size+1) (PageA.cells ⟨m,ts⟩) 47):=fun u hu=>⟨b0.below hu b0.lt,b1.below hu b1.lt⟩
 clear hsW b0 b1
 have hrg0:W.rangeAt w.heap.size 1 (cellsS ss):=Box.range [.int .i64 n] (cellsS ss) [] (by rw [List.append_nil];exact (HB.out _ (Below.refl _ _)).1)
 have hi16:(Tryz.prog.info? 45).map (·.size)=some (cellsS ss).length:=by rw [cellsS_len,hp];kernel_rfl
 go_enter Tryz.func122,Tryz.ntmps122
 go_wp2_with (first | (guard_target=wpList _ _ _ (Oper.mk (some 8) _ _ _ _ _::_) _ _;refine wpList_load_mid rfl 45 (.tmp 7) rfl w.heap.size 1 rfl (cellsS ss) _ (by rw [hW.out];exact hrg0) Tryz.underlying45 rfl hi16 ?_) | fail)
 rw [hW.out]
 clear hW hrg0 hi16
 go_loopw [9] (fun i wr=>∃ k:Nat,k≤4∧i=.int .i64 (k:Int)∧Hid (∀ i,i<k→sameS (ss.getD i zeroS).v (ts.getD i zeroS).v=true)∧Below W.heap.size W wr) (fun i _=>4-(intOf i).toNat)
 case atStart=>exact ⟨0,Nat.zero_le _,rfl,fun i hi=>by omega,Below.refl _ _⟩
 case round=>
  obtain ⟨k,hk,rfl,hall,hbr⟩:=hrel
  by_cases hlt:k<4
  ·have HR1:Hid (∀ u,Below W.heap.size W u→u.rangeAt (w.heap.size+1) (1+k*4) (ts.getD k zeroS).cells):=fun u hu=>slot_rng (HB.out u hu).2 k (by omega)
   have R1:=rp _ (getD_mem (k:=k) (by omega:k<ss.length))
   have R2:=rq _ (getD_mem (k:=k) (by omega:k<ts.length))
   have F1:=fp _ (getD_mem (k:=k) (by omega:k<ss.length))
   have F2:=fq _ (getD_mem (k:=k) (by omega:k<ts.length))
   have HNK:=HNO.out k hlt
   have HK:Hid (∀ b,sameS (ss.getD k zeroS).v (ts.getD k zeroS).v=b→b=true→∀ i,i<k+1→sameS (ss.getD i zeroS).v (ts.getD i zeroS).v=true):=fun b hb hb2 i hi=>by
    by_cases e:i=k
    ·rw [e,hb];exact hb2
    ·exact hall.out i (by omega)
   have HNK':Hid (_):=HNK
   have hix:=run_index_slot ss hp k hlt
   clear HNK
   generalize ss.getD k zeroS=s at*
   generalize ts.getD k zeroS=t at*
   have hi0:(0:Int)≤(k:Int):=by omega
   have hi4:(k:Int)<4:=by omega
   obtain ⟨ZV,hZV,bZ,hbZ,hsZ⟩:=boxes1 wr [.bool false,.int .i64 0,.slice none 0 0,.slice none 0 0] 44
   obtain ⟨V,hV,bS0,hwS,hsS⟩:=range_fill [] [.bool false,.int .i64 0,.slice none 0 0,.slice none 0 0] s.cells [] (by simpa using bZ) rfl
   have bS:Box V wr.heap.size s.cells 44:=by simpa using bS0
   have HT:Hid (ZV.there wr.heap.size 0 s.cells.toArray.size):=bZ.there 0 _ (by show 0+4≤4;decide)
   have HV:Hid (ZV.setCells wr.heap.size 0 s.cells.toArray.toList=V):=hV.out
   have nb:Below wr.heap.size wr V:=hbZ.trans (hwS.below (Nat.le_refl _) (by omega))
   have D:Below W.heap.size W V:=hbr.trans (nb.mono hbr.size)
   have l6:=bS.lt
   have HR:Hid (∀ u,Below V.heap.size V u→u.rangeAt wr.heap.size 0 s.cells∧u.rangeAt (w.heap.size+1) (1+k*4) t.cells):=fun u hu=>⟨Box.range [] s.cells [] (by simpa using bS.below hu bS.lt),HR1.out u (D.trans (hu.mono D.size))⟩
   clear bZ hbZ hsZ hV bS0 hwS hsS bS
   go_upto_region 4 with (first | (guard_target=wpList _ _ _ (Oper.mk none (Op.store _ (Operand.tmp 6) _) _ _ _ _::_) _ _;refine wpList_store_mid rfl 44 (.tmp 6) (.tmp 12) rfl wr.heap.size 0 s.cells.toArray rfl rfl (by rw [hZV.out];exact HT.out) (by rw [List.size_toArray];exact slot_infoE _) (all_oneCell_toArray (oneSlE s)) ?_) | fail)
   rw [hZV.out,HV.out]
   clear hZV HV HT hix
   have D0:Below V.heap.size V V.drew:=(Below.refl _ _).drew
   refine wp_region_held_drew (S:=fun u=>u.rangeAt wr.heap.size 0 s.cells∧u.rangeAt (w.heap.size+1) (1+k*4) t.cells) (by kernel_rfl) (HR.out _ D0) (fun hHeld=>?_)
   generalize V.drew=d0 at*
   refine tk 0 rfl (yieldsIf_load_mid (by rfl) _ _ rfl _ _ rfl (s.cells) _ (fun _ h=>h.1) Tryz.underlying44 rfl (slot_infoE _)) hHeld ?_
   try simp only [zz]
   refine tq 1 (v:=.int .i64 (k:Int)) rfl hHeld ?_
   try simp only [zz]
   refine tq 2 (v:=.pointer (some ⟨w.heap.size+1,1,none⟩)) rfl hHeld ?_
   try simp only [zz]
   refine tq 3 (v:=.pointer (some ⟨w.heap.size+1,1+k*4,none⟩)) rfl hHeld ?_
   try simp only [zz]
   refine tk 4 rfl (yieldsIf_load_mid (by rfl) _ _ rfl _ _ rfl (t.cells) _ (fun _ h=>h.2) Tryz.underlying44 rfl (slot_infoE _)) hHeld ?_
   try simp only [zz]
   refine wpAnyH_ready (rs:=[5]) (by kernel_rfl) (by simp) ?_
   refine AllReadyH.cons rfl (fun K hK=>?_) AllReadyH.nil
   have RB:Below w.heap.size w d0:=hbW.trans ((D.trans (D0.mono D.size)).mono hbW.size)
   go_simp
   refine (implSameSlot_any s t _ (ReadsO.below R1 RB) (ReadsO.below R2 RB) (fun x hx=>by obtain rfl:=List.mem_singleton.1 hx;exact F1) (fun x hx=>by obtain rfl:=List.mem_singleton.1 hx;exact F2)).mono ?_
   rintro e d1 ⟨rfl,hb1⟩
   have DV:Below V.heap.size V d1:=D0.trans (hb1.mono D0.size)
   have D1:Below W.heap.size W d1:=D.trans (DV.mono D.size)
   refine hK.out _ _ (HR.out _ DV) (fun hHeld=>?_)
   clear hK K hb1
   try simp only [zz]
   obtain ⟨bb,hsm⟩:∃ bb,Hid (sameS s.v t.v=bb):=⟨_,rfl⟩
   rw [hsm.out]
   cases bb with
   | true=>
    refine tq 6 (v:=.bool false) rfl hHeld ?_
    try simp only [zz]
    refine wpAnyH_done (by kernel_rfl) ?_ _
    clear hHeld
    go_wp2_with fail
    go_roundw
    case rel=>exact ⟨k+1,by omega,by go_num,HK.out _ hsm.out rfl,D1⟩
    case measure=>simp [intOf];omega
   | false=>
    refine tq 6 (v:=.bool true) rfl hHeld ?_
    try simp only [zz]
    refine wpAnyH_done (by kernel_rfl) ?_ _
    clear hHeld
    have HE:Hid (RR=false∧Below w.heap.size w d1):=⟨HNK'.out hsm.out,hbW.trans (D1.mono hbW.size)⟩
    go_wp2
    go_ret
    exact ⟨ret_bool HE.out.1.symm,HE.out.2⟩
  ·obtain rfl:k=4:=by omega
   have hkk:¬ ((4:Nat):Int)<4:=by omega
   have HE:Hid (RR=decide (n=m)∧Below w.heap.size w wr):=⟨HALL.out hall.out,hbW.trans (hbr.mono hbW.size)⟩
   have x0:=(HB.out _ hbr).1.cell 0 _ rfl
   have y0:=(HB.out _ hbr).2.cell 0 _ rfl
   by_cases hnm:n=m
   ·subst hnm
    go_wp2
    go_ret
    exact ⟨ret_bool (by rw [HE.out.1];simp),HE.out.2⟩
   ·have hne:(n == m)=false:=by simpa using hnm
    go_wp2
    go_ret
    exact ⟨ret_bool (by rw [HE.out.1];simp [hnm]),HE.out.2⟩
end Go.Proofs.YtcoeamamaifoeaaGreatDoor