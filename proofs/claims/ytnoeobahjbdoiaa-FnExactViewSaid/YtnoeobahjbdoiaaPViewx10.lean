/- Several texts in one, in their order. -/
import Derived.Test.YtnoeobahjbdoiaaPViewx9
import Derived.Test.YtnoeobahjbdoiaaPViewx7
import Derived.Test.YtnoeobahjbdoiaaPViewx8
import Derived.Test.YtnoeobahjbdoiaaPViewx6
import Derived.Test.YtnoeobahjbdoiaaPViewx3
import Derived.Deep.Cut
import Derived.Test.YtnoeobahjbdoiaaPViewx4
import Derived.Deep.RegionLaw
import Derived.Deep.DrawnRows
import Derived.Test.YtnoeobahjbdoiaaPViewx2
import Derived.Test.YtnoeobahjbdoiaaPViewx1
import Derived.Deep.MidRow
import Derived.Deep.RegionHeld3
import Derived.RangeFuncNested
import Derived.RangeFuncBound
import Derived.RangeFuncCalls
import Derived.RangeFuncLeaves
import Derived.Shelf.Abstract
import Derived.Shelf.RegionOpen
import Derived.WalkKit
import Derived.OwnWalkIn
import Derived.TacticsInMore
import Derived.LoopNIn
import Derived.LoopIn
import Derived.Sort.CutIn
import Derived.Test.YtnoeobahjbdoiaaPViewx5
set_option maxHeartbeats 8000000
set_option maxRecDepth 100000
namespace Go.Proofs.Ytnoeobahjbdoiaa
open Go.RowKit
theorem leng_info {e:EngA} (h:e.shape):(Try.prog.info? 40).map (·.size)=some e.cells.length:=by rw [EngA.cells_len h];kernel_rfl
theorem lpool_infoE (q:PoolA):(Try.prog.info? 33).map (·.size)=some q.cells.length:=by show _=some 2;kernel_rfl
theorem llog_infoE (q:LogA):(Try.prog.info? 36).map (·.size)=some q.cells.length:=by show _=some 2;kernel_rfl
theorem tail_fill {w:World} {B:Nat} {A R:List Value} {t:TypeId} (b:Box w B (A++R) t) (hA:A.length=136) (j:Nat) (v:Value):
  ∃ W,Hid (w.setCell ⟨B,136+j,none⟩ v=W)∧Box W B (A++R.set j v) t∧Within B (B+1) w W∧W.heap.size=w.heap.size:=by
 obtain ⟨W,hW,b',hw,hs⟩:=box_set b (136+j) v
 refine ⟨W,hW,?_,hw,hs⟩
 rw [List.set_append_right _ _ (by omega),hA,show 136+j-136=j by omega] at b'
 exact b'
theorem eng_own_of {w:World} {e:EngA} {a0 a1 a2 a3 a4 a5:Nat} (h1:OwnS w a0 a1 (slots8 e.disk)) (h2:OwnSts w a1 a2 e.aS e.cS e.seats) (h3:OwnRs w a2 a3 e.log.a e.log.c e.log.recs) (h4:OwnL w a3 a4 e.aT e.cT e.txs) (h5:OwnH w a4 a5 e.aH e.cH e.holds)
  (l1:a0≤a1) (l2:a1≤a2) (l3:a2≤a3) (l4:a3≤a4) (l5:a4≤a5) (h:a5≤w.heap.size):e.own w a0 a5:=by
 refine ⟨h1.widen (Nat.le_refl _) (by omega) h,h2.widen (by omega) (by omega) h,h3.widen (by omega) (by omega) h,h4.widen (by omega) (by omega) h,h5.widen (by omega) (Nat.le_refl _) h,?_⟩
 simp only [EngA.blocks,List.nodup_append,List.mem_append]
 have b1:=h1.blocks_lt
 have b2:=h2.blocks_lt
 have b3:=h3.blocks_lt
 have b4:∀ k∈rowOf e.aT e.txs.length e.cT,a3≤k∧k<a4:=fun k hk=>h4.lt k (Option.mem_toList.1 hk)
 have b5:∀ k∈rowOf e.aH e.holds.length e.cH,a4≤k∧k<a5:=fun k hk=>h5.lt k (Option.mem_toList.1 hk)
 have nr:∀ o:Option Nat,o.toList.Nodup:=fun o=>by cases o<;>simp
 refine ⟨h1.apart,⟨h2.apart,⟨h3.apart,⟨nr _,nr _,fun x hx y hy q=>?_⟩,fun x hx y hy q=>?_⟩,fun x hx y hy q=>?_⟩,fun x hx y hy q=>?_⟩
 ·have:=b4 x hx;have:=b5 y hy;omega
 ·have:=b3 x hx
  rcases hy with hy | hy
  ·have:=b4 y hy;omega
  ·have:=b5 y hy;omega
 ·have:=b2 x hx
  rcases hy with hy | hy | hy
  ·have:=b3 y hy;omega
  ·have:=b4 y hy;omega
  ·have:=b5 y hy;omega
 ·have:=b1 x hx
  rcases hy with hy | hy | hy | hy
  ·have:=b2 y hy;omega
  ·have:=b3 y hy;omega
  ·have:=b4 y hy;omega
  ·have:=b5 y hy;omega
theorem toEngine_any (e:EngA) (se:e.shape) (w:World) (re:e.reads w) (hl:e.short 1048576):
  Calls Try.prog 6 #[.agg e.cells.toArray] w fun r w'=>∃ t:EngA,r=.returned (.agg t.cells.toArray)∧t.shape∧Hid (t.v=e.v)∧t.own w' w.heap.size w'.heap.size∧Below w.heap.size w w':=by
 obtain ⟨Z,hZ⟩:∃ Z,Hid (zeroE=Z):=⟨_,rfl⟩
 have sZ:Z.shape:=by rw [← hZ.out];exact zeroE_shape
 have HZ:=Try.zeroEng
 rw [hZ.out] at HZ
 obtain ⟨W,hW,b1,b2,b3,hbW,hsW⟩:=boxes3 w e.cells Z.cells Z.cells 40 60 60
 have hs0:w.heap.size+1+1<W.heap.size:=by omega
 have N:Below w.heap.size w W:=hbW
 have b3':Box W (w.heap.size+1+1) (cellsPs Z.disk++[.slice none 0 0,.int .i64 0,.slice none 0 0,.int .i64 0,.slice none 0 0,.slice none 0 0,.int .i64 0,.bool false]) 60:=by rw [← hZ.out] at b3 ⊢;exact b3
 have HE:Hid (∀ u,Below w.heap.size w u→e.reads u):=fun u hu=>re.below hu
 have hld:=ldisk8_info se.disk8
 clear b3 hsW hbW
 go_enter Try.func6,Try.ntmps6
 obtain ⟨p0,p1,p2,p3,p4,p5,p6⟩:=eng_parts se b1
 go_wp2_with (first | (guard_target=wpList _ _ _ (Oper.mk _ (Op.alloc _) _ _ _ _::_) _ _;refine alloc_of 60 Z.cells HZ ?_) | (guard_target=wpList _ _ _ (Oper.mk (some 5) _ _ _ _ _::_) _ _;refine wpList_load_mid rfl 30 (.tmp 4) rfl w.heap.size 0 rfl (cellsPs e.disk) _ (by rw [hW.out];exact p0) Try.underlying30 rfl hld ?_) | fail)
 rw [hW.out]
 clear hW p0 p1 p2 p3 p4 p5 p6
 refine (toPageA8_any e.disk se.disk8 W (HE.out _ N).disk (fun p hp s hs=>by have:=hl.disk p hp s hs;omega)).mono ?_
 rintro r w1 ⟨ts,rfl,ht8,hvd,od,hb⟩
 have s1:=hb.size
 have sz:=hb.size
 replace b1:=b1.below hb b1.lt
 replace b2:=b2.below hb b2.lt
 replace b3':=b3'.below hb b3'.lt
 replace N:=N.trans (hb.mono N.size)
 clear hb
 obtain ⟨w2,h2,c3,hw,hs⟩:=range_fill [] (cellsPs Z.disk) (cellsPs ts) [.slice none 0 0,.int .i64 0,.slice none 0 0,.int .i64 0,.slice none 0 0,.slice none 0 0,.int .i64 0,.bool false] b3' (by rw [cellsPs_len _ ht8.four,ht8.eight,EngA.disk_len sZ])
 have HT:Hid (w1.there (w.heap.size+1+1) 0 (cellsPs ts).toArray.size):=b3'.there _ _ (by rw [List.size_toArray,cellsPs_len _ ht8.four,ht8.eight,List.length_append,EngA.disk_len sZ];simp)
 have sy:=hw.size
 replace b1:=b1.within hw (by omega)
 replace b2:=b2.within hw (by omega)
 replace N:=N.trans (hw.below (by omega) (by have:=N.size;omega))
 replace od:=od.within hw (.inr (by omega))
 clear hw hs
 have hA:(cellsPs ts).length=136:=by rw [cellsPs_len _ ht8.four,ht8.eight]
 have E2:Hid (w1.setCells (w.heap.size+1+1) 0 (cellsPs ts).toArray.toList=w2):=h2.out
 have HI:=disk8_info ht8
 have HO:=all_oneCell_toArray (onePs ts)
 clear h2 b3'
 have b3':Box w2 (w.heap.size+1+1) (cellsPs ts++[.slice none 0 0,.int .i64 0,.slice none 0 0,.int .i64 0,.slice none 0 0,.slice none 0 0,.int .i64 0,.bool false]) 60:=c3
 clear c3
 have HA:Hid ((cellsPs ts).length=136):=hA
 clear hA
 obtain ⟨p0,p1,p2,p3,p4,p5,p6⟩:=eng_parts se b1
 go_wp2_with (first | (guard_target=wpList _ _ _ (Oper.mk none (Op.store _ (Operand.tmp 7) _) _ _ _ _::_) _ _;refine wpList_store_mid rfl 50 (.tmp 7) (.tmp 6) rfl (w.heap.size+1+1) 0 (cellsPs ts).toArray rfl rfl HT.out (by rw [List.size_toArray];exact HI) HO ?_) | (guard_target=wpList _ _ _ (Oper.mk (some 9) _ _ _ _ _::_) _ _;refine wpList_load_mid rfl 33 (.tmp 8) rfl w.heap.size 136 rfl (e.poolA.cells) _ (by rw [E2.out];exact p1) Try.underlying33 rfl (lpool_infoE _) ?_) | fail)
 rw [E2.out]
 clear E2 HT HI HO p0 p1 p2 p3 p4 p5 p6
 refine (toPool_any e.poolA w2 (HE.out _ N).pool hl.pool).mono ?_
 rintro r w3 ⟨q,rfl,hvp,op,hb⟩
 have s3:=hb.size
 have sz:=hb.size
 replace b1:=b1.below hb b1.lt
 replace b2:=b2.below hb b2.lt
 replace b3':=b3'.below hb b3'.lt
 replace N:=N.trans (hb.mono N.size)
 replace od:=od.below hb
 clear hb
 obtain ⟨w4,h4,c3,hw,hs⟩:=range_fill (cellsPs ts) [.slice none 0 0,.int .i64 0] q.cells [.slice none 0 0,.int .i64 0,.slice none 0 0,.slice none 0 0,.int .i64 0,.bool false] b3' rfl
 rw [HA.out] at h4
 have HT:Hid (w3.there (w.heap.size+1+1) 136 q.cells.toArray.size):=b3'.there _ _ (by rw [List.length_append,HA.out];show 136+2≤_;simp)
 have sy:=hw.size
 replace b1:=b1.within hw (by omega)
 replace b2:=b2.within hw (by omega)
 replace N:=N.trans (hw.below (by omega) (by have:=N.size;omega))
 replace od:=od.within hw (.inr (by omega))
 replace op:=op.within hw (.inr (by omega))
 clear hw hs
 have E4:Hid (w3.setCells (w.heap.size+1+1) 136 q.cells.toArray.toList=w4):=h4.out
 clear h4 b3'
 have b3':Box w4 (w.heap.size+1+1) ((cellsPs ts++q.cells)++[.slice none 0 0,.int .i64 0,.slice none 0 0,.slice none 0 0,.int .i64 0,.bool false]) 60:=by rw [List.append_assoc];exact c3
 clear c3
 have HA2:Hid ((cellsPs ts++q.cells).length=138):=by rw [Hid,List.length_append,HA.out];rfl
 obtain ⟨p0,p1,p2,p3,p4,p5,p6⟩:=eng_parts se b1
 go_wp2_with (first | (guard_target=wpList _ _ _ (Oper.mk none (Op.store _ (Operand.tmp 11) _) _ _ _ _::_) _ _;refine wpList_store_mid rfl 53 (.tmp 11) (.tmp 10) rfl (w.heap.size+1+1) 136 (q.cells).toArray rfl rfl HT.out (by rw [List.size_toArray];exact pool_info _) (pool_one _) ?_) | (guard_target=wpList _ _ _ (Oper.mk (some 13) _ _ _ _ _::_) _ _;refine wpList_load_mid rfl 36 (.tmp 12) rfl w.heap.size 138 rfl (e.log.cells) _ (by rw [E4.out];exact p2) Try.underlying36 rfl (llog_infoE _) ?_) | fail)
 rw [E4.out]
 clear E4 HT p0 p1 p2 p3 p4 p5 p6
 refine (toLog_any e.log w4 (HE.out _ N).log hl.log).mono ?_
 rintro r w5 ⟨l,rfl,hvl,ol,hb⟩
 have s5:=hb.size
 have sz:=hb.size
 replace b1:=b1.below hb b1.lt
 replace b2:=b2.below hb b2.lt
 replace b3':=b3'.below hb b3'.lt
 replace N:=N.trans (hb.mono N.size)
 replace od:=od.below hb
 replace op:=op.below hb
 clear hb
 obtain ⟨w6,h6,c3,hw,hs⟩:=range_fill (cellsPs ts++q.cells) [.slice none 0 0,.int .i64 0] l.cells [.slice none 0 0,.slice none 0 0,.int .i64 0,.bool false] b3' rfl
 rw [HA2.out] at h6
 have HT:Hid (w5.there (w.heap.size+1+1) 138 l.cells.toArray.size):=b3'.there _ _ (by rw [List.length_append,HA2.out];show 138+2≤_;simp)
 have sy:=hw.size
 replace b1:=b1.within hw (by omega)
 replace b2:=b2.within hw (by omega)
 replace N:=N.trans (hw.below (by omega) (by have:=N.size;omega))
 replace od:=od.within hw (.inr (by omega))
 replace op:=op.within hw (.inr (by omega))
 replace ol:=ol.within hw (.inr (by omega))
 clear hw hs
 have E6:Hid (w5.setCells (w.heap.size+1+1) 138 l.cells.toArray.toList=w6):=h6.out
 clear h6 b3'
 have b3':Box w6 (w.heap.size+1+1) (cellsPs ts++[.slice q.a q.seats.length q.c,.int .i64 q.hand,.slice l.a l.recs.length l.c,.int .i64 l.sure,.slice none 0 0,.slice none 0 0,.int .i64 0,.bool false]) 60:=by rw [List.append_assoc] at c3;exact c3
 clear c3
 obtain ⟨p0,p1,p2,p3,p4,p5,p6⟩:=eng_parts se b1
 have C7:=toLiveS_any e.aT e.cT e.txs w6 (HE.out _ N).txs (by have:=hl.txs;omega)
 go_upto_region 5 with (first | (guard_target=wpList _ _ _ (Oper.mk none (Op.store _ (Operand.tmp 15) _) _ _ _ _::_) _ _;refine wpList_store_mid rfl 56 (.tmp 15) (.tmp 14) rfl (w.heap.size+1+1) 138 (l.cells).toArray rfl rfl HT.out (by rw [List.size_toArray];exact log_info _) (log_one _) ?_) | fail)
 rw [E6.out]
 clear E6 HT
 go_wp2_with fail
 refine C7.mono ?_
 clear C7 p0 p1 p2 p3 p4 p5 p6
 rintro r w7 ⟨aT,cT,rfl,ot,hb⟩
 have s7:=hb.size
 have sz:=hb.size
 replace b1:=b1.below hb b1.lt
 replace b2:=b2.below hb b2.lt
 replace b3':=b3'.below hb b3'.lt
 replace N:=N.trans (hb.mono N.size)
 replace od:=od.below hb
 replace op:=op.below hb
 replace ol:=ol.below hb
 clear hb
 have x0:=b3'.cell 140 (.slice none 0 0) (by rw [List.getElem?_append_right (by rw [HA.out];omega),HA.out];rfl)
 have f0:=b3'.frozen 140
 obtain ⟨w8,hw8,c3,hw,hs⟩:=tail_fill b3' HA.out 4 (.slice aT e.txs.length cT)
 have sy:=hw.size
 replace b1:=b1.within hw (by omega)
 replace b2:=b2.within hw (by omega)
 replace N:=N.trans (hw.below (by omega) (by have:=N.size;omega))
 replace od:=od.within hw (.inr (by omega))
 replace op:=op.within hw (.inr (by omega))
 replace ol:=ol.within hw (.inr (by omega))
 replace ot:=ot.within hw (.inr (by omega))
 clear hw hs
 have Ew8:Hid (w7.setCell ⟨w.heap.size+1+1,140,none⟩ (.slice aT e.txs.length cT)=w8):=hw8.out
 clear hw8 b3'
 have b3':Box w8 (w.heap.size+1+1) (cellsPs ts++[.slice q.a q.seats.length q.c,.int .i64 q.hand,.slice l.a l.recs.length l.c,.int .i64 l.sure,.slice aT e.txs.length cT,.slice none 0 0,.int .i64 0,.bool false]) 60:=c3
 clear c3
 obtain ⟨p0,p1,p2,p3,p4,p5,p6⟩:=eng_parts se b1
 have C9:=toHoldS_any e.aH e.cH e.holds w8 (HE.out _ N).holds (by have:=hl.holds;omega)
 go_upto_region 6 with fail
 rw [Ew8.out]
 clear Ew8 x0 f0
 go_wp2_with fail
 refine C9.mono ?_
 clear C9 p0 p1 p2 p3 p4 p5 p6
 rintro r w9 ⟨aH,cH,rfl,oh,hb⟩
 have s9:=hb.size
 have sz:=hb.size
 replace b1:=b1.below hb b1.lt
 replace b2:=b2.below hb b2.lt
 replace b3':=b3'.below hb b3'.lt
 replace N:=N.trans (hb.mono N.size)
 replace od:=od.below hb
 replace op:=op.below hb
 replace ol:=ol.below hb
 replace ot:=ot.below hb
 clear hb
 have x0:=b3'.cell 141 (.slice none 0 0) (by rw [List.getElem?_append_right (by rw [HA.out];omega),HA.out];rfl)
 have f0:=b3'.frozen 141
 obtain ⟨w10,hw10,c3,hw,hs⟩:=tail_fill b3' HA.out 5 (.slice aH e.holds.length cH)
 have sy:=hw.size
 replace b1:=b1.within hw (by omega)
 replace b2:=b2.within hw (by omega)
 replace N:=N.trans (hw.below (by omega) (by have:=N.size;omega))
 replace od:=od.within hw (.inr (by omega))
 replace op:=op.within hw (.inr (by omega))
 replace ol:=ol.within hw (.inr (by omega))
 replace ot:=ot.within hw (.inr (by omega))
 replace oh:=oh.within hw (.inr (by omega))
 clear hw hs
 have Ew10:Hid (w9.setCell ⟨w.heap.size+1+1,141,none⟩ (.slice aH e.holds.length cH)=w10):=hw10.out
 clear hw10 b3'
 have b3':Box w10 (w.heap.size+1+1) (cellsPs ts++[.slice q.a q.seats.length q.c,.int .i64 q.hand,.slice l.a l.recs.length l.c,.int .i64 l.sure,.slice aT e.txs.length cT,.slice aH e.holds.length cH,.int .i64 0,.bool false]) 60:=c3
 clear c3
 obtain ⟨p0,p1,p2,p3,p4,p5,p6⟩:=eng_parts se b1
 go_upto_region 7 with fail
 rw [Ew10.out]
 clear Ew10 x0 f0
 have x0:=b3'.cell 142 (.int .i64 0) (by rw [List.getElem?_append_right (by rw [HA.out];omega),HA.out];rfl)
 have f0:=b3'.frozen 142
 obtain ⟨w11,hw11,c3,hw,hs⟩:=tail_fill b3' HA.out 6 (.int .i64 e.next)
 have sy:=hw.size
 replace b1:=b1.within hw (by omega)
 replace b2:=b2.within hw (by omega)
 replace N:=N.trans (hw.below (by omega) (by have:=N.size;omega))
 replace od:=od.within hw (.inr (by omega))
 replace op:=op.within hw (.inr (by omega))
 replace ol:=ol.within hw (.inr (by omega))
 replace ot:=ot.within hw (.inr (by omega))
 replace oh:=oh.within hw (.inr (by omega))
 clear hw hs
 have Ew11:Hid (w10.setCell ⟨w.heap.size+1+1,142,none⟩ (.int .i64 e.next)=w11):=hw11.out
 clear hw11 b3'
 have b3':Box w11 (w.heap.size+1+1) (cellsPs ts++[.slice q.a q.seats.length q.c,.int .i64 q.hand,.slice l.a l.recs.length l.c,.int .i64 l.sure,.slice aT e.txs.length cT,.slice aH e.holds.length cH,.int .i64 e.next,.bool false]) 60:=c3
 clear c3
 clear p0 p1 p2 p3 p4 p6
 go_upto_region 8 with fail
 rw [Ew11.out]
 clear Ew11 x0 f0 p5
 obtain ⟨p0,p1,p2,p3,p4,p5,p6⟩:=eng_parts se b1
 have x0:=b3'.cell 143 (.bool false) (by rw [List.getElem?_append_right (by rw [HA.out];omega),HA.out];rfl)
 have f0:=b3'.frozen 143
 obtain ⟨w12,hw12,c3,hw,hs⟩:=tail_fill b3' HA.out 7 (.bool e.down)
 have sy:=hw.size
 replace b1:=b1.within hw (by omega)
 replace b2:=b2.within hw (by omega)
 replace N:=N.trans (hw.below (by omega) (by have:=N.size;omega))
 replace od:=od.within hw (.inr (by omega))
 replace op:=op.within hw (.inr (by omega))
 replace ol:=ol.within hw (.inr (by omega))
 replace ot:=ot.within hw (.inr (by omega))
 replace oh:=oh.within hw (.inr (by omega))
 clear hw hs
 have Ew12:Hid (w11.setCell ⟨w.heap.size+1+1,143,none⟩ (.bool e.down)=w12):=hw12.out
 clear hw12 b3'
 have b3':Box w12 (w.heap.size+1+1) (cellsPs ts++[.slice q.a q.seats.length q.c,.int .i64 q.hand,.slice l.a l.recs.length l.c,.int .i64 l.sure,.slice aT e.txs.length cT,.slice aH e.holds.length cH,.int .i64 e.next,.bool e.down]) 60:=c3
 clear c3
 clear p0 p1 p2 p3 p4 p5
 go_upto_region 9 with fail
 rw [Ew12.out]
 clear Ew12 x0 f0 p6
 obtain ⟨T,hT⟩:∃ T:EngA,Hid ((⟨ts,q.seats,q.a,q.c,q.hand,l,e.txs,aT,cT,e.holds,aH,cH,e.next,e.down⟩:EngA)=T):=⟨_,rfl⟩
 have sT:T.shape:=by rw [← hT.out];exact ⟨ht8.eight,ht8.four⟩
 have bT:Box w12 (w.heap.size+1+1) T.cells 60:=by rw [← hT.out];exact b3'
 have HV:Hid (T.v=e.v):=by
  rw [Hid,← hT.out]
  have v1:=hvd.out
  have v2:=hvp.out
  have v3:=hvl.out
  simp only [PoolA.v,EngA.poolA,PoolV.mk.injEq] at v2
  simp only [EngA.v,v2.1,v2.2,v3]
  congr 1
 have oT:T.own w12 W.heap.size w12.heap.size:=by
  rw [← hT.out]
  exact eng_own_of (a0:=W.heap.size) (a1:=w1.heap.size) (a2:=w3.heap.size) (a3:=w5.heap.size) (a4:=w7.heap.size) (a5:=w12.heap.size) od (OwnSts.widen op (by omega) (Nat.le_refl _) (by omega)) (OwnRs.widen ol (by omega) (Nat.le_refl _) (by omega)) (ot.widen (by omega) (Nat.le_refl _) (by omega)) (oh.widen (by omega) (by omega) (Nat.le_refl _)) (by omega) (by omega) (by omega) (by omega) (by omega) (Nat.le_refl _)
 clear od op ol ot oh b3' hT hvd hvp hvl
 obtain ⟨WF,hWF,hwF,hsF,HTF,bF⟩:=eng_out sT sZ b2
 have HLF:=eng_load sT bF
 have HLF':Hid (_=_):=HLF
 have rT:w12.rangeAt (w.heap.size+1+1) 0 T.cells:=Box.range [] T.cells [] (by simpa using bT)
 have HEND:Hid (T.own WF w.heap.size WF.heap.size∧Below w.heap.size w WF):=⟨(oT.within hwF (.inr (by omega))).widen (by omega) (by omega) (Nat.le_refl _),N.trans (hwF.below (by omega) (by have:=N.size;omega))⟩
 have HI:=eng_info sT
 have HO:=all_oneCell_toArray (oneE T)
 clear hwF hsF bF HLF oT bT b1 b2
 go_wp2_with (first | (guard_target=wpList _ _ _ (Oper.mk (some 30) _ _ _ _ _::_) _ _;refine wpList_load_mid rfl 60 (.tmp 3) rfl (w.heap.size+1+1) 0 rfl (T.cells) _ rT Try.underlying60 rfl HI ?_) | (guard_target=wpList _ _ _ (Oper.mk none (Op.store _ (Operand.tmp 2) _) _ _ _ _::_) _ _;refine wpList_store_mid rfl 60 (.tmp 2) (.tmp 30) rfl (w.heap.size+1) 0 (T.cells).toArray rfl rfl HTF.out (by rw [List.size_toArray];exact HI) HO ?_) | fail)
 rw [hWF.out]
 exact bodyPost_ret (v:=.agg T.cells.toArray) (results_one Try.results6 rfl HLF'.out) rfl ⟨T,rfl,sT,HV,HEND.out.1,HEND.out.2⟩
structure EngA.wide (e:EngA):Prop where
 disk:∀ p∈e.disk,Small p.ss
 pool:e.poolA.short 9223372036854775807
 log:e.log.short 9223372036854775807
 txs:e.txs.length≤9223372036854775807
 holds:e.holds.length≤9223372036854775807
theorem szOf_ans {n:Nat} {left:Int} (h:0≤left∧left≤1048576):szOf n left<0∨(0≤szOf n left∧szOf n left≤left∧n≤1048576):=by
 unfold szOf
 split
 ·exact .inl (by omega)
 ·exact .inr (by omega)
theorem szEngine_any (e:EngA) (se:e.shape) (w:World) (re:e.reads w) (hw:e.wide):
  Calls Try.prog 4 #[.agg e.cells.toArray,.int .i64 1048576] w fun r w'=>∃ z:Int,r=.returned (.int .i64 z)∧(z<0∨(0≤z∧e.short 1048576))∧Below w.heap.size w w':=by
 obtain ⟨W,hW,b0,hbW,hsW⟩:=boxes1 w e.cells 40
 have HE:Hid (∀ u,Below W.heap.size W u→_):=fun u hu=>eng_parts se (b0.below hu b0.lt)
 have hie:=ldisk8_info se.disk8
 have HR:Hid (∀ u,Below W.heap.size W u→e.reads u):=fun u hu=>(re.below hbW).below hu
 have N:Below W.heap.size W W:=Below.refl _ _
 obtain ⟨p0,p1,p2,p3,p4,_,_⟩:=HE.out _ N
 have C1:=szPageA8_any e.disk se.disk8 1048576 W hw.disk (by omega)
 go_enter Try.func4,Try.ntmps4
 go_wp2_with (first | (guard_target=wpList _ _ _ (Oper.mk (some 6) _ _ _ _ _::_) _ _;refine wpList_load_mid rfl 30 (.tmp 5) rfl w.heap.size 0 rfl (cellsPs e.disk) _ (by rw [hW.out];exact p0) Try.underlying30 rfl hie ?_) | fail)
 rw [hW.out]
 clear hW hsW
 refine C1.mono ?_
 clear C1 p0 p1 p2 p3 p4
 rintro r w1 ⟨z1,rfl,hz1,hb⟩
 replace N:=N.trans (hb.mono N.size)
 clear hb
 rcases hz1 with hz1 | ⟨hz10,hz11,hz1s⟩
 ·have HB:Hid (Below w.heap.size w w1):=hbW.trans (N.mono hbW.size)
  go_wp2
  go_ret
  exact ⟨-1,rfl,.inl (by omega),HB.out⟩
 have nz1:¬ z1<0:=by omega
 obtain ⟨p0,p1,p2,p3,p4,_,_⟩:=HE.out _ N
 have Hz1:Hid _:=hz1s
 clear hz1s
 have C2:=szPool_any e.poolA z1 w1 (HR.out _ N).pool hw.pool ⟨hz10,by omega⟩
 go_wp2_with (first | (guard_target=wpList _ _ _ (Oper.mk (some 12) _ _ _ _ _::_) _ _;refine wpList_load_mid rfl 33 (.tmp 11) rfl w.heap.size 136 rfl (e.poolA.cells) _ p1 Try.underlying33 rfl (lpool_infoE _) ?_) | fail)
 refine C2.mono ?_
 clear C2 p0 p1 p2 p3 p4
 rintro r w2 ⟨z2,rfl,hz2,hb⟩
 replace N:=N.trans (hb.mono N.size)
 clear hb
 rcases hz2 with hz2 | ⟨hz20,hz21,hz2s⟩
 ·have HB:Hid (Below w.heap.size w w2):=hbW.trans (N.mono hbW.size)
  go_wp2
  go_ret
  exact ⟨-1,rfl,.inl (by omega),HB.out⟩
 have nz2:¬ z2<0:=by omega
 obtain ⟨p0,p1,p2,p3,p4,_,_⟩:=HE.out _ N
 have Hz2:Hid _:=hz2s
 clear hz2s
 have C3:=szLog_any e.log z2 w2 (HR.out _ N).log hw.log ⟨hz20,by omega⟩
 go_wp2_with (first | (guard_target=wpList _ _ _ (Oper.mk (some 18) _ _ _ _ _::_) _ _;refine wpList_load_mid rfl 36 (.tmp 17) rfl w.heap.size 138 rfl (e.log.cells) _ p2 Try.underlying36 rfl (llog_infoE _) ?_) | fail)
 refine C3.mono ?_
 clear C3 p0 p1 p2 p3 p4
 rintro r w3 ⟨z3,rfl,hz3,hb⟩
 replace N:=N.trans (hb.mono N.size)
 clear hb
 rcases hz3 with hz3 | ⟨hz30,hz31,hz3s⟩
 ·have HB:Hid (Below w.heap.size w w3):=hbW.trans (N.mono hbW.size)
  go_wp2
  go_ret
  exact ⟨-1,rfl,.inl (by omega),HB.out⟩
 have nz3:¬ z3<0:=by omega
 obtain ⟨p0,p1,p2,p3,p4,_,_⟩:=HE.out _ N
 have Hz3:Hid _:=hz3s
 clear hz3s
 have C4:=szLiveS_any e.aT e.cT e.txs.length z3 w3 hw.txs ⟨hz30,by omega⟩
 have A4:=szOf_ans (n:=e.txs.length) (left:=z3) ⟨hz30,by omega⟩
 go_wp2_with fail
 refine C4.mono ?_
 clear C4
 rintro r w4 ⟨rfl,rfl⟩
 generalize szOf e.txs.length z3=z4 at*
 rcases A4 with hz4 | ⟨hz40,hz41,hz4s⟩
 ·have HB:Hid (Below w.heap.size w w4):=hbW.trans (N.mono hbW.size)
  go_wp2
  go_ret
  exact ⟨-1,rfl,.inl (by omega),HB.out⟩
 have nz4:¬ z4<0:=by omega
 have C5:=szHoldS_any e.aH e.cH e.holds.length z4 w4 hw.holds ⟨hz40,by omega⟩
 have A5:=szOf_ans (n:=e.holds.length) (left:=z4) ⟨hz40,by omega⟩
 go_wp2_with fail
 refine C5.mono ?_
 clear C5
 rintro r w5 ⟨rfl,rfl⟩
 generalize szOf e.holds.length z4=z5 at*
 have HB:Hid (Below w.heap.size w w5):=hbW.trans (N.mono hbW.size)
 rcases A5 with hz5 | ⟨hz50,hz51,hz5s⟩
 ·go_wp2
  go_ret
  exact ⟨-1,rfl,.inl (by omega),HB.out⟩
 have nz5:¬ z5<0:=by omega
 have HS:Hid (e.short 1048576):=⟨Hz1.out,Hz2.out,Hz3.out,hz4s,hz5s⟩
 clear Hz1 Hz2 Hz3 hz4s hz5s
 go_wp2
 go_ret
 exact ⟨z5,rfl,.inr ⟨hz50,HS.out⟩,HB.out⟩
end Go.Proofs.Ytnoeobahjbdoiaa
namespace Go.Proofs.Ytnoeobahjbdoiaa
open Go.ChangeShapes Go.WideShapes Go.ChangeAt Go.RowKit
structure InEng (w:World) (e:EngA):Prop where
 shape:e.shape
 reads:e.reads w
 wide:e.wide
theorem chunks (f:Nat→PageA):∀ (n:Nat) (cs:List Value),cs.length=n*17→(∀ i,i<n→(cs.drop (i*17)).take 17=(f i).cells)→cs=cellsPs ((List.range n).map f):=by
 intro n
 induction n with
 | zero=>intro cs h _;simp only [Nat.zero_mul,List.length_eq_zero_iff] at h;subst h;rfl
 | succ n ih=>
  intro cs h hf
  have h1:=ih (cs.take (n*17)) (by rw [List.length_take];omega) (fun i hi=>by
   rw [List.drop_take,List.take_take,Nat.min_eq_left (by omega)]
   exact hf i (by omega))
  have h2:=hf n (by omega)
  rw [List.take_of_length_le (by rw [List.length_drop];omega)] at h2
  rw [List.range_succ,List.map_append,List.map_singleton,cellsPs_app,cellsPs_cons,← h1,← h2]
  simp [cellsPs]
section
variable {H:Type} {enc:TypeId × Value→H} {w:World} {base:Nat} {spare:Nat→Bool} {held:Bool}
theorem Try.cellsHd:Try.prog.cellsOf 108=2:=by kernel_rfl
theorem Try.cellsHds:Try.prog.cellsOf 38=1:=by kernel_rfl
theorem Try.cellsLvE:Try.prog.cellsOf 37=1:=by kernel_rfl
theorem Try.cellsP8:Try.prog.cellsOf 30=136:=by kernel_rfl
theorem Try.cellsEg:Try.prog.cellsOf 40=144:=by kernel_rfl
theorem Try.cellsLgE:Try.prog.cellsOf 36=2:=by kernel_rfl
theorem trod_hold {fuel:Nat} {cs:List Value} {x:DataW H × List MemPlace} (h:DataW.trod enc Try.prog w base spare held fuel 108 cs=some x):∃ t:HoldV,cs=t.cells:=by
 obtain ⟨xs,n,_,_,hlen,hxl,hf⟩:=DataW.trod_struct Try.underlying108 h
 rw [Try.cellsHd] at hlen
 match cs,hlen with
 | [v0,v1],_=>
  have f0:=hf 0 _ rfl
  have f1:=hf 1 _ rfl
  obtain ⟨y0,hx0⟩:=some_at xs 0 (by rw [hxl];decide)
  obtain ⟨y1,hx1⟩:=some_at xs 1 (by rw [hxl];decide)
  rw [hx0] at f0
  rw [hx1] at f1
  simp only [List.getElem_toArray,List.getElem_cons_zero,List.getElem_cons_succ,Try.cellsI,List.drop,List.take] at f0 f1
  obtain ⟨a,e0,_⟩:=trod_num f0
  obtain ⟨b,e1,_⟩:=trod_num f1
  simp only [List.cons.injEq,and_true] at e0 e1
  subst e0 e1
  exact ⟨⟨a,b⟩,rfl⟩
theorem trod_holds {fuel:Nat} {cs:List Value} {x:DataW H × List MemPlace} (h:DataW.trod enc Try.prog w base spare held fuel 38 cs=some x):
  ∃ (a:Option Addr) (c:Nat) (ls:List HoldV),cs=[.slice a ls.length c]∧ReadsH w a ls∧ls.length≤maxLen:=by
 rcases DataW.trod_slice Try.underlying38 h with ⟨rfl,_⟩ | ⟨a,len,cap,elems,rest,n,_,rfl,_,_,hl,hm,hlen,hel,_,_⟩
 ·exact ⟨none,0,[],rfl,ReadsH.nil _ _,by simp⟩
 rw [Try.cellsHd] at hel
 have each:∀ i,i<len→∃ t:HoldV,w.cells? base (a.add (i*2)) 2=some t.cells:=by
  intro i hi
  have hy:=hel i hi
  rw [List.getElem?_eq_getElem (by omega:i<elems.length),Option.bind_eq_some_iff] at hy
  obtain ⟨cs',hcs,hy'⟩:=hy
  obtain ⟨t,e⟩:=trod_hold hy'
  exact ⟨t,by rw [hcs,e]⟩
 obtain ⟨f,hf⟩:∃ f:Nat→HoldV,∀ i,i<len→w.cells? base (a.add (i*2)) 2=some (f i).cells:=by
  refine ⟨fun i=>if h:i<len then (each i h).choose else zeroH,fun i hi=>?_⟩
  simp only [dif_pos hi]
  exact (each i hi).choose_spec
 refine ⟨some a,cap,(List.range len).map f,by simp,?_,by simp;omega⟩
 intro hne
 have hpos:=List.length_pos_iff.2 hne
 simp only [List.length_map,List.length_range] at hpos ⊢
 obtain ⟨b,off,spot⟩:=a
 have c0:=(World.cells?_some (hf 0 hpos)).2.2 0 (by decide)
 have hspot:spot=none:=by simpa [Addr.add] using World.cell?_spot c0
 subst hspot
 refine ⟨b,off,rfl,fun k hk=>?_⟩
 have e:((List.range len).map f).getD k zeroH=f k:=by simp [List.getD,hk]
 rw [e]
 have hc:=(World.cells?_some (hf k hk)).2.2
 have d0:=hc 0 (by decide)
 have d1:=hc 1 (by decide)
 simp only [Addr_add,HoldV.cells] at d0 d1
 exact ⟨by simpa using d0,by simpa using d1⟩
theorem trod_pages {fuel:Nat} {cs:List Value} {x:DataW H × List MemPlace} (h:DataW.trod enc Try.prog w base spare held fuel 30 cs=some x) (hl:cs.length=136):
  ∃ ps:List PageA,cs=cellsPs ps∧Disk8 ps∧∀ p∈ps,∀ s∈p.ss,InSlot w s:=by
 obtain ⟨ys,m,_,_,_,hyl,hg⟩:=DataW.trod_array Try.underlying30 h
 have each:∀ i,i<8→∃ p:PageA,(cs.drop (i*17)).take 17=p.cells∧p.ss.length=4∧∀ s∈p.ss,InSlot w s:=by
  intro i hi
  have g:=hg i hi
  obtain ⟨y,hy⟩:=some_at ys i (by omega)
  rw [hy,Try.cellsPg] at g
  obtain ⟨p,e,h4,_,hs⟩:=trod_page g
  exact ⟨p,e,h4,hs⟩
 obtain ⟨f,hf⟩:∃ f:Nat→PageA,∀ i,i<8→(cs.drop (i*17)).take 17=(f i).cells∧(f i).ss.length=4∧∀ s∈(f i).ss,InSlot w s:=by
  refine ⟨fun i=>if h:i<8 then (each i h).choose else zeroP,fun i hi=>?_⟩
  simp only [dif_pos hi]
  exact (each i hi).choose_spec
 have hm:∀ p∈(List.range 8).map f,∃ i,i<8∧f i=p:=fun p hp=>by
  obtain ⟨i,hi,rfl⟩:=List.mem_map.1 hp
  exact ⟨i,List.mem_range.1 hi,rfl⟩
 refine ⟨(List.range 8).map f,chunks f 8 cs (by omega) (fun i hi=>(hf i hi).1),⟨by simp,fun p hp=>?_⟩,fun p hp=>?_⟩
 ·obtain ⟨i,hi,rfl⟩:=hm p hp
  exact (hf i hi).2.1
 ·obtain ⟨i,hi,rfl⟩:=hm p hp
  exact (hf i hi).2.2
theorem trod_eng {fuel:Nat} {cs:List Value} {x:DataW H × List MemPlace} (h:DataW.trod enc Try.prog w base spare held fuel 40 cs=some x):
  ∃ e:EngA,cs=e.cells∧InEng w e:=by
 obtain ⟨xs,n,_,_,hlen,hxl,hf⟩:=DataW.trod_struct Try.underlying40 h
 rw [Try.cellsEg] at hlen
 obtain ⟨ds,rs,rfl,hds,hrs⟩:∃ ds rs,cs=ds++rs∧ds.length=136∧rs.length=8:=⟨cs.take 136,cs.drop 136,(List.take_append_drop _ _).symm,by rw [List.length_take];omega,by rw [List.length_drop];omega⟩
 match rs,hrs with
 | [v0,v1,v2,v3,v4,v5,v6,v7],_=>
  have f0:=hf 0 _ rfl
  have f1:=hf 1 _ rfl
  have f2:=hf 2 _ rfl
  have f3:=hf 3 _ rfl
  have f4:=hf 4 _ rfl
  have f5:=hf 5 _ rfl
  have f6:=hf 6 _ rfl
  obtain ⟨y0,hx0⟩:=some_at xs 0 (by rw [hxl];decide)
  obtain ⟨y1,hx1⟩:=some_at xs 1 (by rw [hxl];decide)
  obtain ⟨y2,hx2⟩:=some_at xs 2 (by rw [hxl];decide)
  obtain ⟨y3,hx3⟩:=some_at xs 3 (by rw [hxl];decide)
  obtain ⟨y4,hx4⟩:=some_at xs 4 (by rw [hxl];decide)
  obtain ⟨y5,hx5⟩:=some_at xs 5 (by rw [hxl];decide)
  obtain ⟨y6,hx6⟩:=some_at xs 6 (by rw [hxl];decide)
  rw [hx0] at f0
  rw [hx1] at f1
  rw [hx2] at f2
  rw [hx3] at f3
  rw [hx4] at f4
  rw [hx5] at f5
  rw [hx6] at f6
  have dr:∀ k,(ds++[v0,v1,v2,v3,v4,v5,v6,v7]).drop (136+k)=[v0,v1,v2,v3,v4,v5,v6,v7].drop k:=fun k=>by rw [← hds,← List.drop_drop,List.drop_left]
  have d0:=dr 0
  have d2:=dr 2
  have d4:=dr 4
  have d5:=dr 5
  have d6:=dr 6
  have d7:=dr 7
  simp only [Nat.add_zero,Nat.reduceAdd] at d0 d2 d4 d5 d6 d7
  simp only [List.getElem_toArray,List.getElem_cons_zero,List.getElem_cons_succ,Try.cellsI,Try.cellsB,Try.cellsP8,Try.cellsPl,Try.cellsLgE,Try.cellsLvE,Try.cellsHds,List.drop_zero] at f0 f1 f2 f3 f4 f5 f6
  rw [← hds,List.take_left] at f0
  rw [d0] at f1
  rw [d2] at f2
  rw [d4] at f3
  rw [d5] at f4
  rw [d6] at f5
  rw [d7] at f6
  simp only [List.drop,List.take] at f1 f2 f3 f4 f5 f6
  obtain ⟨ps,e0,hp8,hps⟩:=trod_pages f0 hds
  obtain ⟨pl,e1,hpl⟩:=trod_pool f1
  obtain ⟨lg,e2,hlg⟩:=trod_log f2
  obtain ⟨aT,cT,ls,e3,hL,lL⟩:=trod_lives f3
  obtain ⟨aH,cH,hs,e4,hH,lH⟩:=trod_holds f4
  obtain ⟨nx,e5,_⟩:=trod_num f5
  obtain ⟨dn,e6,_⟩:=DataW.trod_bool Try.underlying4 f6
  simp only [PoolA.cells,LogA.cells,List.cons.injEq,and_true] at e1 e2 e3 e4 e5 e6
  obtain ⟨rfl,rfl⟩:=e1
  obtain ⟨rfl,rfl⟩:=e2
  subst e0 e3 e4 e5 e6
  simp only [maxLen] at lL lH
  refine ⟨⟨ps,pl.seats,pl.a,pl.c,pl.hand,lg,ls,aT,cT,hs,aH,cH,nx,dn⟩,rfl,⟨hp8.eight,hp8.four⟩,⟨fun p hp s hs=>(hps p hp s hs).reads,hpl.reads,hlg.reads,hL,hH⟩,⟨fun p hp s hs=>?_,hpl.short,hlg.short,by show ls.length≤_;omega,by show hs.length≤_;omega⟩⟩
  have h1:=(hps p hp s hs).lI
  have h2:=(hps p hp s hs).lR
  simp only [maxLen] at h1 h2
  omega
theorem open_eng {b0:Nat} {v:Value} {d:DataW H} {ps:List MemPlace} (hval:Value.okWide Try.prog w .any b0 40 v) (h:DataW.Trod enc Try.prog w base spare held 40 v d ps):
  ∃ e:EngA,v=.agg e.cells.toArray∧InEng w e:=by
 obtain ⟨cs,rfl,hcs⟩:=okWide_struct Try.underlying40 hval
 obtain ⟨fuel,hf⟩:=h
 have e:(Value.agg cs).cells.toList=cs.toList:=rfl
 rw [e] at hf
 obtain ⟨r,hc,rest⟩:=trod_eng hf
 refine ⟨r,?_,rest⟩
 congr 1
 rw [← hc]
end
end Go.Proofs.Ytnoeobahjbdoiaa
namespace Go.Proofs.Ytnoeobahjbdoiaa
open Go.RowKit
theorem EngA.short_of {l t:EngA} {m:Nat} (h:t.v=l.v) (hl:l.short m):t.short m:=by
 simp only [EngA.v,EngV.mk.injEq] at h
 obtain ⟨h1,h2,h3,h4,h5,h6,_,_⟩:=h
 refine ⟨fun p hp x hx=>?_,PoolA.short_of (l:=l.poolA) (t:=t.poolA) (by simp only [PoolA.v,PoolV.mk.injEq];exact ⟨h2,h3⟩) hl.pool,LogA.short_of h4 hl.log,by rw [h5];exact hl.txs,by rw [h6];exact hl.holds⟩
 have hm:(p.lsn,p.ss.map (·.v))∈t.disk.map (fun p=>(p.lsn,p.ss.map (·.v))):=List.mem_map.2 ⟨p,hp,rfl⟩
 rw [h1] at hm
 obtain ⟨q,hq,he⟩:=List.mem_map.1 hm
 have hs:q.ss.map (·.v)=p.ss.map (·.v):=(Prod.mk.inj he).2
 have hx':x.v∈p.ss.map (·.v):=List.mem_map.2 ⟨x,hx,rfl⟩
 rw [← hs] at hx'
 obtain ⟨y,hy,hv⟩:=List.mem_map.1 hx'
 rw [← hv]
 exact hl.disk q hq y hy
theorem EngA.short_wide {e:EngA} (h:e.short 1048576):e.short 1099511627776:=
 ⟨fun p hp x hx=>by have:=h.disk p hp x hx;omega,PoolA.short_wide h.pool,LogA.short_wide h.log,by have:=h.txs;omega,by have:=h.holds;omega⟩
end Go.Proofs.Ytnoeobahjbdoiaa
namespace Go.Proofs.Ytnoeobahjbdoiaa
open Go.RowKit
attribute [local go_sem ↓] Go.wp_at_zero Go.wp_at_succ
end Go.Proofs.Ytnoeobahjbdoiaa
namespace Go.Proofs.Ytnoeobahjbdoiaa
open Go.RowKit
theorem seatFrom_at (ss:List SeatV):∀ (no:Int) (b k:Nat),k<ss.length→(ss.getD k zeroStV).no=no→(∀ j,j<k→(ss.getD j zeroStV).no≠no)→seatFrom no ss b=((b+k:Nat):Int):=by
 induction ss with
 | nil=>intro no b k h;simp at h
 | cons s r ih=>
  intro no b k hk he hn
  rw [seatFrom]
  cases k with
  | zero=>simp only [List.getD_cons_zero] at he;rw [if_pos he];simp
  | succ k=>
   have h0:=hn 0 (by omega)
   simp only [List.getD_cons_zero] at h0
   simp only [List.getD_cons_succ] at he
   rw [if_neg h0,ih no (b+1) k (by simpa using hk) he (fun j hj=>by have:=hn (j+1) (by omega);simpa using this)]
   omega
theorem seatFrom_none (ss:List SeatV):∀ (no:Int) (b:Nat),(∀ j,j<ss.length→(ss.getD j zeroStV).no≠no)→seatFrom no ss b= -1:=by
 induction ss with
 | nil=>intro no b _;rfl
 | cons s r ih=>
  intro no b hn
  have h0:=hn 0 (by simp)
  simp only [List.getD_cons_zero] at h0
  rw [seatFrom,if_neg h0,ih no (b+1) (fun j hj=>by have:=hn (j+1) (by simpa using hj);simpa using this)]
theorem seated_at {ss:List SeatV} {no:Int} {k:Nat} (hk:k<ss.length) (he:(ss.getD k zeroStV).no=no) (hn:∀ j,j<k→(ss.getD j zeroStV).no≠no):seatedOf ss no=k:=by
 have:=seatFrom_at ss no 0 k hk he hn
 simpa [seatedOf] using this
theorem seated_none {ss:List SeatV} {no:Int} (hn:∀ j,j<ss.length→(ss.getD j zeroStV).no≠no):seatedOf ss no= -1:=seatFrom_none ss no 0 hn
theorem seated_cases (ss:List SeatV) (no:Int):(∃ k:Nat,k<ss.length∧(ss.getD k zeroStV).no=no∧(∀ j,j<k→(ss.getD j zeroStV).no≠no)∧seatedOf ss no=k)∨((∀ j,j<ss.length→(ss.getD j zeroStV).no≠no)∧seatedOf ss no= -1):=by
 by_cases h:∃ k,k<ss.length∧(ss.getD k zeroStV).no=no
 ·have hm:∃ k,(k<ss.length∧(ss.getD k zeroStV).no=no)∧∀ j,j<k→¬ (j<ss.length∧(ss.getD j zeroStV).no=no):=by
   obtain ⟨k,hk⟩:=h
   induction k using Nat.strongRecOn with
   | _ k ih=>
    by_cases h2:∃ j,j<k∧(j<ss.length∧(ss.getD j zeroStV).no=no)
    ·obtain ⟨j,hj,hp⟩:=h2
     exact ih j hj hp
    ·exact ⟨k,hk,fun j hj hp=>h2 ⟨j,hj,hp⟩⟩
  obtain ⟨k,⟨h1,h2⟩,h3⟩:=hm
  have h4:∀ j,j<k→(ss.getD j zeroStV).no≠no:=fun j hj e=>h3 j hj ⟨by omega,e⟩
  exact .inl ⟨k,h1,h2,h4,seated_at h1 h2 h4⟩
 ·have h2:∀ j,j<ss.length→(ss.getD j zeroStV).no≠no:=fun j hj e=>h ⟨j,hj,e⟩
  exact .inr ⟨h2,seated_none h2⟩
theorem specSeatedP_any (p:PoolA) (no:Int) (w:World) (hr:p.reads w) (hl:p.short 1099511627776):
  Calls Try.prog 44 #[.agg p.cells.toArray,.int .i64 no] w fun r w'=>r=.returned (.int .i64 (seatedOf p.v.seats no))∧Below w.heap.size w w':=
 specSeated_any p.a p.c p.seats p.hand no w hr hl.len
theorem implSeated_any (p:PoolA) (no:Int) (w:World) (hr:p.reads w) (hl:p.short 1099511627776):
  Calls Try.prog 51 #[.agg p.cells.toArray,.int .i64 no] w fun r w'=>r=.returned (.int .i64 (seatedOf p.v.seats no))∧Below w.heap.size w w':=by
 obtain ⟨ls,hand,a,c⟩:=p
 have hlen:=hl.len
 simp only [PoolA.cells,PoolA.reads,PoolA.v] at*
 obtain ⟨W,hW,b0,hbW,hsW⟩:=boxes1 w [.slice a ls.length c,.int .i64 hand] 53
 have HR:Hid (∀ u,Below W.heap.size W u→ReadsSts u a ls):=fun u hu=>hr.below (hbW.trans (hu.mono hbW.size))
 have HF:Hid (seatFrom no ((ls.map SeatA.v).drop 0) 0=seatedOf (ls.map SeatA.v) no):=rfl
 have HJ:Hid ((Try.prog.info? 97).map (·.size)=some 20):=by rw [Hid];kernel_rfl
 generalize seatedOf (ls.map SeatA.v) no=R at*
 clear hsW hr hl
 have x0:=b0.cell 0 _ rfl
 go_enter Try.func51,Try.ntmps51
 go_upto_region 1 with fail
 rw [hW.out]
 clear hW
 go_wp2_with fail
 clear x0 b0
 go_loopw [10] (fun i wr=>∃ (k:Nat),i=.int .i64 k∧k≤ls.length∧Hid (seatFrom no ((ls.map SeatA.v).drop k) k=R)∧Below W.heap.size W wr)
  (fun i _=>ls.length-(intOf i).toNat)
 case atStart=>exact ⟨0,rfl,by omega,HF,Below.refl _ _⟩
 case round=>
  obtain ⟨k,rfl,hk,hR,hbl⟩:=hrel
  have hrr:=HR.out wr hbl
  have hbT:Below w.heap.size w wr:=hbW.trans (hbl.mono hbW.size)
  by_cases hlt:k<ls.length
  ·obtain ⟨b,off,rfl,hcell⟩:=hrr (by rintro rfl;simp at hlt)
   have HRG:Hid (wr.rangeAt b (off+k*20) (ls.getD k zeroSt).cells):=(hcell k hlt).1
   clear hcell
   have hkk:(k:Int)<(ls.length:Int):=by omega
   have hi0:(0:Int)≤(k:Int):=by omega
   have HR2:Hid ((if (ls.getD k zeroSt).no=no then (k:Int) else seatFrom no ((ls.map SeatA.v).drop (k+1)) (k+1))=R):=by
    have h:=hR.out
    rw [dropSt_at ls k hlt,seatFrom] at h
    exact h
   generalize ls.getD k zeroSt=z at*
   obtain ⟨W1,hW1,b1,hb1,hs1⟩:=boxes1 wr [.int .i64 0,.int .i64 0,.bool false,.int .i64 0,.slice none 0 0,.slice none 0 0,.bool false,.int .i64 0,.slice none 0 0,.slice none 0 0,.bool false,.int .i64 0,.slice none 0 0,.slice none 0 0,.bool false,.int .i64 0,.slice none 0 0,.slice none 0 0,.bool false,.bool false] 97
   obtain ⟨W2,hW2,hw2,hs2,HT2,_,b2⟩:=seat_out z _ rfl b1
   have hB2:Below W.heap.size W W2:=(hbl.trans (hb1.mono hbl.size)).trans (hw2.below hbl.size (by have:=hbl.size;omega))
   have hbT2:Below w.heap.size w W2:=hbW.trans (hB2.mono hbW.size)
   have x0:W2.cell? ⟨wr.heap.size,0,none⟩=some (.int .i64 z.no):=b2.cell 0 _ rfl
   have HW2:Hid (W1.setCells wr.heap.size 0 z.cells.toArray.toList=W2):=hW2.out
   have hOz:=seat_one z
   clear hs1 hs2 b1 b2 hb1 hw2 hW2 hR hbl hbT
   by_cases hq:z.no=no
   ·have HR3:Hid ((k:Int)=R):=by have h:=HR2.out;rw [if_pos hq] at h;exact h
    have hqb:(z.no == no)=true:=by simpa using hq
    clear hq HR2
    go_wp2_with (first | (guard_target=wpList _ _ _ (Oper.mk (some 14) _ _ _ _ _::_) _ _;refine wpList_load_mid rfl 97 (.tmp 13) rfl b (off+k*20) rfl z.cells _ HRG.out Try.underlying97 rfl HJ.out ?_) | (guard_target=wpList _ _ _ (Oper.mk none (Op.store _ (Operand.tmp 6) _) _ _ _ _::_) _ _;refine wpList_store_mid rfl 97 (.tmp 6) (.tmp 14) rfl wr.heap.size 0 z.cells.toArray rfl rfl (by rw [hW1.out];exact HT2.out) HJ.out hOz ?_;rw [hW1.out,HW2.out]) | fail)
    go_ret
    exact ⟨ret_int HR3.out,hbT2⟩
   ·have HR3:Hid (seatFrom no ((ls.map SeatA.v).drop (k+1)) (k+1)=R):=by have h:=HR2.out;rw [if_neg hq] at h;exact h
    have hqb:(z.no == no)=false:=by simpa using hq
    clear hq HR2
    go_wp2_with (first | (guard_target=wpList _ _ _ (Oper.mk (some 14) _ _ _ _ _::_) _ _;refine wpList_load_mid rfl 97 (.tmp 13) rfl b (off+k*20) rfl z.cells _ HRG.out Try.underlying97 rfl HJ.out ?_) | (guard_target=wpList _ _ _ (Oper.mk none (Op.store _ (Operand.tmp 6) _) _ _ _ _::_) _ _;refine wpList_store_mid rfl 97 (.tmp 6) (.tmp 14) rfl wr.heap.size 0 z.cells.toArray rfl rfl (by rw [hW1.out];exact HT2.out) HJ.out hOz ?_;rw [hW1.out,HW2.out]) | fail)
    go_roundw
    case rel=>exact ⟨k+1,by go_num,by omega,HR3,hB2⟩
    case measure=>simp [intOf];omega
  ·have hkk:¬ (k:Int)<(ls.length:Int):=by omega
   have HR':Hid (-1=R):=by
    have h:=hR.out
    rw [List.drop_eq_nil_of_le (by rw [List.length_map];omega),seatFrom] at h
    exact h
   clear hR
   go_wp2
   go_ret
   exact ⟨ret_int HR'.out,hbT⟩
end Go.Proofs.Ytnoeobahjbdoiaa
namespace Go.Proofs.Ytnoeobahjbdoiaa
open Go.RowKit Go.Shelf
end Go.Proofs.Ytnoeobahjbdoiaa
namespace Go.Proofs.Ytnoeobahjbdoiaa
open Go.RowKit Go.Shelf
attribute [local go_sem] Oper.semAt_some
end Go.Proofs.Ytnoeobahjbdoiaa
namespace Go.Proofs.Ytnoeobahjbdoiaa
open Go.RowKit Go.Shelf
attribute [local go_sem] Oper.semAt_some
end Go.Proofs.Ytnoeobahjbdoiaa
namespace Go.Proofs.Ytnoeobahjbdoiaa
open Go.RowKit
theorem touch_belowL {bl:List Nat} {W w w':World} (h:Touch bl w w') (hd:∀ k∈bl,W.heap.size≤k) (hs:W.heap.size≤w.heap.size):Below W.heap.size w w':=
 ⟨h.os,h.tape,h.output,h.size,fun k hk=>h.block k (by omega) (fun hm=>by have:=hd k hm;omega)⟩
theorem slots8_len {ps:List PageA} (h:∀ p∈ps,p.ss.length=4):(slots8 ps).length=ps.length*4:=by
 induction ps with
 | nil=>rfl
 | cons p r ih=>
  have h1:=ih (fun q hq=>h q (List.mem_cons_of_mem _ hq))
  have h2:=h p List.mem_cons_self
  simp only [slots8,List.flatMap_cons,List.length_append,List.length_cons] at h1 ⊢
  omega
theorem countSt_mid4 {t:PoolA} (h:t.short 1048576):(t.count:Int)≤4194304:=by
 have h2:=h.len
 have e:t.count=4*t.seats.length:=rfl
 rw [e]
 omega
theorem count_mid4 {t:LogA} (h:t.short 1048576):(t.count:Int)≤10995116277760:=by
 have h1:=countRs_bound t.recs 1048576 h.each
 have h2:=h.len
 have h3:t.recs.length*(10+7*1048576)≤1048576*(10+7*1048576):=Nat.mul_le_mul_right _ h2
 have e:t.count=countRs t.recs:=rfl
 rw [e]
 omega
theorem EngA.k_short {e:EngA} (se:e.shape) (h:e.short 1048576):e.kP 1≤10995116277760∧e.kE 1≤1152921504606846976:=by
 have h1:=countS_le (slots8 e.disk) 1048576 (fun s hs=>by
  obtain ⟨p,hp,hs⟩:=List.mem_flatMap.1 hs
  exact h.disk p hp s hs)
 rw [slots8_len se.four,se.eight] at h1
 have h2:=countSt_mid4 h.pool
 have h3:=count_mid4 h.log
 have h4:=h.txs
 have h5:=h.holds
 unfold EngA.kE EngA.kH EngA.kT EngA.kL EngA.kP
 omega
theorem EngA.k_pos (e:EngA):0≤e.kE 1:=by unfold EngA.kE EngA.kH EngA.kT EngA.kL EngA.kP;omega
def pageAt (e:EngA) (no:Nat):PageA:=if 0≤seatedOf (e.seats.map SeatA.v) no then (e.seats.getD (seatedOf (e.seats.map SeatA.v) no).toNat zeroSt).page else e.disk.getD no zeroP
def slotOf (e:EngA) (o:Nat):SlotA:=(pageAt e (o / 4)).ss.getD (o % 4) zeroS
def pageAtV (e:EngV) (no:Nat):List SlotV:=if 0≤seatedOf e.seats no then (e.seats.getD (seatedOf e.seats no).toNat zeroStV).ss else (e.disk.getD no (0,[])).2
def slotAtV (e:EngV) (o:Nat):SlotV:=(pageAtV e (o / 4)).getD (o % 4) zeroS.v
def viewV (e:EngV):List SlotV:=(List.range 32).map (fun o=>if o=0 then zeroS.v else slotAtV e o)
theorem viewV_len (e:EngV):(viewV e).length=32:=by simp [viewV]
theorem pageAt_four {e:EngA} (se:e.shape) (no:Nat) (h8:no<8):(pageAt e no).ss.length=4:=by
 unfold pageAt
 split
 ·rfl
 ·have h:no<e.disk.length:=by rw [se.eight];exact h8
  rw [show e.disk.getD no zeroP=e.disk[no] by simp [List.getD,h]]
  exact se.four _ (List.getElem_mem h)
theorem pageAt_v {e:EngA} (se:e.shape) (no:Nat) (h8:no<8):(pageAt e no).ss.map (·.v)=pageAtV e.v no:=by
 have h:no<e.disk.length:=by rw [se.eight];exact h8
 unfold pageAt pageAtV
 have e1:e.v.seats=e.seats.map SeatA.v:=rfl
 rw [e1]
 split
 ·rename_i hs
  rcases seated_cases (e.seats.map SeatA.v) (no:Int) with ⟨k,hk,_,_,hsk⟩ | ⟨_,hsk⟩
  ·rw [hsk,Int.toNat_natCast]
   have hk':k<e.seats.length:=by simpa using hk
   simp [List.getD,hk',SeatA.v,SeatA.page]
  ·omega
 ·simp [EngA.v,List.getD,h]
theorem slotOf_v {e:EngA} (se:e.shape) (o:Nat) (h:o<32):(slotOf e o).v=slotAtV e.v o:=by
 have h1:=pageAt_v se (o / 4) (by omega)
 have h2:=pageAt_four se (o / 4) (by omega)
 unfold slotOf slotAtV
 rw [← h1]
 have h3:o % 4<(pageAt e (o / 4)).ss.length:=by omega
 simp [List.getD,h3]
theorem slotOf_mem {e:EngA} (se:e.shape) (o:Nat) (h:o<32):slotOf e o∈(pageAt e (o / 4)).ss:=by
 have h2:=pageAt_four se (o / 4) (by omega)
 have h3:o % 4<(pageAt e (o / 4)).ss.length:=by omega
 unfold slotOf
 rw [show (pageAt e (o / 4)).ss.getD (o % 4) zeroS=(pageAt e (o / 4)).ss[o % 4] by simp [List.getD,h3]]
 exact List.getElem_mem h3
theorem pageAt_reads {e:EngA} {w:World} (se:e.shape) (hr:e.reads w) (no:Nat) (h8:no<8):ReadsS w (pageAt e no).ss:=by
 unfold pageAt
 split
 ·rcases seated_cases (e.seats.map SeatA.v) (no:Int) with ⟨k,hk,_,_,hsk⟩ | ⟨_,hsk⟩
  ·rw [hsk,Int.toNat_natCast]
   have hk':k<e.seats.length:=by simpa using hk
   obtain ⟨b,off,_,hc⟩:=hr.pool (by intro e1;have e2:e.seats=[]:=e1;rw [e2] at hk';simp at hk')
   exact (hc k hk').2
  ·omega
 ·have h:no<e.disk.length:=by rw [se.eight];exact h8
  rw [show e.disk.getD no zeroP=e.disk[no] by simp [List.getD,h]]
  exact hr.disk _ (List.getElem_mem h)
theorem slotOf_short {e:EngA} {m:Nat} (se:e.shape) (hs:e.short m) (o:Nat) (h:o<32):(slotOf e o).short m:=by
 have hm:=slotOf_mem se o h
 unfold pageAt at hm
 split at hm
 ·rcases seated_cases (e.seats.map SeatA.v) ((o / 4:Nat):Int) with ⟨k,hk,_,_,hsk⟩ | ⟨_,hsk⟩
  ·rw [hsk,Int.toNat_natCast] at hm
   have hk':k<e.seats.length:=by simpa using hk
   exact hs.pool.each _ (seatD_mem e.seats k hk') _ hm
  ·omega
 ·have h8:o / 4<e.disk.length:=by rw [se.eight];omega
  rw [show e.disk.getD (o / 4) zeroP=e.disk[o / 4] by simp [List.getD,h8]] at hm
  exact hs.disk _ (List.getElem_mem h8) _ hm
theorem slotOf_reads {e:EngA} {w:World} (se:e.shape) (hr:e.reads w) (o:Nat) (h:o<32):(slotOf e o).reads w:=(pageAt_reads se hr (o / 4) (by omega)) _ (slotOf_mem se o h)
theorem page_range {w:World} {g b:Nat} {p:PageA} (h:w.rangeAt g b p.cells) (h4:p.ss.length=4) (j:Nat) (hj:j<4):w.rangeAt g (b+1+j*4) (p.ss.getD j zeroS).cells:=fun i v hv=>by
 have hi:i<4:=by have:=(List.getElem?_eq_some_iff.1 hv).1;rwa [cells_len] at this
 have:=h (j*4+i+1) v (by
  show (Value.int .i64 p.lsn::cellsS p.ss)[j*4+i+1]? =some v
  rw [List.getElem?_cons_succ,cellsS_at p.ss j i (by omega) hi]
  exact hv)
 rw [show b+1+j*4+i=b+(j*4+i+1) by omega]
 exact this
theorem seat_range {w:World} {g b:Nat} {s:SeatA} (h:w.rangeAt g b s.cells):w.rangeAt g (b+1) s.page.cells:=fun i v hv=>by
 have hi:i<s.page.cells.length:=(List.getElem?_eq_some_iff.1 hv).1
 have:=h (i+1) v (by rw [SeatA.cells_page,List.getElem?_cons_succ,List.getElem?_append_left hi];exact hv)
 rw [show b+1+i=b+(i+1) by omega]
 exact this
theorem viewV_next (e:EngV) (k:Nat) (h1:1≤k) (hk:k<32):(viewV e).take (k+1)=(viewV e).take k++[slotAtV e k]:=by
 rw [List.take_succ_eq_append_getElem (by rw [viewV_len];exact hk)]
 have e1:(viewV e)[k]'(by rw [viewV_len];exact hk)=slotAtV e k:=by
  simp only [viewV,List.getElem_map,List.getElem_range]
  rw [if_neg (by omega)]
 rw [e1]
theorem viewV_one (e:EngV):(viewV e).take 1=[zeroS.v]:=rfl
def ViewAns (vs:List SlotV) (w:World) (r:Ending) (w':World):Prop:=∃ (a:Option Addr) (c:Nat) (ss:List SlotA),r=.returned (.slice a ss.length c)∧Hid (ss.map (·.v)=vs)∧OwnVw w' w.heap.size w'.heap.size a c ss∧Below w.heap.size w w'
end Go.Proofs.Ytnoeobahjbdoiaa
namespace Go.Proofs.Ytnoeobahjbdoiaa
open Go.RowKit
theorem oneV1 (s:SlotA):∀ v∈s.cells,v.oneCell'=true:=by
 intro v hv
 simp only [SlotA.cells,List.mem_cons,List.not_mem_nil,or_false] at hv
 rcases hv with rfl | rfl | rfl | rfl<;>rfl
theorem run_append_slotV {w:World} (ty:TypeId) (lo hi:Nat) (a:Option Addr) (c:Nat) (rs:List SlotA) (hown:OwnVw w lo hi a c rs)
  (b off:Nat) (sc:Nat) (q:SlotA) (hr:w.rangeAt b off q.cells) (l u:Nat) (hq:q.own w l u) (hl:lo≤l) (hd:∀ k∈q.blocks,k∉blocksVw a c rs) (hu:u≤w.heap.size)
  (hb:rs.length+1≤68719476736) (hlo:lo≤hi):
  ∃ a' c' w',(Builtin.append_ #[42,42] ty #[.slice a rs.length c,.slice (some ⟨b,off,none⟩) 1 sc]).run Try.prog w=.ok (.slice a' (rs++[q]).length c') w'∧OwnVw w' lo w'.heap.size a' c' (rs++[q])∧w.grownBy w' (Value.slice a rs.length c).ownBlock∧
   (∀ k,(Value.slice a' (rs++[q]).length c').ownBlock=some k→(Value.slice a rs.length c).ownBlock=some k∨k=w.heap.size):=by
 obtain ⟨i0,hi0,hz0,hz1,hz2⟩:=info_parts Try.infoSlotV
 have htop:=hown.top
 obtain ⟨v',w',hrun,h1,h2,_,h5⟩:=run_append_own_at (P:=Try.prog) w lo 42 ty 46 i0 (.agg zeroS.cells.toArray) 4 64 Try.underlying42 hi0 hz0 hz1 hz2 rfl (by decide) _ _ _ hown.row ⟨b,off,none⟩ 1 sc q.cells (by rfl) (by
  intro j v hj
  rw [Addr_add]
  exact hr j v hj) (oneV1 q) (by simp only [maxLen];omega) (by omega) (by omega)
 have e:cellsVw rs++q.cells=cellsVw (rs++[q]):=by rw [cellsVw_app,cellsVw_cons];simp [cellsVw]
 have e2:rs.length+1=(rs++[q]).length:=by simp
 rw [e,e2] at h1
 have sh:∃ a' c',v'=.slice a' (rs++[q]).length c':=by
  rcases h1.2 with ⟨rfl,h0⟩ | ⟨g,cap,cur,rfl,_⟩
  ·simp at h0
  ·exact ⟨_,_,rfl⟩
 obtain ⟨a',c',rfl⟩:=sh
 have hsz:=h2.size
 have ht:Touch (Value.slice a rs.length c).ownBlock.toList w w':=Touch.of_grown h2 (fun k hk=>Option.mem_toList.2 hk)
 have hrow:=h1.lt
 have hold:∀ r∈rs,r.own w' lo w'.heap.size:=fun r hr=>(SlotA.touch (hown.each r hr) ht (fun k hk hk'=>(List.nodup_append.1 hown.apart).2.2 k hk' k (List.mem_flatMap.2 ⟨r,hr,hk⟩) rfl)).widen (Nat.le_refl _) (by omega) (Nat.le_refl _)
 have hnew:q.own w' lo w'.heap.size:=(SlotA.touch hq ht (fun k hk hk'=>hd k hk (List.mem_append.2 (.inl hk')))).widen (by omega) (by omega) (Nat.le_refl _)
 refine ⟨a',c',w',hrun,⟨h1,Nat.le_refl _,fun k hk=>(hrow k hk).2,fun r hr=>?_,?_⟩,h2,fun k hk=>h5.elim (fun h5=>.inl (by rw [← h5];exact hk)) (fun h5=>by rw [h5] at hk;exact .inr (Option.some.inj hk).symm)⟩
 ·rcases List.mem_append.1 hr with hr | hr
  ·exact hold r hr
  ·obtain rfl:=List.mem_singleton.1 hr
   exact hnew
 ·rw [List.flatMap_append,List.nodup_append,List.nodup_append]
  have hap:=(List.nodup_append.1 hown.apart).2.1
  refine ⟨by cases (Value.slice a' (rs++[q]).length c').ownBlock<;>simp,⟨hap,by simpa using SlotA.blocks_nodup hq,fun x hx y hy e=>?_⟩,fun x hx y hy e=>?_⟩
  ·simp only [List.flatMap_cons,List.flatMap_nil,List.append_nil] at hy
   subst e
   exact hd x hy (List.mem_append.2 (.inr hx))
  ·have hx':=Option.mem_toList.1 hx
   subst e
   rcases List.mem_append.1 hy with hy | hy
   ·obtain ⟨r,hr,hy⟩:=List.mem_flatMap.1 hy
    exact row_apartV h1 (hold r hr) x hx' hy
   ·simp only [List.flatMap_cons,List.flatMap_nil,List.append_nil] at hy
    exact row_apartV h1 hnew x hx' hy
theorem append_slotV {w:World} {ops:Array Oper} {rest:List Oper} {o:Oper} {act:Act} {Q:Exit→Act→World→Prop} (hgd:o.guard=none) (s x:Operand)
  (ho:o.op=.call { callee:=.builtin .append,args:=#[s,x],argTypes:=#[42,42] })
  (lo hi:Nat) (a:Option Addr) (c:Nat) (rs:List SlotA) (hs:act.eval s=.slice a rs.length c) (hown:OwnVw w lo hi a c rs)
  (b off:Nat) (sc:Nat) (q:SlotA) (hx:act.eval x=.slice (some ⟨b,off,none⟩) 1 sc) (hr:w.rangeAt b off q.cells) (l u:Nat) (hq:q.own w l u) (hl:lo≤l) (hd:∀ k∈q.blocks,k∉blocksVw a c rs) (hu:u≤w.heap.size)
  (hb:rs.length+1≤68719476736) (hlo:lo≤hi)
  (h:∀ a' c' w',OwnVw w' lo w'.heap.size a' c' (rs++[q])→w.grownBy w' (Value.slice a rs.length c).ownBlock→wpList Try.prog ops Q rest (act.put o.dst (.slice a' (rs++[q]).length c')) w'):
  wpList Try.prog ops Q (o::rest) act w:=by
 obtain ⟨a',c',w',hrun,h2,h3,_⟩:=run_append_slotV (w:=w) o.type lo hi a c rs hown b off sc q hr l u hq hl hd hu hb hlo
 refine wpList_plain hgd fun K hK=>?_
 unfold Oper.wp execOp
 simp only [ho,resolve,invoke,builtin,Sem.run_bind,Sem.run_pure,Result.andThen_ok,List.map_toArray,List.map_cons,List.map_nil,hs,hx,hrun]
 exact hK _ _ (h a' c' w' h2 h3)
end Go.Proofs.Ytnoeobahjbdoiaa