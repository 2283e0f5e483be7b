/- Several texts in one, in their order. -/
import Derived.Test.YtfehemepdoomdaaGreatDoorPCommitx14
import Derived.Test.YtfehemepdoomdaaGreatDoorPCommitx15
import Derived.Test.YtfehemepdoomdaaGreatDoorPCommitx18
import Derived.Test.YtfehemepdoomdaaGreatDoorPCommitx22
import Derived.Deep.RegionHeld3
import Derived.Test.YtfehemepdoomdaaGreatDoorRows
import Derived.Test.YtfehemepdoomdaaGreatDoorPCommitx6
import Derived.LaidLaws
import Derived.LaidHandle
import Derived.Stop.Joined
import Derived.ChangeVars
import Derived.Test.YtfehemepdoomdaaGreatDoorPCommitx1
set_option maxHeartbeats 8000000
set_option maxRecDepth 100000
namespace Go.Proofs.YtfehemepdoomdaaGreatDoor
open Go.RowKit
theorem recV_short (tx p c n:Int) (m:Nat):(lsnR (recV tx p c) n).shortV m:=⟨⟨Nat.zero_le _,Nat.zero_le _⟩,⟨Nat.zero_le _,Nat.zero_le _⟩,Nat.zero_le _⟩
theorem commit_short {t e:EngA} {tx:Int} (h:t.v=(commitOf e.v tx).1) (he:e.short 1048576):t.short 1048576:=by
 unfold commitOf at h
 by_cases h1:callCode e.v tx≠0
 ·rw [if_pos h1] at h;exact EngA.short_of h he
 ·rw [if_neg h1] at h
  have h2:t.v=commitV e.v tx:=h
  have hz:refuseV e.v true=0:=by
   have h3:=Classical.not_not.1 h1
   unfold callCode at h3
   by_cases q:refuseV e.v true=0
   ·exact q
   ·rw [if_pos q] at h3;exact absurd h3 q
  have hlen:e.v.log.recs.length≤3800:=refuse_len hz
  clear h h1 hz
  have q1:t.v.disk=e.v.disk:=(congrArg EngV.disk h2).trans rfl
  have q2:t.v.seats=e.v.seats:=(congrArg EngV.seats h2).trans rfl
  have q4:t.v.log.recs=(e.v.log.recs++[lsnR (recV tx (lastOf e.v.log.recs tx) 2) ((e.v.log.recs.length:Int)+1)])++[lsnR (recV tx ((e.v.log.recs.length:Int)+1) 5) (((e.v.log.recs++[lsnR (recV tx (lastOf e.v.log.recs tx) 2) ((e.v.log.recs.length:Int)+1)]).length:Int)+1)]:=congrArg (fun x:EngV=>x.log.recs) h2
  have q5:t.txs.length≤e.txs.length:=by
   have h5:t.txs=(commitV e.v tx).txs:=congrArg EngV.txs h2
   rw [h5]
   show (List.filter _ (lastV (lastV e.txs _ _) _ _)).length≤_
   refine Nat.le_trans (List.length_filter_le _ _) ?_
   rw [lastV_len,lastV_len]
   exact Nat.le_refl _
  have q6:t.holds.length≤e.holds.length:=by
   have h6:t.holds=(commitV e.v tx).holds:=congrArg EngV.holds h2
   rw [h6]
   exact List.length_filter_le _ _
  refine short_val (by rw [q1];exact val_disk he) (by rw [q2];have h5:e.seats.length≤1048576:=he.pool.len;simpa [EngA.v] using h5) (by rw [q2];exact val_pool he) (log_ofV ?_ ?_) (Nat.le_trans q5 he.txs) (Nat.le_trans q6 he.holds)
  ·rw [q4]
   simp only [List.length_append,List.length_cons,List.length_nil]
   omega
  ·rw [q4]
   intro r hr
   rcases List.mem_append.1 hr with q | q
   ·rcases List.mem_append.1 q with q | q
    ·exact log_shortV he r q
    ·rw [List.mem_singleton.1 q];exact recV_short _ _ _ _ _
   ·rw [List.mem_singleton.1 q];exact recV_short _ _ _ _ _
theorem commitAns_of (e:EngV) (tx:Int):commitAns e tx=commitOf e tx:=by
 unfold commitAns commitOf callCode
 by_cases h1:refuseV e true≠0
 ·rw [if_pos h1,if_pos h1,if_pos h1]
 ·rw [if_neg h1,if_neg h1]
  by_cases h2:liveOf e.txs tx= -1
  ·rw [if_pos h2,if_pos h2,if_pos (by decide)]
  ·rw [if_neg h2,if_neg h2,if_neg (by decide)]
theorem specCommit_any (e:EngA) (tx:Int) (se:e.shape) (w:World) (re:e.reads w) (hl:e.short 1048576) (hc:e.caps):
  Calls Tryz.prog 5 #[.agg e.cells.toArray,.int .i64 tx] w fun r w'=>EngOne (commitAns e.v tx) w r w':=by
 rw [commitAns_of]
 exact specCommitOf_any e tx se w re hl hc
theorem commitA_short {t e:EngA} {tx:Int} (h:t.v=(commitAns e.v tx).1) (he:e.short 1048576):t.short 1048576:=by
 rw [commitAns_of] at h
 exact commit_short h he
theorem lawCommit_walk (p:EngA) (tx:Int) (w:World) (hg:ErrT w) (hin:InEng w p):
  Calls Tryz.prog 3 #[.agg p.cells.toArray,.int .i64 tx] w fun e w'=>e=.returned (.bool true)∧Below w.heap.size w w':=by
 have sp:p.shape:=hin.shape
 have hrd:p.reads w:=hin.reads
 obtain ⟨Z,hZ⟩:∃ Z,Hid (zeroE=Z):=⟨_,rfl⟩
 have sZ:Z.shape:=by rw [← hZ.out];exact zeroE_shape
 have HZ:=Tryz.zeroEng
 rw [hZ.out] at HZ
 obtain ⟨W,hW,b0,hbW,hsW⟩:=boxes1 w p.cells 40
 have HRG:Hid (∀ w',Below W.heap.size W w'→w'.rangeAt w.heap.size 0 p.cells):=fun w' hh=>Box.range [] p.cells [] (by simpa using b0.below hh b0.lt)
 have HRD:Hid (∀ w',Below W.heap.size W w'→p.reads w'):=fun w' hh=>hrd.below (hbW.trans (hh.mono hbW.size))
 have HG:Hid (∀ w',Below W.heap.size W w'→ErrT w'):=fun w' hh=>hg.keep (hbW.trans (hh.mono hbW.size))
 have HI:=leng_info sp
 have CZ:=szEngine_any p sp W (HRD.out W (Below.refl _ _)) hin.wide
 have HEND:Hid (∀ u,Below W.heap.size W u→Below w.heap.size w u):=fun u hu=>hbW.trans (hu.mono hbW.size)
 clear b0 hrd hin hg
 go_enter Tryz.func3,Tryz.ntmps3
 go_wp2_with (first | (guard_target=wpList _ _ _ (Oper.mk (some 16) _ _ _ _ _::_) _ _;refine wpList_load_mid rfl 40 (.tmp 2) rfl w.heap.size 0 rfl (p.cells) _ (by rw [hW.out];exact HRG.out _ (Below.refl _ _)) Tryz.underlying40 rfl HI ?_) | fail)
 rw [hW.out]
 clear hW hsW
 refine CZ.mono ?_
 clear CZ
 rintro e w1 ⟨z,rfl,hz,B1⟩
 rcases hz with hneg | ⟨hz0,hl⟩
 ·have HE:Hid (Below w.heap.size w w1):=HEND.out _ B1
  go_wp2
  go_ret
  exact ⟨rfl,HE.out⟩
 have hzn:¬ z<0:=by omega
 have C:=toEngine_any p sp w1 (HRD.out _ B1) hl
 have R1:w1.rangeAt w.heap.size 0 p.cells:=HRG.out _ B1
 go_wp2_with (first | (guard_target=wpList _ _ _ (Oper.mk (some 22) _ _ _ _ _::_) _ _;refine wpList_load_mid rfl 40 (.tmp 2) rfl w.heap.size 0 rfl (p.cells) _ (R1) Tryz.underlying40 rfl HI ?_) | fail)
 refine C.mono ?_
 clear C R1
 rintro e w2 ⟨ts,rfl,st,hv2,ho2,hb2⟩
 have B2:Below W.heap.size W w2:=B1.trans (hb2.mono B1.size)
 have C:=specCommit_any ts tx st w2 ho2.reads (EngA.short_of hv2.out hl) ho2.caps
 rw [hv2.out] at C
 go_wp2_with fail
 refine C.mono ?_
 clear hv2 ho2 hb2 C st
 rintro e w3 ⟨tw,rfl,sw,hvw,ow,hb⟩
 have B3:Below W.heap.size W w3:=B2.trans (hb.mono B2.size)
 have z3:=hb.size
 clear hb
 have hsS:=commitA_short hvw.out hl
 obtain ⟨Z4,hZ4,bZ,hbZ,hsZ⟩:=boxes1 w3 Z.cells 58
 obtain ⟨w4,hS4,hwZ,hzZ,HT4,b6⟩:=eng_out sw sZ bZ
 have hb4:Below w3.heap.size w3 w4:=hbZ.trans (hwZ.below (Nat.le_refl _) (by omega))
 have B4:Below W.heap.size W w4:=B3.trans (hb4.mono B3.size)
 have l4:=b6.lt
 replace ow:=ow.below hb4
 have HIw:=eng_info sw
 have HCw:=all_oneCell_toArray (oneE tw)
 clear bZ hbZ hsZ hwZ hzZ hb4
 have C:=toEngine_any p sp w4 (HRD.out _ B4) hl
 have R4:w4.rangeAt w.heap.size 0 p.cells:=HRG.out _ B4
 go_wp2_with (first | (guard_target=wpList _ _ _ (Oper.mk (some 6) (Op.alloc _) _ _ _ _::_) _ _;refine alloc_of 58 Z.cells HZ ?_) | (guard_target=wpList _ _ _ (Oper.mk none (Op.store _ (Operand.tmp 6) _) _ _ _ _::_) _ _;refine wpList_store_mid rfl 58 (.tmp 6) (.tmp 26) rfl w3.heap.size 0 (tw.cells).toArray rfl rfl (by rw [hZ4.out];exact HT4.out) (by rw [List.size_toArray];exact HIw) HCw ?_) | (guard_target=wpList _ _ _ (Oper.mk (some 28) _ _ _ _ _::_) _ _;refine wpList_load_mid rfl 40 (.tmp 2) rfl w.heap.size 0 rfl (p.cells) _ (by rw [hZ4.out,hS4.out];exact R4) Tryz.underlying40 rfl HI ?_) | fail)
 rw [hZ4.out,hS4.out]
 refine C.mono ?_
 clear C R4 hZ4 hS4 HT4
 rintro e w5 ⟨q,rfl,sq,hqm,oq,hb⟩
 have B5:Below W.heap.size W w5:=B4.trans (hb.mono B4.size)
 have z5:=hb.size
 replace ow:=ow.below hb
 replace b6:=b6.below hb b6.lt
 clear hb
 have hqS:=EngA.short_of hqm.out hl
 obtain ⟨Z6,hZ6,bZ,hbZ,hsZ⟩:=boxes1 w5 Z.cells 58
 obtain ⟨w6,hS6,hwZ,hzZ,HT6,b7⟩:=eng_out sq sZ bZ
 have hb6:Below w5.heap.size w5 w6:=hbZ.trans (hwZ.below (Nat.le_refl _) (by omega))
 have B6:Below W.heap.size W w6:=B5.trans (hb6.mono B5.size)
 have l6:=b7.lt
 replace ow:=ow.below hb6
 replace oq:=oq.below hb6
 replace b6:=b6.below hb6 b6.lt
 have HIq:=eng_info sq
 have HCq:=all_oneCell_toArray (oneE q)
 clear bZ hbZ hsZ hwZ hzZ hb6
 have C:=implCommit_any q tx sq w6 (HG.out _ B6) oq.reads hqS oq.caps
 rw [hqm.out] at C
 have R6:w6.rangeAt w5.heap.size 0 q.cells:=Box.range [] q.cells [] (by simpa using b7)
 go_wp2_with (first | (guard_target=wpList _ _ _ (Oper.mk (some 8) (Op.alloc _) _ _ _ _::_) _ _;refine alloc_of 58 Z.cells HZ ?_) | (guard_target=wpList _ _ _ (Oper.mk none (Op.store _ (Operand.tmp 8) _) _ _ _ _::_) _ _;refine wpList_store_mid rfl 58 (.tmp 8) (.tmp 29) rfl w5.heap.size 0 (q.cells).toArray rfl rfl (by rw [hZ6.out];exact HT6.out) (by rw [List.size_toArray];exact HIq) HCq ?_) | (guard_target=wpList _ _ _ (Oper.mk (some 31) _ _ _ _ _::_) _ _;refine wpList_load_mid rfl 58 (.tmp 8) rfl w5.heap.size 0 rfl (q.cells) _ (by rw [hZ6.out,hS6.out];exact R6) Tryz.underlying58 rfl HIq ?_) | fail)
 rw [hZ6.out,hS6.out]
 refine C.mono ?_
 clear C R6 hZ6 hS6 HT6
 rintro e w7 ⟨tg,rfl,sg,hvg,og,hb⟩
 have B7:Below W.heap.size W w7:=B6.trans (hb.mono B6.size)
 have z7:=hb.size
 replace ow:=ow.below hb
 replace oq:=oq.below hb
 replace b6:=b6.below hb b6.lt
 replace b7:=b7.below hb b7.lt
 clear hb
 have hgS:=commitA_short hvg.out hl
 have HGW:Hid (tw.v=tg.v):=hvw.out.trans hvg.out.symm
 obtain ⟨Z8,hZ8,bZ,hbZ,hsZ⟩:=boxes1 w7 Z.cells 58
 obtain ⟨w8,hS8,hwZ,hzZ,HT8,b8⟩:=eng_out sg sZ bZ
 have hb8:Below w7.heap.size w7 w8:=hbZ.trans (hwZ.below (Nat.le_refl _) (by omega))
 have B8:Below W.heap.size W w8:=B7.trans (hb8.mono B7.size)
 have l8:=b8.lt
 replace ow:=ow.below hb8
 replace oq:=oq.below hb8
 replace og:=og.below hb8
 replace b6:=b6.below hb8 b6.lt
 replace b7:=b7.below hb8 b7.lt
 have HIg:=eng_info sg
 have HCg:=all_oneCell_toArray (oneE tg)
 clear bZ hbZ hsZ hwZ hzZ hb8
 have RG:∀ (u:World) (a:Nat) (t:EngA),Box u a t.cells 58→u.rangeAt a 0 t.cells:=fun u a t b=>Box.range [] t.cells [] (by simpa using b)
 have HRNG:Hid (_):=RG
 clear RG
 have G8:=HRNG.out _ _ _ b8
 have G6:=HRNG.out _ _ _ b6
 have C:=eqEngine_same tg tw sg sw HGW.out w8 og.reads ow.reads (EngA.short_wide hgS)
 go_wp2_with (first | (guard_target=wpList _ _ _ (Oper.mk (some 9) (Op.alloc _) _ _ _ _::_) _ _;refine alloc_of 58 Z.cells HZ ?_) | (guard_target=wpList _ _ _ (Oper.mk none (Op.store _ (Operand.tmp 9) _) _ _ _ _::_) _ _;refine wpList_store_mid rfl 58 (.tmp 9) (.tmp 34) rfl w7.heap.size 0 (tg.cells).toArray rfl rfl (by rw [hZ8.out];exact HT8.out) (by rw [List.size_toArray];exact HIg) HCg ?_) | (guard_target=wpList _ _ _ (Oper.mk (some 36) _ _ _ _ _::_) _ _;refine wpList_load_mid rfl 58 (.tmp 9) rfl w7.heap.size 0 rfl (tg.cells) _ (by rw [hZ8.out,hS8.out];exact G8) Tryz.underlying58 rfl HIg ?_) | (guard_target=wpList _ _ _ (Oper.mk (some 37) _ _ _ _ _::_) _ _;refine wpList_load_mid rfl 58 (.tmp 6) rfl w3.heap.size 0 rfl (tw.cells) _ (by rw [hZ8.out,hS8.out];exact G6) Tryz.underlying58 rfl HIw ?_) | fail)
 rw [hZ8.out,hS8.out]
 refine C.mono ?_
 clear C G8 G6 hZ8 hS8 HT8
 rintro e w9 ⟨rfl,hb⟩
 have B9:Below W.heap.size W w9:=B8.trans (hb.mono B8.size)
 have z9:=hb.size
 replace ow:=ow.below hb
 replace oq:=oq.below hb
 replace og:=og.below hb
 replace b6:=b6.below hb b6.lt
 replace b7:=b7.below hb b7.lt
 replace b8:=b8.below hb b8.lt
 clear hb
 have HQ:Hid (q.v=p.v):=hqm.out
 have hu1:=Tryz.underlying40
 have hu2:=Tryz.underlying58
 have HB7:Hid (∀ u,Below w9.heap.size w9 u→u.rangeAt w5.heap.size 0 q.cells∧q.reads u):=fun u hu=>⟨HRNG.out _ _ _ (b7.below hu b7.lt),(oq.below hu).reads⟩
 have DD:Below w9.heap.size w9 w9.drew:=(Below.refl _ _).drew
 go_wp2_with fail
 refine wp_region_held_drew (S:=fun w'=>w'.rangeAt w.heap.size 0 p.cells∧w'.rangeAt w5.heap.size 0 q.cells) (by kernel_rfl) ?_ (fun hHeld=>?_)
 ·exact ⟨HRG.out _ B9.drew,(HB7.out _ DD).1⟩
 refine tk 0 rfl (yieldsIf_load_mid (by rfl) _ _ rfl _ _ rfl q.cells _ (fun _ h=>h.2) hu2 rfl HIq) hHeld ?_
 refine tk 1 rfl (yieldsIf_load_mid (by rfl) _ _ rfl _ _ rfl p.cells _ (fun _ h=>h.1) hu1 rfl HI) hHeld ?_
 refine wpAnyH_ready (rs:=[2]) (by kernel_rfl) (by simp) ?_
 refine AllReadyH.cons rfl (fun K hK=>?_) AllReadyH.nil
 go_simp
 refine (toEngine_any p sp _ (HRD.out _ B9.drew) hl).mono ?_
 rintro e w10 ⟨vs,rfl,sv,hv8,ho8,hb10⟩
 have C10:Below W.heap.size W w10:=(B9.drew).trans (hb10.mono B9.size)
 have D10:Below w9.heap.size w9 w10:=DD.trans (hb10.mono DD.size)
 refine hK.out _ _ ⟨HRG.out _ C10,(HB7.out _ D10).1⟩ (fun hHeld=>?_)
 clear hK K
 refine wpAnyH_ready (rs:=[3]) (by kernel_rfl) (by simp) ?_
 refine AllReadyH.cons rfl (fun K hK=>?_) AllReadyH.nil
 go_simp
 refine (eqEngine_same q vs sq sv (hv8.out.trans HQ.out.symm) w10 (HB7.out _ D10).2 ho8.reads (EngA.short_wide hqS)).mono ?_
 rintro e w11 ⟨rfl,hb11⟩
 have C11:Below W.heap.size W w11:=C10.trans (hb11.mono C10.size)
 have D11:Below w9.heap.size w9 w11:=D10.trans (hb11.mono D10.size)
 refine hK.out _ _ ⟨HRG.out _ C11,(HB7.out _ D11).1⟩ (fun hHeld=>?_)
 clear hK K
 refine tk 4 (v:=.bool false) rfl (Or.inl ⟨by rfl,?_⟩) hHeld ?_
 ·intro w' _;go_simp
 refine wpAnyH_done (by kernel_rfl) ?_ _
 have z11:=D11.size
 replace ow:=ow.below D11
 replace oq:=oq.below D11
 replace og:=og.below D11
 replace b6:=b6.below D11 b6.lt
 replace b7:=b7.below D11 b7.lt
 replace b8:=b8.below D11 b8.lt
 clear hHeld HB7 D10 D11 C10 hb10 hb11 ho8 hv8 sv hu1 hu2 DD
 have KQ:=EngA.k_short sq hqS
 have KQ0:=EngA.k_pos q
 have G7:=HRNG.out _ _ _ b7
 have C:=markEngine_touch q sq w4.heap.size w5.heap.size 1 w11 oq (EngA.short_wide hqS) (by omega) KQ (by omega)
 have hqb:=oq.blocks_lt
 go_wp2_with (first | (guard_target=wpList _ _ _ (Oper.mk (some 50) _ _ _ _ _::_) _ _;refine wpList_load_mid rfl 58 (.tmp 8) rfl w5.heap.size 0 rfl (q.cells) _ (G7) Tryz.underlying58 rfl HIq ?_) | fail)
 refine C.mono ?_
 clear C G7
 rintro e w12 ⟨rfl,_,t12⟩
 have B12:Below W.heap.size W w12:=C11.trans (touch_belowL t12 (fun k hk=>by have:=hqb k hk;have:=B4.size;omega) C11.size)
 have z12:=t12.size
 replace ow:=ow.touch t12 (fun k hk hm=>by have:=ow.blocks_lt k hk;have:=hqb k hm;omega)
 have hgb:=og.blocks_lt
 replace og:=og.touch t12 (fun k hk hm=>by have:=hgb k hk;have:=hqb k hm;omega)
 replace b6:=b6.touch t12 (fun hm=>by have:=hqb _ hm;omega)
 replace b8:=b8.touch t12 (fun hm=>by have:=hqb _ hm;omega)
 clear oq b7 t12 hqb
 have hKn:¬ q.kE 1<0:=by omega
 have G8:=HRNG.out _ _ _ b8
 have G6:=HRNG.out _ _ _ b6
 have C:=eqEngine_same tg tw sg sw HGW.out w12 og.reads ow.reads (EngA.short_wide hgS)
 go_wp2_with (first | (guard_target=wpList _ _ _ (Oper.mk (some 56) _ _ _ _ _::_) _ _;refine wpList_load_mid_if (by rfl) 58 (.tmp 9) rfl w7.heap.size 0 rfl (tg.cells) _ (G8) Tryz.underlying58 rfl HIg ?_) | (guard_target=wpList _ _ _ (Oper.mk (some 57) _ _ _ _ _::_) _ _;refine wpList_load_mid_if (by rfl) 58 (.tmp 6) rfl w3.heap.size 0 rfl (tw.cells) _ (G6) Tryz.underlying58 rfl HIw ?_) | fail)
 refine C.mono ?_
 clear C G8 G6
 rintro e w13 ⟨rfl,hb⟩
 have B13:Below W.heap.size W w13:=B12.trans (hb.mono B12.size)
 have z13:=hb.size
 replace ow:=ow.below hb
 replace og:=og.below hb
 replace b6:=b6.below hb b6.lt
 replace b8:=b8.below hb b8.lt
 clear hb
 have KG:=EngA.k_short sg hgS
 have KG0:=EngA.k_pos tg
 have G8:=HRNG.out _ _ _ b8
 have C:=markEngine_touch tg sg w6.heap.size w7.heap.size 1 w13 og (EngA.short_wide hgS) (by omega) KG (by omega)
 go_wp2_with (first | (guard_target=wpList _ _ _ (Oper.mk (some 66) _ _ _ _ _::_) _ _;refine wpList_load_mid rfl 58 (.tmp 9) rfl w7.heap.size 0 rfl (tg.cells) _ (G8) Tryz.underlying58 rfl HIg ?_) | fail)
 refine C.mono ?_
 clear C G8 hKn
 rintro e w14 ⟨rfl,mg,t14⟩
 have B14:Below W.heap.size W w14:=B13.trans (touch_belowL t14 (fun k hk=>by have:=hgb k hk;have:=B6.size;omega) B13.size)
 have z14:=t14.size
 replace ow:=ow.touch t14 (fun k hk hm=>by have:=ow.blocks_lt k hk;have:=hgb k hm;omega)
 replace b6:=b6.touch t14 (fun hm=>by have:=hgb _ hm;omega)
 replace b8:=b8.touch t14 (fun hm=>by have:=hgb _ hm;omega)
 clear og t14 hgb
 have G8:=HRNG.out _ _ _ b8
 have C:=heldEngine_any tg sg w6.heap.size w7.heap.size 1 w14 mg (EngA.short_wide hgS) (by omega) KG
 go_wp2_with (first | (guard_target=wpList _ _ _ (Oper.mk (some 69) _ _ _ _ _::_) _ _;refine wpList_load_mid rfl 58 (.tmp 9) rfl w7.heap.size 0 rfl (tg.cells) _ (G8) Tryz.underlying58 rfl HIg ?_) | fail)
 refine C.mono ?_
 clear C G8
 rintro e w15 ⟨rfl,hb⟩
 have B15:Below W.heap.size W w15:=B14.trans (hb.mono B14.size)
 have z15:=hb.size
 replace ow:=ow.below hb
 replace mg:=mg.below hb
 replace b6:=b6.below hb b6.lt
 replace b8:=b8.below hb b8.lt
 clear hb
 have hKn:¬ tg.kE 1<0:=by omega
 have C:=toEngine_any p sp w15 (HRD.out _ B15) hl
 have R15:w15.rangeAt w.heap.size 0 p.cells:=HRG.out _ B15
 go_wp2_with (first | (guard_target=wpList _ _ _ (Oper.mk (some 78) _ _ _ _ _::_) _ _;refine wpList_load_mid rfl 40 (.tmp 2) rfl w.heap.size 0 rfl (p.cells) _ (R15) Tryz.underlying40 rfl HI ?_) | fail)
 refine C.mono ?_
 clear C R15
 rintro e w16 ⟨us,rfl,su,hvu,ou,hb⟩
 have B16:Below W.heap.size W w16:=B15.trans (hb.mono B15.size)
 replace ow:=ow.below hb
 replace mg:=mg.below hb
 replace b6:=b6.below hb b6.lt
 replace b8:=b8.below hb b8.lt
 clear hb
 have C:=implCommit_any us tx su w16 (HG.out _ B16) ou.reads (EngA.short_of hvu.out hl) ou.caps
 rw [hvu.out] at C
 go_wp2_with fail
 refine C.mono ?_
 clear C hvu ou
 rintro e w17 ⟨th,rfl,sh,hvh,oh,hb⟩
 have B17:Below W.heap.size W w17:=B16.trans (hb.mono B16.size)
 replace ow:=ow.below hb
 replace mg:=mg.below hb
 replace b6:=b6.below hb b6.lt
 replace b8:=b8.below hb b8.lt
 clear hb
 have hhS:=commitA_short hvh.out hl
 have HHW:Hid (tw.v=th.v):=hvw.out.trans hvh.out.symm
 obtain ⟨Z18,hZ18,bZ,hbZ,hsZ⟩:=boxes1 w17 Z.cells 58
 obtain ⟨w18,hS18,hwZ,hzZ,HT18,b12⟩:=eng_out sh sZ bZ
 have hb18:Below w17.heap.size w17 w18:=hbZ.trans (hwZ.below (Nat.le_refl _) (by omega))
 have B18:Below W.heap.size W w18:=B17.trans (hb18.mono B17.size)
 replace ow:=ow.below hb18
 replace mg:=mg.below hb18
 replace oh:=oh.below hb18
 replace b6:=b6.below hb18 b6.lt
 replace b8:=b8.below hb18 b8.lt
 have HIh:=eng_info sh
 have HCh:=all_oneCell_toArray (oneE th)
 clear bZ hbZ hsZ hwZ hzZ hb18
 have G12:=HRNG.out _ _ _ b12
 have G6:=HRNG.out _ _ _ b6
 have C:=eqEngine_same th tw sh sw HHW.out w18 oh.reads ow.reads (EngA.short_wide hhS)
 go_wp2_with (first | (guard_target=wpList _ _ _ (Oper.mk (some 14) (Op.alloc _) _ _ _ _::_) _ _;refine alloc_of 58 Z.cells HZ ?_) | (guard_target=wpList _ _ _ (Oper.mk none (Op.store _ (Operand.tmp 14) _) _ _ _ _::_) _ _;refine wpList_store_mid rfl 58 (.tmp 14) (.tmp 82) rfl w17.heap.size 0 (th.cells).toArray rfl rfl (by rw [hZ18.out];exact HT18.out) (by rw [List.size_toArray];exact HIh) HCh ?_) | (guard_target=wpList _ _ _ (Oper.mk (some 84) _ _ _ _ _::_) _ _;refine wpList_load_mid rfl 58 (.tmp 14) rfl w17.heap.size 0 rfl (th.cells) _ (by rw [hZ18.out,hS18.out];exact G12) Tryz.underlying58 rfl HIh ?_) | (guard_target=wpList _ _ _ (Oper.mk (some 85) _ _ _ _ _::_) _ _;refine wpList_load_mid rfl 58 (.tmp 6) rfl w3.heap.size 0 rfl (tw.cells) _ (by rw [hZ18.out,hS18.out];exact G6) Tryz.underlying58 rfl HIw ?_) | fail)
 rw [hZ18.out,hS18.out]
 refine C.mono ?_
 clear C G12 G6 hZ18 hS18 HT18
 rintro e w19 ⟨rfl,hb⟩
 have B19:Below W.heap.size W w19:=B18.trans (hb.mono B18.size)
 replace mg:=mg.below hb
 replace b8:=b8.below hb b8.lt
 clear hb
 have G8:=HRNG.out _ _ _ b8
 have C:=heldEngine_any tg sg w6.heap.size w7.heap.size 1 w19 mg (EngA.short_wide hgS) (by omega) KG
 go_wp2_with (first | (guard_target=wpList _ _ _ (Oper.mk (some 93) _ _ _ _ _::_) _ _;refine wpList_load_mid rfl 58 (.tmp 9) rfl w7.heap.size 0 rfl (tg.cells) _ (G8) Tryz.underlying58 rfl HIg ?_) | fail)
 refine C.mono ?_
 clear C G8
 rintro e w20 ⟨rfl,hb⟩
 have HE:Hid (Below w.heap.size w w20):=HEND.out _ (B19.trans (hb.mono B19.size))
 clear hb
 go_wp2
 go_ret
 exact ⟨rfl,HE.out⟩
end Go.Proofs.YtfehemepdoomdaaGreatDoor
namespace Go.Proofs.YtfehemepdoomdaaGreatDoor
open Go.ChangeShapes Go.WideShapes Go.RowKit
theorem Tryz.et : Tryz.prog.globalNamed "errors.errorType" = some 0 := by kernel_rfl
theorem Tryz.rt : (Tryz.prog.cutTypes.find? (·.1 == "internal/reflectlite.rtype")).map (·.2) = some 263 := by kernel_rfl
theorem Tryz.oneRow:((List.range 304).filter fun t=>Tryz.prog.rowNamed t [101,114,114,111,114])=[238]:=by kernel_rfl
theorem Tryz.typesSize:Tryz.prog.types.size=304:=by kernel_rfl
theorem errT_of_handles {W : World} {laid : List (String × DataW Unit)} (hm : ("errors.errorType", Rows.laid_errors_errorType) ∈ laid) (h : handlesMet Tryz.prog laid W) : ErrT W := by
 obtain ⟨name,u,ty,e1,e2,e3,e4,e5⟩:=h _ hm
 have en:name=[101,114,114,111,114]:=(Option.some.inj e1).symm
 subst en
 obtain rfl:=Option.some.inj (Tryz.rt.symm.trans e2)
 have hm:ty∈(List.range 304).filter fun t=>Tryz.prog.rowNamed t [101,114,114,111,114]:=List.mem_filter.2 ⟨List.mem_range.2 (by rw [← Tryz.typesSize];exact e3),e4⟩
 rw [Tryz.oneRow] at hm
 obtain rfl:=List.mem_singleton.1 hm
 have hh:typeHandle Tryz.prog 238=.pointer (some ⟨1,238,none⟩):=by kernel_rfl
 rw [hh] at e5
 unfold ErrT
 simpa using World.var?_cell Tryz.et e5 0
def laid1 : List (String × DataW Unit) := [("errors.errorType", Rows.laid_errors_errorType)]
theorem errT_of_laid1 {W:World} (h:laidMetH Tryz.prog laid1 W):ErrT W:=by
 have h':laidMet Tryz.prog [] W∧handlesMet Tryz.prog laid1 W:=h
 exact errT_of_handles (List.mem_singleton.2 rfl) h'.2
end Go.Proofs.YtfehemepdoomdaaGreatDoor