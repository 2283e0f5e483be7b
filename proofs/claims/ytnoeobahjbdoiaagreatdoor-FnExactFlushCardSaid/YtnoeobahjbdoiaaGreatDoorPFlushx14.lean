/- Several texts in one, in their order. -/
import Derived.Test.YtnoeobahjbdoiaaGreatDoorPFlushx11
import Derived.Test.YtnoeobahjbdoiaaGreatDoorPFlushx13
import Derived.Test.YtnoeobahjbdoiaaGreatDoorPFlushx8
import Derived.Test.YtnoeobahjbdoiaaGreatDoorPFlushx4
import Derived.Deep.Cut
import Derived.Test.YtnoeobahjbdoiaaGreatDoorPFlushx12
import Derived.Test.YtnoeobahjbdoiaaGreatDoorPFlushx5
import Derived.Test.YtnoeobahjbdoiaaGreatDoorShelf
import Derived.Test.YtnoeobahjbdoiaaGreatDoorPFlushx9
import Derived.Test.YtnoeobahjbdoiaaGreatDoorPFlushx1
set_option maxHeartbeats 8000000
set_option maxRecDepth 100000
namespace Go.Proofs.YtnoeobahjbdoiaaGreatDoor
open Go.RowKit
structure EngA.caps (e:EngA):Prop where
 txs:e.aT=none→e.cT=0
 holds:e.aH=none→e.cH=0
 recs:∀ r∈e.log.recs,r.aL=none→r.cL=0
theorem copyEngine_any (e:EngA) (se:e.shape) (w:World) (re:e.reads w) (hl:e.short 1048576) (hc:e.caps):
  Calls Tryz.prog 50 #[.agg e.cells.toArray] w fun r w'=>∃ t:EngA,r=.returned (.agg t.cells.toArray)∧t.shape∧Hid (t.v=e.v)∧t.own w' w.heap.size w'.heap.size∧Below w.heap.size w w':=by
 obtain ⟨Z,hZ⟩:∃ Z,Hid (zeroE=Z):=⟨_,rfl⟩
 have sZ:Z.shape:=by rw [← hZ.out];exact zeroE_shape
 have HZ:=Tryz.zeroEng
 rw [hZ.out] at HZ
 obtain ⟨W,hW,b1,b2,hbW,hsW⟩:=boxes2 w e.cells Z.cells 59 59
 have hs0:w.heap.size+1<W.heap.size:=by omega
 have HE:Hid (∀ u,Below w.heap.size w u→e.reads u):=fun u hu=>re.below hu
 have hix0:=run_index_page e.disk se.disk8
 have HIX:Hid (_):=hix0
 clear hix0
 have HFD:Hid (∀ p∈e.disk,Fit p.ss):=fun p hp s hs=>by have:=hl.disk p hp s hs;omega
 have hid:=disk8_info se.disk8
 have HD8:Hid (e.disk.length=8):=se.eight
 have p0:=(eng_parts se b1).1
 go_enter Tryz.func50,Tryz.ntmps50
 go_wp2_with (first | (guard_target=wpList _ _ _ (Oper.mk _ (Op.alloc _) _ _ _ _::_) _ _;refine alloc_of 59 Z.cells HZ ?_) | (guard_target=wpList _ _ _ (Oper.mk (some 6) _ _ _ _ _::_) _ _;refine wpList_load_mid rfl 49 (.tmp 5) rfl w.heap.size 0 rfl (cellsPs e.disk) _ (by rw [hW.out];exact p0) Tryz.underlying49 rfl hid ?_) | fail)
 rw [hW.out]
 clear hW p0 hid hsW
 have b1':Box W w.heap.size (cellsPs ([]++e.disk.drop 0)++e.tail) 59:=b1
 clear b1
 go_loopw [7] (fun i wr=>∃ (k:Nat) (ts:List PageA),k≤8∧i=.int .i64 (k:Int)∧Hid (ts.length=k∧(∀ p∈ts,p.ss.length=4)∧ts.map pgv=(e.disk.take k).map pgv)∧OwnS wr W.heap.size wr.heap.size (slots8 ts)∧Box wr w.heap.size (cellsPs (ts++e.disk.drop k)++e.tail) 59∧Box wr (w.heap.size+1) Z.cells 59∧Below w.heap.size w wr∧W.heap.size≤wr.heap.size) (fun i _=>8-(intOf i).toNat)
 case atStart=>exact ⟨0,[],Nat.zero_le _,rfl,⟨rfl,fun p hp=>by (simp at hp),rfl⟩,OwnS.nil _ _ _,b1',b2,hbW,Nat.le_refl _⟩
 case round=>
  obtain ⟨k,ts,hk,rfl,hts,hown,c1,c2,hnx,hsr⟩:=hrel
  clear b1' b2
  by_cases hlt:k<8
  ·have hkl:k<e.disk.length:=by rw [HD8.out];exact hlt
   have HP4:=se.disk8.at hlt
   have F1:=HFD.out _ (pageD_mem (k:=k) hkl)
   have R1:=(HE.out _ hnx).disk _ (pageD_mem (k:=k) hkl)
   have HTK:Hid ((e.disk.take (k+1)).map pgv=(e.disk.take k).map pgv++[pgv (e.disk.getD k zeroP)]):=by rw [Hid,List.take_succ_eq_append_getElem hkl,pageD_eq hkl,List.map_append];rfl
   have HDR:e.disk.drop k=e.disk.getD k zeroP::e.disk.drop (k+1):=by rw [← pageD_eq hkl];exact List.drop_eq_getElem_cons hkl
   have hix:=HIX.out k hlt
   rw [HDR] at c1
   clear HDR
   generalize e.disk.getD k zeroP=p at*
   have HIp:=page_infoP p HP4
   have HOp:=all_oneCell_toArray (oneP p)
   obtain ⟨ZV,hZV,bZ,hbZ,hsZ⟩:=boxes1 wr [.int .i64 0,.bool false,.int .i64 0,.slice none 0 0,.slice none 0 0,.bool false,.int .i64 0,.slice none 0 0,.slice none 0 0,.bool false,.int .i64 0,.slice none 0 0,.slice none 0 0,.bool false,.int .i64 0,.slice none 0 0,.slice none 0 0] 48
   obtain ⟨V,hV,hwS,hsS,HT,_,bS⟩:=page_out (C:=wr.heap.size) (T:=48) p HP4 _ rfl bZ Tryz.underlying48 rfl (by kernel_rfl)
   have nb:Below wr.heap.size wr V:=hbZ.trans (hwS.below (Nat.le_refl _) (by omega))
   have rS:V.rangeAt wr.heap.size 0 p.cells:=Box.range [] p.cells [] (by simpa using bS)
   have EV:Hid (ZV.setCells wr.heap.size 0 p.cells.toArray.toList=V):=hV.out
   have C1:=copyPage_own p HP4 V (R1.below nb) F1
   have hlV:=bS.lt
   have sV:=nb.size
   have hi0:(0:Int)≤(k:Int):=by omega
   have hi8:(k:Int)<8:=by omega
   clear bZ hbZ hsZ hwS hsS hV bS R1
   go_wp2_with (first | (guard_target=wpList _ _ _ (Oper.mk none (Op.store _ (Operand.tmp 4) _) _ _ _ _::_) _ _;refine wpList_store_mid rfl 48 (.tmp 4) (.tmp 10) rfl wr.heap.size 0 p.cells.toArray rfl rfl (by rw [hZV.out];exact HT.out) (by rw [List.size_toArray];exact HIp) HOp ?_) | (guard_target=wpList _ _ _ (Oper.mk (some 12) _ _ _ _ _::_) _ _;refine wpList_load_mid rfl 48 (.tmp 4) rfl wr.heap.size 0 rfl (p.cells) _ (by rw [hZV.out,EV.out];exact rS) Tryz.underlying48 rfl HIp ?_) | fail)
   rw [hZV.out,EV.out]
   clear hZV EV HT rS hix
   refine C1.mono ?_
   clear C1
   rintro r w1 ⟨us,rfl,hv,ho1,hb1⟩
   have hu4:us.length=4:=by have:=congrArg List.length hv.out;simp only [List.length_map] at this;omega
   have s1:=hb1.size
   obtain ⟨q,hq⟩:∃ q:PageA,Hid ((⟨p.lsn,us⟩:PageA)=q):=⟨_,rfl⟩
   have hq4:q.ss.length=4:=by rw [← hq.out];exact hu4
   have oq:OwnS w1 V.heap.size w1.heap.size q.ss:=by rw [← hq.out];exact ho1
   have HQV:Hid (pgv q=pgv p):=by rw [Hid,← hq.out];simp only [pgv];rw [hv.out]
   rw [hq.out]
   clear hq hv ho1 hu4
   have nb1:Below wr.heap.size wr w1:=nb.trans (hb1.mono nb.size)
   replace c1:=c1.below nb1 c1.lt
   replace c2:=c2.below nb1 c2.lt
   have hown1:=hown.below nb1
   replace hnx:=hnx.trans (nb1.mono hnx.size)
   rw [cellsPs_app,cellsPs_cons,List.append_assoc,List.append_assoc] at c1
   obtain ⟨W2,hW2,d3,hw2,hs2⟩:=range_fill (cellsPs ts) p.cells q.cells (cellsPs (e.disk.drop (k+1))++e.tail) c1 (by rw [page_len q hq4,page_len p HP4])
   have hl3:(cellsPs ts).length=k*17:=by rw [cellsPs_len _ hts.out.2.1,hts.out.1]
   rw [hl3] at hW2
   have HTH:Hid (w1.there w.heap.size (k*17) q.cells.toArray.size):=c1.there _ _ (by rw [List.size_toArray,page_len q hq4,List.length_append,List.length_append,hl3,page_len p HP4];omega)
   have s2:=hw2.size
   have d3':Box W2 w.heap.size (cellsPs ((ts++[q])++e.disk.drop (k+1))++e.tail) 59:=by
    rw [List.append_assoc,cellsPs_app,List.singleton_append,cellsPs_cons,List.append_assoc,List.append_assoc];exact d3
   have c2':=c2.within hw2 (by omega)
   have HOW:Hid (OwnS W2 W.heap.size W2.heap.size (slots8 (ts++[q]))):=by
    rw [Hid,slots8_app,slots8_cons]
    have o:=((hown1.widen (Nat.le_refl _) sV (by omega)).snocs oq (by omega) (by omega) (Nat.le_refl _))
    simpa [slots8] using (o.within hw2 (.inr (by omega))).widen (Nat.le_refl _) s2 (Nat.le_refl _)
   have HTS:Hid ((ts++[q]).length=k+1∧(∀ p∈ts++[q],p.ss.length=4)∧(ts++[q]).map pgv=(e.disk.take (k+1)).map pgv):=by
    refine ⟨by rw [List.length_append,hts.out.1];rfl,fun x hx=>?_,?_⟩
    ·rcases List.mem_append.1 hx with h | h
     ·exact hts.out.2.1 x h
     ·rw [List.mem_singleton.1 h];exact hq4
    ·rw [HTK.out,List.map_append,hts.out.2.2,← HQV.out];rfl
   have HN:Hid (Below w.heap.size w W2∧W.heap.size≤W2.heap.size):=⟨hnx.trans (hw2.below (Nat.le_refl _) (by omega)),by omega⟩
   have HIq:Hid ((Tryz.prog.info? 48).map (·.size)=some q.cells.toArray.size):=page_infoP q hq4
   have HOq:=all_oneCell_toArray (oneP q)
   have HW2:Hid (w1.setCells w.heap.size (k*17) q.cells.toArray.toList=W2):=hW2.out
   clear c1 c2 d3 hown hown1 oq hw2 hs2 hW2 hnx hts HTK HQV hl3 hb1 nb nb1
   go_wp2_with (first | (guard_target=wpList _ _ _ (Oper.mk none (Op.store _ (Operand.tmp 15) _) _ _ _ _::_) _ _;refine wpList_store_mid rfl 48 (.tmp 15) (.tmp 13) rfl w.heap.size (k*17) (q.cells).toArray rfl rfl HTH.out HIq.out HOq ?_) | fail)
   rw [HW2.out]
   go_roundw
   case rel=>exact ⟨k+1,ts++[q],by omega,by go_num,HTS,HOW.out,d3',c2',HN.out.1,HN.out.2⟩
   case measure=>simp [intOf];omega
  ·obtain rfl:k=8:=by omega
   have hkk:¬ ((8:Nat):Int)<8:=by omega
   have ht8:Disk8 ts:=⟨hts.out.1,hts.out.2.1⟩
   have hvd:Hid (ts.map pgv=e.disk.map pgv):=by rw [Hid,hts.out.2.2,← HD8.out,List.take_length]
   have b1:Box wr w.heap.size (cellsPs ts++[.slice e.aS e.seats.length e.cS,.int .i64 e.hand,.slice e.log.a e.log.recs.length e.log.c,.int .i64 e.log.sure,.slice e.aT e.txs.length e.cT,.slice e.aH e.holds.length e.cH,.int .i64 e.next,.bool e.down]) 59:=by
    have e0:e.disk.drop 8=[]:=List.drop_eq_nil_of_le (by rw [HD8.out];exact Nat.le_refl _)
    rw [e0,List.append_nil] at c1
    exact c1
   have HA:Hid ((cellsPs ts).length=136):=by rw [Hid,cellsPs_len _ ht8.four,ht8.eight]
   have b2:=c2
   have N:=hnx
   have od:=hown
   clear c1 c2 hnx hown hts
   have p1:wr.rangeAt w.heap.size 136 e.poolA.cells:=by
    have:=Box.range (cellsPs ts) e.poolA.cells [.slice e.log.a e.log.recs.length e.log.c,.int .i64 e.log.sure,.slice e.aT e.txs.length e.cT,.slice e.aH e.holds.length e.cH,.int .i64 e.next,.bool e.down] b1
    rwa [HA.out] at this
   have C:=copyPool_any e.poolA wr (HE.out _ N).pool hl.pool
   go_wp2_with (first | (guard_target=wpList _ _ _ (Oper.mk (some 18) _ _ _ _ _::_) _ _;refine wpList_load_mid rfl 52 (.tmp 17) rfl w.heap.size 136 rfl (e.poolA.cells) _ p1 Tryz.underlying52 rfl (pool_info _) ?_) | fail)
   refine C.mono ?_
   clear C p1
   rintro r w3 ⟨q,rfl,hvp,op,hb⟩
   have s3:=hb.size
   replace b1:=b1.below hb b1.lt
   replace b2:=b2.below hb b2.lt
   replace N:=N.trans (hb.mono N.size)
   replace od:=od.below hb
   clear hb
   obtain ⟨w4,h4,c3,hw,hs⟩:=range_fill (cellsPs ts) e.poolA.cells q.cells [.slice e.log.a e.log.recs.length e.log.c,.int .i64 e.log.sure,.slice e.aT e.txs.length e.cT,.slice e.aH e.holds.length e.cH,.int .i64 e.next,.bool e.down] b1 rfl
   rw [HA.out] at h4
   have HT:Hid (w3.there w.heap.size 136 q.cells.toArray.size):=b1.there _ _ (by rw [List.length_append,HA.out];show 136+2≤_;simp)
   have sy4:=hw.size
   replace b2:=b2.within hw (by omega)
   replace N:=N.trans (hw.below (Nat.le_refl _) (by have:=N.size;omega))
   replace od:=od.within hw (.inr (by omega))
   replace op:=op.within hw (.inr (by omega))
   clear hw hs b1
   have E4:Hid (w3.setCells w.heap.size 136 q.cells.toArray.toList=w4):=h4.out
   have b1:Box w4 w.heap.size ((cellsPs ts++q.cells)++[.slice e.log.a e.log.recs.length e.log.c,.int .i64 e.log.sure,.slice e.aT e.txs.length e.cT,.slice e.aH e.holds.length e.cH,.int .i64 e.next,.bool e.down]) 59:=by rw [List.append_assoc];exact c3
   clear c3 h4
   have HA2:Hid ((cellsPs ts++q.cells).length=138):=by rw [Hid,List.length_append,HA.out];rfl
   have p2:w4.rangeAt w.heap.size 138 e.log.cells:=by
    have:=Box.range (cellsPs ts++q.cells) e.log.cells [.slice e.aT e.txs.length e.cT,.slice e.aH e.holds.length e.cH,.int .i64 e.next,.bool e.down] b1
    rwa [HA2.out] at this
   have C:=copyLog_any e.log w4 (HE.out _ N).log hl.log hc.recs
   go_wp2_with (first | (guard_target=wpList _ _ _ (Oper.mk none (Op.store _ (Operand.tmp 20) _) _ _ _ _::_) _ _;refine wpList_store_mid rfl 52 (.tmp 20) (.tmp 19) rfl w.heap.size 136 (q.cells).toArray rfl rfl HT.out (pool_info _) (all_oneCell_toArray (onePool q)) ?_) | (guard_target=wpList _ _ _ (Oper.mk (some 22) _ _ _ _ _::_) _ _;refine wpList_load_mid rfl 55 (.tmp 21) rfl w.heap.size 138 rfl (e.log.cells) _ (by rw [E4.out];exact p2) Tryz.underlying55 rfl (log_info _) ?_) | fail)
   rw [E4.out]
   refine C.mono ?_
   clear C p2 E4 HT
   rintro r w5 ⟨l,rfl,hvl,ol,hb⟩
   have s5:=hb.size
   replace b1:=b1.below hb b1.lt
   replace b2:=b2.below hb b2.lt
   replace N:=N.trans (hb.mono N.size)
   replace od:=od.below hb
   replace op:=op.below hb
   clear hb
   obtain ⟨w6,h6,c3,hw,hs⟩:=range_fill (cellsPs ts++q.cells) e.log.cells l.cells [.slice e.aT e.txs.length e.cT,.slice e.aH e.holds.length e.cH,.int .i64 e.next,.bool e.down] b1 rfl
   rw [HA2.out] at h6
   have HT:Hid (w5.there w.heap.size 138 l.cells.toArray.size):=b1.there _ _ (by rw [List.length_append,HA2.out];show 138+2≤_;simp)
   have sy6:=hw.size
   replace b2:=b2.within hw (by omega)
   replace N:=N.trans (hw.below (Nat.le_refl _) (by have:=N.size;omega))
   replace od:=od.within hw (.inr (by omega))
   replace op:=op.within hw (.inr (by omega))
   replace ol:=ol.within hw (.inr (by omega))
   clear hw hs b1
   have E6:Hid (w5.setCells w.heap.size 138 l.cells.toArray.toList=w6):=h6.out
   have b1:Box w6 w.heap.size (cellsPs ts++[.slice q.a q.seats.length q.c,.int .i64 q.hand,.slice l.a l.recs.length l.c,.int .i64 l.sure,.slice e.aT e.txs.length e.cT,.slice e.aH e.holds.length e.cH,.int .i64 e.next,.bool e.down]) 59:=by rw [List.append_assoc] at c3;exact c3
   clear c3 h6
   go_upto_region 8 with (first | (guard_target=wpList _ _ _ (Oper.mk none (Op.store _ (Operand.tmp 24) _) _ _ _ _::_) _ _;refine wpList_store_mid rfl 55 (.tmp 24) (.tmp 23) rfl w.heap.size 138 (l.cells).toArray rfl rfl HT.out (log_info _) (all_oneCell_toArray (oneLog l)) ?_) | fail)
   rw [E6.out]
   clear E6 HT
   have HX:Hid (∀ u,Below w6.heap.size w6 u→u.cell? ⟨w.heap.size,140,none⟩=some (.slice e.aT e.txs.length e.cT)∧u.frozen? ⟨w.heap.size,140,none⟩=false):=fun u hu=>by
    have bu:=b1.below hu b1.lt
    exact ⟨bu.cell 140 (.slice e.aT e.txs.length e.cT) (by rw [List.getElem?_append_right (by rw [HA.out];omega),HA.out];rfl),bu.frozen 140⟩
   obtain ⟨x0,f0⟩:=HX.out _ (Below.refl _ _)
   have HRD:=(HE.out _ N).txs
   have HLN:([]:List LiveV).length+e.txs.length≤1099511627776:=by have:=hl.txs;simp only [List.length_nil];omega
   go_upto_region 9 with (first | (guard_target=wpList _ _ _ (Oper.mk (some 27) _ _ _ _ _::_) _ _;refine append_lives rfl (.const (.slice none 0 0)) (.tmp 26) rfl w6.heap.size w6.heap.size none 0 [] rfl (ownL_nil _ _ _ (Nat.le_refl _)) e.aT e.cT e.txs rfl HRD hc.txs HLN (Nat.le_refl _) ?_;intro a7 c7 y7 w7 hy7 ot g7;have hb7:Below w6.heap.size w6 w7:=(Below.refl _ _).grown g7 (Nat.le_refl _) (fun j hj=>by cases hj);obtain ⟨x7,f7⟩:=HX.out _ hb7) | fail)
   have hyy:y7=e.txs:=hy7.out
   subst hyy
   have s7:=hb7.size
   replace b1:=b1.below hb7 b1.lt
   replace b2:=b2.below hb7 b2.lt
   replace N:=N.trans (hb7.mono N.size)
   replace od:=od.below hb7
   replace op:=op.below hb7
   replace ol:=ol.below hb7
   clear x0 f0 x7 f7 HRD HLN g7 hy7 hb7 HX
   obtain ⟨w8,hw8,c3,hw,hs⟩:=tail_fill b1 HA.out 4 (.slice a7 e.txs.length c7)
   rw [show w.heap.size=w.heap.size from rfl,hw8.out]
   have syw8:=hw.size
   replace b2:=b2.within hw (by omega)
   replace N:=N.trans (hw.below (Nat.le_refl _) (by have:=N.size;omega))
   replace od:=od.within hw (.inr (by omega))
   replace op:=op.within hw (.inr (by omega))
   replace ol:=ol.within hw (.inr (by omega))
   replace ot:=ot.within hw (.inr (by omega))
   clear hw hs hw8 b1
   have b1:Box w8 w.heap.size (cellsPs ts++[.slice q.a q.seats.length q.c,.int .i64 q.hand,.slice l.a l.recs.length l.c,.int .i64 l.sure,.slice a7 e.txs.length c7,.slice e.aH e.holds.length e.cH,.int .i64 e.next,.bool e.down]) 59:=c3
   clear c3
   have HX:Hid (∀ u,Below w8.heap.size w8 u→u.cell? ⟨w.heap.size,141,none⟩=some (.slice e.aH e.holds.length e.cH)∧u.frozen? ⟨w.heap.size,141,none⟩=false):=fun u hu=>by
    have bu:=b1.below hu b1.lt
    exact ⟨bu.cell 141 (.slice e.aH e.holds.length e.cH) (by rw [List.getElem?_append_right (by rw [HA.out];omega),HA.out];rfl),bu.frozen 141⟩
   obtain ⟨x0,f0⟩:=HX.out _ (Below.refl _ _)
   have HRD:=(HE.out _ N).holds
   have HLN:([]:List HoldV).length+e.holds.length≤1099511627776:=by have:=hl.holds;simp only [List.length_nil];omega
   go_upto_region 10 with (first | (guard_target=wpList _ _ _ (Oper.mk (some 31) _ _ _ _ _::_) _ _;refine append_holds rfl (.const (.slice none 0 0)) (.tmp 30) rfl w8.heap.size w8.heap.size none 0 [] rfl (ownH_nil _ _ _ (Nat.le_refl _)) e.aH e.cH e.holds rfl HRD hc.holds HLN (Nat.le_refl _) ?_;intro a9 c9 y9 w9 hy9 oh g9;have hb9:Below w8.heap.size w8 w9:=(Below.refl _ _).grown g9 (Nat.le_refl _) (fun j hj=>by cases hj);obtain ⟨x9,f9⟩:=HX.out _ hb9) | fail)
   have hyy:y9=e.holds:=hy9.out
   subst hyy
   have s9:=hb9.size
   replace b1:=b1.below hb9 b1.lt
   replace b2:=b2.below hb9 b2.lt
   replace N:=N.trans (hb9.mono N.size)
   replace od:=od.below hb9
   replace op:=op.below hb9
   replace ol:=ol.below hb9
   replace ot:=ot.below hb9
   clear x0 f0 x9 f9 HRD HLN g9 hy9 hb9 HX
   obtain ⟨w10,hw10,c3,hw,hs⟩:=tail_fill b1 HA.out 5 (.slice a9 e.holds.length c9)
   rw [show w.heap.size=w.heap.size from rfl,hw10.out]
   have syw10:=hw.size
   replace b2:=b2.within hw (by omega)
   replace N:=N.trans (hw.below (Nat.le_refl _) (by have:=N.size;omega))
   replace od:=od.within hw (.inr (by omega))
   replace op:=op.within hw (.inr (by omega))
   replace ol:=ol.within hw (.inr (by omega))
   replace ot:=ot.within hw (.inr (by omega))
   replace oh:=oh.within hw (.inr (by omega))
   clear hw hs hw10 b1
   have b1:Box w10 w.heap.size (cellsPs ts++[.slice q.a q.seats.length q.c,.int .i64 q.hand,.slice l.a l.recs.length l.c,.int .i64 l.sure,.slice a7 e.txs.length c7,.slice a9 e.holds.length c9,.int .i64 e.next,.bool e.down]) 59:=c3
   clear c3
   obtain ⟨T,hT⟩:∃ T:EngA,Hid ((⟨ts,q.seats,q.a,q.c,q.hand,l,e.txs,a7,c7,e.holds,a9,c9,e.next,e.down⟩:EngA)=T):=⟨_,rfl⟩
   have sT:T.shape:=by rw [← hT.out];exact ⟨ht8.eight,ht8.four⟩
   have bT:Box w10 w.heap.size T.cells 59:=by rw [← hT.out];exact b1
   have HV:Hid (T.v=e.v):=by
    rw [Hid,← hT.out]
    have v1:=hvd.out
    have v2:=hvp.out
    have v3:=hvl.out
    simp only [PoolA.v,EngA.poolA,PoolV.mk.injEq] at v2
    simp only [EngA.v,v2.1,v2.2,v3]
    congr 1
   have oT:T.own w10 W.heap.size w10.heap.size:=by
    rw [← hT.out]
    exact eng_own_of (a0:=W.heap.size) (a1:=wr.heap.size) (a2:=w3.heap.size) (a3:=w5.heap.size) (a4:=w7.heap.size) (a5:=w10.heap.size) od op (OwnRs.widen ol (by omega) (Nat.le_refl _) (by omega)) (ot.widen (by omega) (Nat.le_refl _) (by omega)) (oh.widen (by omega) (by omega) (Nat.le_refl _)) (by omega) (by omega) (by omega) (by omega) (by omega) (Nat.le_refl _)
   clear od op ol ot oh b1 hT hvd hvp hvl
   obtain ⟨WF,hWF,hwF,hsF,HTF,bF⟩:=eng_out sT sZ b2
   have HLF':Hid (_=_):=eng_load sT bF
   have rT:w10.rangeAt w.heap.size 0 T.cells:=Box.range [] T.cells [] (by simpa using bT)
   have HEND:Hid (T.own WF w.heap.size WF.heap.size∧Below w.heap.size w WF):=⟨(oT.within hwF (.inr (by omega))).widen (by omega) (by omega) (Nat.le_refl _),N.trans (hwF.below (by omega) (by have:=N.size;omega))⟩
   have HI:=eng_info sT
   have HO:=all_oneCell_toArray (oneE T)
   clear hwF hsF bF oT bT b2
   go_wp2_with (first | (guard_target=wpList _ _ _ (Oper.mk (some 33) _ _ _ _ _::_) _ _;refine wpList_load_mid rfl 59 (.tmp 1) rfl w.heap.size 0 rfl (T.cells) _ rT Tryz.underlying59 rfl HI ?_) | (guard_target=wpList _ _ _ (Oper.mk none (Op.store _ (Operand.tmp 2) _) _ _ _ _::_) _ _;refine wpList_store_mid rfl 59 (.tmp 2) (.tmp 33) rfl (w.heap.size+1) 0 (T.cells).toArray rfl rfl HTF.out (by rw [List.size_toArray];exact HI) HO ?_) | fail)
   rw [hWF.out]
   exact bodyPost_ret (v:=.agg T.cells.toArray) (results_one Tryz.results50 rfl HLF'.out) rfl ⟨T,rfl,sT,HV,HEND.out.1,HEND.out.2⟩
theorem EngA.own.caps {w:World} {lo hi:Nat} {e:EngA} (h:e.own w lo hi):e.caps:=⟨h.txs.nocap,h.holds.nocap,OwnRs.caps h.log⟩
theorem touch_belowL {bl:List Nat} {W w w':World} (h:Touch bl w w') (hd:∀ k∈bl,W.heap.size≤k) (hs:W.heap.size≤w.heap.size):Below W.heap.size w w':=
 ⟨h.os,h.tape,h.output,h.size,fun k hk=>h.block k (by omega) (fun hm=>by have:=hd k hm;omega)⟩
theorem slots8_len {ps:List PageA} (h:∀ p∈ps,p.ss.length=4):(slots8 ps).length=ps.length*4:=by
 induction ps with
 | nil=>rfl
 | cons p r ih=>
  have h1:=ih (fun q hq=>h q (List.mem_cons_of_mem _ hq))
  have h2:=h p List.mem_cons_self
  simp only [slots8,List.flatMap_cons,List.length_append,List.length_cons] at h1 ⊢
  omega
theorem countSt_mid4 {t:PoolA} (h:t.short 1048576):(t.count:Int)≤4194304:=by
 have h2:=h.len
 have e:t.count=4*t.seats.length:=rfl
 rw [e]
 omega
theorem count_mid4 {t:LogA} (h:t.short 1048576):(t.count:Int)≤10995116277760:=by
 have h1:=countRs_bound t.recs 1048576 h.each
 have h2:=h.len
 have h3:t.recs.length*(10+7*1048576)≤1048576*(10+7*1048576):=Nat.mul_le_mul_right _ h2
 have e:t.count=countRs t.recs:=rfl
 rw [e]
 omega
theorem EngA.k_short {e:EngA} (se:e.shape) (h:e.short 1048576):e.kP 1≤10995116277760∧e.kE 1≤1152921504606846976:=by
 have h1:=countS_le (slots8 e.disk) 1048576 (fun s hs=>by
  obtain ⟨p,hp,hs⟩:=List.mem_flatMap.1 hs
  exact h.disk p hp s hs)
 rw [slots8_len se.four,se.eight] at h1
 have h2:=countSt_mid4 h.pool
 have h3:=count_mid4 h.log
 have h4:=h.txs
 have h5:=h.holds
 unfold EngA.kE EngA.kH EngA.kT EngA.kL EngA.kP
 omega
theorem EngA.k_pos (e:EngA):0≤e.kE 1:=by unfold EngA.kE EngA.kH EngA.kT EngA.kL EngA.kP;omega
def encH (x:Int × Int):List Value:=[.int .i64 x.1,.int .i64 x.2]
def pairH (h:HoldV):Int × Int:=(h.tx,h.oid)
def holdP (x:Int × Int):HoldV:=⟨x.1,x.2⟩
theorem holdP_pair (hs:List HoldV):(hs.map pairH).map holdP=hs:=by rw [List.map_map];exact List.map_id'' (fun _=>rfl) hs
def placeC (ms:List ClaimV) (x:Int × Int):Int:=(atC x.2 ms).place
def cfH (ms:List ClaimV) (x y:Int × Int):Int:=placeC ms x-placeC ms y
theorem ltH (ms:List ClaimV) (x y:Int × Int):ltOf (cfH ms) x y=decide (placeC ms x<placeC ms y):=by
 unfold ltOf cfH
 by_cases h:placeC ms x<placeC ms y
 ·rw [decide_eq_true h,decide_eq_true (by omega)]
 ·rw [decide_eq_false h,decide_eq_false (by omega)]
theorem swoH (ms:List ClaimV):Go.Sort.SWO (ltOf (cfH ms)):=
 ⟨fun x=>by rw [ltH];simp,fun x y z h1 h2=>by rw [ltH] at *;simp at *;omega,fun x y z h1 h2=>by rw [ltH] at *;simp at *;omega⟩
theorem cells_flatH (hs:List HoldV):Go.Sort.flatK encH 2 (hs.map pairH).toArray=(cellsH hs).toArray:=by
 apply Array.ext_getElem?
 intro j
 by_cases hj:j<hs.length*2
 ·have hat:=cellsH_at hs (j / 2) (j % 2) (by omega) (Nat.mod_lt _ (by omega))
  rw [show j / 2*2+j % 2=j by omega] at hat
  have hr:(cellsH hs).toArray[j]? =(hs.getD (j / 2) zeroH).cells[j % 2]? :=by rw [← hat];simp
  have hs1:j<(Go.Sort.flatK encH 2 (hs.map pairH).toArray).size:=by simpa using hj
  rw [hr,Array.getElem?_eq_getElem hs1,← getElem!_pos _ j hs1,Go.Sort.get_flatK _ _ _ _ (by simpa using hj)]
  have h2:j / 2<hs.length:=by omega
  have e1:(hs.map pairH).toArray[j / 2]! =pairH (hs.getD (j / 2) zeroH):=by simp [h2,List.getD]
  rw [e1]
  rcases (by omega:j % 2=0∨j % 2=1) with h | h<;>rw [h]<;>rfl
 ·rw [Array.getElem?_eq_none (by simp;omega),Array.getElem?_eq_none (by simp [cellsH_len];omega)]
theorem sortW_block {w:World} {g n:Nat} {os:Array Obj} (d:Array (Int × Int)) (k:Nat) (hk:k<w.heap.size) (hne:k≠g):(sortWorldK encH 2 w g 0 n d os).heap[k]? =w.heap[k]? :=by
 unfold sortWorldK Go.Sort.putRowK
 rw [Go.Sort.heap_grow_old _ _ (by simpa using hk)]
 have:g≠k:=fun e=>hne e.symm
 simp [Go.Sort.putRow,Go.Sort.mapBlock,Go.Sort.ahead,Array.getElem?_modify,this]
theorem sortW_row {w:World} {g n:Nat} {os:Array Obj} {cur:Array Value} {e:TypeId} {fr:Nat × Nat} (d:Array (Int × Int)) (hb:w.heap[g]? =some (.cells cur e fr)):
  (sortWorldK encH 2 w g 0 n d os).heap[g]? =some (.cells (Go.Sort.putCells id 0 (Go.Sort.flatK encH 2 d) cur) e fr):=by
 unfold sortWorldK Go.Sort.putRowK
 have hg:g<w.heap.size:=(Array.getElem?_eq_some_iff.1 hb).1
 rw [Go.Sort.heap_grow_old _ _ (by simpa using hg)]
 simp [Go.Sort.putRow,Go.Sort.mapBlock,Go.Sort.ahead,Array.getElem?_modify,hb,Go.Sort.onCells]
theorem sortW_grown {w:World} {g n:Nat} {os:Array Obj} (d:Array (Int × Int)):w.grownBy (sortWorldK encH 2 w g 0 n d os) (some g):=
 ⟨rfl,rfl,rfl,by unfold sortWorldK Go.Sort.putRowK;simp,fun k hk hne=>sortW_block d k hk (fun e=>hne (by rw [e]))⟩
theorem take_put (cur F:Array Value) (h:F.size≤cur.size):(Go.Sort.putCells id 0 F cur).toList.take F.size=F.toList:=by
 apply List.ext_getElem?
 intro j
 by_cases hj:j<F.size
 ·rw [List.getElem?_take_of_lt hj,Array.getElem?_toList]
  simp [Go.Sort.putCells,hj,show j<cur.size by omega]
 ·rw [List.getElem?_take_eq_none (by omega),List.getElem?_eq_none (by simp;omega)]
theorem isAggHold (w:World):(isAgg 132).run Tryz.prog w=.ok true w:=by kernel_rfl
theorem sizeOfHold (w:World):(Go.sizeOf 132).run Tryz.prog w=.ok 2 w:=by kernel_rfl
theorem sortH_any (PB R M g cap lo:Nat) (ms:List ClaimV) (hs:List HoldV) (w:World) (hp:w.cell? ⟨PB,0,none⟩=some (.pointer (some ⟨R,0,none⟩))) (hr:w.cell? ⟨R,144,none⟩=some (.map (some M))) (hm:MapAt w M ms) (h1:PB≠g) (h2:R≠g) (h3:M≠g)
  (hb:∀ k,0≤(atC k ms).place∧(atC k ms).place≤1099511627776) (own:OwnH w lo w.heap.size (some ⟨g,0,none⟩) cap hs) (hl:hs.length≤1099511627776):
  Calls Tryz.prog 168 #[.slice (some ⟨g,0,none⟩) hs.length cap,.func (.func 169) #[] #[.pointer (some ⟨PB,0,none⟩)]] w fun r w'=>r=.returned (.tuple #[])∧∃ ts:List HoldV,Hid (ts.Perm hs∧ts.Pairwise (fun a b=>¬ (atC b.oid ms).place<(atC a.oid ms).place))∧OwnH w' lo w'.heap.size (some ⟨g,0,none⟩) cap ts∧w.grownBy w' (some g):=by
 rcases own.1.2 with ⟨hv,_⟩ | ⟨g',cap',cur,hv,hbase,hgt,hn,hcm,hcs,htk⟩
 ·cases hv
 cases hv
 have hg:g<w.heap.size:=(Array.getElem?_eq_some_iff.1 hgt).1
 obtain ⟨d,hd⟩:∃ d:Array (Int × Int),(hs.map pairH).toArray=d:=⟨_,rfl⟩
 have hds:d.size=hs.length:=by rw [← hd];simp
 have hH:Go.Sort.HoldsK encH 2 w g 0 d:=by
  rw [← hd]
  intro j hj
  rw [cells_flatH] at hj ⊢
  have hj':j<(cellsH hs).length:=by simpa using hj
  have e1:(cellsH hs).toArray[j]! =(cellsH hs)[j]:=by rw [getElem!_pos _ j (by simpa using hj')];simp
  rw [e1,Nat.zero_add]
  refine ⟨?_,own.1.frozenAt j⟩
  rw [own.1.cellAt j (by rw [cellsH_len] at hj';exact hj'),List.getElem?_eq_getElem hj']
  rfl
 have hcmp:CmpLays Tryz.prog 169 #[.pointer (some ⟨PB,0,none⟩)] encH 2 (cfH ms) g 0 d.size w:=fun m os dk _ x y=>by
  have bP:=sortW_block (n:=m) (os:=os) dk PB (World.block_lt_of_cell? w _ hp) h1
  have bR:=sortW_block (n:=m) (os:=os) dk R (World.block_lt_of_cell? w _ hr) h2
  have bM:=sortW_block (n:=m) (os:=os) dk M hm.lt h3
  refine cmpHold_any x y PB R M ms _ ?_ ?_ ?_ hb
  ·rw [World.cell?_of_block (a:=⟨PB,0,none⟩) bP];exact hp
  ·rw [World.cell?_of_block (a:=⟨R,144,none⟩) bR];exact hr
  ·obtain ⟨es,clock,q1,q2⟩:=hm
   exact ⟨es,clock,by rw [bM];exact q1,q2⟩
 have eg:∀ args w,(callFunc 169 args).run Tryz.prog w=.ok (.enter 169 args) w:=enters_of Tryz.func169 (by kernel_rfl) rfl
 have hcon:=AnyQ.slices_SortFunc Tryz.sortHold 2 isAggHold sizeOfHold encH (fun _=>rfl) (fun x v hv=>by simp [encH] at hv;rcases hv with rfl | rfl<;>rfl) (cfH ms) (swoH ms) 169 #[.pointer (some ⟨PB,0,none⟩)] g 0 cap d w eg hcmp hH hg (by omega)
 change Calls Tryz.prog 168 _ _ _ at hcon
 rw [hds] at hcon
 refine hcon.mono ?_
 rintro r w' ⟨rfl,d',n,os,⟨p1,_,p3⟩,hso,rfl⟩
 refine ⟨rfl,d'.toList.map holdP,⟨?_,?_⟩,?_,sortW_grown d'⟩
 ·have e1:d'.extract 0 hs.length=d':=by rw [← hds,← p1];simp
  have e2:d.extract 0 hs.length=d:=by rw [← hds];simp
  rw [e1,e2] at p3
  have:=p3.map holdP
  rwa [← hd,List.toList_toArray,holdP_pair] at this
 ·rw [List.pairwise_map,List.pairwise_iff_getElem]
  intro i j hi hj hij
  have hj':j<hs.length:=by rw [← hds,← p1];simpa using hj
  have:=hso i j (Nat.zero_le _) hij hj'
  rw [ltH] at this
  have hi':i<d'.size:=by simpa using hi
  have hj2:j<d'.size:=by simpa using hj
  simp only [placeC,getElem!_pos d' i hi',getElem!_pos d' j hj2,decide_eq_false_iff_not] at this
  simpa [holdP] using this
 ·have hdd:((d'.toList.map holdP).map pairH).toArray=d':=by
   rw [List.map_map,List.map_id'' (f:=pairH ∘ holdP) (fun _=>rfl)]
  have hlen:(d'.toList.map holdP).length=hs.length:=by rw [List.length_map,Array.length_toList,p1,hds]
  have hf:=cells_flatH (d'.toList.map holdP)
  rw [hdd] at hf
  have hrow:=sortW_row (n:=n) (os:=os) d' hgt
  rw [hf] at hrow
  have hcl:(cellsH (d'.toList.map holdP)).toArray.size=hs.length*2:=by simp [cellsH_len,p1,hds]
  refine ⟨⟨cellsH_len _,.inr ⟨g,cap,_,by rw [hlen],hbase,hrow,by rw [hlen];exact hn,hcm,by simp [Go.Sort.putCells,hcs],?_⟩⟩,Nat.le_refl _,fun k hk=>?_⟩
  ·have:=take_put cur (cellsH (d'.toList.map holdP)).toArray (by rw [hcl,hcs];exact Nat.mul_le_mul_right _ hn)
   rw [hcl] at this
   rw [hlen,this]
  ·cases hk
   unfold sortWorldK Go.Sort.putRowK
   simp
   omega
theorem sortH_none (fv:Value) (w:World):Calls Tryz.prog 168 #[.slice none 0 0,fv] w fun r w'=>r=.returned (.tuple #[])∧w'=w:=by
 have h:=AnyF.slices_SortFunc_none Tryz.sortHold none 0 fv w
 change Calls Tryz.prog 168 _ _ _ at h
 exact h
theorem fold_seg (off:Nat):∀ (vs A old R:List Value) (j:Nat),old.length=vs.length→A.length=off+j→
  (vs.zipIdx j).foldl (fun (cs:Array Value) (p:Value × Nat)=>cs.setIfInBounds (off+p.2) p.1) (A++(old++R)).toArray=(A++(vs++R)).toArray
 | [],A,old,R,j,h,hA=>by
  have:old=[]:=List.length_eq_zero_iff.1 h
  rw [this];rfl
 | v::vs,A,[],R,j,h,hA=>by cases h
 | v::vs,A,o::old,R,j,h,hA=>by
  rw [List.zipIdx_cons,List.foldl_cons]
  have e1:(A++(o::old++R)).toArray.setIfInBounds (off+j) v=((A++[v])++(old++R)).toArray:=by
   rw [List.setIfInBounds_toArray,← hA,List.set_append_right _ _ (Nat.le_refl _),Nat.sub_self]
   simp
  have e2:=fold_seg off vs (A++[v]) old R (j+1) (by simpa using h) (by rw [List.length_append,hA];rfl)
  show List.foldl _ ((A++(o::old++R)).toArray.setIfInBounds (off+j) v) _=_
  rw [e1,e2]
  simp
theorem fold_seg0 (vs A old R:List Value) (h:old.length=vs.length):vs.toArray.zipIdx.foldl (fun (cs:Array Value) (p:Value × Nat)=>cs.setIfInBounds (A.length+p.2) p.1) (A++(old++R)).toArray=(A++(vs++R)).toArray:=by
 rw [← Array.foldl_toList,Array.toList_zipIdx]
 exact fold_seg A.length vs A old R 0 h rfl
theorem fill_step (place:Nat→Option (Nat × Nat)) (A vs old R:List Value) (i:Nat) (v:Value) (rest:List (Nat × Value)) (hp:place i=some (A.length,vs.length)) (hv:v.cells=vs.toArray) (h:old.length=vs.length):
  Instr.fill place (A++(old++R)).toArray ((i,v)::rest)=Instr.fill place (A++(vs++R)).toArray rest:=by
 have e1:v.cells.size=vs.length:=by rw [hv];simp
 have e2:(A++(old++R)).toArray.size=A.length+(vs.length+R.length):=by simp [h]
 have e3:=fold_seg0 vs A old R h
 rw [Instr.fill]
 simp only [hp,e1,e2]
 rw [if_neg (by simp),hv]
 exact congrArg (fun c=>Instr.fill place c rest) e3
def runCells (cs:List Value) (M:Nat) (n:Int):List Value:=cs++[.map (some M),.int .i64 n]
theorem built_run (parts:List (Nat × Value)):Tryz.prog.built 148 parts=Instr.fill ((#[(0,144),(144,1),(145,1)]:Array (Nat × Nat))[·]?) (([]:List Value)++(zeroE.cells++[Value.map none,Value.int .i64 0])).toArray parts:=by kernel_rfl
theorem run_buildR (w:World) (t:EngA) (st:t.shape) (M:Nat) (n:Int):(Instr.build 148 #[(0,Value.agg t.cells.toArray),(1,Value.map (some M)),(2,Value.int .i64 n)]).run Tryz.prog w=.ok (.agg (runCells t.cells M n).toArray) w:=by
 refine run_build w _ _ _ ?_
 rw [built_run]
 have hl:=EngA.cells_len st
 have h0:zeroE.cells.length=t.cells.length:=by rw [hl,EngA.cells_len zeroE_shape]
 rw [show (#[(0,Value.agg t.cells.toArray),(1,Value.map (some M)),(2,Value.int .i64 n)]:Array (Nat × Value)).toList=[(0,Value.agg t.cells.toArray),(1,Value.map (some M)),(2,Value.int .i64 n)] from rfl]
 rw [fill_step _ [] t.cells zeroE.cells [Value.map none,Value.int .i64 0] 0 _ _ (by rw [hl];rfl) rfl h0]
 have e1:([]:List Value)++(t.cells++[Value.map none,Value.int .i64 0])=t.cells++([Value.map none]++[Value.int .i64 0]):=rfl
 rw [e1,fill_step _ t.cells [Value.map (some M)] [Value.map none] [Value.int .i64 0] 1 _ _ (by rw [hl];rfl) rfl rfl]
 have e2:t.cells++([Value.map (some M)]++[Value.int .i64 0])=(t.cells++[Value.map (some M)])++([Value.int .i64 0]++[]):=by simp
 rw [e2,fill_step _ (t.cells++[Value.map (some M)]) [Value.int .i64 n] [Value.int .i64 0] [] 2 _ _ (by rw [List.length_append,hl];rfl) rfl rfl]
 unfold Instr.fill runCells
 simp
end Go.Proofs.YtnoeobahjbdoiaaGreatDoor
namespace Go.Proofs.YtnoeobahjbdoiaaGreatDoor
open Go.RowKit
attribute [local go_sem ↓] Go.wp_at_zero Go.wp_at_succ
def writeV (e:EngV) (s:SeatV):EngV:={ e with log:=⟨e.log.recs,max e.log.sure (min s.lsn e.log.recs.length)⟩,disk:=e.disk.set s.no.toNat (s.lsn,s.ss) }
theorem EngA.cells_set {e:EngA} (h:e.shape) (j:Nat) (v:Value):e.cells.set (136+j) v=cellsPs e.disk++e.tail.set j v:=by
 rw [EngA.cells,List.set_append_right _ _ (by rw [EngA.disk_len h];omega),EngA.disk_len h,show 136+j-136=j by omega]
theorem EngAtG.tailSet {w:World} {E:Nat} {e e':EngA} (h:EngAt w E e) (j:Nat) (v:Value) (hd:e'.disk=e.disk) (ht:e'.tail=e.tail.set j v):
  ∃ W,Hid (w.setCell ⟨E,136+j,none⟩ v=W)∧Box W E e'.cells TE∧Touch [E] w W∧W.heap.size=w.heap.size:=by
 obtain ⟨W,hW,b,hw,hs⟩:=box_set h.box (136+j) v
 rw [EngA.cells_set h.shape] at b
 refine ⟨W,hW,by rw [EngA.cells,hd,ht];exact b,⟨hw.os,hw.tape,hw.output,hw.size,fun k hk hn=>hw.block k hk (fun hh=>hn (by simp;omega))⟩,hs⟩
theorem OwnS.splice {w:World} {lo hi l u:Nat} {A X B Y:List SlotA} (h:OwnS w lo hi (A++(X++B))) (hy:OwnS w l u Y) (hl:hi≤l) (hlo:lo≤hi) (htop:max hi u≤w.heap.size):OwnS w lo (max hi u) (A++(Y++B)):=by
 have hap:=h.apart
 have hb:=h.blocks_lt
 have hyb:=hy.blocks_lt
 refine ⟨fun x hx=>?_,?_⟩
 ·simp only [List.mem_append] at hx
  rcases hx with hx | hx | hx
  ·exact (h.each x (by simp [hx])).widen (Nat.le_refl _) (by omega) htop
  ·exact (hy.each x hx).widen (by omega) (by omega) htop
  ·exact (h.each x (by simp [hx])).widen (Nat.le_refl _) (by omega) htop
 ·simp only [List.flatMap_append] at hap hb ⊢
  refine nodup_part (n:=hi) hap hy.apart (fun k hk=>.inr (by have:=(hyb k hk).1;omega)) (fun k hk=>(hb k (by simp only [List.mem_append];exact .inl hk)).2) (fun k hk=>(hb k (by simp only [List.mem_append];exact .inr (.inr hk))).2)
theorem disk_split (ps:List PageA) (k:Nat) (hk:k<ps.length) (q:PageA):ps.set k q=ps.take k++q::ps.drop (k+1):=by rw [List.set_eq_take_append_cons_drop,if_pos hk]
theorem disk_split' (ps:List PageA) (k:Nat) (hk:k<ps.length):ps=ps.take k++ps[k]::ps.drop (k+1):=by
 conv=>lhs;rw [← List.take_append_drop k ps,List.drop_eq_getElem_cons hk]
def LogA.upTo (l:LogA) (n:Int):LogA:={ l with sure:=max l.sure (min n l.recs.length) }
theorem l5ForceEng_any (E:Nat) (e:EngA) (n:Int) (w:World) (h:EngAt w E e):
  Calls Tryz.prog 133 #[.pointer (some ⟨E,138,none⟩),.int .i64 n] w fun r w'=>(∃ v,r=.returned v)∧EngStep E e w (e.withLog (e.log.upTo n)) w'∧Touch [E] w w':=by
 have c0:w.cell? ⟨E,138,none⟩=some (.slice e.log.a e.log.recs.length e.log.c):=EngA.cell_at h.shape h.box 2 _ rfl
 have c1:w.cell? ⟨E,138+1,none⟩=some (.int .i64 e.log.sure):=EngA.cell_at h.shape h.box 3 _ rfl
 refine (l5ForceAt_any E 138 e.log.a e.log.c e.log.recs.length e.log.sure n w c0 c1 (h.box.frozen _)).mono ?_
 rintro r w' ⟨hv,hw⟩
 refine ⟨hv,?_⟩
 rcases hw with ⟨rfl,hm⟩ | rfl
 ·have e0:e.withLog (e.log.upTo n)=e:=by
   simp only [EngA.withLog,LogA.upTo,hm]
  rw [e0]
  exact ⟨EngStepG.refl h,Touch.refl _ _⟩
 ·obtain ⟨W,hW,b,ht,hs⟩:=h.tailSet (e':=e.withLog (e.log.upTo n)) 3 (.int .i64 (max e.log.sure (min n e.log.recs.length))) rfl rfl
  have hW':w.setCell ⟨E,138+1,none⟩ (.int .i64 (max e.log.sure (min n e.log.recs.length)))=W:=hW.out
  rw [hW']
  refine ⟨h.logs (e.log.upTo n) b ?_ (ht.mono (by simp)) (fun k hk=>.inl hk),ht⟩
  exact (h.own.log.touch ht (fun k hk hk'=>h.off (by rw [← List.mem_singleton.1 hk'];exact EngA.mem_log hk))).widen (Nat.le_refl _) ht.size (Nat.le_refl _)
theorem EngAtG.diskSet {f:EngA→List Value} {T:TypeId} {w:World} {E:Nat} {e:EngA} (h:EngAtG f T w E e) (tl:EngA→List Value) (hfc:∀ e:EngA,f e=cellsPs e.disk++tl e) (htl:∀ (e:EngA) (ps:List PageA),tl (e.withDisk ps)=tl e) (n:Nat) (h8:n<8) (q:PageA) (hq:q.ss.length=4) {l u:Nat} (oq:OwnS w l u q.ss) (w0:World) (hl:w0.heap.size≤l) (hlt:∀ k∈e.blocks,k<w0.heap.size) (hE:E<w0.heap.size) (hw0:w0.heap.size≤w.heap.size) (hu:u≤w.heap.size):
  ∃ W,Hid (w.setCells E (n*17) q.cells=W)∧Hid (w.there E (n*17) q.cells.toArray.size)∧EngAtG f T W E (e.withDisk (e.disk.set n q))∧Touch [E] w W∧W.heap.size=w.heap.size∧(∀ k∈(e.withDisk (e.disk.set n q)).blocks,k∈e.blocks∨l≤k):=by
 have hk:n<e.disk.length:=by rw [h.shape.eight];exact h8
 have ho4:e.disk[n].ss.length=4:=h.shape.four _ (List.getElem_mem hk)
 have e1:f e=cellsPs (e.disk.take n)++(e.disk[n].cells++(cellsPs (e.disk.drop (n+1))++tl e)):=by rw [hfc,cellsPs_split e.disk n hk];simp
 have b:=h.box
 rw [e1] at b
 obtain ⟨W,hW,b',hw,hs⟩:=range_fill _ _ q.cells _ b (by rw [page_len _ hq,page_len _ ho4])
 have hpl:(cellsPs (e.disk.take n)).length=n*17:=by rw [cellsPs_len _ (fun p hp=>h.shape.four p (List.mem_of_mem_take hp)),List.length_take,Nat.min_eq_left (Nat.le_of_lt hk)]
 rw [hpl] at hW
 have e2:f (e.withDisk (e.disk.set n q))=cellsPs (e.disk.take n)++(q.cells++(cellsPs (e.disk.drop (n+1))++tl e)):=by
  have e3:f (e.withDisk (e.disk.set n q))=cellsPs (e.disk.set n q)++tl e:=by rw [hfc,htl];rfl
  rw [e3,disk_split _ _ hk]
  simp [cellsPs]
 rw [← e2] at b'
 have ht:Touch [E] w W:=⟨hw.os,hw.tape,hw.output,hw.size,fun k hk hn=>hw.block k hk (fun hh=>hn (by simp;omega))⟩
 have hb8:(e.disk.set n q).length=8:=by rw [List.length_set,h.shape.eight]
 have hb4:∀ p∈e.disk.set n q,p.ss.length=4:=fun p hp=>(List.mem_or_eq_of_mem_set hp).elim (h.shape.four p) (fun e=>by rw [e];exact hq)
 have d1:e.disk.flatMap (·.ss)=(e.disk.take n).flatMap (·.ss)++(e.disk[n].ss++(e.disk.drop (n+1)).flatMap (·.ss)):=by
  have e4:=congrArg (List.flatMap (fun x:PageA=>x.ss)) (disk_split' e.disk n hk)
  rw [List.flatMap_append,List.flatMap_cons] at e4
  exact e4
 have d2:(e.disk.set n q).flatMap (·.ss)=(e.disk.take n).flatMap (·.ss)++(q.ss++(e.disk.drop (n+1)).flatMap (·.ss)):=by rw [disk_split _ _ hk];simp
 have hod:OwnS w 0 w0.heap.size (e.disk.flatMap (·.ss)):=⟨fun x hx=>by
  have hx1:=h.own.disk.each x hx
  have hxb:∀ k∈x.blocks,k<w0.heap.size:=fun k hk=>hlt k (EngA.mem_disk (List.mem_flatMap.2 ⟨x,hx,hk⟩))
  exact ⟨⟨hx1.ints.1,hw0,fun k hk=>hxb k (List.mem_append.2 (.inl (Option.mem_toList.2 hk)))⟩,⟨hx1.refs.1,hw0,fun k hk=>hxb k (List.mem_append.2 (.inr (Option.mem_toList.2 hk)))⟩,hx1.apart⟩,h.own.disk.apart⟩
 have hos:OwnS w 0 (max w0.heap.size u) ((e.disk.set n q).flatMap (·.ss)):=by
  rw [d2]
  rw [d1] at hod
  exact hod.splice oq hl (Nat.zero_le _) (by omega)
 have hfr:∀ k∈((e.disk.set n q).flatMap (·.ss)).flatMap SlotA.blocks,k∈e.diskBl∨l≤k:=fun k hk=>by
  rw [d2] at hk
  unfold EngA.diskBl
  rw [d1]
  simp only [List.flatMap_append,List.mem_append] at hk ⊢
  rcases hk with hk | hk | hk
  ·exact .inl (.inl hk)
  ·exact .inr (oq.blocks_lt k hk).1
  ·exact .inl (.inr (.inr hk))
 have hosW:OwnS W 0 W.heap.size ((e.disk.set n q).flatMap (·.ss)):=(hos.touch ht (fun k hk hk'=>by
  have hkE:=List.mem_singleton.1 hk'
  subst hkE
  rcases hfr k hk with h1 | h1
  ·exact h.off (EngA.mem_disk h1)
  ·omega)).widen (Nat.le_refl _) (by omega) (Nat.le_refl _)
 have ap:=h.apart
 have hEb:∀ k∈e.blocks,k∉[E]:=fun k hk hk'=>h.off (by rw [← List.mem_singleton.1 hk'];exact hk)
 refine ⟨W,hW,?_,⟨b',⟨hb8,hb4⟩,⟨hosW,?_,?_,?_,?_,?_⟩,?_⟩,ht,hs,?_⟩
 ·exact h.box.there (n*17) _ (by rw [List.size_toArray,page_len _ hq,hfc,List.length_append,EngA.disk_len h.shape];omega)
 ·exact (h.own.pool.touch ht (fun k hk=>hEb k (EngA.mem_pool hk))).widen (Nat.le_refl _) ht.size (Nat.le_refl _)
 ·exact (h.own.log.touch ht (fun k hk=>hEb k (EngA.mem_log hk))).widen (Nat.le_refl _) ht.size (Nat.le_refl _)
 ·exact (h.own.txs.touch ht (fun k hk=>hEb k (EngA.mem_txs (Option.mem_toList.2 hk)))).widen (Nat.le_refl _) ht.size (Nat.le_refl _)
 ·exact (h.own.holds.touch ht (fun k hk=>hEb k (EngA.mem_holds (Option.mem_toList.2 hk)))).widen (Nat.le_refl _) ht.size (Nat.le_refl _)
 ·exact nodup_part (A:=[]) (P:=e.diskBl) (n:=l) (by rw [List.nil_append];exact h.own.apart) hos.apart hfr (by simp) (fun k hk=>Nat.lt_of_lt_of_le (hlt k (by simp only [EngA.blocks,EngA.withDisk,List.mem_append] at hk ⊢;exact .inr hk)) hl)
 ·intro hk
  have hoff:=h.off
  simp only [EngA.blocks,EngA.withDisk,List.mem_append] at hk hoff
  rcases hk with hk | hk
  ·rcases hfr E hk with h1 | h1
   ·exact hoff (.inl h1)
   ·omega
  ·exact hoff (.inr hk)
 ·intro k hk
  simp only [EngA.blocks,EngA.withDisk,List.mem_append] at hk ⊢
  rcases hk with hk | hk
  ·exact (hfr k hk).imp .inl id
  ·exact .inl (.inr hk)
theorem l7Write_any (E:Nat) (e:EngA) (s:SeatA) (w:World) (h:EngAt w E e) (n:Nat) (hn:s.no=(n:Int)) (h8:n<8) (hr:∀ u,Touch [E] w u→s.reads u) (hl:Fit s.ss):
  Calls Tryz.prog 127 #[.pointer (some ⟨E,0,none⟩),.agg s.cells.toArray] w fun r w'=>(∃ v,r=.returned v)∧∃ e',Hid (e'.v=writeV e.v s.v)∧Hid (e'.log.recs=e.log.recs)∧EngStep E e w e' w':=by
 obtain ⟨W,hW,b0,hbW,hsW⟩:=boxes1 w s.cells 114
 have a1:=h.below hbW
 have hoff:Off E e w.heap.size:=h.new (Nat.le_refl _)
 have hws:w.heap.size<W.heap.size:=by omega
 have HRS:Hid (∀ u,Box u w.heap.size s.cells 114→u.rangeAt w.heap.size 0 s.cells∧u.rangeAt w.heap.size 1 s.page.cells):=fun u bu=>⟨Box.range [] s.cells [] (by simpa using bu),by
  have e1:s.cells=[.int .i64 s.no]++(s.page.cells++[.bool s.dirty,.bool s.hot]):=by rw [SeatA.cells_page];rfl
  rw [e1] at bu
  exact Box.range _ _ _ bu⟩
 have HI:Hid ((Tryz.prog.info? 48).map (·.size)=some s.page.cells.length):=by rw [Hid,page_len s.page rfl];kernel_rfl
 clear hsW
 go_enter Tryz.func127,Tryz.ntmps127
 go_upto_region 1 with fail
 rw [hW.out]
 clear hW
 have ND:Below W.heap.size W W.drew:=(Below.refl _ _).drew
 have a2:=a1.below ND
 have b2:=b0.below ND b0.lt
 refine wp_region_held_drew (S:=fun w'=>w'.rangeAt w.heap.size 0 s.cells∧w'.rangeAt w.heap.size 1 s.page.cells) (by kernel_rfl) ?_ (fun hHeld=>?_)
 ·exact HRS.out _ b2
 refine tq 0 (v:=.pointer (some ⟨E,0,none⟩)) rfl hHeld ?_
 try simp only [zz]
 refine tq 1 (v:=.pointer (some ⟨E,0,none⟩)) rfl hHeld ?_
 try simp only [zz]
 refine tq 2 (v:=.pointer (some ⟨E,138,none⟩)) rfl hHeld ?_
 try simp only [zz]
 refine tq 3 (v:=.pointer (some ⟨w.heap.size,1,none⟩)) rfl hHeld ?_
 try simp only [zz]
 refine tq 4 (v:=.pointer (some ⟨w.heap.size,1,none⟩)) rfl hHeld ?_
 try simp only [zz]
 refine tk 5 (v:=.int .i64 s.lsn) rfl (Or.inl ⟨by rfl,?_⟩) hHeld ?_
 ·intro w' hSw
  have hx:w'.cell? ⟨w.heap.size,1,none⟩=some (.int .i64 s.lsn):=hSw.1 1 _ rfl
  go_simp<;>rfl
 try simp only [zz]
 refine wpAnyH_ready (rs:=[6]) (by kernel_rfl) (by simp) ?_
 refine AllReadyH.cons rfl (fun K hK=>?_) AllReadyH.nil
 go_simp
 refine (l5ForceEng_any E e s.lsn W.drew a2).mono ?_
 rintro r w3 ⟨⟨v3,rfl⟩,s3,t3⟩
 have b3:=s3.boxes b2 hoff
 have N0:Below w.heap.size w W.drew:=hbW.trans (ND.mono hbW.size)
 have S3:EngStep E e w (e.withLog (e.log.upTo s.lsn)) w3:=EngStepG.after N0 s3
 have r3:s.reads w3:=hr _ ((Touch.of_below N0).trans t3)
 have hs3:=S3.size
 have hs3':=s3.size
 have hE:E<w.heap.size:=h.box.lt
 have hb3:w.heap.size<w3.heap.size:=b3.lt
 refine hK.out _ _ (HRS.out _ b3) (fun hHeld=>?_)
 clear hK K
 try simp only [zz]
 refine wpAnyH_done (by kernel_rfl) ?_ _
 clear hHeld s3 a1 a2 b2 b0 t3 hr
 have ND3:Below w3.heap.size w3 w3.drew:=(Below.refl _ _).drew
 have a4:=S3.at'.below ND3
 have b4:=b3.below ND3 b3.lt
 go_upto_region 2 with fail
 refine wp_region_held_drew (S:=fun w'=>w'.rangeAt w.heap.size 0 s.cells∧w'.rangeAt w.heap.size 1 s.page.cells) (by kernel_rfl) ?_ (fun hHeld=>?_)
 ·exact HRS.out _ b4
 refine tq 0 (v:=.pointer (some ⟨E,0,none⟩)) rfl hHeld ?_
 try simp only [zz]
 refine tq 1 (v:=.pointer (some ⟨w.heap.size,0,none⟩)) rfl hHeld ?_
 try simp only [zz]
 refine tk 2 (v:=.int .i64 s.no) rfl (Or.inl ⟨by rfl,?_⟩) hHeld ?_
 ·intro w' hSw
  have hx:w'.cell? ⟨w.heap.size,0,none⟩=some (.int .i64 s.no):=hSw.1 0 _ rfl
  go_simp<;>rfl
 try simp only [zz]
 refine tq 3 (v:=.pointer (some ⟨w.heap.size,1,none⟩)) rfl hHeld ?_
 try simp only [zz]
 refine tk 4 rfl (yieldsIf_load_mid (by rfl) _ _ rfl _ _ rfl s.page.cells _ (fun _ h=>h.2) Tryz.underlying48 rfl HI.out) hHeld ?_
 try simp only [zz]
 refine tq 6 (v:=.pointer (some ⟨E,0,none⟩)) rfl hHeld ?_
 try simp only [zz]
 refine tq 7 (v:=.pointer (some ⟨E,0,none⟩)) rfl hHeld ?_
 try simp only [zz]
 refine wpAnyH_ready (rs:=[5]) (by kernel_rfl) (by simp) ?_
 refine AllReadyH.cons rfl (fun K hK=>?_) AllReadyH.nil
 go_simp
 refine (l3Copy_own s.page rfl w3.drew (r3.below ND3) hl).mono ?_
 rintro r w5 ⟨ts,rfl,hts,ho5,hb5⟩
 have N35:Below w3.heap.size w3 w5:=ND3.trans hb5
 have a5:=S3.at'.below N35
 have b5:=b3.below N35 b3.lt
 have S5:=S3.below N35
 have h4:ts.length=4:=by have:=congrArg List.length hts.out;simpa [SeatA.page,SeatA.ss] using this
 have hs5:=N35.size
 refine hK.out _ _ (HRS.out _ b5) (fun hHeld=>?_)
 clear hK K
 try simp only [zz]
 obtain ⟨WF,hWF,HTH,aF,tF,hsF,fF⟩:=a5.diskSet EngA.tail (fun _=>rfl) (fun _ _=>rfl) n h8 ⟨s.lsn,ts⟩ h4 ho5 w3.drew (Nat.le_refl _) (fun k hk=>a4.lt k hk) a4.box.lt hb5.size (Nat.le_refl _)
 have HWF:Hid (w5.setCells E (n*17) (PageA.cells ⟨s.lsn,ts⟩).toArray.toList=WF):=hWF.out
 have bF:=b5.touch tF (by simp;omega)
 have HI5:Hid ((Tryz.prog.info? 48).map (·.size)=some (PageA.cells ⟨s.lsn,ts⟩).toArray.size):=by rw [Hid,List.size_toArray,page_len _ h4];kernel_rfl
 have HS:Hid (∃ e',Hid (e'.v=writeV e.v s.v)∧Hid (e'.log.recs=e.log.recs)∧EngStep E e w e' WF):=by
  refine ⟨_,?_,?_,aF,?_,?_⟩
  ·rw [Hid]
   simp only [EngA.v,EngA.withDisk,EngA.withLog,writeV,LogA.upTo,LogA.v,List.map_set,SeatA.v,hn,Int.toNat_natCast,hts.out,SeatA.page,List.length_map]
  ·rfl
  ·exact S5.touch.trans (tF.mono (by simp))
  ·intro k hk
   rcases fF k hk with h1 | h1
   ·exact S5.fresh k h1
   ·exact .inr (by have:w3.drew.heap.size=w3.heap.size:=rfl;omega)
 clear hWF aF tF hsF fF
 have hn8:(n:Int)<8:=by omega
 have hn0:(0:Int)≤(n:Int):=by omega
 refine tq 8 (v:=.pointer (some ⟨E,n*17,none⟩)) rfl hHeld ?_
 try simp only [zz]
 refine wpAnyH_ready (rs:=[9]) (by kernel_rfl) (by simp) ?_
 refine AllReadyH.cons rfl (fun K hK=>?_) AllReadyH.nil
 rw [if_pos (by rfl)]
 refine wp_store_mid 48 (.tmp 19) (.tmp 16) rfl E (n*17) (PageA.cells ⟨s.lsn,ts⟩).toArray rfl rfl HTH.out HI5.out (all_oneCell_toArray (oneP _)) ?_
 rw [HWF.out]
 refine hK.out _ _ (HRS.out _ bF) (fun hHeld=>?_)
 clear hK K
 try simp only [Act.put,zA,zB,zC]
 refine wpAnyH_done (by kernel_rfl) ?_ _
 go_wp2
 go_end0
 exact ⟨⟨_,rfl⟩,HS.out⟩
end Go.Proofs.YtnoeobahjbdoiaaGreatDoor
namespace Go.Proofs.YtnoeobahjbdoiaaGreatDoor
open Go.RowKit
attribute [local go_sem ↓] Go.wp_at_zero Go.wp_at_succ
def FitV (ss:List SlotV):Prop:=∀ s∈ss,s.o.ints.length≤1099511627776∧s.o.refs.length≤1099511627776
structure EngV.poolOk (e:EngV):Prop where
 len:e.seats.length≤3
 hand:∃ h:Nat,e.hand=h∧h<3
 nos:∀ s∈e.seats,∃ n:Nat,s.no=n∧n<8
 fitS:∀ s∈e.seats,FitV s.ss
 eight:e.disk.length=8
 fitD:∀ p∈e.disk,FitV p.2
theorem fit_of {ss:List SlotA} (h:FitV (ss.map (·.v))):Fit ss:=fun s hs=>h s.v (List.mem_map_of_mem hs)
theorem seatFrom_lt (no:Int) (ss:List SeatV) (k:Nat):seatFrom no ss k= -1∨∃ j,seatFrom no ss k=(k+j:Nat)∧j<ss.length∧(ss.getD j zeroStV).no=no:=by
 induction ss generalizing k with
 | nil=>exact .inl rfl
 | cons s r ih=>
  rw [seatFrom]
  by_cases h:s.no=no
  ·rw [if_pos h];exact .inr ⟨0,rfl,by simp,by simpa using h⟩
  ·rw [if_neg h]
   rcases ih (k+1) with h1 | ⟨j,h1,h2,h3⟩
   ·exact .inl h1
   ·exact .inr ⟨j+1,by rw [h1];congr 1;omega,by simp;omega,by simpa using h3⟩
theorem seated_casesE (ss:List SeatV) (no:Int):seatedOf ss no= -1∨∃ j:Nat,seatedOf ss no=j∧j<ss.length∧(ss.getD j zeroStV).no=no:=by
 rcases seatFrom_lt no ss 0 with h | ⟨j,h1,h2,h3⟩
 ·exact .inl h
 ·exact .inr ⟨j,by rw [seatedOf,h1];simp,h2,h3⟩
theorem EngA.cells_pool {e:EngA} (h:e.shape) (ss:List SeatA) (a:Option Addr) (c:Nat) (hand:Int):(e.cells.set 136 (.slice a ss.length c)).set 137 (.int .i64 hand)=(e.withPool ss a c hand).cells:=by
 have h1:e.cells.set 136 (.slice a ss.length c)=cellsPs e.disk++e.tail.set 0 (.slice a ss.length c):=EngA.cells_set h 0 _
 rw [h1,List.set_append_right _ _ (by rw [EngA.disk_len h];omega),EngA.disk_len h]
 rfl
theorem Brought.step {w w':World} {E:Nat} {e:EngA} {ts:List SeatA} {a':Option Addr} {c' hand':Nat} {old:SeatA} (h:EngAt w E e) (b:Brought 0 E 136 e.cells TE e.aS e.cS e.seats w w' ts a' c' hand' old):EngStep E e w (e.withPool ts a' c' hand') w':=by
 refine h.pool ts a' c' hand' ?_ b.pool.own b.touch b.fresh
 have:=b.pool.box
 rw [EngA.cells_pool h.shape] at this
 exact this
theorem EngAtG.seatSet {w:World} {E:Nat} {e:EngA} (h:EngAt w E e) (k:Nat) (hk:k<e.seats.length) (z':SeatA) (i:Nat) (v:Value) (hi:i<20) (hc:z'.cells=(e.seats.getD k zeroSt).cells.set i v) (hss:z'.ss=(e.seats.getD k zeroSt).ss):
  ∃ g W,e.aS=some ⟨g,0,none⟩∧g≠E∧Hid (w.setCell ⟨g,k*20+i,none⟩ v=W)∧(∀ j,w.frozen? ⟨g,j,none⟩=false)∧w.rangeAt g (k*20) (e.seats.getD k zeroSt).cells∧EngStep E e w (e.withPool (e.seats.set k z') e.aS e.cS e.hand) W∧Touch [g] w W∧W.heap.size=w.heap.size:=by
 obtain ⟨g,hg⟩:∃ g,e.aS=some ⟨g,0,none⟩:=by
  rcases h.own.pool.row.2 with ⟨_,h0⟩ | ⟨g,cap',cur,hv,_⟩
  ·omega
  ·simp only [Value.slice.injEq] at hv;exact ⟨g,hv.1⟩
 have hmem:g∈blocksSts e.aS e.cS e.seats:=by rw [hg];simp [blocksSts,Value.ownBlock]
 have hgE:g≠E:=fun e1=>h.off (by rw [← e1];exact EngA.mem_pool hmem)
 have ho:=h.own.pool
 rw [hg] at ho
 have hr:=row_seat ho.row rfl k hk
 have hf:∀ j,w.frozen? ⟨g,j,none⟩=false:=fun j=>ho.row.frozenAt j
 rw [seatD_split e.seats k hk] at ho
 obtain ⟨o2,t2⟩:=OwnSts.cellSet (z':=z') ho i v hi hc hss
 have hkl:(e.seats.take k).length=k:=by rw [List.length_take];omega
 rw [hkl,← seat_set e.seats k z' hk] at o2
 rw [hkl] at t2
 have hsz:(w.setCell ⟨g,k*20+i,none⟩ v).heap.size=w.heap.size:=by simp
 have hbl:blocksSts (some ⟨g,0,none⟩) e.cS (e.seats.set k z')=blocksSts (some ⟨g,0,none⟩) e.cS e.seats:=by
  refine blocksSts_len (n:=e.seats.length) (by simp) rfl ?_
  rw [seat_set _ _ _ hk]
  conv=>rhs;rw [seatD_split e.seats k hk]
  simp only [List.flatMap_append,List.flatMap_cons,SeatA.blocks,hss]
 refine ⟨g,_,hg,hgE,rfl,hf,hr.1,?_,t2,hsz⟩
 refine h.pool _ _ _ _ ?_ ?_ (t2.mono (fun j hj=>List.mem_cons_of_mem _ (by rw [List.mem_singleton.1 hj];exact hmem))) (fun j hj=>.inl ?_)
 ·have e1:(e.withPool (e.seats.set k z') e.aS e.cS e.hand).cells=e.cells:=by
   simp only [EngA.cells,EngA.tail,EngA.withPool,List.length_set]
  rw [e1]
  exact h.box.touch t2 (by simpa using fun e1=>hgE e1.symm)
 ·rw [hg]
  exact o2.widen (Nat.le_refl _) (Nat.le_of_eq hsz.symm) (Nat.le_refl _)
 ·rw [hg] at hj ⊢
  rw [hbl] at hj
  exact hj
end Go.Proofs.YtnoeobahjbdoiaaGreatDoor
namespace Go.Proofs.YtnoeobahjbdoiaaGreatDoor
open Go.RowKit
end Go.Proofs.YtnoeobahjbdoiaaGreatDoor
namespace Go.Proofs.YtnoeobahjbdoiaaGreatDoor
open Go.RowKit
attribute [local go_sem ↓] Go.wp_at_zero Go.wp_at_succ
structure EngMore (E:Nat) (e:EngA) (Q:List Nat) (w:World) (e':EngA) (w':World):Prop where
 at':EngAt w' E e'
 touch:Touch (E::(e.blocks++Q)) w w'
 fresh:∀ k∈e'.blocks,k∈e.blocks∨k∈Q∨w.heap.size≤k
theorem EngMore.then {E:Nat} {Q:List Nat} {e e1 e2:EngA} {w w1 w2:World} (m:EngMore E e Q w e1 w1) (s:EngStep E e1 w1 e2 w2):EngMore E e Q w e2 w2:=by
 refine ⟨s.at',⟨s.touch.os.trans m.touch.os,s.touch.tape.trans m.touch.tape,s.touch.output.trans m.touch.output,Nat.le_trans m.touch.size s.size,fun k hk hn=>?_⟩,fun k hk=>?_⟩
 ·have hn1:k∉E::e1.blocks:=fun h=>by
   rcases List.mem_cons.1 h with h | h
   ·exact hn (by simp [h])
   ·rcases m.fresh k h with h | h | h
    ·exact hn (List.mem_cons_of_mem _ (List.mem_append.2 (.inl h)))
    ·exact hn (List.mem_cons_of_mem _ (List.mem_append.2 (.inr h)))
    ·omega
  exact (s.touch.block k (Nat.lt_of_lt_of_le hk m.touch.size) hn1).trans (m.touch.block k hk hn)
 ·rcases s.fresh k hk with h | h
  ·exact m.fresh k h
  ·exact .inr (.inr (Nat.le_trans m.touch.size h))
theorem EngMore.step {E:Nat} {Q:List Nat} {e0 e e':EngA} {w0 w w':World} (s:EngStep E e0 w0 e w) (m:EngMore E e Q w e' w') (hQ:∀ k∈Q,w0.heap.size≤k):EngStep E e0 w0 e' w':=by
 refine ⟨m.at',⟨m.touch.os.trans s.touch.os,m.touch.tape.trans s.touch.tape,m.touch.output.trans s.touch.output,Nat.le_trans s.size m.touch.size,fun k hk hn=>?_⟩,fun k hk=>?_⟩
 ·have hn1:k∉E::(e.blocks++Q):=fun h=>by
   rcases List.mem_cons.1 h with h | h
   ·exact hn (by simp [h])
   ·rcases List.mem_append.1 h with h | h
    ·rcases s.fresh k h with h | h
     ·exact hn (List.mem_cons_of_mem _ h)
     ·omega
    ·have:=hQ k h;omega
  exact (m.touch.block k (Nat.lt_of_lt_of_le hk s.size) hn1).trans (s.touch.block k hk hn)
 ·rcases m.fresh k hk with h | h | h
  ·exact s.fresh k h
  ·exact .inr (hQ k h)
  ·exact .inr (Nat.le_trans s.size h)
theorem EngMore.off {E B:Nat} {Q:List Nat} {e e':EngA} {w w':World} (m:EngMore E e Q w e' w') (hB:B<w.heap.size) (ho:Off E e B) (hQ:B∉Q):Off E e' B:=
 ⟨ho.1,fun hk=>(m.fresh B hk).elim ho.2 (fun h=>h.elim hQ (fun h=>by omega))⟩
end Go.Proofs.YtnoeobahjbdoiaaGreatDoor
namespace Go.Proofs.YtnoeobahjbdoiaaGreatDoor
open Go.RowKit
attribute [local go_sem ↓] Go.wp_at_zero Go.wp_at_succ
end Go.Proofs.YtnoeobahjbdoiaaGreatDoor
namespace Go.Proofs.YtnoeobahjbdoiaaGreatDoor
open Go.RowKit
attribute [local go_sem ↓] Go.wp_at_zero Go.wp_at_succ
end Go.Proofs.YtnoeobahjbdoiaaGreatDoor
namespace Go.Proofs.YtnoeobahjbdoiaaGreatDoor
open Go.RowKit
theorem ownL_lit0 (w:World):OwnL (w.alloc (.cells #[] 130)) w.heap.size (w.heap.size+1) (some ⟨w.heap.size,0,none⟩) 0 []:=
 ⟨World.ownsRow_lit w #[] 0 (Nat.le_refl _) (by simp [maxLen]) rfl,by simp,fun k hk=>by cases hk;simp⟩
theorem ownH_lit0 (w:World):OwnH (w.alloc (.cells #[] 132)) w.heap.size (w.heap.size+1) (some ⟨w.heap.size,0,none⟩) 0 []:=
 ⟨World.ownsRow_lit w #[] 0 (Nat.le_refl _) (by simp [maxLen]) rfl,by simp,fun k hk=>by cases hk;simp⟩
theorem grown_belowE {w u v:World} {n:Nat} {row:Option Nat} (hb:Below n w u) (hg:u.grownBy v row) (hr:∀ k,row=some k→n≤k) (hn:n≤u.heap.size):Below n w v:=
 ⟨hg.os.trans hb.os,hg.tape.trans hb.tape,hg.output.trans hb.output,Nat.le_trans hb.size hg.size,fun k hk=>(hg.block k (by omega) (fun e=>by have:=hr k e.symm;omega)).trans (hb.block k hk)⟩
def listC (ms:List ClaimV):Nat→List HoldV
 | 0=>[]
 | k+1=>listC ms k++(match getC ((k:Int)+1) ms with | some c=>[⟨c.tx,(k:Int)+1⟩] | none=>[])
theorem listC_len (ms:List ClaimV) (k:Nat):(listC ms k).length≤k:=by
 induction k with
 | zero=>simp [listC]
 | succ k ih=>rw [listC,List.length_append];split<;>simp<;>omega
theorem listC_yes {ms:List ClaimV} {k:Nat} {c:ClaimV} (h:getC ((k:Int)+1) ms=some c):listC ms (k+1)=listC ms k++[⟨c.tx,(k:Int)+1⟩]:=by rw [listC,h]
theorem listC_no {ms:List ClaimV} {k:Nat} (h:getC ((k:Int)+1) ms=none):listC ms (k+1)=listC ms k:=by rw [listC,h,List.append_nil]
theorem atC_some {ms:List ClaimV} {k:Int} {c:ClaimV} (h:getC k ms=some c):atC k ms=c:=by rw [atC,h];rfl
theorem holds_any (R M:Nat) (cs:List Value) (n:Int) (ms:List ClaimV) (w:World) (b:Box w R (runCells cs M n) 148) (hcs:cs.length=144) (hm:MapAt w M ms) (hb:∀ k,0≤(atC k ms).place∧(atC k ms).place≤1099511627776):
  Calls Tryz.prog 111 #[.pointer (some ⟨R,0,none⟩)] w fun r w'=>∃ (hs:List HoldV) (a:Option Addr) (c:Nat),r=.returned (.slice a hs.length c)∧Hid (hs.Perm (listC ms 31)∧hs.Pairwise (fun a b=>¬ (atC b.oid ms).place<(atC a.oid ms).place))∧OwnH w' w.heap.size w'.heap.size a c hs∧Below w.heap.size w w':=by
 obtain ⟨W,hW,b0,hbW,hsW⟩:=boxes1 w [.pointer (some ⟨R,0,none⟩)] 95
 have hRl:=b.lt
 have hMl:=hm.lt
 have HF:Hid (∀ u,Below W.heap.size W u→u.cell? ⟨w.heap.size,0,none⟩=some (.pointer (some ⟨R,0,none⟩))∧u.cell? ⟨R,144,none⟩=some (.map (some M))∧MapAt u M ms):=fun u hu=>by
  have n0:=hbW.trans (hu.mono hbW.size)
  exact ⟨(b0.below hu b0.lt).cell 0 _ rfl,(b.below n0 b.lt).cell 144 _ (by rw [runCells,List.getElem?_append_right (by omega),hcs];rfl),hm.below n0⟩
 have HEND:Hid (∀ u,Below W.heap.size W u→Below w.heap.size w u):=fun u hu=>hbW.trans (hu.mono hbW.size)
 have hw0:w.heap.size<W.heap.size:=by omega
 have HB:Hid (∀ k,0≤(atC k ms).place∧(atC k ms).place≤1099511627776):=hb
 clear b0 hsW hb b hm hbW
 go_enter Tryz.func111,Tryz.ntmps111
 go_wp2_with fail
 rw [hW.out]
 clear hW
 go_loopw [3,4,5,6] (fun s i _ _ wr=>∃ (k:Nat) (a:Option Addr) (c:Nat),k≤31∧i=.int .i64 ((k:Int)+1)∧s=.slice a (listC ms k).length c∧OwnH wr W.heap.size wr.heap.size a c (listC ms k)∧Below W.heap.size W wr) (fun _ i _ _ _=>32-(intOf i).toNat)
 case atStart=>exact ⟨0,none,0,Nat.zero_le _,rfl,rfl,ownH_nil _ _ _ (Nat.le_refl _),Below.refl _ _⟩
 case round=>
  obtain ⟨k,a,c,hk,rfl,rfl,ho,hN⟩:=hrel
  have hlen:=listC_len ms k
  obtain ⟨f0,f1,f2⟩:=HF.out _ hN
  by_cases hlt:k<31
  ·have hki:(k:Int)+1≤31:=by omega
   have hlk:=run_look_c f2 ((k:Int)+1) true
   cases hgc:getC ((k:Int)+1) ms with
   | none=>
    have HL:Hid (listC ms (k+1)=listC ms k):=listC_no hgc
    have HAT:Hid (atC ((k:Int)+1) ms=⟨(k:Int)+1,0,0⟩):=by rw [Hid,atC,hgc];rfl
    rw [hgc,HAT.out] at hlk
    have hbV:Below wr.heap.size wr (wr.alloc (.cells #[.int .i64 0,.int .i64 0] 152)):=(Below.refl _ _).alloc (Nat.le_refl _) _
    have HN:Hid (Below W.heap.size W (wr.alloc (.cells #[.int .i64 0,.int .i64 0] 152))∧OwnH (wr.alloc (.cells #[.int .i64 0,.int .i64 0] 152)) W.heap.size (wr.alloc (.cells #[.int .i64 0,.int .i64 0] 152)).heap.size a c (listC ms k)):=⟨hN.trans (hbV.mono hN.size),(ho.below hbV).widen (Nat.le_refl _) hbV.size (Nat.le_refl _)⟩
    clear hbV
    go_wp2_with fail
    go_roundw
    case rel=>exact ⟨k+1,a,c,by omega,by go_num,by rw [HL.out],by rw [HL.out];exact HN.out.2,HN.out.1⟩
    case measure=>simp [intOf];omega
   | some m=>
    have HL:Hid (listC ms (k+1)=listC ms k++[⟨m.tx,(k:Int)+1⟩]):=listC_yes hgc
    have HAT:Hid (atC ((k:Int)+1) ms=m):=atC_some hgc
    rw [hgc,HAT.out] at hlk
    obtain ⟨V,hV,bV,hbV,hsV⟩:=boxes1 wr [.int .i64 m.tx,.int .i64 m.place] 152
    have N1:Below W.heap.size W V:=hN.trans (hbV.mono hN.size)
    have ho1:=(ho.below hbV).widen (Nat.le_refl _) hbV.size (Nat.le_refl _)
    have x0:=bV.cell 0 _ rfl
    have zV:=N1.size
    have ho2:=ho1.below ((Below.refl _ _).alloc (Nat.le_refl _) (.cells #[.int .i64 m.tx,.int .i64 ((k:Int)+1)] 132))
    go_upto_region 7 with fail
    rw [hV.out]
    clear hV bV hbV hsV f0 f1 f2 hlk hgc ho HAT
    go_wp2_with (at_builtin;refine append_holds rfl _ _ rfl W.heap.size V.heap.size a c (listC ms k) rfl ho2 _ _ [⟨m.tx,(k:Int)+1⟩] rfl (readsH_one V ⟨m.tx,(k:Int)+1⟩ _) (fun h=>by cases h) (by simp;omega) (by simp;omega) ?_;intro a3 c3 y3 w3 hy3 ho3 hg3)
    have HY:Hid (y3=listC ms (k+1)):=by rw [Hid,hy3.out,HL.out]
    have HN:Hid (Below W.heap.size W w3):=grown_belowE (N1.trans ((Below.refl _ _).alloc zV _)) hg3 (fun j hj=>(ho1.lt j hj).1) (by simp;omega)
    clear hy3 hg3 ho1 ho2 N1
    go_roundw
    case rel=>exact ⟨k+1,a3,c3,by omega,by go_num,by rw [HY.out],by rw [← HY.out];exact ho3,HN.out⟩
    case measure=>simp [intOf];omega
  ·obtain rfl:k=31:=by omega
   have hki:¬ ((31:Nat):Int)+1≤31:=by omega
   generalize hL:listC ms 31=L at*
   cases a with
   | none=>
    have hnl:L=[]:=by
     rcases ho.1.2 with ⟨_,h0⟩ | ⟨g,cap,cur,hv,_⟩
     ·exact List.length_eq_zero_iff.1 h0
     ·cases hv
    subst hnl
    have hc0:c=0:=ho.nocap rfl
    subst hc0
    have C:=sortH_none (.func (.func 169) #[] #[.pointer (some ⟨w.heap.size,0,none⟩)]) wr
    have HE:Hid (_):=HEND.out _ hN
    go_wp2_with fail
    refine C.mono ?_
    rintro r w' ⟨rfl,rfl⟩
    go_wp2
    go_ret
    exact ⟨[],none,0,rfl,⟨by simp,by simp⟩,ownH_nil _ _ _ (Nat.le_refl _),HE.out⟩
   | some ad=>
    obtain ⟨g,rfl⟩:∃ g,ad=⟨g,0,none⟩:=by
     rcases ho.1.2 with ⟨hv,_⟩ | ⟨g,cap,cur,hv,_⟩
     ·cases hv
     ·simp only [Value.slice.injEq,Option.some.injEq] at hv;exact ⟨g,hv.1⟩
    have hgl:=ho.lt g rfl
    have C:=sortH_any w.heap.size R M g c W.heap.size ms L wr f0 f1 f2 (by omega) (by omega) (by omega) HB.out ho (by omega)
    go_wp2_with fail
    refine C.mono ?_
    clear C
    rintro r w' ⟨rfl,ts,HP,ot,hg⟩
    have HE:Hid (Below w.heap.size w w'∧OwnH w' w.heap.size w'.heap.size (some ⟨g,0,none⟩) c ts):=⟨HEND.out _ (hN.grown hg hN.size (fun j hj=>by cases hj;omega)),ot.widen (by omega) (Nat.le_refl _) (Nat.le_refl _)⟩
    have HLN:Hid (ts.length=L.length):=HP.out.1.length_eq
    rw [← HLN.out]
    clear hg ot ho f0 f1 f2
    go_wp2
    go_ret
    exact ⟨ts,_,c,rfl,HP,HE.out.2,HE.out.1⟩
theorem within_touchR {B:Nat} {w w':World} (h:Within B (B+1) w w'):Touch [B] w w':=⟨h.os,h.tape,h.output,h.size,fun k hk hn=>h.block k hk (fun hh=>hn (List.mem_singleton.2 (by omega)))⟩
theorem own_holds {w:World} {e:EngA} {lo hi m:Nat} {hs:List HoldV} {a:Option Addr} {c:Nat} (h:e.own w lo hi) (ho:OwnH w m w.heap.size a c hs) (h1:lo≤hi) (h2:hi≤m) (h3:m≤w.heap.size):({ e with holds:=hs,aH:=a,cH:=c }:EngA).own w lo w.heap.size:=by
 refine ⟨h.disk.widen (Nat.le_refl _) (by omega) (Nat.le_refl _),h.pool.widen (Nat.le_refl _) (by omega) (Nat.le_refl _),h.log.widen (Nat.le_refl _) (by omega) (Nat.le_refl _),h.txs.widen (Nat.le_refl _) (by omega) (Nat.le_refl _),ho.widen (by omega) (Nat.le_refl _) (Nat.le_refl _),?_⟩
 have hb:=h.blocks_lt
 have ap:=h.apart
 simp only [EngA.blocks,List.mem_append] at hb
 simp only [EngA.blocks,List.nodup_append,List.mem_append] at ap
 simp only [EngA.blocks,List.nodup_append,List.mem_append]
 obtain ⟨a1,⟨a2,⟨a3,⟨a4,_,_⟩,a5⟩,a6⟩,a7⟩:=ap
 have nr:∀ o:Option Nat,o.toList.Nodup:=fun o=>by cases o<;>simp
 have hn:∀ k∈rowOf a hs.length c,m≤k:=fun k hk=>(ho.lt k (Option.mem_toList.1 hk)).1
 refine ⟨a1,⟨a2,⟨a3,⟨a4,nr _,fun x hx y hy q=>?_⟩,fun x hx y hy=>?_⟩,fun x hx y hy=>?_⟩,fun x hx y hy=>?_⟩
 ·have:=hb x (.inr (.inr (.inr (.inl hx))));have:=hn y hy;omega
 ·rcases hy with hy | hy
  ·exact a5 x hx y (.inl hy)
  ·have:=hb x (.inr (.inr (.inl hx)));have:=hn y hy;omega
 ·rcases hy with hy | hy | hy
  ·exact a6 x hx y (.inl hy)
  ·exact a6 x hx y (.inr (.inl hy))
  ·have:=hb x (.inr (.inl hx));have:=hn y hy;omega
 ·rcases hy with hy | hy | hy | hy
  ·exact a7 x hx y (.inl hy)
  ·exact a7 x hx y (.inr (.inl hy))
  ·exact a7 x hx y (.inr (.inr (.inl hy)))
  ·have:=hb x (.inl hx);have:=hn y hy;omega
theorem rest_any (R M:Nat) (e:EngA) (se:e.shape) (n:Int) (ms:List ClaimV) (w:World) (lo hi:Nat) (b:Box w R (runCells e.cells M n) 148) (hm:MapAt w M ms) (hb:∀ k,0≤(atC k ms).place∧(atC k ms).place≤1099511627776) (own:e.own w lo hi) (hR:R∉e.blocks) (h1:lo≤hi) (h2:hi≤w.heap.size):
  Calls Tryz.prog 53 #[.pointer (some ⟨R,0,none⟩)] w fun r w'=>∃ (hs:List HoldV) (a:Option Addr) (c:Nat),r=.returned (.agg ({ e with holds:=hs,aH:=a,cH:=c }:EngA).cells.toArray)∧Hid (hs.Perm (listC ms 31)∧hs.Pairwise (fun a b=>¬ (atC b.oid ms).place<(atC a.oid ms).place))∧({ e with holds:=hs,aH:=a,cH:=c }:EngA).own w' lo w'.heap.size∧Touch [R] w w':=by
 obtain ⟨Z,hZ⟩:∃ Z,Hid (zeroE=Z):=⟨_,rfl⟩
 have sZ:Z.shape:=by rw [← hZ.out];exact zeroE_shape
 have HZ:=Tryz.zeroEng
 rw [hZ.out] at HZ
 have hRl:=b.lt
 obtain ⟨W,hW,bZ,hbW,hsW⟩:=boxes1 w Z.cells 59
 have b1:=b.below hbW b.lt
 have own1:=own.below hbW
 have zW:=hbW.size
 have hlZ:=bZ.lt
 have C:=holds_any R M e.cells n ms W b1 (EngA.cells_len se) (hm.below hbW) hb
 have HA:Hid ((cellsPs e.disk).length=136):=EngA.disk_len se
 clear b hm hb hsW own
 go_enter Tryz.func53,Tryz.ntmps53
 go_wp2_with (first | (guard_target=wpList _ _ _ (Oper.mk _ (Op.alloc _) _ _ _ _::_) _ _;refine alloc_of 59 Z.cells HZ ?_) | fail)
 rw [hW.out]
 clear hW
 refine C.mono ?_
 clear C
 rintro r w1 ⟨hs,a,c,rfl,HP,oh,hb1⟩
 have z1:=hb1.size
 replace b1:=b1.below hb1 b1.lt
 have b2:Box w1 R (cellsPs e.disk++[.slice e.aS e.seats.length e.cS,.int .i64 e.hand,.slice e.log.a e.log.recs.length e.log.c,.int .i64 e.log.sure,.slice e.aT e.txs.length e.cT,.slice e.aH e.holds.length e.cH,.int .i64 e.next,.bool e.down,.map (some M),.int .i64 n]) 148:=by unfold runCells EngA.cells at b1;rw [List.append_assoc] at b1;exact b1
 have own2:=own1.below hb1
 have bZ2:=bZ.below hb1 bZ.lt
 have f0:=b2.frozen 141
 have x0:=b2.cell 141 (.slice e.aH e.holds.length e.cH) (by rw [List.getElem?_append_right (by rw [HA.out];omega),HA.out];rfl)
 obtain ⟨w2,h2',c2,t2,s2⟩:=tail_fill b2 HA.out 5 (.slice a hs.length c)
 have z2:=t2.size
 obtain ⟨T,hT⟩:∃ T:EngA,Hid (({ e with holds:=hs,aH:=a,cH:=c }:EngA)=T):=⟨_,rfl⟩
 have sT:T.shape:=by rw [← hT.out];exact ⟨se.eight,se.four⟩
 have c3:Box w2 R ([]++(T.cells++[.map (some M),.int .i64 n])) 148:=by
  rw [← hT.out,List.nil_append,EngA.cells,List.append_assoc];exact c2
 have rT:w2.rangeAt R 0 T.cells:=Box.range [] T.cells _ c3
 have own3:e.own w2 lo hi:=own2.touch (within_touchR t2) (fun k hk hm=>hR (by rw [← List.mem_singleton.1 hm];exact hk))
 have oh3:OwnH w2 W.heap.size w2.heap.size a c hs:=(oh.within t2 (.inr (by omega))).widen (Nat.le_refl _) (by omega) (Nat.le_refl _)
 have oT:T.own w2 lo w2.heap.size:=by rw [← hT.out];exact own_holds own3 oh3 h1 (by omega) (by omega)
 have bZ3:=bZ2.within t2 (by omega)
 obtain ⟨WF,hWF,hwF,hsF,HTF,bF⟩:=eng_out sT sZ bZ3
 have HLF:Hid (_=_):=eng_load sT bF
 have T12:Touch [R] w w2:=(Touch.of_below (hbW.trans (hb1.mono hbW.size))).trans (within_touchR t2)
 have HEND:Hid (T.own WF lo WF.heap.size∧Touch [R] w WF):=⟨(oT.touch (within_touchR hwF) (fun k hk hm=>?_)).widen (Nat.le_refl _) hwF.size (Nat.le_refl _),⟨hwF.os.trans T12.os,hwF.tape.trans T12.tape,hwF.output.trans T12.output,Nat.le_trans T12.size hwF.size,fun k hk hn=>(hwF.block k (by omega) (by omega)).trans (T12.block k hk hn)⟩⟩
 rotate_left
 ·rw [List.mem_singleton.1 hm,← hT.out] at hk
  simp only [EngA.blocks,List.mem_append] at hk
  have hb2:=own3.blocks_lt
  simp only [EngA.blocks,List.mem_append] at hb2
  rcases hk with hk | hk | hk | hk | hk
  ·have:=hb2 _ (.inl hk);omega
  ·have:=hb2 _ (.inr (.inl hk));omega
  ·have:=hb2 _ (.inr (.inr (.inl hk)));omega
  ·have:=hb2 _ (.inr (.inr (.inr (.inl hk))));omega
  ·have:=(oh3.lt _ (Option.mem_toList.1 hk)).1;omega
 have HI:=eng_info sT
 have HO:=all_oneCell_toArray (oneE T)
 have h2n:Hid (w1.setCell ⟨R,141,none⟩ (.slice a hs.length c)=w2):=h2'.out
 clear h2' c2 c3 b1 b2 own1 own2 own3 oh oh3 oT bZ bZ2 bZ3 hwF hsF bF t2 s2 T12 hb1 hbW
 go_upto_region 2 with fail
 rw [h2n.out]
 clear h2n f0 x0
 go_wp2_with (first | (guard_target=wpList _ _ _ (Oper.mk (some 12) _ _ _ _ _::_) _ _;refine wpList_load_mid rfl 59 (.tmp 11) rfl R 0 rfl (T.cells) _ rT Tryz.underlying59 rfl HI ?_) | (guard_target=wpList _ _ _ (Oper.mk none (Op.store _ (Operand.tmp 2) _) _ _ _ _::_) _ _;refine wpList_store_mid rfl 59 (.tmp 2) (.tmp 12) rfl w.heap.size 0 (T.cells).toArray rfl rfl HTF.out (by rw [List.size_toArray];exact HI) HO ?_) | fail)
 rw [hWF.out]
 exact bodyPost_ret (v:=.agg T.cells.toArray) (results_one Tryz.results53 rfl HLF.out) rfl ⟨hs,a,c,by rw [hT.out],HP,by rw [hT.out];exact HEND.out.1,HEND.out.2⟩
theorem run_nextR {P:Program} {w w':World} {m:Sem Value} {v:Value} (h:m.run P w=.ok v w'):(do let r ← m;pure (Next.value r):Sem Next).run P w=.ok (.value v) w':=by simp only [Sem.run_bind,h,Result.andThen_ok,Sem.run_pure]
theorem run_any (e:EngA) (se:e.shape) (w:World) (re:e.reads w) (hl:e.short 1048576) (hc:e.caps):
  Calls Tryz.prog 51 #[.agg e.cells.toArray] w fun r w'=>∃ (t:EngA) (M R:Nat),r=.returned (.pointer (some ⟨R,0,none⟩))∧t.shape∧Hid (t.v=e.v)∧t.own w' w.heap.size M∧M<R∧R<w'.heap.size∧w.heap.size≤M∧
   MapAt w' M (claimsTo e.holds e.holds.length)∧Box w' R (runCells t.cells M (e.holds.length:Int)) 148∧Below w.heap.size w w':=by
 have CE:=fun u (hr:e.reads u)=>copyEngine_any e se u hr hl hc
 have hlh:=hl.holds
 have HI:=eng_info se
 obtain ⟨W,hW,b0,hbW,hsW⟩:=boxes1 w e.cells 59
 have HB:Hid (∀ u,Below W.heap.size W u→Box u w.heap.size e.cells 59):=fun u hu=>b0.below hu b0.lt
 have HR:Hid (∀ u,Below W.heap.size W u→e.reads u):=fun u hu=>(re.below hbW).below hu
 have HEND:Hid (∀ u,Below W.heap.size W u→Below w.heap.size w u):=fun u hu=>hbW.trans (hu.mono hbW.size)
 have hw0:w.heap.size<W.heap.size:=by omega
 have N:Below W.heap.size W W:=Below.refl _ _
 clear b0 hsW
 have HCC:Hid (∀ u,Below W.heap.size W u→Calls Tryz.prog 106 #[.slice e.aH e.holds.length e.cH] u fun r w'=>r=.returned (.map (some u.heap.size))∧MapAt w' u.heap.size (claimsTo e.holds e.holds.length)∧Below u.heap.size u w'):=fun u hu=>claimsOf_any e.aH e.cH e.holds u (HR.out _ hu).holds (by omega)
 have HS:Hid (∀ u,Below W.heap.size W u→(u.rangeAt w.heap.size 0 e.cells∧u.cell? ⟨w.heap.size,141,none⟩=some (.slice e.aH e.holds.length e.cH))):=fun u hu=>⟨Box.range [] e.cells [] (by simpa using HB.out u hu),(eng_parts se (HB.out u hu)).2.2.2.2.1⟩
 clear re hl
 go_enter Tryz.func51,Tryz.ntmps51
 go_upto_region 1 with fail
 rw [hW.out]
 clear hW
 have D0:Below W.heap.size W W.drew:=N.drew
 have C1:=CE W.drew (HR.out _ D0)
 refine wp_region_held_drew (S:=fun u=>(u.rangeAt w.heap.size 0 e.cells∧u.cell? ⟨w.heap.size,141,none⟩=some (.slice e.aH e.holds.length e.cH))) (by kernel_rfl) (HS.out _ D0) (fun hHeld=>?_)
 generalize W.drew=d0 at*
 refine tk 0 rfl (yieldsIf_load_mid (by rfl) _ _ rfl _ _ rfl (e.cells) _ (fun _ h=>h.1) Tryz.underlying59 rfl HI) hHeld ?_
 try simp only [zz]
 refine tq 2 (v:=.pointer (some ⟨w.heap.size,141,none⟩)) rfl hHeld ?_
 try simp only [zz]
 refine tk 3 (v:=.slice e.aH e.holds.length e.cH) rfl (Or.inl ⟨by rfl,?_⟩) hHeld ?_
 ·intro w' hSw
  have hx:=hSw.2
  go_simp<;>rfl
 try simp only [zz]
 refine tq 5 (v:=.pointer (some ⟨w.heap.size,141,none⟩)) rfl hHeld ?_
 try simp only [zz]
 refine tk 6 (v:=.slice e.aH e.holds.length e.cH) rfl (Or.inl ⟨by rfl,?_⟩) hHeld ?_
 ·intro w' hSw
  have hx:=hSw.2
  go_simp<;>rfl
 try simp only [zz]
 refine tq 7 (v:=.int .i64 (e.holds.length:Int)) rfl hHeld ?_
 try simp only [zz]
 refine wpAnyH_ready (rs:=[1]) (by kernel_rfl) (by simp) ?_
 refine AllReadyH.cons rfl (fun K hK=>?_) AllReadyH.nil
 go_simp
 refine C1.mono ?_
 clear C1
 rintro r d1 ⟨t,rfl,st,hv,ot,hb1⟩
 have D1:Below W.heap.size W d1:=D0.trans (hb1.mono D0.size)
 have z1:=hb1.size
 have zd:=D0.size
 refine hK.out _ _ (HS.out _ D1) (fun hHeld=>?_)
 clear hK K hb1
 try simp only [zz]
 refine wpAnyH_ready (rs:=[4]) (by kernel_rfl) (by simp) ?_
 refine AllReadyH.cons rfl (fun K hK=>?_) AllReadyH.nil
 go_simp
 refine (HCC.out _ D1).mono ?_
 rintro r d2 ⟨rfl,hm2,hb2⟩
 have D2:Below W.heap.size W d2:=D1.trans (hb2.mono D1.size)
 have z2:=hb2.size
 have hmL:=hm2.lt
 replace ot:=ot.below hb2
 refine hK.out _ _ (HS.out _ D2) (fun hHeld=>?_)
 clear hK K hb2
 try simp only [zz]
 refine tk 8 (v:=.agg (runCells t.cells d1.heap.size (e.holds.length:Int)).toArray) rfl (Or.inl ⟨by rfl,?_⟩) hHeld ?_
 ·intro w' hSw
  have e8:=run_buildR w' t st d1.heap.size (e.holds.length:Int)
  refine run_nextR ?_
  simp only [List.map_toArray,List.map_cons,List.map_nil]
  exact e8
 try simp only [zz]
 obtain ⟨d3,hd3,bR,hb3,hs3⟩:=boxes1 d2 (runCells t.cells d1.heap.size (e.holds.length:Int)) 148
 have D3:Below W.heap.size W d3:=D2.trans (hb3.mono D2.size)
 have hlR:=bR.lt
 have z3:=hb3.size
 replace hm2:=hm2.below hb3
 replace ot:=ot.below hb3
 refine wpAnyH_ready (rs:=[9]) (by kernel_rfl) (by simp) ?_
 refine AllReadyH.cons rfl (fun K hK=>?_) AllReadyH.nil
 go_simp
 rw [hd3.out]
 refine hK.out _ _ (HS.out _ D3) (fun hHeld=>?_)
 clear hK K hb3 hd3 hs3
 try simp only [zz]
 refine tq 10 (v:=.pointer (some ⟨d2.heap.size,0,none⟩)) rfl hHeld ?_
 try simp only [zz]
 refine wpAnyH_done (by kernel_rfl) ?_ _
 clear hHeld
 have HE:Hid (_∧_∧_∧_∧_∧_∧_∧_∧_):=⟨st,hv,ot.widen (show w.heap.size≤d0.heap.size by omega) (Nat.le_refl _) (by omega),hmL,hlR,(show w.heap.size≤d1.heap.size by omega),hm2,bR,HEND.out _ D3⟩
 go_wp2
 go_ret
 exact ⟨t,d1.heap.size,d2.heap.size,rfl,HE.out⟩
end Go.Proofs.YtnoeobahjbdoiaaGreatDoor
namespace Go.Proofs.YtnoeobahjbdoiaaGreatDoor
structure ClaimsOk (ms:List ClaimV) (hs:List HoldV):Prop where
 got:∀ h∈hs,∃ c,getC h.oid ms=some c∧c.tx=h.tx
 only:∀ k c,1≤k→k≤31→getC k ms=some c→⟨c.tx,k⟩∈hs
 oids:∀ h∈hs,1≤h.oid∧h.oid≤31
 up:hs.Pairwise (fun a b=>(atC a.oid ms).place<(atC b.oid ms).place)
theorem mem_listC (ms:List ClaimV) (h:HoldV):∀ k:Nat,h∈listC ms k ↔ ∃ c,getC h.oid ms=some c∧c.tx=h.tx∧1≤h.oid∧h.oid≤(k:Int):=by
 intro k
 induction k with
 | zero=>
  constructor
  ·intro hh;cases hh
  ·rintro ⟨c,_,_,h1,h2⟩;omega
 | succ k ih=>
  cases hg:getC ((k:Int)+1) ms with
  | none=>
   rw [listC_no hg,ih]
   refine ⟨fun ⟨c,a,b,d,e⟩=>⟨c,a,b,d,by omega⟩,fun ⟨c,a,b,d,e⟩=>⟨c,a,b,d,?_⟩⟩
   by_cases q:h.oid=(k:Int)+1
   ·rw [q,hg] at a;cases a
   ·omega
  | some m=>
   rw [listC_yes hg,List.mem_append,ih,List.mem_singleton]
   constructor
   ·rintro (⟨c,a,b,d,e⟩ | rfl)
    ·exact ⟨c,a,b,d,by omega⟩
    ·exact ⟨m,hg,rfl,by show (1:Int)≤(k:Int)+1;omega,by show (k:Int)+1≤_;omega⟩
   ·rintro ⟨c,a,b,d,e⟩
    by_cases q:h.oid=(k:Int)+1
    ·rw [q,hg] at a
     cases a
     refine .inr ?_
     obtain ⟨t,o⟩:=h
     simp only at b q
     rw [b,q]
    ·exact .inl ⟨c,a,b,d,by omega⟩
theorem listC_nodup (ms:List ClaimV):∀ k:Nat,(listC ms k).Nodup:=by
 intro k
 induction k with
 | zero=>exact List.nodup_nil
 | succ k ih=>
  cases hg:getC ((k:Int)+1) ms with
  | none=>rw [listC_no hg];exact ih
  | some m=>
   rw [listC_yes hg,List.nodup_append]
   refine ⟨ih,by simp,fun x hx y hy q=>?_⟩
   obtain ⟨c,_,_,_,h4⟩:=(mem_listC ms x k).1 hx
   rw [q,List.mem_singleton.1 hy] at h4
   simp only at h4
   omega
theorem ClaimsOk.nodup {ms:List ClaimV} {hs:List HoldV} (h:ClaimsOk ms hs):hs.Nodup:=h.up.imp (fun q e=>by rw [e] at q;omega)
theorem ClaimsOk.perm {ms:List ClaimV} {hs:List HoldV} (h:ClaimsOk ms hs):hs.Perm (listC ms 31):=by
 refine (List.perm_ext_iff_of_nodup h.nodup (listC_nodup ms 31)).2 (fun x=>?_)
 rw [mem_listC]
 constructor
 ·intro hx
  obtain ⟨c,h1,h2⟩:=h.got x hx
  exact ⟨c,h1,h2,(h.oids x hx).1,by have:=(h.oids x hx).2;omega⟩
 ·rintro ⟨c,h1,h2,h3,h4⟩
  have:=h.only x.oid c h3 (by omega) h1
  rw [h2] at this
  exact this
theorem ClaimsOk.sorted {ms:List ClaimV} {hs ts:List HoldV} (h:ClaimsOk ms hs) (hp:ts.Perm (listC ms 31)) (ho:ts.Pairwise (fun a b=>¬ (atC b.oid ms).place<(atC a.oid ms).place)):ts=hs:=by
 have hpt:ts.Perm hs:=hp.trans h.perm.symm
 refine List.Perm.eq_of_pairwise (le:=fun a b=>¬ (atC b.oid ms).place<(atC a.oid ms).place) ?_ ho (h.up.imp (fun q=>by omega)) hpt
 intro a b ha hb h1 h2
 have ha':a∈hs:=hpt.mem_iff.1 ha
 have he:(atC a.oid ms).place=(atC b.oid ms).place:=by omega
 obtain ⟨i,hi,rfl⟩:=List.mem_iff_getElem.1 ha'
 obtain ⟨j,hj,rfl⟩:=List.mem_iff_getElem.1 hb
 have up:=List.pairwise_iff_getElem.1 h.up
 rcases Nat.lt_trichotomy i j with q | q | q
 ·have:=up i j hi hj q;omega
 ·subst q;rfl
 ·have:=up j i hj hi q;omega
theorem claims_get (hs:List HoldV):∀ n,(∀ i,i<n→∀ j,j<i→(hs.getD j zeroH).oid≠(hs.getD i zeroH).oid)→∀ j,j<n→getC (hs.getD j zeroH).oid (claimsTo hs n)=some ⟨(hs.getD j zeroH).oid,(hs.getD j zeroH).tx,(j:Int)⟩:=by
 intro n
 induction n with
 | zero=>intro _ j hj;omega
 | succ n ih=>
  intro hd j hj
  rw [claimsTo,getC_put]
  by_cases e:j=n
  ·subst e;rw [if_pos rfl]
  ·rw [if_neg (hd n (by omega) j (by omega))]
   exact ih (fun i hi j hj=>hd i (by omega) j hj) j (by omega)
theorem claimsTo_ok {hs:List HoldV} (hd:∀ i,i<hs.length→∀ j,j<i→(hs.getD j zeroH).oid≠(hs.getD i zeroH).oid) (ho:∀ h∈hs,1≤h.oid∧h.oid≤31):ClaimsOk (claimsTo hs hs.length) hs:=by
 have hg:=claims_get hs hs.length hd
 have at':∀ i (hi:i<hs.length),getC hs[i].oid (claimsTo hs hs.length)=some ⟨hs[i].oid,hs[i].tx,(i:Int)⟩:=fun i hi=>by
  have:=hg i hi
  simpa [List.getD,hi] using this
 refine ⟨fun h hh=>?_,fun k c h1 h2 hk=>?_,ho,?_⟩
 ·obtain ⟨i,hi,rfl⟩:=List.mem_iff_getElem.1 hh
  exact ⟨_,at' i hi,rfl⟩
 ·have hne:getC k (claimsTo hs hs.length)≠none:=by rw [hk];simp
  have:∃ j,j<hs.length∧(hs.getD j zeroH).oid=k:=by
   apply Classical.byContradiction
   intro hc
   exact hne ((claims_none hs k hs.length).2 (fun j hj e=>hc ⟨j,hj,e⟩))
  obtain ⟨j,hj,rfl⟩:=this
  rw [hg j hj] at hk
  cases hk
  have:hs.getD j zeroH=hs[j]:=by simp [List.getD,hj]
  rw [this]
  exact List.getElem_mem hj
 ·rw [List.pairwise_iff_getElem]
  intro i j hi hj hij
  rw [atC_some (at' i hi),atC_some (at' j hj)]
  show (i:Int)<(j:Int)
  omega
theorem claims_place (hs:List HoldV) (k:Int):∀ n,0≤(atC k (claimsTo hs n)).place∧(atC k (claimsTo hs n)).place≤(n:Int):=by
 intro n
 induction n with
 | zero=>exact ⟨Int.le_refl _,Int.le_refl _⟩
 | succ n ih=>
  unfold atC at ih ⊢
  rw [claimsTo,getC_put]
  by_cases e:k=(hs.getD n zeroH).oid
  ·rw [if_pos e];simp only [Option.getD_some];omega
  ·rw [if_neg e];omega
end Go.Proofs.YtnoeobahjbdoiaaGreatDoor