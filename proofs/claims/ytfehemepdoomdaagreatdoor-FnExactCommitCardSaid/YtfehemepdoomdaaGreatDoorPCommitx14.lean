/- Several texts in one, in their order. -/
import Derived.Test.YtfehemepdoomdaaGreatDoorPCommitx11
import Derived.Test.YtfehemepdoomdaaGreatDoorPCommitx13
import Derived.Test.YtfehemepdoomdaaGreatDoorPCommitx8
import Derived.Test.YtfehemepdoomdaaGreatDoorPCommitx4
import Derived.Deep.Cut
import Derived.Test.YtfehemepdoomdaaGreatDoorPCommitx12
import Derived.Test.YtfehemepdoomdaaGreatDoorPCommitx9
import Derived.Test.YtfehemepdoomdaaGreatDoorPCommitx1
set_option maxHeartbeats 8000000
set_option maxRecDepth 100000
namespace Go.Proofs.YtfehemepdoomdaaGreatDoor
open Go.RowKit
structure EngA.caps (e:EngA):Prop where
 txs:e.aT=none→e.cT=0
 holds:e.aH=none→e.cH=0
 recs:∀ r∈e.log.recs,r.aL=none→r.cL=0
theorem copyEngine_any (e:EngA) (se:e.shape) (w:World) (re:e.reads w) (hl:e.short 1048576) (hc:e.caps):
  Calls Tryz.prog 24 #[.agg e.cells.toArray] w fun r w'=>∃ t:EngA,r=.returned (.agg t.cells.toArray)∧t.shape∧Hid (t.v=e.v)∧t.own w' w.heap.size w'.heap.size∧Below w.heap.size w w':=by
 obtain ⟨Z,hZ⟩:∃ Z,Hid (zeroE=Z):=⟨_,rfl⟩
 have sZ:Z.shape:=by rw [← hZ.out];exact zeroE_shape
 have HZ:=Tryz.zeroEng
 rw [hZ.out] at HZ
 obtain ⟨W,hW,b1,b2,hbW,hsW⟩:=boxes2 w e.cells Z.cells 58 58
 have hs0:w.heap.size+1<W.heap.size:=by omega
 have HE:Hid (∀ u,Below w.heap.size w u→e.reads u):=fun u hu=>re.below hu
 have hix0:=run_index_page e.disk se.disk8
 have HIX:Hid (_):=hix0
 clear hix0
 have HFD:Hid (∀ p∈e.disk,Fit p.ss):=fun p hp s hs=>by have:=hl.disk p hp s hs;omega
 have hid:=disk8_info se.disk8
 have HD8:Hid (e.disk.length=8):=se.eight
 have p0:=(eng_parts se b1).1
 go_enter Tryz.func24,Tryz.ntmps24
 go_wp2_with (first | (guard_target=wpList _ _ _ (Oper.mk _ (Op.alloc _) _ _ _ _::_) _ _;refine alloc_of 58 Z.cells HZ ?_) | (guard_target=wpList _ _ _ (Oper.mk (some 6) _ _ _ _ _::_) _ _;refine wpList_load_mid rfl 48 (.tmp 5) rfl w.heap.size 0 rfl (cellsPs e.disk) _ (by rw [hW.out];exact p0) Tryz.underlying48 rfl hid ?_) | fail)
 rw [hW.out]
 clear hW p0 hid hsW
 have b1':Box W w.heap.size (cellsPs ([]++e.disk.drop 0)++e.tail) 58:=b1
 clear b1
 go_loopw [7] (fun i wr=>∃ (k:Nat) (ts:List PageA),k≤8∧i=.int .i64 (k:Int)∧Hid (ts.length=k∧(∀ p∈ts,p.ss.length=4)∧ts.map pgv=(e.disk.take k).map pgv)∧OwnS wr W.heap.size wr.heap.size (slots8 ts)∧Box wr w.heap.size (cellsPs (ts++e.disk.drop k)++e.tail) 58∧Box wr (w.heap.size+1) Z.cells 58∧Below w.heap.size w wr∧W.heap.size≤wr.heap.size) (fun i _=>8-(intOf i).toNat)
 case atStart=>exact ⟨0,[],Nat.zero_le _,rfl,⟨rfl,fun p hp=>by (simp at hp),rfl⟩,OwnS.nil _ _ _,b1',b2,hbW,Nat.le_refl _⟩
 case round=>
  obtain ⟨k,ts,hk,rfl,hts,hown,c1,c2,hnx,hsr⟩:=hrel
  clear b1' b2
  by_cases hlt:k<8
  ·have hkl:k<e.disk.length:=by rw [HD8.out];exact hlt
   have HP4:=se.disk8.at hlt
   have F1:=HFD.out _ (pageD_mem (k:=k) hkl)
   have R1:=(HE.out _ hnx).disk _ (pageD_mem (k:=k) hkl)
   have HTK:Hid ((e.disk.take (k+1)).map pgv=(e.disk.take k).map pgv++[pgv (e.disk.getD k zeroP)]):=by rw [Hid,List.take_succ_eq_append_getElem hkl,pageD_eq hkl,List.map_append];rfl
   have HDR:e.disk.drop k=e.disk.getD k zeroP::e.disk.drop (k+1):=by rw [← pageD_eq hkl];exact List.drop_eq_getElem_cons hkl
   have hix:=HIX.out k hlt
   rw [HDR] at c1
   clear HDR
   generalize e.disk.getD k zeroP=p at*
   have HIp:=page_infoP p HP4
   have HOp:=all_oneCell_toArray (oneP p)
   obtain ⟨ZV,hZV,bZ,hbZ,hsZ⟩:=boxes1 wr [.int .i64 0,.bool false,.int .i64 0,.slice none 0 0,.slice none 0 0,.bool false,.int .i64 0,.slice none 0 0,.slice none 0 0,.bool false,.int .i64 0,.slice none 0 0,.slice none 0 0,.bool false,.int .i64 0,.slice none 0 0,.slice none 0 0] 47
   obtain ⟨V,hV,hwS,hsS,HT,_,bS⟩:=page_out (C:=wr.heap.size) (T:=47) p HP4 _ rfl bZ Tryz.underlying47 rfl (by kernel_rfl)
   have nb:Below wr.heap.size wr V:=hbZ.trans (hwS.below (Nat.le_refl _) (by omega))
   have rS:V.rangeAt wr.heap.size 0 p.cells:=Box.range [] p.cells [] (by simpa using bS)
   have EV:Hid (ZV.setCells wr.heap.size 0 p.cells.toArray.toList=V):=hV.out
   have C1:=copyPage_own p HP4 V (R1.below nb) F1
   have hlV:=bS.lt
   have sV:=nb.size
   have hi0:(0:Int)≤(k:Int):=by omega
   have hi8:(k:Int)<8:=by omega
   clear bZ hbZ hsZ hwS hsS hV bS R1
   go_wp2_with (first | (guard_target=wpList _ _ _ (Oper.mk none (Op.store _ (Operand.tmp 4) _) _ _ _ _::_) _ _;refine wpList_store_mid rfl 47 (.tmp 4) (.tmp 10) rfl wr.heap.size 0 p.cells.toArray rfl rfl (by rw [hZV.out];exact HT.out) (by rw [List.size_toArray];exact HIp) HOp ?_) | (guard_target=wpList _ _ _ (Oper.mk (some 12) _ _ _ _ _::_) _ _;refine wpList_load_mid rfl 47 (.tmp 4) rfl wr.heap.size 0 rfl (p.cells) _ (by rw [hZV.out,EV.out];exact rS) Tryz.underlying47 rfl HIp ?_) | fail)
   rw [hZV.out,EV.out]
   clear hZV EV HT rS hix
   refine C1.mono ?_
   clear C1
   rintro r w1 ⟨us,rfl,hv,ho1,hb1⟩
   have hu4:us.length=4:=by have:=congrArg List.length hv.out;simp only [List.length_map] at this;omega
   have s1:=hb1.size
   obtain ⟨q,hq⟩:∃ q:PageA,Hid ((⟨p.lsn,us⟩:PageA)=q):=⟨_,rfl⟩
   have hq4:q.ss.length=4:=by rw [← hq.out];exact hu4
   have oq:OwnS w1 V.heap.size w1.heap.size q.ss:=by rw [← hq.out];exact ho1
   have HQV:Hid (pgv q=pgv p):=by rw [Hid,← hq.out];simp only [pgv];rw [hv.out]
   rw [hq.out]
   clear hq hv ho1 hu4
   have nb1:Below wr.heap.size wr w1:=nb.trans (hb1.mono nb.size)
   replace c1:=c1.below nb1 c1.lt
   replace c2:=c2.below nb1 c2.lt
   have hown1:=hown.below nb1
   replace hnx:=hnx.trans (nb1.mono hnx.size)
   rw [cellsPs_app,cellsPs_cons,List.append_assoc,List.append_assoc] at c1
   obtain ⟨W2,hW2,d3,hw2,hs2⟩:=range_fill (cellsPs ts) p.cells q.cells (cellsPs (e.disk.drop (k+1))++e.tail) c1 (by rw [page_len q hq4,page_len p HP4])
   have hl3:(cellsPs ts).length=k*17:=by rw [cellsPs_len _ hts.out.2.1,hts.out.1]
   rw [hl3] at hW2
   have HTH:Hid (w1.there w.heap.size (k*17) q.cells.toArray.size):=c1.there _ _ (by rw [List.size_toArray,page_len q hq4,List.length_append,List.length_append,hl3,page_len p HP4];omega)
   have s2:=hw2.size
   have d3':Box W2 w.heap.size (cellsPs ((ts++[q])++e.disk.drop (k+1))++e.tail) 58:=by
    rw [List.append_assoc,cellsPs_app,List.singleton_append,cellsPs_cons,List.append_assoc,List.append_assoc];exact d3
   have c2':=c2.within hw2 (by omega)
   have HOW:Hid (OwnS W2 W.heap.size W2.heap.size (slots8 (ts++[q]))):=by
    rw [Hid,slots8_app,slots8_cons]
    have o:=((hown1.widen (Nat.le_refl _) sV (by omega)).snocs oq (by omega) (by omega) (Nat.le_refl _))
    simpa [slots8] using (o.within hw2 (.inr (by omega))).widen (Nat.le_refl _) s2 (Nat.le_refl _)
   have HTS:Hid ((ts++[q]).length=k+1∧(∀ p∈ts++[q],p.ss.length=4)∧(ts++[q]).map pgv=(e.disk.take (k+1)).map pgv):=by
    refine ⟨by rw [List.length_append,hts.out.1];rfl,fun x hx=>?_,?_⟩
    ·rcases List.mem_append.1 hx with h | h
     ·exact hts.out.2.1 x h
     ·rw [List.mem_singleton.1 h];exact hq4
    ·rw [HTK.out,List.map_append,hts.out.2.2,← HQV.out];rfl
   have HN:Hid (Below w.heap.size w W2∧W.heap.size≤W2.heap.size):=⟨hnx.trans (hw2.below (Nat.le_refl _) (by omega)),by omega⟩
   have HIq:Hid ((Tryz.prog.info? 47).map (·.size)=some q.cells.toArray.size):=page_infoP q hq4
   have HOq:=all_oneCell_toArray (oneP q)
   have HW2:Hid (w1.setCells w.heap.size (k*17) q.cells.toArray.toList=W2):=hW2.out
   clear c1 c2 d3 hown hown1 oq hw2 hs2 hW2 hnx hts HTK HQV hl3 hb1 nb nb1
   go_wp2_with (first | (guard_target=wpList _ _ _ (Oper.mk none (Op.store _ (Operand.tmp 15) _) _ _ _ _::_) _ _;refine wpList_store_mid rfl 47 (.tmp 15) (.tmp 13) rfl w.heap.size (k*17) (q.cells).toArray rfl rfl HTH.out HIq.out HOq ?_) | fail)
   rw [HW2.out]
   go_roundw
   case rel=>exact ⟨k+1,ts++[q],by omega,by go_num,HTS,HOW.out,d3',c2',HN.out.1,HN.out.2⟩
   case measure=>simp [intOf];omega
  ·obtain rfl:k=8:=by omega
   have hkk:¬ ((8:Nat):Int)<8:=by omega
   have ht8:Disk8 ts:=⟨hts.out.1,hts.out.2.1⟩
   have hvd:Hid (ts.map pgv=e.disk.map pgv):=by rw [Hid,hts.out.2.2,← HD8.out,List.take_length]
   have b1:Box wr w.heap.size (cellsPs ts++[.slice e.aS e.seats.length e.cS,.int .i64 e.hand,.slice e.log.a e.log.recs.length e.log.c,.int .i64 e.log.sure,.slice e.aT e.txs.length e.cT,.slice e.aH e.holds.length e.cH,.int .i64 e.next,.bool e.down]) 58:=by
    have e0:e.disk.drop 8=[]:=List.drop_eq_nil_of_le (by rw [HD8.out];exact Nat.le_refl _)
    rw [e0,List.append_nil] at c1
    exact c1
   have HA:Hid ((cellsPs ts).length=136):=by rw [Hid,cellsPs_len _ ht8.four,ht8.eight]
   have b2:=c2
   have N:=hnx
   have od:=hown
   clear c1 c2 hnx hown hts
   have p1:wr.rangeAt w.heap.size 136 e.poolA.cells:=by
    have:=Box.range (cellsPs ts) e.poolA.cells [.slice e.log.a e.log.recs.length e.log.c,.int .i64 e.log.sure,.slice e.aT e.txs.length e.cT,.slice e.aH e.holds.length e.cH,.int .i64 e.next,.bool e.down] b1
    rwa [HA.out] at this
   have C:=copyPool_any e.poolA wr (HE.out _ N).pool hl.pool
   go_wp2_with (first | (guard_target=wpList _ _ _ (Oper.mk (some 18) _ _ _ _ _::_) _ _;refine wpList_load_mid rfl 51 (.tmp 17) rfl w.heap.size 136 rfl (e.poolA.cells) _ p1 Tryz.underlying51 rfl (pool_info _) ?_) | fail)
   refine C.mono ?_
   clear C p1
   rintro r w3 ⟨q,rfl,hvp,op,hb⟩
   have s3:=hb.size
   replace b1:=b1.below hb b1.lt
   replace b2:=b2.below hb b2.lt
   replace N:=N.trans (hb.mono N.size)
   replace od:=od.below hb
   clear hb
   obtain ⟨w4,h4,c3,hw,hs⟩:=range_fill (cellsPs ts) e.poolA.cells q.cells [.slice e.log.a e.log.recs.length e.log.c,.int .i64 e.log.sure,.slice e.aT e.txs.length e.cT,.slice e.aH e.holds.length e.cH,.int .i64 e.next,.bool e.down] b1 rfl
   rw [HA.out] at h4
   have HT:Hid (w3.there w.heap.size 136 q.cells.toArray.size):=b1.there _ _ (by rw [List.length_append,HA.out];show 136+2≤_;simp)
   have sy4:=hw.size
   replace b2:=b2.within hw (by omega)
   replace N:=N.trans (hw.below (Nat.le_refl _) (by have:=N.size;omega))
   replace od:=od.within hw (.inr (by omega))
   replace op:=op.within hw (.inr (by omega))
   clear hw hs b1
   have E4:Hid (w3.setCells w.heap.size 136 q.cells.toArray.toList=w4):=h4.out
   have b1:Box w4 w.heap.size ((cellsPs ts++q.cells)++[.slice e.log.a e.log.recs.length e.log.c,.int .i64 e.log.sure,.slice e.aT e.txs.length e.cT,.slice e.aH e.holds.length e.cH,.int .i64 e.next,.bool e.down]) 58:=by rw [List.append_assoc];exact c3
   clear c3 h4
   have HA2:Hid ((cellsPs ts++q.cells).length=138):=by rw [Hid,List.length_append,HA.out];rfl
   have p2:w4.rangeAt w.heap.size 138 e.log.cells:=by
    have:=Box.range (cellsPs ts++q.cells) e.log.cells [.slice e.aT e.txs.length e.cT,.slice e.aH e.holds.length e.cH,.int .i64 e.next,.bool e.down] b1
    rwa [HA2.out] at this
   have C:=copyLog_any e.log w4 (HE.out _ N).log hl.log hc.recs
   go_wp2_with (first | (guard_target=wpList _ _ _ (Oper.mk none (Op.store _ (Operand.tmp 20) _) _ _ _ _::_) _ _;refine wpList_store_mid rfl 51 (.tmp 20) (.tmp 19) rfl w.heap.size 136 (q.cells).toArray rfl rfl HT.out (pool_info _) (all_oneCell_toArray (onePool q)) ?_) | (guard_target=wpList _ _ _ (Oper.mk (some 22) _ _ _ _ _::_) _ _;refine wpList_load_mid rfl 54 (.tmp 21) rfl w.heap.size 138 rfl (e.log.cells) _ (by rw [E4.out];exact p2) Tryz.underlying54 rfl (log_info _) ?_) | fail)
   rw [E4.out]
   refine C.mono ?_
   clear C p2 E4 HT
   rintro r w5 ⟨l,rfl,hvl,ol,hb⟩
   have s5:=hb.size
   replace b1:=b1.below hb b1.lt
   replace b2:=b2.below hb b2.lt
   replace N:=N.trans (hb.mono N.size)
   replace od:=od.below hb
   replace op:=op.below hb
   clear hb
   obtain ⟨w6,h6,c3,hw,hs⟩:=range_fill (cellsPs ts++q.cells) e.log.cells l.cells [.slice e.aT e.txs.length e.cT,.slice e.aH e.holds.length e.cH,.int .i64 e.next,.bool e.down] b1 rfl
   rw [HA2.out] at h6
   have HT:Hid (w5.there w.heap.size 138 l.cells.toArray.size):=b1.there _ _ (by rw [List.length_append,HA2.out];show 138+2≤_;simp)
   have sy6:=hw.size
   replace b2:=b2.within hw (by omega)
   replace N:=N.trans (hw.below (Nat.le_refl _) (by have:=N.size;omega))
   replace od:=od.within hw (.inr (by omega))
   replace op:=op.within hw (.inr (by omega))
   replace ol:=ol.within hw (.inr (by omega))
   clear hw hs b1
   have E6:Hid (w5.setCells w.heap.size 138 l.cells.toArray.toList=w6):=h6.out
   have b1:Box w6 w.heap.size (cellsPs ts++[.slice q.a q.seats.length q.c,.int .i64 q.hand,.slice l.a l.recs.length l.c,.int .i64 l.sure,.slice e.aT e.txs.length e.cT,.slice e.aH e.holds.length e.cH,.int .i64 e.next,.bool e.down]) 58:=by rw [List.append_assoc] at c3;exact c3
   clear c3 h6
   go_upto_region 8 with (first | (guard_target=wpList _ _ _ (Oper.mk none (Op.store _ (Operand.tmp 24) _) _ _ _ _::_) _ _;refine wpList_store_mid rfl 54 (.tmp 24) (.tmp 23) rfl w.heap.size 138 (l.cells).toArray rfl rfl HT.out (log_info _) (all_oneCell_toArray (oneLog l)) ?_) | fail)
   rw [E6.out]
   clear E6 HT
   have HX:Hid (∀ u,Below w6.heap.size w6 u→u.cell? ⟨w.heap.size,140,none⟩=some (.slice e.aT e.txs.length e.cT)∧u.frozen? ⟨w.heap.size,140,none⟩=false):=fun u hu=>by
    have bu:=b1.below hu b1.lt
    exact ⟨bu.cell 140 (.slice e.aT e.txs.length e.cT) (by rw [List.getElem?_append_right (by rw [HA.out];omega),HA.out];rfl),bu.frozen 140⟩
   obtain ⟨x0,f0⟩:=HX.out _ (Below.refl _ _)
   have HRD:=(HE.out _ N).txs
   have HLN:([]:List LiveV).length+e.txs.length≤1099511627776:=by have:=hl.txs;simp only [List.length_nil];omega
   go_upto_region 9 with (first | (guard_target=wpList _ _ _ (Oper.mk (some 27) _ _ _ _ _::_) _ _;refine append_lives rfl (.const (.slice none 0 0)) (.tmp 26) rfl w6.heap.size w6.heap.size none 0 [] rfl (ownL_nil _ _ _ (Nat.le_refl _)) e.aT e.cT e.txs rfl HRD hc.txs HLN (Nat.le_refl _) ?_;intro a7 c7 y7 w7 hy7 ot g7;have hb7:Below w6.heap.size w6 w7:=(Below.refl _ _).grown g7 (Nat.le_refl _) (fun j hj=>by cases hj);obtain ⟨x7,f7⟩:=HX.out _ hb7) | fail)
   have hyy:y7=e.txs:=hy7.out
   subst hyy
   have s7:=hb7.size
   replace b1:=b1.below hb7 b1.lt
   replace b2:=b2.below hb7 b2.lt
   replace N:=N.trans (hb7.mono N.size)
   replace od:=od.below hb7
   replace op:=op.below hb7
   replace ol:=ol.below hb7
   clear x0 f0 x7 f7 HRD HLN g7 hy7 hb7 HX
   obtain ⟨w8,hw8,c3,hw,hs⟩:=tail_fill b1 HA.out 4 (.slice a7 e.txs.length c7)
   rw [show w.heap.size=w.heap.size from rfl,hw8.out]
   have syw8:=hw.size
   replace b2:=b2.within hw (by omega)
   replace N:=N.trans (hw.below (Nat.le_refl _) (by have:=N.size;omega))
   replace od:=od.within hw (.inr (by omega))
   replace op:=op.within hw (.inr (by omega))
   replace ol:=ol.within hw (.inr (by omega))
   replace ot:=ot.within hw (.inr (by omega))
   clear hw hs hw8 b1
   have b1:Box w8 w.heap.size (cellsPs ts++[.slice q.a q.seats.length q.c,.int .i64 q.hand,.slice l.a l.recs.length l.c,.int .i64 l.sure,.slice a7 e.txs.length c7,.slice e.aH e.holds.length e.cH,.int .i64 e.next,.bool e.down]) 58:=c3
   clear c3
   have HX:Hid (∀ u,Below w8.heap.size w8 u→u.cell? ⟨w.heap.size,141,none⟩=some (.slice e.aH e.holds.length e.cH)∧u.frozen? ⟨w.heap.size,141,none⟩=false):=fun u hu=>by
    have bu:=b1.below hu b1.lt
    exact ⟨bu.cell 141 (.slice e.aH e.holds.length e.cH) (by rw [List.getElem?_append_right (by rw [HA.out];omega),HA.out];rfl),bu.frozen 141⟩
   obtain ⟨x0,f0⟩:=HX.out _ (Below.refl _ _)
   have HRD:=(HE.out _ N).holds
   have HLN:([]:List HoldV).length+e.holds.length≤1099511627776:=by have:=hl.holds;simp only [List.length_nil];omega
   go_upto_region 10 with (first | (guard_target=wpList _ _ _ (Oper.mk (some 31) _ _ _ _ _::_) _ _;refine append_holds rfl (.const (.slice none 0 0)) (.tmp 30) rfl w8.heap.size w8.heap.size none 0 [] rfl (ownH_nil _ _ _ (Nat.le_refl _)) e.aH e.cH e.holds rfl HRD hc.holds HLN (Nat.le_refl _) ?_;intro a9 c9 y9 w9 hy9 oh g9;have hb9:Below w8.heap.size w8 w9:=(Below.refl _ _).grown g9 (Nat.le_refl _) (fun j hj=>by cases hj);obtain ⟨x9,f9⟩:=HX.out _ hb9) | fail)
   have hyy:y9=e.holds:=hy9.out
   subst hyy
   have s9:=hb9.size
   replace b1:=b1.below hb9 b1.lt
   replace b2:=b2.below hb9 b2.lt
   replace N:=N.trans (hb9.mono N.size)
   replace od:=od.below hb9
   replace op:=op.below hb9
   replace ol:=ol.below hb9
   replace ot:=ot.below hb9
   clear x0 f0 x9 f9 HRD HLN g9 hy9 hb9 HX
   obtain ⟨w10,hw10,c3,hw,hs⟩:=tail_fill b1 HA.out 5 (.slice a9 e.holds.length c9)
   rw [show w.heap.size=w.heap.size from rfl,hw10.out]
   have syw10:=hw.size
   replace b2:=b2.within hw (by omega)
   replace N:=N.trans (hw.below (Nat.le_refl _) (by have:=N.size;omega))
   replace od:=od.within hw (.inr (by omega))
   replace op:=op.within hw (.inr (by omega))
   replace ol:=ol.within hw (.inr (by omega))
   replace ot:=ot.within hw (.inr (by omega))
   replace oh:=oh.within hw (.inr (by omega))
   clear hw hs hw10 b1
   have b1:Box w10 w.heap.size (cellsPs ts++[.slice q.a q.seats.length q.c,.int .i64 q.hand,.slice l.a l.recs.length l.c,.int .i64 l.sure,.slice a7 e.txs.length c7,.slice a9 e.holds.length c9,.int .i64 e.next,.bool e.down]) 58:=c3
   clear c3
   obtain ⟨T,hT⟩:∃ T:EngA,Hid ((⟨ts,q.seats,q.a,q.c,q.hand,l,e.txs,a7,c7,e.holds,a9,c9,e.next,e.down⟩:EngA)=T):=⟨_,rfl⟩
   have sT:T.shape:=by rw [← hT.out];exact ⟨ht8.eight,ht8.four⟩
   have bT:Box w10 w.heap.size T.cells 58:=by rw [← hT.out];exact b1
   have HV:Hid (T.v=e.v):=by
    rw [Hid,← hT.out]
    have v1:=hvd.out
    have v2:=hvp.out
    have v3:=hvl.out
    simp only [PoolA.v,EngA.poolA,PoolV.mk.injEq] at v2
    simp only [EngA.v,v2.1,v2.2,v3]
    congr 1
   have oT:T.own w10 W.heap.size w10.heap.size:=by
    rw [← hT.out]
    exact eng_own_of (a0:=W.heap.size) (a1:=wr.heap.size) (a2:=w3.heap.size) (a3:=w5.heap.size) (a4:=w7.heap.size) (a5:=w10.heap.size) od op (OwnRs.widen ol (by omega) (Nat.le_refl _) (by omega)) (ot.widen (by omega) (Nat.le_refl _) (by omega)) (oh.widen (by omega) (by omega) (Nat.le_refl _)) (by omega) (by omega) (by omega) (by omega) (by omega) (Nat.le_refl _)
   clear od op ol ot oh b1 hT hvd hvp hvl
   obtain ⟨WF,hWF,hwF,hsF,HTF,bF⟩:=eng_out sT sZ b2
   have HLF':Hid (_=_):=eng_load sT bF
   have rT:w10.rangeAt w.heap.size 0 T.cells:=Box.range [] T.cells [] (by simpa using bT)
   have HEND:Hid (T.own WF w.heap.size WF.heap.size∧Below w.heap.size w WF):=⟨(oT.within hwF (.inr (by omega))).widen (by omega) (by omega) (Nat.le_refl _),N.trans (hwF.below (by omega) (by have:=N.size;omega))⟩
   have HI:=eng_info sT
   have HO:=all_oneCell_toArray (oneE T)
   clear hwF hsF bF oT bT b2
   go_wp2_with (first | (guard_target=wpList _ _ _ (Oper.mk (some 33) _ _ _ _ _::_) _ _;refine wpList_load_mid rfl 58 (.tmp 1) rfl w.heap.size 0 rfl (T.cells) _ rT Tryz.underlying58 rfl HI ?_) | (guard_target=wpList _ _ _ (Oper.mk none (Op.store _ (Operand.tmp 2) _) _ _ _ _::_) _ _;refine wpList_store_mid rfl 58 (.tmp 2) (.tmp 33) rfl (w.heap.size+1) 0 (T.cells).toArray rfl rfl HTF.out (by rw [List.size_toArray];exact HI) HO ?_) | fail)
   rw [hWF.out]
   exact bodyPost_ret (v:=.agg T.cells.toArray) (results_one Tryz.results24 rfl HLF'.out) rfl ⟨T,rfl,sT,HV,HEND.out.1,HEND.out.2⟩
theorem EngA.own.caps {w:World} {lo hi:Nat} {e:EngA} (h:e.own w lo hi):e.caps:=⟨h.txs.nocap,h.holds.nocap,OwnRs.caps h.log⟩
theorem touch_belowL {bl:List Nat} {W w w':World} (h:Touch bl w w') (hd:∀ k∈bl,W.heap.size≤k) (hs:W.heap.size≤w.heap.size):Below W.heap.size w w':=
 ⟨h.os,h.tape,h.output,h.size,fun k hk=>h.block k (by omega) (fun hm=>by have:=hd k hm;omega)⟩
theorem slots8_len {ps:List PageA} (h:∀ p∈ps,p.ss.length=4):(slots8 ps).length=ps.length*4:=by
 induction ps with
 | nil=>rfl
 | cons p r ih=>
  have h1:=ih (fun q hq=>h q (List.mem_cons_of_mem _ hq))
  have h2:=h p List.mem_cons_self
  simp only [slots8,List.flatMap_cons,List.length_append,List.length_cons] at h1 ⊢
  omega
theorem countSt_mid4 {t:PoolA} (h:t.short 1048576):(t.count:Int)≤4194304:=by
 have h2:=h.len
 have e:t.count=4*t.seats.length:=rfl
 rw [e]
 omega
theorem count_mid4 {t:LogA} (h:t.short 1048576):(t.count:Int)≤10995116277760:=by
 have h1:=countRs_bound t.recs 1048576 h.each
 have h2:=h.len
 have h3:t.recs.length*(10+7*1048576)≤1048576*(10+7*1048576):=Nat.mul_le_mul_right _ h2
 have e:t.count=countRs t.recs:=rfl
 rw [e]
 omega
theorem EngA.k_short {e:EngA} (se:e.shape) (h:e.short 1048576):e.kP 1≤10995116277760∧e.kE 1≤1152921504606846976:=by
 have h1:=countS_le (slots8 e.disk) 1048576 (fun s hs=>by
  obtain ⟨p,hp,hs⟩:=List.mem_flatMap.1 hs
  exact h.disk p hp s hs)
 rw [slots8_len se.four,se.eight] at h1
 have h2:=countSt_mid4 h.pool
 have h3:=count_mid4 h.log
 have h4:=h.txs
 have h5:=h.holds
 unfold EngA.kE EngA.kH EngA.kT EngA.kL EngA.kP
 omega
theorem EngA.k_pos (e:EngA):0≤e.kE 1:=by unfold EngA.kE EngA.kH EngA.kT EngA.kL EngA.kP;omega
end Go.Proofs.YtfehemepdoomdaaGreatDoor
namespace Go.Proofs.YtfehemepdoomdaaGreatDoor
open Go.RowKit
attribute [local go_sem ↓] Go.wp_at_zero Go.wp_at_succ
theorem EngA.cells_set {e:EngA} (h:e.shape) (j:Nat) (v:Value):e.cells.set (136+j) v=cellsPs e.disk++e.tail.set j v:=by
 rw [EngA.cells,List.set_append_right _ _ (by rw [EngA.disk_len h];omega),EngA.disk_len h,show 136+j-136=j by omega]
theorem EngAtG.tailSet {w:World} {E:Nat} {e e':EngA} (h:EngAt w E e) (j:Nat) (v:Value) (hd:e'.disk=e.disk) (ht:e'.tail=e.tail.set j v):
  ∃ W,Hid (w.setCell ⟨E,136+j,none⟩ v=W)∧Box W E e'.cells TE∧Touch [E] w W∧W.heap.size=w.heap.size:=by
 obtain ⟨W,hW,b,hw,hs⟩:=box_set h.box (136+j) v
 rw [EngA.cells_set h.shape] at b
 refine ⟨W,hW,by rw [EngA.cells,hd,ht];exact b,⟨hw.os,hw.tape,hw.output,hw.size,fun k hk hn=>hw.block k hk (fun hh=>hn (by simp;omega))⟩,hs⟩
def LogA.upTo (l:LogA) (n:Int):LogA:={ l with sure:=max l.sure (min n l.recs.length) }
def LogV.upTo (l:LogV) (n:Int):LogV:={ l with sure:=max l.sure (min n l.recs.length) }
theorem LogA.upTo_v (l:LogA) (n:Int):(l.upTo n).v=l.v.upTo n:=by simp [LogA.upTo,LogA.v,LogV.upTo]
theorem l5ForceEng_any (E:Nat) (e:EngA) (n:Int) (w:World) (h:EngAt w E e):
  Calls Tryz.prog 51 #[.pointer (some ⟨E,138,none⟩),.int .i64 n] w fun r w'=>(∃ v,r=.returned v)∧EngStep E e w (e.withLog (e.log.upTo n)) w'∧Touch [E] w w':=by
 have c0:w.cell? ⟨E,138,none⟩=some (.slice e.log.a e.log.recs.length e.log.c):=EngA.cell_at h.shape h.box 2 _ rfl
 have c1:w.cell? ⟨E,138+1,none⟩=some (.int .i64 e.log.sure):=EngA.cell_at h.shape h.box 3 _ rfl
 refine (l5ForceAt_any E 138 e.log.a e.log.c e.log.recs.length e.log.sure n w c0 c1 (h.box.frozen _)).mono ?_
 rintro r w' ⟨hv,hw⟩
 refine ⟨hv,?_⟩
 rcases hw with ⟨rfl,hm⟩ | rfl
 ·have e0:e.withLog (e.log.upTo n)=e:=by
   simp only [EngA.withLog,LogA.upTo,hm]
  rw [e0]
  exact ⟨EngStepG.refl h,Touch.refl _ _⟩
 ·obtain ⟨W,hW,b,ht,hs⟩:=h.tailSet (e':=e.withLog (e.log.upTo n)) 3 (.int .i64 (max e.log.sure (min n e.log.recs.length))) rfl rfl
  have hW':w.setCell ⟨E,138+1,none⟩ (.int .i64 (max e.log.sure (min n e.log.recs.length)))=W:=hW.out
  rw [hW']
  refine ⟨h.logs (e.log.upTo n) b ?_ (ht.mono (by simp)) (fun k hk=>.inl hk),ht⟩
  exact (h.own.log.touch ht (fun k hk hk'=>h.off (by rw [← List.mem_singleton.1 hk'];exact EngA.mem_log hk))).widen (Nat.le_refl _) ht.size (Nat.le_refl _)
end Go.Proofs.YtfehemepdoomdaaGreatDoor
namespace Go.Proofs.YtfehemepdoomdaaGreatDoor
open Go.RowKit
attribute [local go_sem ↓] Go.wp_at_zero Go.wp_at_succ
end Go.Proofs.YtfehemepdoomdaaGreatDoor
namespace Go.Proofs.YtfehemepdoomdaaGreatDoor
open Go.RowKit
theorem run_append_recD {w:World} (ty:TypeId) (lo hi:Nat) (a:Option Addr) (c:Nat) (rs:List RecA) (hown:OwnRs w lo hi a c rs)
  (b off:Nat) (sc:Nat) (q:RecA) (hr:w.rangeAt b off q.cells) (l u:Nat) (hq:q.own w l u) (hl:lo≤l) (hd:∀ k∈q.blocks,k∉blocksRs a c rs) (hu:u≤w.heap.size)
  (hb:rs.length+1≤68719476736) (hlo:lo≤hi):
  ∃ a' c' w',(Builtin.append_ #[52,52] ty #[.slice a rs.length c,.slice (some ⟨b,off,none⟩) 1 sc]).run Tryz.prog w=.ok (.slice a' (rs++[q]).length c') w'∧OwnRs w' lo w'.heap.size a' c' (rs++[q])∧w.grownBy w' (Value.slice a rs.length c).ownBlock∧
   (∀ k,(Value.slice a' (rs++[q]).length c').ownBlock=some k→(Value.slice a rs.length c).ownBlock=some k∨k=w.heap.size):=by
 obtain ⟨i0,hi0,hz0,hz1,hz2⟩:=info_parts Tryz.infoRec
 have htop:=hown.top
 obtain ⟨v',w',hrun,h1,h2,_,h5⟩:=run_append_own_at (P:=Tryz.prog) w lo 52 ty 99 i0 (.agg zeroR.cells.toArray) 15 200 Tryz.underlying52 hi0 hz0 hz1 hz2 rfl (by decide) _ _ _ hown.row ⟨b,off,none⟩ 1 sc q.cells (by rfl) (by
  intro j v hj
  rw [Addr_add]
  exact hr j v hj) (oneR q) (by simp only [maxLen];omega) (by omega) (by omega)
 have e:cellsRs rs++q.cells=cellsRs (rs++[q]):=by rw [cellsRs_app,cellsRs_cons];simp [cellsRs]
 have e2:rs.length+1=(rs++[q]).length:=by simp
 rw [e,e2] at h1
 have sh:∃ a' c',v'=.slice a' (rs++[q]).length c':=by
  rcases h1.2 with ⟨rfl,h0⟩ | ⟨g,cap,cur,rfl,_⟩
  ·simp at h0
  ·exact ⟨_,_,rfl⟩
 obtain ⟨a',c',rfl⟩:=sh
 have hsz:=h2.size
 have ht:Touch (Value.slice a rs.length c).ownBlock.toList w w':=Touch.of_grown h2 (fun k hk=>Option.mem_toList.2 hk)
 have hrow:=h1.lt
 have hold:∀ r∈rs,r.own w' lo w'.heap.size:=fun r hr=>((hown.each r hr).touch ht (fun k hk hk'=>(List.nodup_append.1 hown.apart).2.2 k hk' k (List.mem_flatMap.2 ⟨r,hr,hk⟩) rfl)).widen (Nat.le_refl _) (by omega) (Nat.le_refl _)
 have hnew:q.own w' lo w'.heap.size:=(hq.touch ht (fun k hk hk'=>hd k hk (List.mem_append.2 (.inl hk')))).widen (by omega) (by omega) (Nat.le_refl _)
 refine ⟨a',c',w',hrun,⟨h1,Nat.le_refl _,fun k hk=>(hrow k hk).2,fun r hr=>?_,?_⟩,h2,fun k hk=>h5.elim (fun h5=>.inl (by rw [← h5];exact hk)) (fun h5=>by rw [h5] at hk;exact .inr (Option.some.inj hk).symm)⟩
 ·rcases List.mem_append.1 hr with hr | hr
  ·exact hold r hr
  ·obtain rfl:=List.mem_singleton.1 hr
   exact hnew
 ·rw [List.flatMap_append,List.nodup_append,List.nodup_append]
  have hap:=(List.nodup_append.1 hown.apart).2.1
  refine ⟨by cases (Value.slice a' (rs++[q]).length c').ownBlock<;>simp,⟨hap,by simpa using hq.apart,fun x hx y hy e=>?_⟩,fun x hx y hy e=>?_⟩
  ·simp only [List.flatMap_cons,List.flatMap_nil,List.append_nil] at hy
   subst e
   exact hd x hy (List.mem_append.2 (.inr hx))
  ·have hx':=Option.mem_toList.1 hx
   subst e
   rcases List.mem_append.1 hy with hy | hy
   ·obtain ⟨r,hr,hy⟩:=List.mem_flatMap.1 hy
    exact row_apart h1 (hold r hr) x hx' hy
   ·simp only [List.flatMap_cons,List.flatMap_nil,List.append_nil] at hy
    exact row_apart h1 hnew x hx' hy
theorem step_append_recD {w:World} {ops:Array Oper} {o:Oper} {act:Act} {K:Act→World→Prop} {Q:Exit→Act→World→Prop} {E:Prop} (hgd:o.guard=none) (s x:Operand)
  (ho:o.op=.call { callee:=.builtin .append,args:=#[s,x],argTypes:=#[52,52] })
  (lo hi:Nat) (a:Option Addr) (c:Nat) (rs:List RecA) (hs:act.eval s=.slice a rs.length c) (hown:OwnRs w lo hi a c rs)
  (b off:Nat) (sc:Nat) (q:RecA) (hx:act.eval x=.slice (some ⟨b,off,none⟩) 1 sc) (hr:w.rangeAt b off q.cells) (l u:Nat) (hq:q.own w l u) (hl:lo≤l) (hd:∀ k∈q.blocks,k∉blocksRs a c rs) (hu:u≤w.heap.size)
  (hb:rs.length+1≤68719476736) (hlo:lo≤hi)
  (h:∀ a' c' w',OwnRs w' lo w'.heap.size a' c' (rs++[q])→w.grownBy w' (Value.slice a rs.length c).ownBlock→(∀ k,(Value.slice a' (rs++[q]).length c').ownBlock=some k→(Value.slice a rs.length c).ownBlock=some k∨k=w.heap.size)→K (act.put o.dst (.slice a' (rs++[q]).length c')) w'):
  if Region.wanted o (yielded ops act.tmps)=true then Oper.wp Tryz.prog o act w K Q else E:=by
 have hw:Region.wanted o (yielded ops act.tmps)=true:=by simp [Region.wanted,hgd]
 rw [if_pos hw]
 obtain ⟨a',c',w',hrun,h2,h3,h4⟩:=run_append_recD (w:=w) o.type lo hi a c rs hown b off sc q hr l u hq hl hd hu hb hlo
 unfold Oper.wp
 simp [execOp,ho,resolve,invoke,builtin,hs,hx,hrun,Result.andThen]
 have:=h a' c' w' h2 h3 h4
 rw [List.length_append,List.length_singleton] at this
 exact this
end Go.Proofs.YtfehemepdoomdaaGreatDoor
namespace Go.Proofs.YtfehemepdoomdaaGreatDoor
open Go.RowKit
attribute [local go_sem ↓] Go.wp_at_zero Go.wp_at_succ
def lastV (ls:List LiveV) (tx n:Int):List LiveV:=if 0≤liveOf ls tx then ls.set (liveOf ls tx).toNat { (ls.getD (liveOf ls tx).toNat zeroL) with last:=n } else ls
def logV (e:EngV) (r:RecV):EngV:={ e with log:=⟨e.log.recs++[{ r with lsn:=(e.log.recs.length:Int)+1 }],e.log.sure⟩,txs:=lastV e.txs r.tx ((e.log.recs.length:Int)+1) }
theorem liveFrom_lt (tx:Int) (ls:List LiveV) (k:Nat):liveFrom tx ls k= -1∨∃ j,liveFrom tx ls k=(k+j:Nat)∧j<ls.length:=by
 induction ls generalizing k with
 | nil=>exact .inl rfl
 | cons s r ih=>
  rw [liveFrom]
  by_cases h:s.tx=tx
  ·rw [if_pos h];exact .inr ⟨0,rfl,by simp⟩
  ·rw [if_neg h]
   rcases ih (k+1) with h1 | ⟨j,h1,h2⟩
   ·exact .inl h1
   ·exact .inr ⟨j+1,by rw [h1];congr 1;omega,by simp;omega⟩
theorem live_cases (ls:List LiveV) (tx:Int):liveOf ls tx= -1∨∃ j:Nat,liveOf ls tx=j∧j<ls.length:=by
 rcases liveFrom_lt tx ls 0 with h | ⟨j,h1,h2⟩
 ·exact .inl h
 ·exact .inr ⟨j,by rw [liveOf,h1];simp,h2⟩
structure EngMore (E:Nat) (e:EngA) (Q:List Nat) (w:World) (e':EngA) (w':World):Prop where
 at':EngAt w' E e'
 touch:Touch (E::(e.blocks++Q)) w w'
 fresh:∀ k∈e'.blocks,k∈e.blocks∨k∈Q∨w.heap.size≤k
theorem EngMore.below {E:Nat} {Q:List Nat} {e e':EngA} {w w' w'':World} (s:EngMore E e Q w e' w') (hb:Below w'.heap.size w' w''):EngMore E e Q w e' w'':=
 ⟨s.at'.below hb,s.touch.trans (Touch.of_below hb),s.fresh⟩
theorem EngMore.then {E:Nat} {Q:List Nat} {e e1 e2:EngA} {w w1 w2:World} (m:EngMore E e Q w e1 w1) (s:EngStep E e1 w1 e2 w2):EngMore E e Q w e2 w2:=by
 refine ⟨s.at',⟨s.touch.os.trans m.touch.os,s.touch.tape.trans m.touch.tape,s.touch.output.trans m.touch.output,Nat.le_trans m.touch.size s.size,fun k hk hn=>?_⟩,fun k hk=>?_⟩
 ·have hn1:k∉E::e1.blocks:=fun h=>by
   rcases List.mem_cons.1 h with h | h
   ·exact hn (by simp [h])
   ·rcases m.fresh k h with h | h | h
    ·exact hn (List.mem_cons_of_mem _ (List.mem_append.2 (.inl h)))
    ·exact hn (List.mem_cons_of_mem _ (List.mem_append.2 (.inr h)))
    ·omega
  exact (s.touch.block k (Nat.lt_of_lt_of_le hk m.touch.size) hn1).trans (m.touch.block k hk hn)
 ·rcases s.fresh k hk with h | h
  ·exact m.fresh k h
  ·exact .inr (.inr (Nat.le_trans m.touch.size h))
theorem EngMore.step {E:Nat} {Q:List Nat} {e0 e e':EngA} {w0 w w':World} (s:EngStep E e0 w0 e w) (m:EngMore E e Q w e' w') (hQ:∀ k∈Q,w0.heap.size≤k):EngStep E e0 w0 e' w':=by
 refine ⟨m.at',⟨m.touch.os.trans s.touch.os,m.touch.tape.trans s.touch.tape,m.touch.output.trans s.touch.output,Nat.le_trans s.size m.touch.size,fun k hk hn=>?_⟩,fun k hk=>?_⟩
 ·have hn1:k∉E::(e.blocks++Q):=fun h=>by
   rcases List.mem_cons.1 h with h | h
   ·exact hn (by simp [h])
   ·rcases List.mem_append.1 h with h | h
    ·rcases s.fresh k h with h | h
     ·exact hn (List.mem_cons_of_mem _ h)
     ·omega
    ·have:=hQ k h;omega
  exact (m.touch.block k (Nat.lt_of_lt_of_le hk s.size) hn1).trans (s.touch.block k hk hn)
 ·rcases m.fresh k hk with h | h | h
  ·exact s.fresh k h
  ·exact .inr (hQ k h)
  ·exact .inr (Nat.le_trans s.size h)
theorem nodup_part' {A P P' C:List Nat} (h:(A++(P++C)).Nodup) (hP:P'.Nodup) (hA:∀ k∈P',k∉A) (hC:∀ k∈P',k∉C):(A++(P'++C)).Nodup:=by
 simp only [List.nodup_append,List.mem_append] at h ⊢
 obtain ⟨h1,⟨_,h3,_⟩,h5⟩:=h
 refine ⟨h1,⟨hP,h3,fun a ha b hb e=>hC a ha (e▸hb)⟩,fun a ha b hb e=>?_⟩
 rcases hb with hb | hb
 ·exact hA b hb (e▸ha)
 ·exact h5 a ha b (.inr hb) e
theorem EngAtG.logQ {w w':World} {E:Nat} {e:EngA} (h:EngAt w E e) (l:LogA) (Q:List Nat) (hd:∀ k∈Q,k∉e.blocks) (hEQ:E∉Q) (bx:Box w' E (e.withLog l).cells TE) (ho:OwnRs w' 0 w'.heap.size l.a l.c l.recs)
  (ht:Touch (E::blocksRs e.log.a e.log.c e.log.recs) w w') (hf:∀ k∈blocksRs l.a l.c l.recs,k∈blocksRs e.log.a e.log.c e.log.recs∨k∈Q∨w.heap.size≤k):EngMore E e Q w (e.withLog l) w':=by
 have ap:=h.apart
 have hE:∀ k∈e.blocks,k≠E:=fun k hk he=>h.off (he▸hk)
 refine ⟨⟨bx,⟨h.shape.eight,h.shape.four⟩,⟨?_,?_,ho,?_,?_,?_⟩,?_⟩,?_,?_⟩
 ·exact (h.own.disk.touch ht (fun k hk=>not_part (hE k (EngA.mem_disk hk)) (ap.dl k hk))).widen (Nat.le_refl _) ht.size (Nat.le_refl _)
 ·exact (h.own.pool.touch ht (fun k hk=>not_part (hE k (EngA.mem_pool hk)) (fun hp=>ap.pl k hk hp))).widen (Nat.le_refl _) ht.size (Nat.le_refl _)
 ·exact (h.own.txs.touch ht (fun k hk=>not_part (hE k (EngA.mem_txs (Option.mem_toList.2 hk))) (fun hp=>ap.lt k hp (Option.mem_toList.2 hk)))).widen (Nat.le_refl _) ht.size (Nat.le_refl _)
 ·exact (h.own.holds.touch ht (fun k hk=>not_part (hE k (EngA.mem_holds (Option.mem_toList.2 hk))) (fun hp=>ap.lh k hp (Option.mem_toList.2 hk)))).widen (Nat.le_refl _) ht.size (Nat.le_refl _)
 ·have h1:=h.own.apart
  simp only [EngA.blocks,EngA.withLog] at h1 ⊢
  rw [← List.append_assoc] at h1 ⊢
  have key:∀ k∈blocksRs l.a l.c l.recs,∀ X:List Nat,(∀ j∈X,j∈e.blocks)→(∀ j∈blocksRs e.log.a e.log.c e.log.recs,j∉X)→k∉X:=fun k hk X hX hn hm=>by
   rcases hf k hk with h2 | h2 | h2
   ·exact hn k h2 hm
   ·exact hd k h2 (hX k hm)
   ·have:=h.lt k (hX k hm);omega
  refine nodup_part' h1 ho.apart (fun k hk=>key k hk _ (fun j hj=>?_) (fun j hj hm=>?_)) (fun k hk=>key k hk _ (fun j hj=>?_) (fun j hj hm=>?_))
  ·rcases List.mem_append.1 hj with hj | hj
   ·exact EngA.mem_disk hj
   ·exact EngA.mem_pool hj
  ·rcases List.mem_append.1 hm with hm | hm
   ·exact ap.dl j hm hj
   ·exact ap.pl j hm hj
  ·rcases List.mem_append.1 hj with hj | hj
   ·exact EngA.mem_txs hj
   ·exact EngA.mem_holds hj
  ·rcases List.mem_append.1 hm with hm | hm
   ·exact ap.lt j hj hm
   ·exact ap.lh j hj hm
 ·intro hk
  simp only [EngA.blocks,EngA.withLog,List.mem_append] at hk
  have hlt:=h.box.lt
  have hoff:=h.off
  simp only [EngA.blocks,List.mem_append] at hoff
  rcases hk with hk | hk | hk | hk
  ·exact hoff (.inl hk)
  ·exact hoff (.inr (.inl hk))
  ·rcases hf E hk with hk | hk | hk
   ·exact hoff (.inr (.inr (.inl hk)))
   ·exact hEQ hk
   ·omega
  ·exact hoff (.inr (.inr (.inr hk)))
 ·exact ht.mono (fun k hk=>(List.mem_cons.1 hk).elim (fun h=>by simp [h]) (fun h=>List.mem_cons_of_mem _ (List.mem_append.2 (.inl (EngA.mem_log h)))))
 ·intro k hk
  simp only [EngA.blocks,EngA.withLog,List.mem_append] at hk ⊢
  rcases hk with hk | hk | hk | hk
  ·exact .inl (.inl hk)
  ·exact .inl (.inr (.inl hk))
  ·rcases hf k hk with h | h | h
   ·exact .inl (.inr (.inr (.inl h)))
   ·exact .inr (.inl h)
   ·exact .inr (.inr h)
  ·exact .inl (.inr (.inr (.inr hk)))
theorem cellsL_set1 (ls:List LiveV) (k:Nat) (hk:k<ls.length) (n:Int):(cellsL ls).set (k*3+1) (.int .i64 n)=cellsL (ls.set k { (ls.getD k zeroL) with last:=n }):=by
 induction ls generalizing k with
 | nil=>simp at hk
 | cons s r ih=>
  cases k with
  | zero=>simp [cellsL,LiveV.cells]
  | succ k=>
   have:=ih k (by simpa using hk)
   have e2:∀ x,cellsL (s::x)=s.cells++cellsL x:=fun x=>by simp [cellsL]
   have l3:s.cells.length=3:=rfl
   rw [e2,List.set_append_right _ _ (by rw [l3];omega),l3,show (k+1)*3+1-3=k*3+1 by omega,this]
   simp [cellsL]
theorem EngAtG.liveSet {w:World} {E:Nat} {e:EngA} (h:EngAt w E e) (k:Nat) (hk:k<e.txs.length) (n:Int):
  ∃ g W,e.aT=some ⟨g,0,none⟩∧g≠E∧g<w.heap.size∧Hid (w.setCell ⟨g,k*3+1,none⟩ (.int .i64 n)=W)∧(∀ j,w.frozen? ⟨g,j,none⟩=false)∧(∃ v,w.cell? ⟨g,k*3+1,none⟩=some v)∧EngStep E e w (e.withTxs (e.txs.set k { (e.txs.getD k zeroL) with last:=n }) e.aT e.cT) W∧W.heap.size=w.heap.size:=by
 obtain ⟨g,hg⟩:∃ g,e.aT=some ⟨g,0,none⟩:=by
  rcases h.own.txs.1.2 with ⟨_,h0⟩ | ⟨g,cap',cur,hv,_⟩
  ·omega
  ·simp only [Value.slice.injEq] at hv;exact ⟨g,hv.1⟩
 have hmem:g∈rowOf e.aT e.txs.length e.cT:=by rw [hg];simp [rowOf,Value.ownBlock]
 have hgE:g≠E:=fun e1=>h.off (by rw [← e1];exact EngA.mem_txs hmem)
 have ho:=h.own.txs
 rw [hg] at ho
 obtain ⟨h1,h2⟩:=ho.1.stored (k*3+1) (.int .i64 n)
 rw [cellsL_set1 _ _ hk] at h1
 have ht:Touch [g] w (w.setCell ⟨g,k*3+1,none⟩ (.int .i64 n)):=Touch.of_grown h2 (fun j hj=>by cases hj;simp)
 have hsz:(w.setCell ⟨g,k*3+1,none⟩ (.int .i64 n)).heap.size=w.heap.size:=by simp
 have hc:w.cell? ⟨g,k*3+1,none⟩=some (.int .i64 (e.txs.getD k zeroL).last):=by
  rw [ho.1.cellAt (k*3+1) (by omega),cellsL_at e.txs k 1 hk (by omega)];rfl
 refine ⟨g,_,hg,hgE,h.lt g (EngA.mem_txs hmem),rfl,fun j=>ho.1.frozenAt j,⟨_,hc⟩,?_,hsz⟩
 refine h.lives _ _ _ ?_ ?_ (ht.mono (fun j hj=>List.mem_cons_of_mem _ (by rw [List.mem_singleton.1 hj];exact hmem))) (fun j hj=>.inl ?_)
 ·have e1:(e.withTxs (e.txs.set k { (e.txs.getD k zeroL) with last:=n }) e.aT e.cT).cells=e.cells:=by
   simp only [EngA.cells,EngA.tail,EngA.withTxs,List.length_set]
  rw [e1]
  exact h.box.touch ht (by simpa using fun e1=>hgE e1.symm)
 ·rw [hg]
  refine ⟨?_,Nat.le_refl _,fun j hj=>?_⟩
  ·rw [List.length_set];exact h1
  ·cases hj;rw [hsz];exact h.lt g (EngA.mem_txs hmem)
 ·rw [List.length_set] at hj;exact hj
theorem l7Log_any (E:Nat) (e:EngA) (q:RecA) (w:World) (h:EngAt w E e) (hq:q.own w 0 w.heap.size) (hd:∀ k∈q.blocks,k∉e.blocks) (hE:E∉q.blocks) (hlen:e.log.recs.length+1≤68719476736) (hT:e.txs.length≤1099511627776):
  Calls Tryz.prog 49 #[.pointer (some ⟨E,0,none⟩),.agg q.cells.toArray] w fun r w'=>r=.returned (.int .i64 ((e.log.recs.length:Int)+1))∧∃ e',Hid (e'.v=logV e.v q.v)∧Hid (e'.aT=e.aT∧e'.cT=e.cT∧e'.log.recs=e.log.recs++[{ q with lsn:=(e.log.recs.length:Int)+1 }])∧EngMore E e q.blocks w e' w':=by
 obtain ⟨W,hW,b0,hbW,hsW⟩:=boxes1 w q.cells 99
 obtain ⟨p,hp⟩:∃ p:RecA,Hid ({ q with lsn:=(e.log.recs.length:Int)+1 }=p):=⟨_,rfl⟩
 have HPA:Hid (p={ q with lsn:=(e.log.recs.length:Int)+1 }):=hp.out.symm
 have HPB:Hid (p.blocks=q.blocks):=by rw [Hid,← hp.out];rfl
 have HPV:Hid (p.v={ q.v with lsn:=(e.log.recs.length:Int)+1 }):=by rw [Hid,← hp.out];rfl
 have HPQ:Hid (p.lsn=(e.log.recs.length:Int)+1∧p.tx=q.tx):=by rw [Hid,← hp.out];exact ⟨rfl,rfl⟩
 have op:p.own w 0 w.heap.size:=by rw [← hp.out];exact ⟨hq.bf,hq.af,hq.txs,hq.apart⟩
 obtain ⟨W2,hW2,b2',hw2,hs2⟩:=box_set b0 0 (.int .i64 ((e.log.recs.length:Int)+1))
 have b2:Box W2 w.heap.size p.cells 99:=by rw [← hp.out];exact b2'
 have N2:Below w.heap.size w W2:=hbW.trans (hw2.below (Nat.le_refl _) (by omega))
 have a1:=h.below hbW
 have a2:=h.below N2
 have op2:=op.below N2
 have hlt2:w.heap.size<W2.heap.size:=b2.lt
 have hEl:E<w.heap.size:=h.box.lt
 have x0:W.cell? ⟨E,138,none⟩=some (.slice e.log.a e.log.recs.length e.log.c):=EngA.cell_at a1.shape a1.box 2 _ rfl
 have x1:=b0.cell 0 _ (show q.cells[0]? =some (.int .i64 q.lsn) from rfl)
 have xf:=b0.frozen 0
 have HI:Hid ((Tryz.prog.info? 99).map (·.size)=some p.cells.length):=rec_info p
 clear hsW hs2 hw2 b2' hp b0
 go_enter Tryz.func49,Tryz.ntmps49
 go_upto_region 1 with fail
 rw [hW.out]
 clear hW
 go_upto_region 2 with fail
 rw [hW2.out]
 clear hW2 x0 x1 xf
 have ND:Below W2.heap.size W2 W2.drew:=(Below.refl _ _).drew
 have aD:=a2.below ND
 have bD:=b2.below ND b2.lt
 have y0:W2.drew.cell? ⟨E,138,none⟩=some (.slice e.log.a e.log.recs.length e.log.c):=EngA.cell_at aD.shape aD.box 2 _ rfl
 have r4:W2.drew.rangeAt w.heap.size 0 p.cells:=Box.range [] p.cells [] (by simpa using bD)
 refine wp_region_held_drew (S:=fun w'=>w'.rangeAt w.heap.size 0 p.cells∧True) (by kernel_rfl) ?_ (fun hHeld=>?_)
 ·exact ⟨r4,trivial⟩
 refine tq 0 (v:=.pointer (some ⟨E,0,none⟩)) rfl hHeld ?_
 try simp only [zz]
 refine tq 1 (v:=.pointer (some ⟨E,0,none⟩)) rfl hHeld ?_
 try simp only [zz]
 refine tq 2 (v:=.pointer (some ⟨E,0,none⟩)) rfl hHeld ?_
 try simp only [zz]
 refine tq 3 (v:=.pointer (some ⟨E,138,none⟩)) rfl hHeld ?_
 try simp only [zz]
 refine tq 4 (v:=.pointer (some ⟨E,138,none⟩)) rfl hHeld ?_
 try simp only [zz]
 refine tk 6 rfl (yieldsIf_load_mid (by rfl) _ _ rfl _ _ rfl p.cells _ (fun _ h=>h.1) Tryz.underlying99 rfl HI.out) hHeld ?_
 try simp only [zz]
 refine wpAnyH_ready (rs:=[5,7]) (by kernel_rfl) (by simp) ?_
 refine AllReadyH.cons rfl (fun K hK=>?_) (AllReadyH.cons rfl (fun K hK=>?_) AllReadyH.nil)
 ·go_simp
  refine hK.out _ _ (hHeld) (fun hHeld=>?_)
  clear hK K
  try simp only [zz]
  refine wpAnyH_ready (rs:=[7]) (by kernel_rfl) (by simp) ?_
  refine AllReadyH.cons rfl (fun K hK=>?_) AllReadyH.nil
  go_simp
  simp only [cellsR_len,lit_rec,not_true_eq_false,Nat.lt_irrefl,or_self,if_false]
  go_simp
  obtain ⟨V5,hV5,b5',hb5,hs5⟩:=boxes1 W2 p.cells 99
  rw [hV5.out]
  obtain ⟨W5,hW5⟩:∃ W5,Hid (V5.drew=W5):=⟨_,rfl⟩
  rw [hW5.out]
  have b5:Box W5 W2.heap.size p.cells 99:=by rw [← hW5.out];exact b5'.drewN 1
  have ND5:Below W2.heap.size W2 W5:=by rw [← hW5.out];exact hb5.drew
  have a5:=a2.below ND5
  have op5:=op2.below ND5
  have b25:=b2.below ND5 b2.lt
  have r5:W5.rangeAt W2.heap.size 0 p.cells:=Box.range [] p.cells [] (by simpa using b5)
  have r25:W5.rangeAt w.heap.size 0 p.cells:=Box.range [] p.cells [] (by simpa using b25)
  have hs25:=ND5.size
  clear hs5 hb5 hW5 hV5 b5 b5'
  refine hK.out _ _ (⟨r25,trivial⟩) (fun hHeld=>?_)
  clear hK K
  try simp only [zz]
  clear y0 ND aD bD r4
  refine wpAnyH_ready (rs:=[8]) (by kernel_rfl) (by simp) ?_
  refine AllReadyH.cons rfl (fun K hK=>?_) AllReadyH.nil
  refine step_append_recD rfl (.tmp 19) (.tmp 21) rfl 0 W5.heap.size e.log.a e.log.c e.log.recs rfl a5.own.log W2.heap.size 0 1 p rfl r5 0 W5.heap.size (op5.widen (Nat.le_refl _) (by omega) (Nat.le_refl _)) (Nat.le_refl _) (fun k hk hk'=>hd k (by rw [← HPB.out];exact hk) (EngA.mem_log hk')) (Nat.le_refl _) hlen (Nat.zero_le _) ?_
  intro a9 c9 w9 o9 g9 f9
  obtain ⟨ys,hys⟩:∃ ys,Hid (e.log.recs++[p]=ys):=⟨_,rfl⟩
  have HOB:Hid (∀ k∈blocksRs a9 c9 (e.log.recs++[p]),k∈blocksRs e.log.a e.log.c e.log.recs∨k∈q.blocks∨W5.heap.size≤k):=fun k hk=>by
   simp only [blocksRs,List.mem_append,Option.mem_toList,List.flatMap_append,List.flatMap_cons,List.flatMap_nil,List.append_nil] at hk ⊢
   rcases hk with hk | hk | hk
   ·rcases f9 k hk with h | h
    ·exact .inl (.inl h)
    ·exact .inr (.inr (by omega))
   ·exact .inl (.inr hk)
   ·exact .inr (.inl (by rw [← HPB.out];exact hk))
  rw [hys.out] at o9 HOB ⊢
  have t9:Touch (blocksRs e.log.a e.log.c e.log.recs) W5 w9:=Touch.of_grown g9 (fun k hk=>List.mem_append.2 (.inl (Option.mem_toList.2 hk)))
  have hlog:∀ k∈blocksRs e.log.a e.log.c e.log.recs,k<w.heap.size:=fun k hk=>h.lt k (EngA.mem_log hk)
  have k9:=a5.box.touch t9 (fun hk=>h.off (EngA.mem_log hk))
  have b9:=b25.touch t9 (fun hk=>by have:=hlog _ hk;omega)
  have r9:w9.rangeAt w.heap.size 0 p.cells:=Box.range [] p.cells [] (by simpa using b9)
  have hs9:=t9.size
  refine hK.out _ _ (⟨r9,trivial⟩) (fun hHeld=>?_)
  clear hK K g9 f9
  try simp only [zz]
  refine tq 9 (v:=.pointer (some ⟨E,0,none⟩)) rfl hHeld ?_
  try simp only [zz]
  refine tq 10 (v:=.pointer (some ⟨E,138,none⟩)) rfl hHeld ?_
  try simp only [zz]
  refine tq 11 (v:=.pointer (some ⟨E,138,none⟩)) rfl hHeld ?_
  try simp only [zz]
  have m0:w9.cell? ⟨E,138,none⟩=some (.slice e.log.a e.log.recs.length e.log.c):=EngA.cell_at h.shape k9 2 _ rfl
  have mf0:=k9.frozen 138
  obtain ⟨WF,hWF,kF,hwF,hsF⟩:=box_set k9 138 (.slice a9 ys.length c9)
  have hsFa:=Nat.le_of_eq hsF
  have hsFb:=Nat.le_of_eq hsF.symm
  clear hsF
  have tF:Touch [E] w9 WF:=⟨hwF.os,hwF.tape,hwF.output,hwF.size,fun j hj hn=>hwF.block j hj (fun hh=>hn (by simp;omega))⟩
  have bF:=b9.touch tF (by simp;omega)
  have rF:WF.rangeAt w.heap.size 0 p.cells:=Box.range [] p.cells [] (by simpa using bF)
  have hEy:E∉blocksRs a9 c9 ys:=fun hk=>(HOB.out E hk).elim (fun h1=>h.off (EngA.mem_log h1)) (fun h1=>h1.elim hE (fun h2=>by omega))
  have oF:=(o9.touch tF (fun k hk hk'=>hEy (by rw [← List.mem_singleton.1 hk'];exact hk))).widen (Nat.le_refl _) (show w9.heap.size≤WF.heap.size by omega) (Nat.le_refl _)
  have kF':Box WF E (e.withLog ⟨ys,e.log.sure,a9,c9⟩).cells TE:=by
   have e1:e.cells.set 138 (.slice a9 ys.length c9)=(e.withLog ⟨ys,e.log.sure,a9,c9⟩).cells:=EngA.cells_set h.shape 2 _
   rw [← e1];exact kF
  have M:EngMore E e q.blocks w (e.withLog ⟨ys,e.log.sure,a9,c9⟩) WF:=h.logQ ⟨ys,e.log.sure,a9,c9⟩ q.blocks hd hE kF' oF ((Touch.of_below (N2.trans (ND5.mono N2.size))).trans ((t9.mono (fun k hk=>List.mem_cons_of_mem _ hk)).trans (tF.mono (by simp)))) (fun k hk=>(HOB.out k hk).imp id (fun h1=>h1.imp id (fun h2=>by omega)))
  have HNW:Hid (Off E (e.withLog ⟨ys,e.log.sure,a9,c9⟩) w.heap.size):=⟨by omega,fun hk=>by
   simp only [EngA.blocks,EngA.withLog,List.mem_append] at hk
   rcases hk with hk | hk | hk | hk | hk
   ·have:=h.lt _ (EngA.mem_disk hk);omega
   ·have:=h.lt _ (EngA.mem_pool hk);omega
   ·rcases HOB.out _ hk with h1 | h1 | h1
    ·have:=hlog _ h1;omega
    ·have:=(hq.blocks_lt _ h1).2;omega
    ·omega
   ·have:=h.lt _ (EngA.mem_txs hk);omega
   ·have:=h.lt _ (EngA.mem_holds hk);omega⟩
  refine wpAnyH_ready (rs:=[12]) (by kernel_rfl) (by simp) ?_
  refine AllReadyH.cons rfl (fun K hK=>?_) AllReadyH.nil
  go_simp
  rw [hWF.out]
  refine hK.out _ _ (⟨rF,trivial⟩) (fun hHeld=>?_)
  clear hK K
  try simp only [zz]
  refine wpAnyH_done (by kernel_rfl) ?_ _
  have HYA:Hid (ys=e.log.recs++[{ q with lsn:=(e.log.recs.length:Int)+1 }]):=by rw [Hid,← hys.out,HPA.out]
  have HYV:Hid (ys.map RecA.v=e.log.recs.map RecA.v++[{ q.v with lsn:=(e.log.recs.length:Int)+1 }]):=by rw [Hid,← hys.out,List.map_append,← HPV.out];rfl
  clear m0 mf0 hWF hHeld kF kF' oF hwF tF t9 HOB o9 hEy hys k9 b9 r9 a5 op5 b25 r25 r5 ND5
  obtain ⟨e1,he1⟩:∃ e1,Hid (e.withLog ⟨ys,e.log.sure,a9,c9⟩=e1):=⟨_,rfl⟩
  rw [he1.out] at M
  have HT1:Hid (e1.txs=e.txs):=by rw [Hid,← he1.out];rfl
  have HAT:Hid (e1.aT=e.aT∧e1.cT=e.cT∧e1.log.recs=e.log.recs++[{ q with lsn:=(e.log.recs.length:Int)+1 }]):=by rw [Hid,← he1.out];exact ⟨rfl,rfl,HYA.out⟩
  have hsh1:=M.at'.shape
  have ND6:Below WF.heap.size WF WF.drew:=(Below.refl _ _).drew
  have a6:=M.at'.below ND6
  have b6:=bF.below ND6 bF.lt
  have HRE:Hid (WF.drew.rangeAt E 0 e1.cells∧WF.drew.rangeAt w.heap.size 0 p.cells):=⟨Box.range [] e1.cells [] (by simpa using a6.box),Box.range [] p.cells [] (by simpa using b6)⟩
  have HIE:Hid ((Tryz.prog.info? 58).map (·.size)=some e1.cells.length):=by rw [Hid,EngA.cells_len hsh1];exact Tryz.infoEng
  go_upto_region 3 with fail
  refine wp_region_held_drew (S:=fun w'=>w'.rangeAt E 0 e1.cells∧w'.rangeAt w.heap.size 0 p.cells) (by kernel_rfl) ?_ (fun hHeld=>?_)
  ·exact HRE.out
  refine tq 0 (v:=.pointer (some ⟨E,0,none⟩)) rfl hHeld ?_
  try simp only [zz]
  refine tq 1 (v:=.pointer (some ⟨E,0,none⟩)) rfl hHeld ?_
  try simp only [zz]
  refine tk 2 rfl (yieldsIf_load_mid (by rfl) _ _ rfl _ _ rfl e1.cells _ (fun _ h=>h.1) Tryz.underlying58 rfl HIE.out) hHeld ?_
  try simp only [zz]
  refine tq 3 (v:=.pointer (some ⟨w.heap.size,1,none⟩)) rfl hHeld ?_
  try simp only [zz]
  refine tk 4 (v:=.int .i64 p.tx) rfl (Or.inl ⟨by rfl,?_⟩) hHeld ?_
  ·intro w' hSw
   have hx:w'.cell? ⟨w.heap.size,1,none⟩=some (.int .i64 p.tx):=hSw.2 1 _ rfl
   go_simp<;>rfl
  try simp only [zz]
  refine wpAnyH_ready (rs:=[5]) (by kernel_rfl) (by simp) ?_
  refine AllReadyH.cons rfl (fun K hK=>?_) AllReadyH.nil
  go_simp
  refine (l7Live_any e1 hsh1 p.tx WF.drew a6.own.txs.reads (by rw [HT1.out];exact hT)).mono ?_
  rintro r w7 ⟨rfl,hb7⟩
  have N7:Below WF.heap.size WF w7:=ND6.trans hb7
  have a7:=M.at'.below N7
  have b7:=bF.below N7 bF.lt
  have M7:=M.below N7
  refine hK.out _ _ (⟨Box.range [] e1.cells [] (by simpa using a7.box),Box.range [] p.cells [] (by simpa using b7)⟩) (fun hHeld=>?_)
  clear hK K
  try simp only [zz]
  refine tq 6 (v:=.int .i64 (liveOf e1.txs p.tx)) rfl hHeld ?_
  try simp only [zz]
  refine wpAnyH_done (by kernel_rfl) ?_ _
  clear hHeld HRE HIE a6 b6 ND6
  have l7:=b7.cell 0 _ (show p.cells[0]? =some (.int .i64 p.lsn) from rfl)
  have HLV:Hid (logV e.v q.v={ e.v with log:=⟨ys.map RecA.v,e.log.sure⟩,txs:=lastV e.txs q.tx ((e.log.recs.length:Int)+1) }):=by
   rw [Hid,HYV.out]
   simp [logV,EngA.v,LogA.v,RecA.v]
  have HPL:Hid (p.lsn=(e.log.recs.length:Int)+1∧p.tx=q.tx):=HPQ
  rcases live_cases e1.txs p.tx with hneg | ⟨k,hk,hkl⟩
  ·have HEV:Hid (e1.v=logV e.v q.v):=by
    rw [Hid,HLV.out,← he1.out,lastV,← HPL.out.2,← HT1.out,hneg,if_neg (by omega),HT1.out]
    rfl
   rw [hneg]
   clear HLV hneg
   go_wp2
   go_ret
   exact ⟨ret_int HPL.out.1,e1,HEV,HAT,M7⟩
  ·obtain ⟨g,W10,hg,hgE,hgw,hW10,hf,hc,st,hsW⟩:=a7.liveSet k hkl p.lsn
   have x0:w7.cell? ⟨E,140,none⟩=some (.slice (some ⟨g,0,none⟩) e1.txs.length e1.cT):=by rw [← hg];exact EngA.cell_at a7.shape a7.box 4 _ rfl
   have HEV:Hid ((e1.withTxs (e1.txs.set k { (e1.txs.getD k zeroL) with last:=p.lsn }) e1.aT e1.cT).v=logV e.v q.v):=by
    rw [Hid,HLV.out,← he1.out,lastV,← HPL.out.2,← HT1.out,hk,if_pos (by omega),Int.toNat_natCast,HT1.out,← HPL.out.1]
    rfl
   have ND8:Below w7.heap.size w7 w7.drew:=(Below.refl _ _).drew
   rw [hk]
   clear hk HLV
   have hkk:(k:Int)<(e1.txs.length:Int):=by omega
   have hk0:(0:Int)≤(k:Int):=by omega
   go_upto_region 5 with fail
   clear x0 l7
   have a8:=a7.below ND8
   have b8:=b7.below ND8 b7.lt
   have HS8:Hid (w7.drew.cell? ⟨E,140,none⟩=some (.slice (some ⟨g,0,none⟩) e1.txs.length e1.cT)∧w7.drew.rangeAt w.heap.size 0 p.cells):=⟨by rw [← hg];exact EngA.cell_at a8.shape a8.box 4 _ rfl,Box.range [] p.cells [] (by simpa using b8)⟩
   have hoff:Off E e1 w.heap.size:=by rw [← he1.out];exact HNW.out
   have ND10:Below W10.heap.size W10 W10.drew:=(Below.refl _ _).drew
   obtain ⟨W11,hW11⟩:∃ W11,Hid (W10.drew=W11):=⟨_,rfl⟩
   rw [hW11.out] at ND10
   have b11:=(st.boxes b7 hoff).below ND10 (st.boxes b7 hoff).lt
   have st2:=st.below ND10
   have M11:=M7.then st2
   have HS11:Hid (W11.cell? ⟨E,140,none⟩=some (.slice (some ⟨g,0,none⟩) e1.txs.length e1.cT)∧W11.rangeAt w.heap.size 0 p.cells):=⟨by
    have:=EngA.cell_at st2.at'.shape st2.at'.box 4 _ rfl
    simp only [EngA.withTxs,List.length_set] at this
    rw [← hg];exact this,Box.range [] p.cells [] (by simpa using b11)⟩
   have f2:w7.drew.frozen? ⟨g,k*3+1,none⟩=false:=hf (k*3+1)
   obtain ⟨cv2,hc1⟩:=hc
   have hc2:w7.drew.cell? ⟨g,k*3+1,none⟩=some cv2:=hc1
   clear hf hg hsW st st2 b8 a8 b7 a7 M7 N7 hc1 ND10 hoff
   refine wp_region_held_drew (S:=fun w'=>w'.cell? ⟨E,140,none⟩=some (.slice (some ⟨g,0,none⟩) e1.txs.length e1.cT)∧w'.rangeAt w.heap.size 0 p.cells) (by kernel_rfl) ?_ (fun hHeld=>?_)
   ·exact HS8.out
   refine tq 0 (v:=.pointer (some ⟨E,0,none⟩)) rfl hHeld ?_
   try simp only [zz]
   refine tq 1 (v:=.pointer (some ⟨E,0,none⟩)) rfl hHeld ?_
   try simp only [zz]
   refine tq 2 (v:=.pointer (some ⟨E,140,none⟩)) rfl hHeld ?_
   try simp only [zz]
   refine tk 3 (v:=.slice (some ⟨g,0,none⟩) e1.txs.length e1.cT) rfl (Or.inl ⟨by rfl,?_⟩) hHeld ?_
   ·intro w' hSw
    have hx:=hSw.1
    go_simp<;>rfl
   try simp only [zz]
   refine tq 4 (v:=.int .i64 k) rfl hHeld ?_
   try simp only [zz]
   refine tq 5 (v:=.pointer (some ⟨w.heap.size,0,none⟩)) rfl hHeld ?_
   try simp only [zz]
   refine tk 6 (v:=.int .i64 p.lsn) rfl (Or.inl ⟨by rfl,?_⟩) hHeld ?_
   ·intro w' hSw
    have hx:w'.cell? ⟨w.heap.size,0,none⟩=some (.int .i64 p.lsn):=hSw.2 0 _ rfl
    go_simp<;>rfl
   try simp only [zz]
   refine tq 7 (v:=.pointer (some ⟨g,k*3,none⟩)) rfl hHeld ?_
   try simp only [zz]
   refine tq 8 (v:=.pointer (some ⟨g,k*3+1,none⟩)) rfl hHeld ?_
   try simp only [zz]
   refine wpAnyH_ready (rs:=[9]) (by kernel_rfl) (by simp) ?_
   refine AllReadyH.cons rfl (fun K hK=>?_) AllReadyH.nil
   go_simp
   rw [hW10.out,hW11.out]
   refine hK.out _ _ (HS11.out) (fun hHeld=>?_)
   clear hK K
   try simp only [zz]
   refine wpAnyH_done (by kernel_rfl) ?_ _
   have l11:=b11.cell 0 _ (show p.cells[0]? =some (.int .i64 p.lsn) from rfl)
   clear hHeld HS8 HS11 hW10 hW11 hc2 f2
   go_wp2
   go_ret
   exact ⟨ret_int HPL.out.1,_,HEV,HAT,M11⟩
 ·go_simp
  simp only [cellsR_len,lit_rec,not_true_eq_false,Nat.lt_irrefl,or_self,if_false]
  go_simp
  obtain ⟨V5,hV5,b5',hb5,hs5⟩:=boxes1 W2 p.cells 99
  rw [hV5.out]
  obtain ⟨W5,hW5⟩:∃ W5,Hid (V5.drew=W5):=⟨_,rfl⟩
  rw [hW5.out]
  have b5:Box W5 W2.heap.size p.cells 99:=by rw [← hW5.out];exact b5'.drewN 1
  have ND5:Below W2.heap.size W2 W5:=by rw [← hW5.out];exact hb5.drew
  have a5:=a2.below ND5
  have op5:=op2.below ND5
  have b25:=b2.below ND5 b2.lt
  have r5:W5.rangeAt W2.heap.size 0 p.cells:=Box.range [] p.cells [] (by simpa using b5)
  have r25:W5.rangeAt w.heap.size 0 p.cells:=Box.range [] p.cells [] (by simpa using b25)
  have hs25:=ND5.size
  clear hs5 hb5 hW5 hV5 b5 b5'
  refine hK.out _ _ (⟨r25,trivial⟩) (fun hHeld=>?_)
  clear hK K
  try simp only [zz]
  clear y0 ND aD bD r4
  have y0:W5.cell? ⟨E,138,none⟩=some (.slice e.log.a e.log.recs.length e.log.c):=EngA.cell_at a5.shape a5.box 2 _ rfl
  refine wpAnyH_ready (rs:=[5]) (by kernel_rfl) (by simp) ?_
  refine AllReadyH.cons rfl (fun K hK=>?_) AllReadyH.nil
  go_simp
  refine hK.out _ _ (hHeld) (fun hHeld=>?_)
  clear hK K
  try simp only [zz]
  clear y0
  refine wpAnyH_ready (rs:=[8]) (by kernel_rfl) (by simp) ?_
  refine AllReadyH.cons rfl (fun K hK=>?_) AllReadyH.nil
  refine step_append_recD rfl (.tmp 19) (.tmp 21) rfl 0 W5.heap.size e.log.a e.log.c e.log.recs rfl a5.own.log W2.heap.size 0 1 p rfl r5 0 W5.heap.size (op5.widen (Nat.le_refl _) (by omega) (Nat.le_refl _)) (Nat.le_refl _) (fun k hk hk'=>hd k (by rw [← HPB.out];exact hk) (EngA.mem_log hk')) (Nat.le_refl _) hlen (Nat.zero_le _) ?_
  intro a9 c9 w9 o9 g9 f9
  obtain ⟨ys,hys⟩:∃ ys,Hid (e.log.recs++[p]=ys):=⟨_,rfl⟩
  have HOB:Hid (∀ k∈blocksRs a9 c9 (e.log.recs++[p]),k∈blocksRs e.log.a e.log.c e.log.recs∨k∈q.blocks∨W5.heap.size≤k):=fun k hk=>by
   simp only [blocksRs,List.mem_append,Option.mem_toList,List.flatMap_append,List.flatMap_cons,List.flatMap_nil,List.append_nil] at hk ⊢
   rcases hk with hk | hk | hk
   ·rcases f9 k hk with h | h
    ·exact .inl (.inl h)
    ·exact .inr (.inr (by omega))
   ·exact .inl (.inr hk)
   ·exact .inr (.inl (by rw [← HPB.out];exact hk))
  rw [hys.out] at o9 HOB ⊢
  have t9:Touch (blocksRs e.log.a e.log.c e.log.recs) W5 w9:=Touch.of_grown g9 (fun k hk=>List.mem_append.2 (.inl (Option.mem_toList.2 hk)))
  have hlog:∀ k∈blocksRs e.log.a e.log.c e.log.recs,k<w.heap.size:=fun k hk=>h.lt k (EngA.mem_log hk)
  have k9:=a5.box.touch t9 (fun hk=>h.off (EngA.mem_log hk))
  have b9:=b25.touch t9 (fun hk=>by have:=hlog _ hk;omega)
  have r9:w9.rangeAt w.heap.size 0 p.cells:=Box.range [] p.cells [] (by simpa using b9)
  have hs9:=t9.size
  refine hK.out _ _ (⟨r9,trivial⟩) (fun hHeld=>?_)
  clear hK K g9 f9
  try simp only [zz]
  refine tq 9 (v:=.pointer (some ⟨E,0,none⟩)) rfl hHeld ?_
  try simp only [zz]
  refine tq 10 (v:=.pointer (some ⟨E,138,none⟩)) rfl hHeld ?_
  try simp only [zz]
  refine tq 11 (v:=.pointer (some ⟨E,138,none⟩)) rfl hHeld ?_
  try simp only [zz]
  have m0:w9.cell? ⟨E,138,none⟩=some (.slice e.log.a e.log.recs.length e.log.c):=EngA.cell_at h.shape k9 2 _ rfl
  have mf0:=k9.frozen 138
  obtain ⟨WF,hWF,kF,hwF,hsF⟩:=box_set k9 138 (.slice a9 ys.length c9)
  have hsFa:=Nat.le_of_eq hsF
  have hsFb:=Nat.le_of_eq hsF.symm
  clear hsF
  have tF:Touch [E] w9 WF:=⟨hwF.os,hwF.tape,hwF.output,hwF.size,fun j hj hn=>hwF.block j hj (fun hh=>hn (by simp;omega))⟩
  have bF:=b9.touch tF (by simp;omega)
  have rF:WF.rangeAt w.heap.size 0 p.cells:=Box.range [] p.cells [] (by simpa using bF)
  have hEy:E∉blocksRs a9 c9 ys:=fun hk=>(HOB.out E hk).elim (fun h1=>h.off (EngA.mem_log h1)) (fun h1=>h1.elim hE (fun h2=>by omega))
  have oF:=(o9.touch tF (fun k hk hk'=>hEy (by rw [← List.mem_singleton.1 hk'];exact hk))).widen (Nat.le_refl _) (show w9.heap.size≤WF.heap.size by omega) (Nat.le_refl _)
  have kF':Box WF E (e.withLog ⟨ys,e.log.sure,a9,c9⟩).cells TE:=by
   have e1:e.cells.set 138 (.slice a9 ys.length c9)=(e.withLog ⟨ys,e.log.sure,a9,c9⟩).cells:=EngA.cells_set h.shape 2 _
   rw [← e1];exact kF
  have M:EngMore E e q.blocks w (e.withLog ⟨ys,e.log.sure,a9,c9⟩) WF:=h.logQ ⟨ys,e.log.sure,a9,c9⟩ q.blocks hd hE kF' oF ((Touch.of_below (N2.trans (ND5.mono N2.size))).trans ((t9.mono (fun k hk=>List.mem_cons_of_mem _ hk)).trans (tF.mono (by simp)))) (fun k hk=>(HOB.out k hk).imp id (fun h1=>h1.imp id (fun h2=>by omega)))
  have HNW:Hid (Off E (e.withLog ⟨ys,e.log.sure,a9,c9⟩) w.heap.size):=⟨by omega,fun hk=>by
   simp only [EngA.blocks,EngA.withLog,List.mem_append] at hk
   rcases hk with hk | hk | hk | hk | hk
   ·have:=h.lt _ (EngA.mem_disk hk);omega
   ·have:=h.lt _ (EngA.mem_pool hk);omega
   ·rcases HOB.out _ hk with h1 | h1 | h1
    ·have:=hlog _ h1;omega
    ·have:=(hq.blocks_lt _ h1).2;omega
    ·omega
   ·have:=h.lt _ (EngA.mem_txs hk);omega
   ·have:=h.lt _ (EngA.mem_holds hk);omega⟩
  refine wpAnyH_ready (rs:=[12]) (by kernel_rfl) (by simp) ?_
  refine AllReadyH.cons rfl (fun K hK=>?_) AllReadyH.nil
  go_simp
  rw [hWF.out]
  refine hK.out _ _ (⟨rF,trivial⟩) (fun hHeld=>?_)
  clear hK K
  try simp only [zz]
  refine wpAnyH_done (by kernel_rfl) ?_ _
  have HYA:Hid (ys=e.log.recs++[{ q with lsn:=(e.log.recs.length:Int)+1 }]):=by rw [Hid,← hys.out,HPA.out]
  have HYV:Hid (ys.map RecA.v=e.log.recs.map RecA.v++[{ q.v with lsn:=(e.log.recs.length:Int)+1 }]):=by rw [Hid,← hys.out,List.map_append,← HPV.out];rfl
  clear m0 mf0 hWF hHeld kF kF' oF hwF tF t9 HOB o9 hEy hys k9 b9 r9 a5 op5 b25 r25 r5 ND5
  obtain ⟨e1,he1⟩:∃ e1,Hid (e.withLog ⟨ys,e.log.sure,a9,c9⟩=e1):=⟨_,rfl⟩
  rw [he1.out] at M
  have HT1:Hid (e1.txs=e.txs):=by rw [Hid,← he1.out];rfl
  have HAT:Hid (e1.aT=e.aT∧e1.cT=e.cT∧e1.log.recs=e.log.recs++[{ q with lsn:=(e.log.recs.length:Int)+1 }]):=by rw [Hid,← he1.out];exact ⟨rfl,rfl,HYA.out⟩
  have hsh1:=M.at'.shape
  have ND6:Below WF.heap.size WF WF.drew:=(Below.refl _ _).drew
  have a6:=M.at'.below ND6
  have b6:=bF.below ND6 bF.lt
  have HRE:Hid (WF.drew.rangeAt E 0 e1.cells∧WF.drew.rangeAt w.heap.size 0 p.cells):=⟨Box.range [] e1.cells [] (by simpa using a6.box),Box.range [] p.cells [] (by simpa using b6)⟩
  have HIE:Hid ((Tryz.prog.info? 58).map (·.size)=some e1.cells.length):=by rw [Hid,EngA.cells_len hsh1];exact Tryz.infoEng
  go_upto_region 3 with fail
  refine wp_region_held_drew (S:=fun w'=>w'.rangeAt E 0 e1.cells∧w'.rangeAt w.heap.size 0 p.cells) (by kernel_rfl) ?_ (fun hHeld=>?_)
  ·exact HRE.out
  refine tq 0 (v:=.pointer (some ⟨E,0,none⟩)) rfl hHeld ?_
  try simp only [zz]
  refine tq 1 (v:=.pointer (some ⟨E,0,none⟩)) rfl hHeld ?_
  try simp only [zz]
  refine tk 2 rfl (yieldsIf_load_mid (by rfl) _ _ rfl _ _ rfl e1.cells _ (fun _ h=>h.1) Tryz.underlying58 rfl HIE.out) hHeld ?_
  try simp only [zz]
  refine tq 3 (v:=.pointer (some ⟨w.heap.size,1,none⟩)) rfl hHeld ?_
  try simp only [zz]
  refine tk 4 (v:=.int .i64 p.tx) rfl (Or.inl ⟨by rfl,?_⟩) hHeld ?_
  ·intro w' hSw
   have hx:w'.cell? ⟨w.heap.size,1,none⟩=some (.int .i64 p.tx):=hSw.2 1 _ rfl
   go_simp<;>rfl
  try simp only [zz]
  refine wpAnyH_ready (rs:=[5]) (by kernel_rfl) (by simp) ?_
  refine AllReadyH.cons rfl (fun K hK=>?_) AllReadyH.nil
  go_simp
  refine (l7Live_any e1 hsh1 p.tx WF.drew a6.own.txs.reads (by rw [HT1.out];exact hT)).mono ?_
  rintro r w7 ⟨rfl,hb7⟩
  have N7:Below WF.heap.size WF w7:=ND6.trans hb7
  have a7:=M.at'.below N7
  have b7:=bF.below N7 bF.lt
  have M7:=M.below N7
  refine hK.out _ _ (⟨Box.range [] e1.cells [] (by simpa using a7.box),Box.range [] p.cells [] (by simpa using b7)⟩) (fun hHeld=>?_)
  clear hK K
  try simp only [zz]
  refine tq 6 (v:=.int .i64 (liveOf e1.txs p.tx)) rfl hHeld ?_
  try simp only [zz]
  refine wpAnyH_done (by kernel_rfl) ?_ _
  clear hHeld HRE HIE a6 b6 ND6
  have l7:=b7.cell 0 _ (show p.cells[0]? =some (.int .i64 p.lsn) from rfl)
  have HLV:Hid (logV e.v q.v={ e.v with log:=⟨ys.map RecA.v,e.log.sure⟩,txs:=lastV e.txs q.tx ((e.log.recs.length:Int)+1) }):=by
   rw [Hid,HYV.out]
   simp [logV,EngA.v,LogA.v,RecA.v]
  have HPL:Hid (p.lsn=(e.log.recs.length:Int)+1∧p.tx=q.tx):=HPQ
  rcases live_cases e1.txs p.tx with hneg | ⟨k,hk,hkl⟩
  ·have HEV:Hid (e1.v=logV e.v q.v):=by
    rw [Hid,HLV.out,← he1.out,lastV,← HPL.out.2,← HT1.out,hneg,if_neg (by omega),HT1.out]
    rfl
   rw [hneg]
   clear HLV hneg
   go_wp2
   go_ret
   exact ⟨ret_int HPL.out.1,e1,HEV,HAT,M7⟩
  ·obtain ⟨g,W10,hg,hgE,hgw,hW10,hf,hc,st,hsW⟩:=a7.liveSet k hkl p.lsn
   have x0:w7.cell? ⟨E,140,none⟩=some (.slice (some ⟨g,0,none⟩) e1.txs.length e1.cT):=by rw [← hg];exact EngA.cell_at a7.shape a7.box 4 _ rfl
   have HEV:Hid ((e1.withTxs (e1.txs.set k { (e1.txs.getD k zeroL) with last:=p.lsn }) e1.aT e1.cT).v=logV e.v q.v):=by
    rw [Hid,HLV.out,← he1.out,lastV,← HPL.out.2,← HT1.out,hk,if_pos (by omega),Int.toNat_natCast,HT1.out,← HPL.out.1]
    rfl
   have ND8:Below w7.heap.size w7 w7.drew:=(Below.refl _ _).drew
   rw [hk]
   clear hk HLV
   have hkk:(k:Int)<(e1.txs.length:Int):=by omega
   have hk0:(0:Int)≤(k:Int):=by omega
   go_upto_region 5 with fail
   clear x0 l7
   have a8:=a7.below ND8
   have b8:=b7.below ND8 b7.lt
   have HS8:Hid (w7.drew.cell? ⟨E,140,none⟩=some (.slice (some ⟨g,0,none⟩) e1.txs.length e1.cT)∧w7.drew.rangeAt w.heap.size 0 p.cells):=⟨by rw [← hg];exact EngA.cell_at a8.shape a8.box 4 _ rfl,Box.range [] p.cells [] (by simpa using b8)⟩
   have hoff:Off E e1 w.heap.size:=by rw [← he1.out];exact HNW.out
   have ND10:Below W10.heap.size W10 W10.drew:=(Below.refl _ _).drew
   obtain ⟨W11,hW11⟩:∃ W11,Hid (W10.drew=W11):=⟨_,rfl⟩
   rw [hW11.out] at ND10
   have b11:=(st.boxes b7 hoff).below ND10 (st.boxes b7 hoff).lt
   have st2:=st.below ND10
   have M11:=M7.then st2
   have HS11:Hid (W11.cell? ⟨E,140,none⟩=some (.slice (some ⟨g,0,none⟩) e1.txs.length e1.cT)∧W11.rangeAt w.heap.size 0 p.cells):=⟨by
    have:=EngA.cell_at st2.at'.shape st2.at'.box 4 _ rfl
    simp only [EngA.withTxs,List.length_set] at this
    rw [← hg];exact this,Box.range [] p.cells [] (by simpa using b11)⟩
   have f2:w7.drew.frozen? ⟨g,k*3+1,none⟩=false:=hf (k*3+1)
   obtain ⟨cv2,hc1⟩:=hc
   have hc2:w7.drew.cell? ⟨g,k*3+1,none⟩=some cv2:=hc1
   clear hf hg hsW st st2 b8 a8 b7 a7 M7 N7 hc1 ND10 hoff
   refine wp_region_held_drew (S:=fun w'=>w'.cell? ⟨E,140,none⟩=some (.slice (some ⟨g,0,none⟩) e1.txs.length e1.cT)∧w'.rangeAt w.heap.size 0 p.cells) (by kernel_rfl) ?_ (fun hHeld=>?_)
   ·exact HS8.out
   refine tq 0 (v:=.pointer (some ⟨E,0,none⟩)) rfl hHeld ?_
   try simp only [zz]
   refine tq 1 (v:=.pointer (some ⟨E,0,none⟩)) rfl hHeld ?_
   try simp only [zz]
   refine tq 2 (v:=.pointer (some ⟨E,140,none⟩)) rfl hHeld ?_
   try simp only [zz]
   refine tk 3 (v:=.slice (some ⟨g,0,none⟩) e1.txs.length e1.cT) rfl (Or.inl ⟨by rfl,?_⟩) hHeld ?_
   ·intro w' hSw
    have hx:=hSw.1
    go_simp<;>rfl
   try simp only [zz]
   refine tq 4 (v:=.int .i64 k) rfl hHeld ?_
   try simp only [zz]
   refine tq 5 (v:=.pointer (some ⟨w.heap.size,0,none⟩)) rfl hHeld ?_
   try simp only [zz]
   refine tk 6 (v:=.int .i64 p.lsn) rfl (Or.inl ⟨by rfl,?_⟩) hHeld ?_
   ·intro w' hSw
    have hx:w'.cell? ⟨w.heap.size,0,none⟩=some (.int .i64 p.lsn):=hSw.2 0 _ rfl
    go_simp<;>rfl
   try simp only [zz]
   refine tq 7 (v:=.pointer (some ⟨g,k*3,none⟩)) rfl hHeld ?_
   try simp only [zz]
   refine tq 8 (v:=.pointer (some ⟨g,k*3+1,none⟩)) rfl hHeld ?_
   try simp only [zz]
   refine wpAnyH_ready (rs:=[9]) (by kernel_rfl) (by simp) ?_
   refine AllReadyH.cons rfl (fun K hK=>?_) AllReadyH.nil
   go_simp
   rw [hW10.out,hW11.out]
   refine hK.out _ _ (HS11.out) (fun hHeld=>?_)
   clear hK K
   try simp only [zz]
   refine wpAnyH_done (by kernel_rfl) ?_ _
   have l11:=b11.cell 0 _ (show p.cells[0]? =some (.int .i64 p.lsn) from rfl)
   clear hHeld HS8 HS11 hW10 hW11 hc2 f2
   go_wp2
   go_ret
   exact ⟨ret_int HPL.out.1,_,HEV,HAT,M11⟩
end Go.Proofs.YtfehemepdoomdaaGreatDoor
namespace Go.Proofs.YtfehemepdoomdaaGreatDoor
open Go.RowKit
attribute [local go_sem ↓] Go.wp_at_zero Go.wp_at_succ
end Go.Proofs.YtfehemepdoomdaaGreatDoor
namespace Go.Proofs.YtfehemepdoomdaaGreatDoor
open Go.RowKit
attribute [local go_sem ↓] Go.wp_at_zero Go.wp_at_succ
end Go.Proofs.YtfehemepdoomdaaGreatDoor
namespace Go.Proofs.YtfehemepdoomdaaGreatDoor
open Go.RowKit
def endsV (e:EngV) (tx:Int):EngV:={ e with txs:=e.txs.filter (fun l=>l.tx != tx),holds:=e.holds.filter (fun l=>l.tx != tx) }
theorem ownL_lit0 (w:World):OwnL (w.alloc (.cells #[] 106)) w.heap.size (w.heap.size+1) (some ⟨w.heap.size,0,none⟩) 0 []:=
 ⟨World.ownsRow_lit w #[] 0 (Nat.le_refl _) (by simp [maxLen]) rfl,by simp,fun k hk=>by cases hk;simp⟩
theorem ownH_lit0 (w:World):OwnH (w.alloc (.cells #[] 110)) w.heap.size (w.heap.size+1) (some ⟨w.heap.size,0,none⟩) 0 []:=
 ⟨World.ownsRow_lit w #[] 0 (Nat.le_refl _) (by simp [maxLen]) rfl,by simp,fun k hk=>by cases hk;simp⟩
theorem EngAtG.heldQ {w w':World} {E:Nat} {e:EngA} (h:EngAt w E e) (ls:List HoldV) (a:Option Addr) (c:Nat) (bx:Box w' E (e.withHolds ls a c).cells TE) (ho:OwnH w' 0 w'.heap.size a c ls)
  (ht:Touch (E::rowOf e.aH e.holds.length e.cH) w w') (hd:∀ k∈rowOf a ls.length c,k∉e.blocks) (hEQ:E∉rowOf a ls.length c):EngMore E e (rowOf a ls.length c) w (e.withHolds ls a c) w':=by
 have ap:=h.apart
 have hE:∀ k∈e.blocks,k≠E:=fun k hk he=>h.off (he▸hk)
 refine ⟨⟨bx,⟨h.shape.eight,h.shape.four⟩,⟨?_,?_,?_,?_,ho,?_⟩,?_⟩,?_,?_⟩
 ·exact (h.own.disk.touch ht (fun k hk=>not_part (hE k (EngA.mem_disk hk)) (ap.dh k hk))).widen (Nat.le_refl _) ht.size (Nat.le_refl _)
 ·exact (h.own.pool.touch ht (fun k hk=>not_part (hE k (EngA.mem_pool hk)) (ap.ph k hk))).widen (Nat.le_refl _) ht.size (Nat.le_refl _)
 ·exact (h.own.log.touch ht (fun k hk=>not_part (hE k (EngA.mem_log hk)) (ap.lh k hk))).widen (Nat.le_refl _) ht.size (Nat.le_refl _)
 ·exact (h.own.txs.touch ht (fun k hk=>not_part (hE k (EngA.mem_txs (Option.mem_toList.2 hk))) (ap.th k (Option.mem_toList.2 hk)))).widen (Nat.le_refl _) ht.size (Nat.le_refl _)
 ·have h1:=h.own.apart
  simp only [EngA.blocks,EngA.withHolds] at h1 ⊢
  rw [← List.append_assoc,← List.append_assoc,← List.append_assoc] at h1 ⊢
  have h2:=nodup_part' (C:=[]) (by rw [List.append_nil];exact h1) (rowOf_nodup a ls.length c) (fun k hk hm=>hd k hk (by
   simp only [EngA.blocks,List.mem_append] at hm ⊢
   rcases hm with ((hm | hm) | hm) | hm
   ·exact .inl hm
   ·exact .inr (.inl hm)
   ·exact .inr (.inr (.inl hm))
   ·exact .inr (.inr (.inr (.inl hm))))) (by simp)
  rw [List.append_nil] at h2
  exact h2
 ·intro hk
  simp only [EngA.blocks,EngA.withHolds,List.mem_append] at hk
  have hoff:=h.off
  simp only [EngA.blocks,List.mem_append] at hoff
  rcases hk with hk | hk | hk | hk | hk
  ·exact hoff (.inl hk)
  ·exact hoff (.inr (.inl hk))
  ·exact hoff (.inr (.inr (.inl hk)))
  ·exact hoff (.inr (.inr (.inr (.inl hk))))
  ·exact hEQ hk
 ·exact ht.mono (fun k hk=>(List.mem_cons.1 hk).elim (fun h=>by simp [h]) (fun h=>List.mem_cons_of_mem _ (List.mem_append.2 (.inl (EngA.mem_holds h)))))
 ·intro k hk
  simp only [EngA.blocks,EngA.withHolds,List.mem_append] at hk ⊢
  rcases hk with hk | hk | hk | hk | hk
  ·exact .inl (.inl hk)
  ·exact .inl (.inr (.inl hk))
  ·exact .inl (.inr (.inr (.inl hk)))
  ·exact .inl (.inr (.inr (.inr (.inl hk))))
  ·exact .inr (.inl hk)
theorem takeL_succ (ls:List LiveV) (k:Nat) (h:k<ls.length):ls.take (k+1)=ls.take k++[ls.getD k zeroL]:=by
 rw [List.take_succ_eq_append_getElem h];simp [List.getD,h]
theorem takeH_succ (ls:List HoldV) (k:Nat) (h:k<ls.length):ls.take (k+1)=ls.take k++[ls.getD k zeroH]:=by
 rw [List.take_succ_eq_append_getElem h];simp [List.getD,h]
theorem grown_belowE {w u v:World} {n:Nat} {row:Option Nat} (hb:Below n w u) (hg:u.grownBy v row) (hr:∀ k,row=some k→n≤k) (hn:n≤u.heap.size):Below n w v:=
 ⟨hg.os.trans hb.os,hg.tape.trans hb.tape,hg.output.trans hb.output,Nat.le_trans hb.size hg.size,fun k hk=>(hg.block k (by omega) (fun e=>by have:=hr k e.symm;omega)).trans (hb.block k hk)⟩
theorem l7Ends_any (E:Nat) (e:EngA) (tx:Int) (w:World) (h:EngAt w E e) (hT:e.txs.length≤68719476736) (hH:e.holds.length≤68719476736):
  Calls Tryz.prog 52 #[.pointer (some ⟨E,0,none⟩),.int .i64 tx] w fun r w'=>(∃ v,r=.returned v)∧∃ e',Hid (e'.v=endsV e.v tx)∧Hid (e'.log=e.log)∧EngStep E e w e' w':=by
 obtain ⟨W,hW,b0,hbW,hsW⟩:=boxes1 w [] 106
 have o0:OwnL W w.heap.size W.heap.size (some ⟨w.heap.size,0,none⟩) 0 []:=by
  have:=ownL_lit0 w
  have e1:w.alloc (.cells #[] 106)=W:=hW.out
  rw [e1,← hsW] at this
  exact this
 clear hsW b0
 go_enter Tryz.func52,Tryz.ntmps52
 go_wp2_with fail
 rw [hW.out]
 clear hW
 go_loopw [4,5] (fun v i wr=>∃ (k:Nat) (a:Option Addr) (c:Nat) (L:List LiveV),i=.int .i64 k∧v=.slice a L.length c∧k≤e.txs.length∧L.length≤k∧Hid (L=(e.txs.take k).filter (fun l=>l.tx != tx))∧OwnL wr w.heap.size wr.heap.size a c L∧Below w.heap.size w wr)
  (fun _ i _=>e.txs.length-(intOf i).toNat)
 case atStart=>exact ⟨0,_,0,[],rfl,rfl,Nat.zero_le _,Nat.le_refl _,rfl,o0,hbW⟩
 case round=>
  obtain ⟨k,a,c,L,rfl,rfl,hk,hLk,hL,oL,hb⟩:=hrel
  clear o0 hbW
  have a1:=h.below hb
  have hs1:=hb.size
  have x0:wr.cell? ⟨E,140,none⟩=some (.slice e.aT e.txs.length e.cT):=EngA.cell_at a1.shape a1.box 4 _ rfl
  by_cases hlt:k<e.txs.length
  ·obtain ⟨b,off,ha,hcell⟩:=a1.own.txs.reads (by intro e1;rw [e1] at hlt;simp at hlt)
   rw [ha] at x0
   obtain ⟨c0,c1,c2⟩:=hcell k hlt
   clear hcell
   have hkk:(k:Int)<(e.txs.length:Int):=by omega
   have hi0:(0:Int)≤(k:Int):=by omega
   have HF:=takeL_succ e.txs k hlt
   have HF':Hid (_=_):=HF
   clear HF
   generalize e.txs.getD k zeroL=z at*
   cases hq:(z.tx != tx) with
   | true=>
    have HN:Hid (L++[z]=(e.txs.take (k+1)).filter (fun l=>l.tx != tx)):=by rw [Hid,HF'.out,List.filter_append,← hL.out];simp [hq]
    have ho2:=oL.below ((Below.refl _ _).alloc (Nat.le_refl _) (.cells #[.int .i64 z.tx,.int .i64 z.last,.bool z.aborts] 106))
    clear hL HF'
    go_wp2_with (at_builtin;refine append_lives rfl _ _ rfl w.heap.size wr.heap.size a c L rfl ho2 _ _ [z] rfl (readsL_one wr z _) (fun h=>by cases h) (by simp;omega) (by simp;omega) ?_;intro a3 c3 y3 w3 hy3 ho3 hg3)
    go_roundw
    case rel=>exact ⟨k+1,a3,c3,y3,by go_num,rfl,by omega,by rw [hy3.out];simp;omega,by rw [Hid,hy3.out];exact HN.out,ho3,grown_belowE (hb.trans ((Below.refl _ _).alloc hs1 _)) hg3 (fun j hj=>(oL.lt j hj).1) (by simp;omega)⟩
    case measure=>simp [intOf];omega
   | false=>
    have HN:Hid (L=(e.txs.take (k+1)).filter (fun l=>l.tx != tx)):=by rw [Hid,HF'.out,List.filter_append,← hL.out];simp [hq]
    clear hL HF'
    go_wp2_with fail
    go_roundw
    case rel=>exact ⟨k+1,a,c,L,by go_num,rfl,by omega,by omega,HN,oL,hb⟩
    case measure=>simp [intOf];omega
  ·have hkk:¬ (k:Int)<(e.txs.length:Int):=by omega
   have HL:Hid (L=e.txs.filter (fun l=>l.tx != tx)):=by rw [Hid,hL.out,List.take_of_length_le (by omega)]
   clear hL
   obtain ⟨wo,rfl⟩:∃ x,x=wr:=⟨_,rfl⟩
   obtain ⟨W1,hW1,b1,hb1,hs1'⟩:=boxes1 wo [] 110
   have o1:OwnH W1 wo.heap.size W1.heap.size (some ⟨wo.heap.size,0,none⟩) 0 []:=by
    have:=ownH_lit0 wo
    have e1:wo.alloc (.cells #[] 110)=W1:=hW1.out
    rw [e1,← hs1'] at this
    exact this
   have hW1':Hid (wo.alloc (.cells #[] 110)=W1):=hW1.out
   clear hs1' b1 hW1
   go_wp2_with fail
   rw [hW1'.out]
   clear hW1' x0
   go_loopw [6,7] (fun v i wz=>∃ (m:Nat) (a':Option Addr) (c':Nat) (M:List HoldV),i=.int .i64 m∧v=.slice a' M.length c'∧m≤e.holds.length∧M.length≤m∧Hid (M=(e.holds.take m).filter (fun l=>l.tx != tx))∧OwnH wz wo.heap.size wz.heap.size a' c' M∧Below wo.heap.size wo wz)
    (fun _ i _=>e.holds.length-(intOf i).toNat)
   case atStart=>exact ⟨0,_,0,[],rfl,rfl,Nat.zero_le _,Nat.le_refl _,rfl,o1,hb1⟩
   case round=>
    obtain ⟨m,a',c',M,rfl,rfl,hm,hMm,hM,oM,hbz⟩:=hrel
    clear o1 hb1
    have az:=a1.below hbz
    have hsz:=hbz.size
    have oz:=oL.below hbz
    have x0:wr.cell? ⟨E,141,none⟩=some (.slice e.aH e.holds.length e.cH):=EngA.cell_at az.shape az.box 5 _ rfl
    by_cases hmt:m<e.holds.length
    ·obtain ⟨b,off,ha,hcell⟩:=az.own.holds.reads (by intro e1;rw [e1] at hmt;simp at hmt)
     rw [ha] at x0
     obtain ⟨c0,c1⟩:=hcell m hmt
     clear hcell
     have hmm:(m:Int)<(e.holds.length:Int):=by omega
     have hm0:(0:Int)≤(m:Int):=by omega
     have HF':Hid (_=_):=takeH_succ e.holds m hmt
     generalize e.holds.getD m zeroH=z at*
     cases hq:(z.tx != tx) with
     | true=>
      have HN:Hid (M++[z]=(e.holds.take (m+1)).filter (fun l=>l.tx != tx)):=by rw [Hid,HF'.out,List.filter_append,← hM.out];simp [hq]
      have ho2:=oM.below ((Below.refl _ _).alloc (Nat.le_refl _) (.cells #[.int .i64 z.tx,.int .i64 z.oid] 110))
      clear hM HF'
      go_wp2_with (at_builtin;refine append_holds rfl _ _ rfl wo.heap.size wr.heap.size a' c' M rfl ho2 _ _ [z] rfl (readsH_one wr z _) (fun h=>by cases h) (by simp;omega) (by simp;omega) ?_;intro a3 c3 y3 w3 hy3 ho3 hg3)
      go_roundw
      case rel=>exact ⟨m+1,a3,c3,y3,by go_num,rfl,by omega,by rw [hy3.out];simp;omega,by rw [Hid,hy3.out];exact HN.out,ho3,grown_belowE (hbz.trans ((Below.refl _ _).alloc hsz _)) hg3 (fun j hj=>(oM.lt j hj).1) (by simp;omega)⟩
      case measure=>simp [intOf];omega
     | false=>
      have HN:Hid (M=(e.holds.take (m+1)).filter (fun l=>l.tx != tx)):=by rw [Hid,HF'.out,List.filter_append,← hM.out];simp [hq]
      clear hM HF'
      go_wp2_with fail
      go_roundw
      case rel=>exact ⟨m+1,a',c',M,by go_num,rfl,by omega,by omega,HN,oM,hbz⟩
      case measure=>simp [intOf];omega
    ·have hmm:¬ (m:Int)<(e.holds.length:Int):=by omega
     have HM:Hid (M=e.holds.filter (fun l=>l.tx != tx)):=by rw [Hid,hM.out,List.take_of_length_le (by omega)]
     clear hM
     obtain ⟨W2,hW2,k2,t2,hs2⟩:=az.tailSet (e':=e.withTxs L a c) 4 (.slice a L.length c) rfl rfl
     have hW2':Hid (wr.setCell ⟨E,140,none⟩ (.slice a L.length c)=W2):=hW2.out
     have NZ:Below w.heap.size w wr:=hb.trans (hbz.mono hs1)
     have hEl:=h.box.lt
     have hnL:∀ j∈rowOf a L.length c,w.heap.size≤j:=fun j hj=>(oL.lt j (Option.mem_toList.1 hj)).1
     have hnM:∀ j∈rowOf a' M.length c',w.heap.size≤j:=fun j hj=>Nat.le_trans hs1 (oM.lt j (Option.mem_toList.1 hj)).1
     have oL2:OwnL W2 0 W2.heap.size a c L:=(oz.touch t2 (fun j hj hk=>by have:=(oz.lt j hj).1;have:=List.mem_singleton.1 hk;omega)).widen (Nat.zero_le _) (by have:=hbz.size;omega) (Nat.le_refl _)
     have oM2:OwnH W2 wo.heap.size wr.heap.size a' c' M:=oM.touch t2 (fun j hj hk=>by have:=(oM.lt j hj).1;have:=List.mem_singleton.1 hk;omega)
     have T2:Touch [E] w W2:=(Touch.of_below NZ).trans t2
     have S2:EngStep E e w (e.withTxs L a c) W2:=h.lives L a c k2 oL2 (T2.mono (by simp)) (fun j hj=>.inr (hnL j hj))
     obtain ⟨W3,hW3,k3,t3,hs3⟩:=S2.at'.tailSet (e':=(e.withTxs L a c).withHolds M a' c') 5 (.slice a' M.length c') rfl rfl
     have hW3':Hid (W2.setCell ⟨E,141,none⟩ (.slice a' M.length c')=W3):=hW3.out
     have oM3:OwnH W3 0 W3.heap.size a' c' M:=(oM2.touch t3 (fun j hj hk=>by have:=(oM2.lt j hj).1;have:=List.mem_singleton.1 hk;omega)).widen (Nat.zero_le _) (by omega) (Nat.le_refl _)
     have HQD:Hid (∀ j∈rowOf a' M.length c',j∉(e.withTxs L a c).blocks):=fun j hj hm=>by
      have h1:=hnM j hj
      rcases S2.fresh j hm with h2 | h2
      ·have:=h.lt j h2;omega
      ·simp only [EngA.blocks,EngA.withTxs,List.mem_append] at hm
       rcases hm with hm | hm | hm | hm | hm
       ·have:=h.lt j (EngA.mem_disk hm);omega
       ·have:=h.lt j (EngA.mem_pool hm);omega
       ·have:=h.lt j (EngA.mem_log hm);omega
       ·have h3:=(oL.lt j (Option.mem_toList.1 hm)).2;have h4:=(oM.lt j (Option.mem_toList.1 hj)).1;omega
       ·have:=h.lt j (EngA.mem_holds hm);omega
     have HEND:Hid (∃ e',Hid (e'.v=endsV e.v tx)∧Hid (e'.log=e.log)∧EngStep E e w e' W3):=by
      refine ⟨(e.withTxs L a c).withHolds M a' c',?_,rfl,?_⟩
      ·rw [Hid]
       simp only [EngA.v,EngA.withHolds,EngA.withTxs,endsV,HL.out,HM.out]
      ·exact EngMore.step S2 (S2.at'.heldQ M a' c' k3 oM3 (t3.mono (by simp)) (fun j hj hm=>HQD.out j hj hm) (fun hj=>by have:=hnM E hj;omega)) hnM
     have m0:wr.cell? ⟨E,140,none⟩=some (.slice e.aT e.txs.length e.cT):=EngA.cell_at az.shape az.box 4 _ rfl
     have f0:=az.box.frozen 140
     have m1:W2.cell? ⟨E,141,none⟩=some (.slice e.aH e.holds.length e.cH):=EngA.cell_at S2.at'.shape S2.at'.box 5 _ rfl
     have f1:=S2.at'.box.frozen 141
     clear S2 oM3 oM2 oL2 hW2 hW3
     go_upto_region 13 with fail
     rw [hW2'.out]
     go_wp2_with fail
     rw [hW3'.out]
     go_end0
     exact ⟨⟨_,rfl⟩,HEND.out⟩
def recE (tx prev kind:Int):RecA:=⟨0,tx,prev,kind,0,zeroS,zeroS,0,[],none,0⟩
theorem recE_blocks (tx prev kind:Int):(recE tx prev kind).blocks=[]:=rfl
theorem recE_own (tx prev kind:Int) (w:World) (lo hi:Nat) (h:hi≤w.heap.size):(recE tx prev kind).own w lo hi:=⟨zero_own w lo hi h,zero_own w lo hi h,ownL_nil w lo hi h,by rw [recE_blocks];exact List.nodup_nil⟩
theorem EngMore.plain {E:Nat} {e e':EngA} {w w':World} (m:EngMore E e [] w e' w'):EngStep E e w e' w':=
 ⟨m.at',m.touch.mono (by simp),fun k hk=>(m.fresh k hk).imp id (fun h=>h.elim (fun h=>by cases h) id)⟩
theorem v_recs_len {e:EngA} {x:EngV} (h:e.v=x):e.log.recs.length=x.log.recs.length:=by rw [← h];simp [EngA.v,LogA.v]
theorem v_txs {e:EngA} {x:EngV} (h:e.v=x):e.txs=x.txs:=by rw [← h];rfl
theorem v_holds {e:EngA} {x:EngV} (h:e.v=x):e.holds=x.holds:=by rw [← h];rfl
theorem lastV_len (ls:List LiveV) (tx n:Int):(lastV ls tx n).length=ls.length:=by unfold lastV;split<;>simp
def recV (tx prev kind:Int):RecV:=(recE tx prev kind).v
def commitV (e:EngV) (tx:Int):EngV:=
 let e1:=logV e (recV tx (lastOf e.log.recs tx) 2)
 let e2:EngV:={ e1 with log:=e1.log.upTo ((e.log.recs.length:Int)+1) }
 endsV (logV e2 (recV tx ((e.log.recs.length:Int)+1) 5)) tx
theorem build_rec3 {w:World} {ops:Array Oper} {rest:List Oper} {dst:Option Nat} {ty:TypeId} {pos:String} {aft:Array Edge} {act:Act} {Q:Exit→Act→World→Prop} (x y:Operand) (tx prev kind:Int)
  (hx:act.eval x=.int .i64 tx) (hy:act.eval y=.int .i64 prev)
  (h:wpList Tryz.prog ops Q rest (act.put dst (.agg (recE tx prev kind).cells.toArray)) w):
  wpList Tryz.prog ops Q ({ dst:=dst,op:=.build 99 #[(1,x),(2,y),(3,.const (.int .i64 kind))],type:=ty,pos:=pos,after:=aft,guard:=none }::rest) act w:=by
 refine wpList_plain rfl fun K hK=>?_
 unfold Oper.wp execOp
 simp only [List.map_toArray,List.map_cons,List.map_nil,hx,hy]
 have e:(Instr.build 99 #[(1,Value.int .i64 tx),(2,Value.int .i64 prev),(3,Value.int .i64 kind)]).run Tryz.prog w=.ok (.agg (recE tx prev kind).cells.toArray) w:=run_build w _ _ _ (by kernel_rfl)
 have ec:act.eval (.const (.int .i64 kind))=.int .i64 kind:=rfl
 rw [ec]
 simp only [Sem.run_bind,e,Result.andThen_ok,Sem.run_pure]
 exact hK _ _ h
theorem EngAtG.rangeLog {w:World} {E:Nat} {e:EngA} (h:EngAt w E e):w.rangeAt E 138 e.log.cells:=fun j v hv=>by
 match j,hv with
 | 0,hv=>cases hv;exact EngA.cell_at h.shape h.box 2 _ rfl
 | 1,hv=>cases hv;exact EngA.cell_at h.shape h.box 3 _ rfl
theorem l7Commit_any (E:Nat) (e:EngA) (tx:Int) (w:World) (h:EngAt w E e) (hlen:e.log.recs.length+2≤68719476736) (hT:e.txs.length≤68719476736) (hH:e.holds.length≤68719476736):
  Calls Tryz.prog 17 #[.pointer (some ⟨E,0,none⟩),.int .i64 tx] w fun r w'=>(∃ v,r=.returned v)∧∃ e',Hid (e'.v=commitV e.v tx)∧EngStep E e w e' w':=by
 have HI:Hid ((Tryz.prog.info? 54).map (·.size)=some e.log.cells.length):=log_info e.log
 have r0:=h.rangeLog
 have C0:=l7Last_any e.log tx w h.own.log.reads (by omega)
 go_enter Tryz.func17,Tryz.ntmps17
 go_wp2_with (first | (guard_target=wpList _ _ _ (Oper.mk (some 10) _ _ _ _ _::_) _ _;refine wpList_load_mid rfl 54 (.tmp 9) rfl E 138 rfl e.log.cells _ r0 Tryz.underlying54 rfl HI.out ?_) | fail)
 refine C0.mono ?_
 clear C0 r0
 rintro r w1 ⟨rfl,hb1⟩
 obtain ⟨L,hL⟩:∃ L,Hid (lastOf (e.log.recs.map RecA.v) tx=L):=⟨_,rfl⟩
 rw [hL.out]
 have a1:=h.below hb1
 have C1:=l7Log_any E e (recE tx L 2) w1 a1 (recE_own _ _ _ _ _ _ (Nat.le_refl _)) (by simp [recE_blocks]) (by simp [recE_blocks]) (by omega) (by omega)
 go_wp2_with (first | (guard_target=wpList _ _ _ (Oper.mk (some 13) _ _ _ _ _::_) _ _;refine build_rec3 (.tmp 6) (.tmp 12) tx L 2 rfl rfl ?_) | fail)
 refine C1.mono ?_
 clear C1
 rintro r w2 ⟨rfl,e2,he2,_,m2⟩
 have S2:EngStep E e w e2 w2:=EngStepG.after hb1 m2.plain
 have C2:=l5ForceEng_any E e2 ((e.log.recs.length:Int)+1) w2 S2.at'
 go_wp2_with fail
 refine C2.mono ?_
 clear C2 m2
 rintro r w3 ⟨⟨v3,rfl⟩,s3,_⟩
 have S3:=S2.trans s3
 have hl2:e2.log.recs.length=e.log.recs.length+1:=by rw [v_recs_len he2.out];simp [logV,EngA.v,LogA.v]
 have ht2:e2.txs.length=e.txs.length:=by rw [v_txs he2.out];simp only [logV];rw [lastV_len];rfl
 have hh2:e2.holds=e.holds:=by rw [v_holds he2.out];rfl
 have HE2:Hid (e2.v=logV e.v (recV tx L 2)):=he2.out
 have C3:=l7Log_any E (e2.withLog (e2.log.upTo ((e.log.recs.length:Int)+1))) (recE tx ((e.log.recs.length:Int)+1) 5) w3 s3.at' (recE_own _ _ _ _ _ _ (Nat.le_refl _)) (by simp [recE_blocks]) (by simp [recE_blocks]) (by show e2.log.recs.length+1≤_;omega) (by show e2.txs.length≤_;omega)
 have HH2:Hid (e2.holds=e.holds∧e2.txs.length=e.txs.length):=⟨hh2,ht2⟩
 clear s3 S2 he2 hl2 ht2 hh2
 go_wp2_with (first | (guard_target=wpList _ _ _ (Oper.mk (some 23) _ _ _ _ _::_) _ _;refine build_rec3 (.tmp 21) (.tmp 22) tx ((e.log.recs.length:Int)+1) 5 rfl rfl ?_) | fail)
 refine C3.mono ?_
 clear C3
 rintro r w4 ⟨rfl,e4,he4,_,m4⟩
 have S4:=S3.trans m4.plain
 have C4:=l7Ends_any E e4 tx w4 S4.at' (by rw [v_txs he4.out];simp only [logV];rw [lastV_len];show e2.txs.length≤_;rw [HH2.out.2];exact hT) (by rw [v_holds he4.out];show e2.holds.length≤_;rw [HH2.out.1];exact hH)
 go_wp2_with fail
 refine C4.mono ?_
 clear C4
 rintro r w5 ⟨⟨v5,rfl⟩,e5,he5,_,s5⟩
 have HEND:Hid (e5.v=commitV e.v tx):=by
  rw [Hid,he5.out,he4.out]
  have e1:(e2.withLog (e2.log.upTo ((e.log.recs.length:Int)+1))).v={ e2.v with log:=e2.v.log.upTo ((e.log.recs.length:Int)+1) }:=by
   simp only [EngA.v,EngA.withLog,LogA.upTo_v]
  rw [e1,HE2.out,← hL.out]
  simp only [commitV,EngA.v,LogA.v,List.length_map,recV]
 have S5:=S4.trans s5
 clear he5 he4 HE2 HH2 m4 s5 S3 S4
 go_wp2
 go_end0
 exact ⟨⟨_,rfl⟩,e5,HEND,S5⟩
end Go.Proofs.YtfehemepdoomdaaGreatDoor
namespace Go.Proofs.YtfehemepdoomdaaGreatDoor
open Go.RowKit
end Go.Proofs.YtfehemepdoomdaaGreatDoor