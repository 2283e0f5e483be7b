/- Several texts in one, in their order. -/
import Derived.Test.YtcoeamamaifoeaaGreatDoorPCrashx20
import Derived.Test.YtcoeamamaifoeaaGreatDoorPCrashx7
import Derived.Test.YtcoeamamaifoeaaGreatDoorPCrashx15
import Derived.Test.YtcoeamamaifoeaaGreatDoorPCrashx14
import Derived.Test.YtcoeamamaifoeaaGreatDoorPCrashx21
import Derived.Deep.Cut
import Derived.Test.YtcoeamamaifoeaaGreatDoorPCrashx1
set_option maxHeartbeats 8000000
set_option maxRecDepth 100000
namespace Go.Proofs.YtcoeamamaifoeaaGreatDoor
open Go.RowKit
theorem isBare_any (e:EngA) (se:e.shape) (w:World):
  Calls Tryz.prog 95 #[.agg e.cells.toArray] w fun r w'=>r=.returned (.bool (bareB e.v))∧Below w.heap.size w w':=by
 have HBB:Hid (bareB e.v=(decide (e.seats.length=0) && (decide (e.txs.length=0) && decide (e.holds.length=0)))):=by (rw [Hid];simp [bareB,EngA.v])
 obtain ⟨RB,hRB⟩:∃ RB,bareB e.v=RB:=⟨_,rfl⟩
 rw [hRB] at HBB ⊢
 clear hRB
 obtain ⟨W,hW,b0,hbW,hsW⟩:=boxes1 w e.cells 58
 obtain ⟨_,p1,_,p3,p4,_,_⟩:=eng_parts se b0
 have p10:W.cell? ⟨w.heap.size,136,none⟩=some (.slice e.aS e.seats.length e.cS):=p1 0 _ rfl
 clear p1 b0 hsW
 go_enter Tryz.func95,Tryz.ntmps95
 go_upto_region 1 with fail
 rw [hW.out]
 by_cases k1:e.seats.length=0
 ·have q1:((e.seats.length:Int) == 0)=true:=by simp [k1]
  by_cases k2:e.txs.length=0
  ·have q2:((e.txs.length:Int) == 0)=true:=by simp [k2]
   by_cases k3:e.holds.length=0
   ·have q3:((e.holds.length:Int) == 0)=true:=by simp [k3]
    have HF:Hid (RB=true):=by rw [Hid,HBB.out];simp [k1,k2,k3]
    clear k1 k2 k3
    go_wp2
    go_ret
    exact ⟨ret_bool HF.out.symm,hbW⟩
   ·have q3:((e.holds.length:Int) == 0)=false:=beq_eq_false_iff_ne.2 (by omega)
    have HF:Hid (RB=false):=by rw [Hid,HBB.out];simp [k1,k2,k3]
    clear k1 k2 k3
    go_wp2
    go_ret
    exact ⟨ret_bool HF.out.symm,hbW⟩
  ·have q2:((e.txs.length:Int) == 0)=false:=beq_eq_false_iff_ne.2 (by omega)
   have HF:Hid (RB=false):=by rw [Hid,HBB.out];simp [k1,k2]
   clear k1 k2
   go_wp2
   go_ret
   exact ⟨ret_bool HF.out.symm,hbW⟩
 ·have q1:((e.seats.length:Int) == 0)=false:=beq_eq_false_iff_ne.2 (by omega)
  have HF:Hid (RB=false):=by rw [Hid,HBB.out];simp [k1]
  clear k1
  go_wp2
  go_ret
  exact ⟨ret_bool HF.out.symm,hbW⟩
theorem pages_take (ps:List PageA) (h8:Disk8 ps) (k:Nat) (hk:k<8):((cellsPs ps).drop (k*17)).take 17=(ps.getD k zeroP).cells:=by
 have hkl:k<ps.length:=by rw [h8.eight];exact hk
 have hl:=cellsPs_len (ps.take k) (fun p hp=>h8.four p (List.mem_of_mem_take hp))
 rw [List.length_take,Nat.min_eq_left (Nat.le_of_lt hkl)] at hl
 have h4:=page_len _ (h8.four _ (List.getElem_mem hkl))
 rw [cellsPs_split ps k hkl,← hl,List.drop_left,List.take_append_of_le_length (by omega),List.take_of_length_le (by omega),pageD_eq hkl]
theorem run_index_page (ps:List PageA) (h8:Disk8 ps) (k:Nat) (hk:k<8) (w:World):
  (Instr.index 48 (.agg (cellsPs ps).toArray) (.int .i64 (k:Int))).run Tryz.prog w=.ok (.agg (ps.getD k zeroP).cells.toArray) w:=by
 have he:=pages_take ps h8 k hk
 have hz:(sizeOf 47).run Tryz.prog w=.ok 17 w:=by kernel_rfl
 simp [Instr.index,asIntOf,Go.part,run_underlying Tryz.underlying48,hz]
 rw [if_pos hk,he]
 simp [List.getD]
theorem diskOk_any (e:EngA) (se:e.shape) (w:World) (hg:ErrT w) (re:e.reads w) (hl:e.short 1048576):
  Calls Tryz.prog 96 #[.agg e.cells.toArray] w fun r w'=>r=.returned (.bool (diskB e.v))∧Below w.heap.size w w':=by
 have HNO:Hid (∀ k,k<8→diskAt e.v k=false→diskB e.v=false):=fun k hk h=>all_no k hk h
 have HYES:Hid ((∀ k,k<8→diskAt e.v k=true)→diskB e.v=true):=fun h=>all_yes h
 have HDA:Hid (∀ k,k<8→diskAt e.v k=(okP (e.disk.getD k zeroP).lsn ((e.disk.getD k zeroP).ss.map (·.v)) && decide ((e.disk.getD k zeroP).lsn≤e.log.sure))):=fun k hk=>by (rw [diskAt,diskV_at se k hk];rfl)
 obtain ⟨RB,hRB⟩:∃ RB,diskB e.v=RB:=⟨_,rfl⟩
 rw [hRB] at HNO HYES ⊢
 clear hRB
 have HFD:Hid (∀ p∈e.disk,Fit p.ss):=fun p hp s hs=>by have:=hl.disk p hp s hs;omega
 obtain ⟨W,hW,b0,hbW,hsW⟩:=boxes1 w e.cells 58
 have HB:Hid (∀ u,Below W.heap.size W u→Box u w.heap.size e.cells 58):=fun u hu=>b0.below hu b0.lt
 have HR:Hid (∀ u,Below W.heap.size W u→e.reads u):=fun u hu=>(re.below hbW).below hu
 have HEND:Hid (∀ u,Below W.heap.size W u→Below w.heap.size w u):=fun u hu=>hbW.trans (hu.mono hbW.size)
 have hw0:w.heap.size<W.heap.size:=by omega
 have N:Below W.heap.size W W:=Below.refl _ _
 clear b0 hsW
 have hgB:∀ u,Below W.heap.size W u→ErrT u:=fun u hu=>hg.keep (HEND.out u hu)
 obtain ⟨p0,_,_,_,_,_,_⟩:=eng_parts se (HB.out W N)
 have hid:=disk8_info se.disk8
 have hix0:=run_index_page e.disk se.disk8
 have HIX:Hid (_):=hix0
 clear hix0
 go_enter Tryz.func96,Tryz.ntmps96
 go_wp2_with (first | (guard_target=wpList _ _ _ (Oper.mk (some 6) _ _ _ _ _::_) _ _;refine wpList_load_mid rfl 48 (.tmp 5) rfl w.heap.size 0 rfl (cellsPs e.disk) _ (by rw [hW.out];exact p0) Tryz.underlying48 rfl hid ?_) | fail)
 rw [hW.out]
 clear hW p0 hid
 go_loopw [7] (fun i wr=>∃ k:Nat,k≤8∧i=.int .i64 (k:Int)∧Hid (∀ j,j<k→diskAt e.v j=true)∧Below W.heap.size W wr) (fun i _=>8-(intOf i).toNat)
 case atStart=>exact ⟨0,Nat.zero_le _,rfl,fun j hj=>by omega,N⟩
 case round=>
  obtain ⟨k,hk,rfl,hall,hbr⟩:=hrel
  clear N
  have hsr:=hbr.size
  by_cases hlt:k<8
  ·have hkl:k<e.disk.length:=by rw [se.eight];exact hlt
   have HDK:Hid (_=_):=HDA.out k hlt
   have HDN:Hid (_→_):=HNO.out k hlt
   have HP4:=se.disk8.at hlt
   have F1:=HFD.out _ (pageD_mem (k:=k) hkl)
   have HRP:Hid (∀ u,Below W.heap.size W u→ReadsS u (e.disk.getD k zeroP).ss):=fun u hu=>(HR.out _ hu).disk _ (pageD_mem (k:=k) hkl)
   have hix:=HIX.out k hlt
   generalize e.disk.getD k zeroP=p at*
   have HIp:=page_infoP p HP4
   have HOp:=all_oneCell_toArray (oneP p)
   obtain ⟨ZV,hZV,bZ,hbZ,hsZ⟩:=boxes1 wr [.int .i64 0,.bool false,.int .i64 0,.slice none 0 0,.slice none 0 0,.bool false,.int .i64 0,.slice none 0 0,.slice none 0 0,.bool false,.int .i64 0,.slice none 0 0,.slice none 0 0,.bool false,.int .i64 0,.slice none 0 0,.slice none 0 0] 47
   obtain ⟨V,hV,hwS,hsS,HT,_,bS⟩:=page_out (C:=wr.heap.size) (T:=47) p HP4 _ rfl bZ Tryz.underlying47 rfl (by kernel_rfl)
   have nb:Below wr.heap.size wr V:=hbZ.trans (hwS.below (Nat.le_refl _) (by omega))
   have nV:Below W.heap.size W V:=hbr.trans (nb.mono hbr.size)
   have rS:V.rangeAt wr.heap.size 0 p.cells:=Box.range [] p.cells [] (by simpa using bS)
   have EV:Hid (ZV.setCells wr.heap.size 0 p.cells.toArray.toList=V):=hV.out
   have C1:=implPageOk_any p HP4 V (hgB _ nV) (HRP.out _ nV) F1
   have hlV:=bS.lt
   have hi0:(0:Int)≤(k:Int):=by omega
   have hi8:(k:Int)<8:=by omega
   clear bZ hbZ hsZ hwS hsS hV nb
   go_wp2_with (first | (guard_target=wpList _ _ _ (Oper.mk none (Op.store _ (Operand.tmp 4) _) _ _ _ _::_) _ _;refine wpList_store_mid rfl 47 (.tmp 4) (.tmp 9) rfl wr.heap.size 0 p.cells.toArray rfl rfl (by rw [hZV.out];exact HT.out) (by rw [List.size_toArray];exact HIp) HOp ?_) | (guard_target=wpList _ _ _ (Oper.mk (some 10) _ _ _ _ _::_) _ _;refine wpList_load_mid rfl 47 (.tmp 4) rfl wr.heap.size 0 rfl (p.cells) _ (by rw [hZV.out,EV.out];exact rS) Tryz.underlying47 rfl HIp ?_) | fail)
   rw [hZV.out,EV.out]
   clear hZV EV HT rS hix
   refine C1.mono ?_
   clear C1
   rintro r w1 ⟨rfl,hb1⟩
   have n1:Below W.heap.size W w1:=nV.trans (hb1.mono nV.size)
   have x0:=(bS.below hb1 bS.lt).cell 0 _ rfl
   obtain ⟨_,_,p2,_,_,_,_⟩:=eng_parts se (HB.out _ n1)
   have x1:=p2 1 _ rfl
   clear p2 bS hb1 nV
   obtain ⟨bA,hA⟩:∃ bA,Hid (okP p.lsn (p.ss.map (·.v))=bA):=⟨_,rfl⟩
   rw [hA.out]
   cases bA with
   | false=>
    have HE:Hid (RB=false∧Below w.heap.size w w1):=⟨HDN.out (by rw [HDK.out,hA.out];rfl),HEND.out _ n1⟩
    go_wp2
    go_ret
    exact ⟨ret_bool HE.out.1.symm,HE.out.2⟩
   | true=>
    by_cases hx:p.lsn≤e.log.sure
    ·have hxn:¬ e.log.sure<p.lsn:=by omega
     have HK:Hid (∀ j,j<k+1→diskAt e.v j=true):=fun j hj=>by
      by_cases q:j=k
      ·rw [q,HDK.out,hA.out,decide_eq_true hx];rfl
      ·exact hall.out j (by omega)
     clear hx
     go_wp2_with fail
     go_roundw
     case rel=>exact ⟨k+1,by omega,by go_num,HK,n1⟩
     case measure=>simp [intOf];omega
    ·have hxn:e.log.sure<p.lsn:=by omega
     have HE:Hid (RB=false∧Below w.heap.size w w1):=⟨HDN.out (by rw [HDK.out,hA.out,decide_eq_false hx];rfl),HEND.out _ n1⟩
     clear hx
     go_wp2
     go_ret
     exact ⟨ret_bool HE.out.1.symm,HE.out.2⟩
  ·obtain rfl:k=8:=by omega
   have hkk:¬ ((8:Nat):Int)<8:=by omega
   have HE:Hid (RB=true∧Below w.heap.size w wr):=⟨HYES.out hall.out,HEND.out _ hbr⟩
   go_wp2
   go_ret
   exact ⟨ret_bool HE.out.1.symm,HE.out.2⟩
theorem seatsOk_any (e:EngA) (se:e.shape) (w:World) (re:e.reads w) (hl:e.short 1048576) (hno:∀ k,k<e.seats.length→∃ n:Nat,(e.seats.getD k zeroSt).no=n∧n<8):
  Calls Tryz.prog 97 #[.agg e.cells.toArray] w fun r w'=>r=.returned (.bool (seatsB e.v))∧Below w.heap.size w w':=by
 have hvl:e.v.seats.length=e.seats.length:=by simp [EngA.v]
 have HNO:Hid (∀ k,k<e.seats.length→seatAt e.v k=false→seatsB e.v=false):=fun k hk h=>all_no k (by omega) h
 have HYES:Hid ((∀ k,k<e.seats.length→seatAt e.v k=true)→seatsB e.v=true):=fun h=>all_yes (fun k hk=>h k (by omega))
 have HSA:Hid (∀ k (n:Nat),(e.seats.getD k zeroSt).no=n→n<8→seatAt e.v k=(decide ((e.seats.getD k zeroSt).lsn≤(e.log.recs.length:Int)) && ((e.seats.getD k zeroSt).dirty || samePg ((e.seats.getD k zeroSt).lsn,(e.seats.getD k zeroSt).ss.map (·.v)) ((e.disk.getD n zeroP).lsn,(e.disk.getD n zeroP).ss.map (·.v))))):=fun k n hn h8=>by
  have e1:e.v.seats.getD k zeroStV=(e.seats.getD k zeroSt).v:=seatV_at e.seats k
  have e2:(e.seats.getD k zeroSt).v.no=n:=hn
  rw [seatAt,e1,e2,Int.toNat_natCast,diskV_at se n h8]
  simp only [EngA.v,LogA.v,List.length_map]
  rfl
 have HNN:Hid (_):=hno
 obtain ⟨ROK,hRB⟩:∃ RB,seatsB e.v=RB:=⟨_,rfl⟩
 rw [hRB] at HNO HYES ⊢
 clear hRB hno hvl
 have HFD:Hid (∀ p∈e.disk,Fit p.ss):=fun p hp s hs=>by have:=hl.disk p hp s hs;omega
 have HFS:Hid (∀ s∈e.seats,Fit s.ss):=fun s hs x hx=>by have:=hl.pool.each s hs x hx;omega
 have hrl:e.log.recs.length≤1048576:=hl.log.len
 have hsl:e.seats.length≤1048576:=hl.pool.len
 obtain ⟨W,hW,b0,hbW,hsW⟩:=boxes1 w e.cells 58
 have HB:Hid (∀ u,Below W.heap.size W u→Box u w.heap.size e.cells 58):=fun u hu=>b0.below hu b0.lt
 have HR:Hid (∀ u,Below W.heap.size W u→e.reads u):=fun u hu=>(re.below hbW).below hu
 have HEND:Hid (∀ u,Below W.heap.size W u→Below w.heap.size w u):=fun u hu=>hbW.trans (hu.mono hbW.size)
 have hw0:w.heap.size<W.heap.size:=by omega
 have N:Below W.heap.size W W:=Below.refl _ _
 clear b0 hsW
 obtain ⟨_,p1,_,_,_,_,_⟩:=eng_parts se (HB.out W N)
 have l0:W.cell? ⟨w.heap.size,136,none⟩=some (.slice e.aS e.seats.length e.cS):=p1 0 _ rfl
 clear p1 hl re
 go_enter Tryz.func97,Tryz.ntmps97
 go_upto_region 1 with fail
 rw [hW.out]
 clear hW
 go_wp2_with fail
 clear l0
 go_loopw [9] (fun i wr=>∃ k:Nat,k≤e.seats.length∧i=.int .i64 (k:Int)∧Hid (∀ j,j<k→seatAt e.v j=true)∧Below W.heap.size W wr) (fun i _=>e.seats.length-(intOf i).toNat)
 case atStart=>exact ⟨0,Nat.zero_le _,rfl,fun j hj=>by omega,N⟩
 case round=>
  clear N
  obtain ⟨i,hi,rfl,hall,hbr⟩:=hrel
  have hsr:=hbr.size
  by_cases hlt3:i<e.seats.length
  ·obtain ⟨b,off,ha,hc⟩:=seat_rngE (HR.out _ hbr).pool i hlt3
   have hcr:wr.rangeAt b (off+i*20) (e.seats.getD i zeroSt).cells:=(hc i hlt3).1
   obtain ⟨nn,hnn,hn8⟩:=HNN.out i hlt3
   have HSK:Hid (_=_):=HSA.out i nn hnn hn8
   have HSN:Hid (_→_):=HNO.out i hlt3
   have F1:=HFS.out _ (seatD_mem e.seats i hlt3)
   have hnl:nn<e.disk.length:=by rw [se.eight];exact hn8
   have F2:=HFD.out _ (pageD_mem (k:=nn) hnl)
   have HQ4:=se.disk8.at hn8
   have HRS:Hid (∀ u,Below W.heap.size W u→ReadsS u (e.seats.getD i zeroSt).ss∧ReadsS u (e.disk.getD nn zeroP).ss):=fun u hu=>⟨by
    obtain ⟨_,_,_,hc2⟩:=seat_rngE (HR.out _ hu).pool i hlt3
    exact (hc2 i hlt3).2,(HR.out _ hu).disk _ (pageD_mem (k:=nn) hnl)⟩
   have HDG:Hid (∀ u,Below W.heap.size W u→u.rangeAt w.heap.size (nn*17) (e.disk.getD nn zeroP).cells):=fun u hu=>by
    have rp:=EngA.page_at se (HB.out u hu) nn hnl
    rw [pageD_eq hnl] at rp
    exact rp
   have ha':e.aS=some ⟨b,off,none⟩:=ha
   rw [ha']
   clear hc ha ha'
   generalize e.seats.getD i zeroSt=s at*
   generalize e.disk.getD nn zeroP=p at*
   obtain ⟨ZV,hZV,bZ,hbZ,hsZ⟩:=boxes1 wr [.int .i64 0,.int .i64 0,.bool false,.int .i64 0,.slice none 0 0,.slice none 0 0,.bool false,.int .i64 0,.slice none 0 0,.slice none 0 0,.bool false,.int .i64 0,.slice none 0 0,.slice none 0 0,.bool false,.int .i64 0,.slice none 0 0,.slice none 0 0,.bool false,.bool false] 103
   obtain ⟨V,hV,hwS,hsS,HT,_,bS⟩:=seat_out s _ rfl bZ
   have nb:Below wr.heap.size wr V:=hbZ.trans (hwS.below (Nat.le_refl _) (by omega))
   have nV:Below W.heap.size W V:=hbr.trans (nb.mono hbr.size)
   have hlV:=bS.lt
   have HS:Hid (∀ u,Below V.heap.size V u→(u.cell? ⟨wr.heap.size,1,none⟩=some (.int .i64 s.lsn)∧u.cell? ⟨w.heap.size,138,none⟩=some (.slice e.log.a e.log.recs.length e.log.c)∧u.cell? ⟨wr.heap.size,18,none⟩=some (.bool s.dirty)∧u.rangeAt wr.heap.size 1 s.page.cells∧u.cell? ⟨wr.heap.size,0,none⟩=some (.int .i64 (nn:Int))∧u.rangeAt w.heap.size (nn*17) p.cells)):=fun u hu=>by
    have bu:=bS.below hu bS.lt
    have nu:=nV.trans (hu.mono nV.size)
    obtain ⟨_,_,q2,_,_,_,_⟩:=eng_parts se (HB.out u nu)
    have z0:=bu.cell 0 _ rfl
    rw [hnn] at z0
    exact ⟨bu.cell 1 _ rfl,q2 0 _ rfl,bu.cell 18 _ rfl,seat_page s bu,z0,HDG.out u nu⟩
   have hil:(i:Int)<(e.seats.length:Int):=by omega
   have hi0:(0:Int)≤(i:Int):=by omega
   have EV:Hid (ZV.setCells wr.heap.size 0 s.cells.toArray.toList=V):=hV.out
   clear bZ hbZ hsZ hwS hsS bS hV
   go_upto_region 4 with (first | (guard_target=wpList _ _ _ (Oper.mk (some 12) _ _ _ _ _::_) _ _;refine wpList_load_mid rfl 103 (.tmp 11) rfl b (off+i*20) rfl (s.cells) _ hcr Tryz.underlying103 rfl (seat_info _) ?_) | (guard_target=wpList _ _ _ (Oper.mk none (Op.store _ (Operand.tmp 4) _) _ _ _ _::_) _ _;refine wpList_store_mid rfl 103 (.tmp 4) (.tmp 12) rfl wr.heap.size 0 s.cells.toArray rfl rfl (by rw [hZV.out];exact HT.out) (by rw [List.size_toArray];exact seat_info _) (seat_one _) ?_) | fail)
   rw [hZV.out,EV.out]
   clear hZV EV HT hcr
   have D0:Below V.heap.size V V.drew:=(Below.refl _ _).drew
   have N2:Below W.heap.size W V.drew:=nV.trans (D0.mono nV.size)
   have hn0i:(0:Int)≤(nn:Int):=by omega
   have hn8i:(nn:Int)<8:=by omega
   obtain ⟨dr,hdr⟩:∃ dr,Hid (s.dirty=dr):=⟨_,rfl⟩
   rw [hdr.out] at HS
   by_cases hx:s.lsn≤(e.log.recs.length:Int)
   ·have hxn:¬ (e.log.recs.length:Int)<s.lsn:=by omega
    cases dr with
    | true=>
     have HK:Hid (∀ j,j<i+1→seatAt e.v j=true):=fun j hj=>by
      by_cases q:j=i
      ·rw [q,HSK.out,decide_eq_true hx,hdr.out];rfl
      ·exact hall.out j (by omega)
     clear hx
     refine wp_region_held_drew (S:=fun u=>(u.cell? ⟨wr.heap.size,1,none⟩=some (.int .i64 s.lsn)∧u.cell? ⟨w.heap.size,138,none⟩=some (.slice e.log.a e.log.recs.length e.log.c)∧u.cell? ⟨wr.heap.size,18,none⟩=some (.bool true)∧u.rangeAt wr.heap.size 1 s.page.cells∧u.cell? ⟨wr.heap.size,0,none⟩=some (.int .i64 (nn:Int))∧u.rangeAt w.heap.size (nn*17) p.cells)) (by kernel_rfl) (HS.out _ D0) (fun hHeld=>?_)
     generalize V.drew=d0 at*
     refine tq 0 (v:=.pointer (some ⟨wr.heap.size,1,none⟩)) rfl hHeld ?_
     try simp only [zz]
     refine tq 1 (v:=.pointer (some ⟨wr.heap.size,1,none⟩)) rfl hHeld ?_
     try simp only [zz]
     refine tk 2 (v:=.int .i64 s.lsn) rfl (Or.inl ⟨by rfl,?_⟩) hHeld ?_
     ·intro w' hSw
      have hx:=hSw.1
      go_simp<;>rfl
     try simp only [zz]
     refine tq 3 (v:=.pointer (some ⟨w.heap.size,138,none⟩)) rfl hHeld ?_
     try simp only [zz]
     refine tq 4 (v:=.pointer (some ⟨w.heap.size,138,none⟩)) rfl hHeld ?_
     try simp only [zz]
     refine tk 5 (v:=.slice e.log.a e.log.recs.length e.log.c) rfl (Or.inl ⟨by rfl,?_⟩) hHeld ?_
     ·intro w' hSw
      have hx:=hSw.2.1
      go_simp<;>rfl
     try simp only [zz]
     refine tq 6 (v:=.int .i64 (e.log.recs.length:Int)) rfl hHeld ?_
     try simp only [zz]
     refine tq 7 (v:=.bool false) rfl hHeld ?_
     try simp only [zz]
     refine tq 8 (v:=.bool false) rfl hHeld ?_
     try simp only [zz]
     refine tq 9 (v:=.pointer (some ⟨wr.heap.size,18,none⟩)) rfl hHeld ?_
     try simp only [zz]
     refine tk 10 (v:=.bool true) rfl (Or.inl ⟨by rfl,?_⟩) hHeld ?_
     ·intro w' hSw
      have hx:=hSw.2.2.1
      go_simp<;>rfl
     try simp only [zz]
     refine tq 11 (v:=.bool false) rfl hHeld ?_
     try simp only [zz]
     refine tq 12 (v:=.bool false) rfl hHeld ?_
     try simp only [zz]
     refine tk 13 (v:=undef) rfl (Or.inr ⟨by rfl,rfl⟩) hHeld ?_
     try simp only [zz]
     refine tk 14 (v:=undef) rfl (Or.inr ⟨by rfl,rfl⟩) hHeld ?_
     try simp only [zz]
     refine tk 15 (v:=undef) rfl (Or.inr ⟨by rfl,rfl⟩) hHeld ?_
     try simp only [zz]
     refine tk 16 (v:=undef) rfl (Or.inr ⟨by rfl,rfl⟩) hHeld ?_
     try simp only [zz]
     refine tk 17 (v:=undef) rfl (Or.inr ⟨by rfl,rfl⟩) hHeld ?_
     try simp only [zz]
     refine tk 18 (v:=undef) rfl (Or.inr ⟨by rfl,rfl⟩) hHeld ?_
     try simp only [zz]
     refine tk 19 (v:=undef) rfl (Or.inr ⟨by rfl,rfl⟩) hHeld ?_
     try simp only [zz]
     refine tk 20 (v:=undef) rfl (Or.inr ⟨by rfl,rfl⟩) hHeld ?_
     try simp only [zz]
     refine tk 21 (v:=undef) rfl (Or.inr ⟨by rfl,rfl⟩) hHeld ?_
     try simp only [zz]
     refine tq 22 (v:=.bool false) rfl hHeld ?_
     try simp only [zz]
     refine tq 23 (v:=.bool false) rfl hHeld ?_
     try simp only [zz]
     refine wpAnyH_done (by kernel_rfl) ?_ _
     clear hHeld
     go_wp2_with fail
     go_roundw
     case rel=>exact ⟨i+1,by omega,by go_num,HK,N2⟩
     case measure=>simp [intOf];omega
    | false=>
     obtain ⟨sm,HSM⟩:∃ sm,Hid (samePg (s.lsn,s.ss.map (·.v)) (p.lsn,p.ss.map (·.v))=sm):=⟨_,rfl⟩
     have HSM':Hid (_=_):=HSM.out
     replace HSM:Hid (samePg (s.page.lsn,s.page.ss.map (·.v)) (p.lsn,p.ss.map (·.v))=sm):=HSM.out
     cases sm with
     | true=>
      have HK:Hid (∀ j,j<i+1→seatAt e.v j=true):=fun j hj=>by
       by_cases q:j=i
       ·rw [q,HSK.out,decide_eq_true hx,hdr.out,HSM'.out];rfl
       ·exact hall.out j (by omega)
      clear hx
      refine wp_region_held_drew (S:=fun u=>(u.cell? ⟨wr.heap.size,1,none⟩=some (.int .i64 s.lsn)∧u.cell? ⟨w.heap.size,138,none⟩=some (.slice e.log.a e.log.recs.length e.log.c)∧u.cell? ⟨wr.heap.size,18,none⟩=some (.bool false)∧u.rangeAt wr.heap.size 1 s.page.cells∧u.cell? ⟨wr.heap.size,0,none⟩=some (.int .i64 (nn:Int))∧u.rangeAt w.heap.size (nn*17) p.cells)) (by kernel_rfl) (HS.out _ D0) (fun hHeld=>?_)
      generalize V.drew=d0 at*
      refine tq 0 (v:=.pointer (some ⟨wr.heap.size,1,none⟩)) rfl hHeld ?_
      try simp only [zz]
      refine tq 1 (v:=.pointer (some ⟨wr.heap.size,1,none⟩)) rfl hHeld ?_
      try simp only [zz]
      refine tk 2 (v:=.int .i64 s.lsn) rfl (Or.inl ⟨by rfl,?_⟩) hHeld ?_
      ·intro w' hSw
       have hx:=hSw.1
       go_simp<;>rfl
      try simp only [zz]
      refine tq 3 (v:=.pointer (some ⟨w.heap.size,138,none⟩)) rfl hHeld ?_
      try simp only [zz]
      refine tq 4 (v:=.pointer (some ⟨w.heap.size,138,none⟩)) rfl hHeld ?_
      try simp only [zz]
      refine tk 5 (v:=.slice e.log.a e.log.recs.length e.log.c) rfl (Or.inl ⟨by rfl,?_⟩) hHeld ?_
      ·intro w' hSw
       have hx:=hSw.2.1
       go_simp<;>rfl
      try simp only [zz]
      refine tq 6 (v:=.int .i64 (e.log.recs.length:Int)) rfl hHeld ?_
      try simp only [zz]
      refine tq 7 (v:=.bool false) rfl hHeld ?_
      try simp only [zz]
      refine tq 8 (v:=.bool false) rfl hHeld ?_
      try simp only [zz]
      refine tq 9 (v:=.pointer (some ⟨wr.heap.size,18,none⟩)) rfl hHeld ?_
      try simp only [zz]
      refine tk 10 (v:=.bool false) rfl (Or.inl ⟨by rfl,?_⟩) hHeld ?_
      ·intro w' hSw
       have hx:=hSw.2.2.1
       go_simp<;>rfl
      try simp only [zz]
      refine tq 11 (v:=.bool true) rfl hHeld ?_
      try simp only [zz]
      refine tq 12 (v:=.bool true) rfl hHeld ?_
      try simp only [zz]
      refine tq 13 (v:=.pointer (some ⟨wr.heap.size,1,none⟩)) rfl hHeld ?_
      try simp only [zz]
      refine tk 14 rfl (yieldsIf_load_mid (by rfl) _ _ rfl _ _ rfl (s.page.cells) _ (fun _ h=>h.2.2.2.1) Tryz.underlying47 rfl (page_infoP _ rfl)) hHeld ?_
      try simp only [zz]
      refine tq 15 (v:=.pointer (some ⟨wr.heap.size,0,none⟩)) rfl hHeld ?_
      try simp only [zz]
      refine tk 16 (v:=.int .i64 (nn:Int)) rfl (Or.inl ⟨by rfl,?_⟩) hHeld ?_
      ·intro w' hSw
       have hx:=hSw.2.2.2.2.1
       go_simp<;>rfl
      try simp only [zz]
      refine tq 17 (v:=.pointer (some ⟨w.heap.size,0,none⟩)) rfl hHeld ?_
      try simp only [zz]
      refine tq 18 (v:=.pointer (some ⟨w.heap.size,nn*17,none⟩)) rfl hHeld ?_
      try simp only [zz]
      refine tk 19 rfl (yieldsIf_load_mid (by rfl) _ _ rfl _ _ rfl (p.cells) _ (fun _ h=>h.2.2.2.2.2) Tryz.underlying47 rfl (page_infoP _ HQ4)) hHeld ?_
      try simp only [zz]
      refine wpAnyH_ready (rs:=[20]) (by kernel_rfl) (by simp) ?_
      refine AllReadyH.cons rfl (fun K hK=>?_) AllReadyH.nil
      go_simp
      refine (implSamePage_any s.page p rfl HQ4 _ (HRS.out _ N2).1 (HRS.out _ N2).2 F1 F2).mono ?_
      rintro r d1 ⟨rfl,hb1⟩
      have D1:Below V.heap.size V d1:=D0.trans (hb1.mono D0.size)
      have N3:Below W.heap.size W d1:=nV.trans (D1.mono nV.size)
      rw [HSM.out]
      refine hK.out _ _ (HS.out _ D1) (fun hHeld=>?_)
      clear hK K hb1
      try simp only [zz]
      refine tq 21 (v:=.bool false) rfl hHeld ?_
      try simp only [zz]
      refine tq 22 (v:=.bool false) rfl hHeld ?_
      try simp only [zz]
      refine tq 23 (v:=.bool false) rfl hHeld ?_
      try simp only [zz]
      refine wpAnyH_done (by kernel_rfl) ?_ _
      clear hHeld
      go_wp2_with fail
      go_roundw
      case rel=>exact ⟨i+1,by omega,by go_num,HK,N3⟩
      case measure=>simp [intOf];omega
     | false=>
      have HXF:Hid (ROK=false):=HSN.out (by rw [HSK.out,decide_eq_true hx,hdr.out,HSM'.out];rfl)
      clear hx
      refine wp_region_held_drew (S:=fun u=>(u.cell? ⟨wr.heap.size,1,none⟩=some (.int .i64 s.lsn)∧u.cell? ⟨w.heap.size,138,none⟩=some (.slice e.log.a e.log.recs.length e.log.c)∧u.cell? ⟨wr.heap.size,18,none⟩=some (.bool false)∧u.rangeAt wr.heap.size 1 s.page.cells∧u.cell? ⟨wr.heap.size,0,none⟩=some (.int .i64 (nn:Int))∧u.rangeAt w.heap.size (nn*17) p.cells)) (by kernel_rfl) (HS.out _ D0) (fun hHeld=>?_)
      generalize V.drew=d0 at*
      refine tq 0 (v:=.pointer (some ⟨wr.heap.size,1,none⟩)) rfl hHeld ?_
      try simp only [zz]
      refine tq 1 (v:=.pointer (some ⟨wr.heap.size,1,none⟩)) rfl hHeld ?_
      try simp only [zz]
      refine tk 2 (v:=.int .i64 s.lsn) rfl (Or.inl ⟨by rfl,?_⟩) hHeld ?_
      ·intro w' hSw
       have hx:=hSw.1
       go_simp<;>rfl
      try simp only [zz]
      refine tq 3 (v:=.pointer (some ⟨w.heap.size,138,none⟩)) rfl hHeld ?_
      try simp only [zz]
      refine tq 4 (v:=.pointer (some ⟨w.heap.size,138,none⟩)) rfl hHeld ?_
      try simp only [zz]
      refine tk 5 (v:=.slice e.log.a e.log.recs.length e.log.c) rfl (Or.inl ⟨by rfl,?_⟩) hHeld ?_
      ·intro w' hSw
       have hx:=hSw.2.1
       go_simp<;>rfl
      try simp only [zz]
      refine tq 6 (v:=.int .i64 (e.log.recs.length:Int)) rfl hHeld ?_
      try simp only [zz]
      refine tq 7 (v:=.bool false) rfl hHeld ?_
      try simp only [zz]
      refine tq 8 (v:=.bool false) rfl hHeld ?_
      try simp only [zz]
      refine tq 9 (v:=.pointer (some ⟨wr.heap.size,18,none⟩)) rfl hHeld ?_
      try simp only [zz]
      refine tk 10 (v:=.bool false) rfl (Or.inl ⟨by rfl,?_⟩) hHeld ?_
      ·intro w' hSw
       have hx:=hSw.2.2.1
       go_simp<;>rfl
      try simp only [zz]
      refine tq 11 (v:=.bool true) rfl hHeld ?_
      try simp only [zz]
      refine tq 12 (v:=.bool true) rfl hHeld ?_
      try simp only [zz]
      refine tq 13 (v:=.pointer (some ⟨wr.heap.size,1,none⟩)) rfl hHeld ?_
      try simp only [zz]
      refine tk 14 rfl (yieldsIf_load_mid (by rfl) _ _ rfl _ _ rfl (s.page.cells) _ (fun _ h=>h.2.2.2.1) Tryz.underlying47 rfl (page_infoP _ rfl)) hHeld ?_
      try simp only [zz]
      refine tq 15 (v:=.pointer (some ⟨wr.heap.size,0,none⟩)) rfl hHeld ?_
      try simp only [zz]
      refine tk 16 (v:=.int .i64 (nn:Int)) rfl (Or.inl ⟨by rfl,?_⟩) hHeld ?_
      ·intro w' hSw
       have hx:=hSw.2.2.2.2.1
       go_simp<;>rfl
      try simp only [zz]
      refine tq 17 (v:=.pointer (some ⟨w.heap.size,0,none⟩)) rfl hHeld ?_
      try simp only [zz]
      refine tq 18 (v:=.pointer (some ⟨w.heap.size,nn*17,none⟩)) rfl hHeld ?_
      try simp only [zz]
      refine tk 19 rfl (yieldsIf_load_mid (by rfl) _ _ rfl _ _ rfl (p.cells) _ (fun _ h=>h.2.2.2.2.2) Tryz.underlying47 rfl (page_infoP _ HQ4)) hHeld ?_
      try simp only [zz]
      refine wpAnyH_ready (rs:=[20]) (by kernel_rfl) (by simp) ?_
      refine AllReadyH.cons rfl (fun K hK=>?_) AllReadyH.nil
      go_simp
      refine (implSamePage_any s.page p rfl HQ4 _ (HRS.out _ N2).1 (HRS.out _ N2).2 F1 F2).mono ?_
      rintro r d1 ⟨rfl,hb1⟩
      have D1:Below V.heap.size V d1:=D0.trans (hb1.mono D0.size)
      have N3:Below W.heap.size W d1:=nV.trans (D1.mono nV.size)
      rw [HSM.out]
      refine hK.out _ _ (HS.out _ D1) (fun hHeld=>?_)
      clear hK K hb1
      try simp only [zz]
      refine tq 21 (v:=.bool true) rfl hHeld ?_
      try simp only [zz]
      refine tq 22 (v:=.bool true) rfl hHeld ?_
      try simp only [zz]
      refine tq 23 (v:=.bool true) rfl hHeld ?_
      try simp only [zz]
      refine wpAnyH_done (by kernel_rfl) ?_ _
      clear hHeld
      have HE:Hid (ROK=false∧Below w.heap.size w d1):=⟨HXF.out,HEND.out _ N3⟩
      go_wp2
      go_ret
      exact ⟨ret_bool HE.out.1.symm,HE.out.2⟩
   ·have hxn:(e.log.recs.length:Int)<s.lsn:=by omega
    have HXF:Hid (ROK=false):=HSN.out (by rw [HSK.out,decide_eq_false hx];rfl)
    clear hx
    refine wp_region_held_drew (S:=fun u=>(u.cell? ⟨wr.heap.size,1,none⟩=some (.int .i64 s.lsn)∧u.cell? ⟨w.heap.size,138,none⟩=some (.slice e.log.a e.log.recs.length e.log.c)∧u.cell? ⟨wr.heap.size,18,none⟩=some (.bool dr)∧u.rangeAt wr.heap.size 1 s.page.cells∧u.cell? ⟨wr.heap.size,0,none⟩=some (.int .i64 (nn:Int))∧u.rangeAt w.heap.size (nn*17) p.cells)) (by kernel_rfl) (HS.out _ D0) (fun hHeld=>?_)
    generalize V.drew=d0 at*
    refine tq 0 (v:=.pointer (some ⟨wr.heap.size,1,none⟩)) rfl hHeld ?_
    try simp only [zz]
    refine tq 1 (v:=.pointer (some ⟨wr.heap.size,1,none⟩)) rfl hHeld ?_
    try simp only [zz]
    refine tk 2 (v:=.int .i64 s.lsn) rfl (Or.inl ⟨by rfl,?_⟩) hHeld ?_
    ·intro w' hSw
     have hx:=hSw.1
     go_simp<;>rfl
    try simp only [zz]
    refine tq 3 (v:=.pointer (some ⟨w.heap.size,138,none⟩)) rfl hHeld ?_
    try simp only [zz]
    refine tq 4 (v:=.pointer (some ⟨w.heap.size,138,none⟩)) rfl hHeld ?_
    try simp only [zz]
    refine tk 5 (v:=.slice e.log.a e.log.recs.length e.log.c) rfl (Or.inl ⟨by rfl,?_⟩) hHeld ?_
    ·intro w' hSw
     have hx:=hSw.2.1
     go_simp<;>rfl
    try simp only [zz]
    refine tq 6 (v:=.int .i64 (e.log.recs.length:Int)) rfl hHeld ?_
    try simp only [zz]
    refine tq 7 (v:=.bool true) rfl hHeld ?_
    try simp only [zz]
    refine tq 8 (v:=.bool true) rfl hHeld ?_
    try simp only [zz]
    refine tk 9 (v:=undef) rfl (Or.inr ⟨by rfl,rfl⟩) hHeld ?_
    try simp only [zz]
    refine tk 10 (v:=undef) rfl (Or.inr ⟨by rfl,rfl⟩) hHeld ?_
    try simp only [zz]
    refine tk 11 (v:=undef) rfl (Or.inr ⟨by rfl,rfl⟩) hHeld ?_
    try simp only [zz]
    refine tk 12 (v:=undef) rfl (Or.inr ⟨by rfl,rfl⟩) hHeld ?_
    try simp only [zz]
    refine tk 13 (v:=undef) rfl (Or.inr ⟨by rfl,rfl⟩) hHeld ?_
    try simp only [zz]
    refine tk 14 (v:=undef) rfl (Or.inr ⟨by rfl,rfl⟩) hHeld ?_
    try simp only [zz]
    refine tk 15 (v:=undef) rfl (Or.inr ⟨by rfl,rfl⟩) hHeld ?_
    try simp only [zz]
    refine tk 16 (v:=undef) rfl (Or.inr ⟨by rfl,rfl⟩) hHeld ?_
    try simp only [zz]
    refine tk 17 (v:=undef) rfl (Or.inr ⟨by rfl,rfl⟩) hHeld ?_
    try simp only [zz]
    refine tk 18 (v:=undef) rfl (Or.inr ⟨by rfl,rfl⟩) hHeld ?_
    try simp only [zz]
    refine tk 19 (v:=undef) rfl (Or.inr ⟨by rfl,rfl⟩) hHeld ?_
    try simp only [zz]
    refine tk 20 (v:=undef) rfl (Or.inr ⟨by rfl,rfl⟩) hHeld ?_
    try simp only [zz]
    refine tk 21 (v:=undef) rfl (Or.inr ⟨by rfl,rfl⟩) hHeld ?_
    try simp only [zz]
    refine tk 22 (v:=undef) rfl (Or.inr ⟨by rfl,rfl⟩) hHeld ?_
    try simp only [zz]
    refine tq 23 (v:=.bool true) rfl hHeld ?_
    try simp only [zz]
    refine wpAnyH_done (by kernel_rfl) ?_ _
    clear hHeld
    have HE:Hid (ROK=false∧Below w.heap.size w d0):=⟨HXF.out,HEND.out _ N2⟩
    go_wp2
    go_ret
    exact ⟨ret_bool HE.out.1.symm,HE.out.2⟩
  ·have e1:i=e.seats.length:=by omega
   have HE:Hid (ROK=true∧Below w.heap.size w wr):=⟨HYES.out (by rw [e1] at hall;exact hall.out),HEND.out _ hbr⟩
   have hge:¬ (i:Int)<(e.seats.length:Int):=by omega
   clear hall e1
   go_wp2
   go_ret
   exact ⟨ret_bool HE.out.1.symm,HE.out.2⟩
end Go.Proofs.YtcoeamamaifoeaaGreatDoor