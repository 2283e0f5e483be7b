/- Several texts in one, in their order. -/
import Derived.Test.YtnoeobahjbdoiaaGreatDoorPCheckx16
import Derived.Test.YtnoeobahjbdoiaaGreatDoorPCheckx15
import Derived.Test.YtnoeobahjbdoiaaGreatDoorPCheckx5
import Derived.Test.YtnoeobahjbdoiaaGreatDoorPCheckx1
set_option maxHeartbeats 8000000
set_option maxRecDepth 100000
namespace Go.Proofs.YtnoeobahjbdoiaaGreatDoor
open Go.RowKit
theorem run_buildC (w:World) (L:List LiveV) (a:Option Addr) (c:Nat):(Instr.build 135 #[(3,Value.int .i64 6),(8,Value.slice a L.length c)]).run Tryz.prog w=.ok (.agg (recC L a c).cells.toArray) w:=run_build w _ _ _ (by kernel_rfl)
theorem runCheck_any (M:Nat) (n:Int) (R:Nat) (e:EngA) (w:World) (h:RunAt M n w R e) (hg:ErrT w) (hok:okEng e.v=true) (hl:e.log.recs.length≤3800):
  Calls Tryz.prog 82 #[.pointer (some ⟨R,0,none⟩)] w fun r w'=>(∃ v,r=.returned v)∧∃ e',Hid (e'.v=checkV e.v)∧RunStep M n R e w e' w':=by
 have hR:=h.box.lt
 have hT:e.txs.length≤6:=okEng_six hok
 have x0:w.cell? ⟨R,140,none⟩=some (.slice e.aT e.txs.length e.cT):=h.cellR 4 _ rfl
 have HC:Hid (∀ u,Below w.heap.size w u→∀ k,k<e.txs.length→∃ b off,e.aT=some ⟨b,off,none⟩∧u.cell? ⟨b,off+k*3,none⟩=some (.int .i64 (e.txs.getD k zeroL).tx)∧u.cell? ⟨b,off+k*3+1,none⟩=some (.int .i64 (e.txs.getD k zeroL).last)∧u.cell? ⟨b,off+k*3+2,none⟩=some (.bool (e.txs.getD k zeroL).aborts)):=fun u hu k hk=>by
  obtain ⟨b,off,ha,hc⟩:=(h.below hu).own.txs.reads (by intro e1;rw [e1] at hk;simp at hk)
  exact ⟨b,off,ha,hc k hk⟩
 have HTK:Hid (∀ k,k<e.txs.length→e.txs.take (k+1)=e.txs.take k++[e.txs.getD k zeroL]):=fun k hk=>takeL_succ e.txs k hk
 have HALL:Hid (e.txs.take e.txs.length=e.txs):=List.take_length
 have HOK:Hid (okEng e.v=true):=hok
 have HH:Hid (RunAt M n w R e):=h
 have HG:Hid (ErrT w):=hg
 have o0:OwnL w w.heap.size w.heap.size none 0 []:=ownL_nil _ _ _ (Nat.le_refl _)
 clear hok h hg
 go_enter Tryz.func82,Tryz.ntmps82
 go_wp2
 go_loopw [2,11] (fun v i wr=>∃ (k:Nat) (a:Option Addr) (c:Nat) (L:List LiveV),v=.slice a L.length c∧i=.int .i64 k∧k≤e.txs.length∧L.length≤k∧Hid (L=(e.txs.take k).filter (fun l=>decide (0<l.last)))∧OwnL wr w.heap.size wr.heap.size a c L∧Below w.heap.size w wr)
  (fun _ i _=>e.txs.length-(intOf i).toNat)
 case atStart=>exact ⟨0,none,0,[],rfl,rfl,Nat.zero_le _,Nat.le_refl _,rfl,o0,Below.refl _ _⟩
 case round=>
  obtain ⟨k,a,c,L,rfl,rfl,hk,hLk,hL,oL,hb⟩:=hrel
  have zw:=hb.size
  clear o0 x0
  by_cases hlt:k<e.txs.length
  ·obtain ⟨b,off,ha,c0,c1,c2⟩:=HC.out wr hb k hlt
   rw [ha]
   have HF':Hid (_=_):=HTK.out k hlt
   clear HC HTK HALL ha
   generalize e.txs.getD k zeroL=z at*
   obtain ⟨V,hV,bz,hbV,hsV⟩:=boxes1 wr [.int .i64 z.tx,.int .i64 z.last,.bool z.aborts] 130
   obtain ⟨q0,q1,q2,_⟩:=bz.three
   have NV:Below w.heap.size w V:=hb.trans (hbV.mono hb.size)
   have zV:=hbV.size
   clear bz hsV
   by_cases hq:0<z.last
   ·have HN:Hid (L++[z]=(e.txs.take (k+1)).filter (fun l=>decide (0<l.last))):=by rw [Hid,HF'.out,List.filter_append,← hL.out];simp [hq]
    obtain ⟨V2,hV2,_,hbV2,_⟩:=boxes1 V [.int .i64 z.tx,.int .i64 z.last,.bool z.aborts] 130
    have r2:ReadsL V2 (some ⟨V.heap.size,0,none⟩) [z]:=by rw [← hV2.out];exact readsL_one V z _
    have o2:=(oL.below hbV).below hbV2
    have N2:Below w.heap.size w V2:=NV.trans (hbV2.mono NV.size)
    have hl2:L.length+([z]:List LiveV).length≤1099511627776:=by simp only [List.length_cons,List.length_nil];omega
    have z2:=N2.size
    have hLk1:(L++[z]).length≤k+1:=by simp only [List.length_append,List.length_cons,List.length_nil];omega
    clear hL HF' oL hbV hbV2 hb
    go_upto_region 4 with fail
    rw [hV.out]
    clear hV c0 c1 c2
    go_wp2_with (first | (guard_target=wpList _ _ _ (Oper.mk (some 21) _ _ _ _ _::_) _ _;rw [hV2.out];refine append_livesF rfl (.tmp 18) (.tmp 20) rfl w.heap.size wr.heap.size a c L rfl o2 (some ⟨V.heap.size,0,none⟩) 1 [z] rfl r2 (fun h=>by cases h) hl2 z2 ?_;intro a7 c7 y7 w7 hy7 o7 g7 k7;have hyy:y7=L++[z]:=hy7.out;subst hyy;have N7:Below w.heap.size w w7:=N2.grown g7 z2 (fun j hj=>(o2.lt j hj).1)) | fail)
    go_roundw
    case rel=>exact ⟨k+1,a7,c7,L++[z],by rw [List.length_append];rfl,by go_num,by omega,hLk1,HN,o7,N7⟩
    case measure=>simp [intOf];omega
   ·have HN:Hid (L=(e.txs.take (k+1)).filter (fun l=>decide (0<l.last))):=by rw [Hid,HF'.out,List.filter_append,← hL.out];simp [hq]
    have oV:=(oL.below hbV).widen (Nat.le_refl _) zV (Nat.le_refl _)
    clear hL HF' oL hbV hb
    go_upto_region 4 with fail
    rw [hV.out]
    clear hV c0 c1 c2
    go_wp2_with fail
    go_roundw
    case rel=>exact ⟨k+1,a,c,L,rfl,by go_num,by omega,by omega,HN,oV,NV⟩
    case measure=>simp [intOf];omega
  ·have hke:k=e.txs.length:=by omega
   have HLV:Hid (L=e.txs.filter (fun l=>decide (0<l.last))):=by
    have:=hL.out
    rw [hke,HALL.out] at this
    exact this
   have a1:=HH.out.below hb
   have HVC:Hid (checkV e.v={ addV e.v (recCV L) with log:=(addV e.v (recCV L)).log.upTo ((e.log.recs.length:Int)+1) }):=by
    have h1:=checkV_add HOK.out
    have h2:e.v.txs=e.txs:=rfl
    have h3:e.v.log.recs.length=e.log.recs.length:=by simp [EngA.v,LogA.v]
    rw [h2,← HLV.out,h3] at h1
    exact h1
   have HOR:Hid (okR (lsnR (recC L a c).v ((e.log.recs.length:Int)+1))=true):=by
    have h3:e.v.log.recs.length=e.log.recs.length:=by simp [EngA.v,LogA.v]
    have h1:=okR_checkE HOK.out (by rw [h3];exact hl)
    have h2:e.v.txs=e.txs:=rfl
    rw [h2,← HLV.out,h3] at h1
    exact h1
   have HSU:Hid (e.log.sure≤(e.log.recs.length:Int)):=by
    have h1:=okEng_sure HOK.out
    have h3:e.v.log.recs.length=e.log.recs.length:=by simp [EngA.v,LogA.v]
    rw [h3] at h1
    exact h1
   have D0:Below w.heap.size w wr.drew:=hb.drew
   have ND:Below wr.heap.size wr wr.drew:=(Below.refl _ _).drew
   have a2:=a1.below ND
   have oC:(recC L a c).own wr.drew w.heap.size wr.heap.size:=recC_own (oL.below ND)
   have CA:=runAdd_any M n R e (recC L a c) wr.drew a2 (HG.out.keep D0) (by omega) oC.reads ⟨by simp [recC,zeroS],by simp [recC,zeroS],by show L.length≤1099511627776;omega⟩ (fun hn=>oL.nocap hn) HOR.out
   clear HC HTK HALL hL oL
   go_upto_region 7 with fail
   refine wp_region_held_drew (S:=fun _=>True) (by kernel_rfl) True.intro (fun hHeld=>?_)
   generalize wr.drew=d0 at*
   refine tq 0 (v:=.pointer (some ⟨R,0,none⟩)) rfl hHeld ?_
   try simp only [zz]
   refine tq 1 (v:=.pointer (some ⟨R,0,none⟩)) rfl hHeld ?_
   try simp only [zz]
   refine tq 2 (v:=.pointer (some ⟨R,0,none⟩)) rfl hHeld ?_
   try simp only [zz]
   refine tq 3 (v:=.pointer (some ⟨R,138,none⟩)) rfl hHeld ?_
   try simp only [zz]
   refine tq 4 (v:=.pointer (some ⟨R,0,none⟩)) rfl hHeld ?_
   try simp only [zz]
   refine tq 5 (v:=.pointer (some ⟨R,0,none⟩)) rfl hHeld ?_
   try simp only [zz]
   refine tq 6 (v:=.pointer (some ⟨R,0,none⟩)) rfl hHeld ?_
   try simp only [zz]
   refine tq 7 (v:=.pointer (some ⟨R,138,none⟩)) rfl hHeld ?_
   try simp only [zz]
   refine tq 8 (v:=.slice a L.length c) rfl hHeld ?_
   try simp only [zz]
   refine tk 9 (v:=.agg (recC L a c).cells.toArray) rfl (Or.inl ⟨by rfl,?_⟩) hHeld ?_
   ·intro w' hSw
    have e9:=run_buildC w' L a c
    refine run_nextR ?_
    simp only [List.map_toArray,List.map_cons,List.map_nil]
    exact e9
   try simp only [zz]
   refine wpAnyH_ready (rs:=[10]) (by kernel_rfl) (by simp) ?_
   refine AllReadyH.cons rfl (fun K hK=>?_) AllReadyH.nil
   go_simp
   refine CA.mono ?_
   clear CA
   rintro r d1 ⟨rfl,e1,hv1,s1⟩
   have hsu1:e1.log.sure≤(e1.log.recs.length:Int):=by
    have h1:=congrArg (fun x:EngV=>x.log) hv1.out
    simp only [addV,EngA.v] at h1
    have h2:e1.log.sure=e.log.sure:=congrArg LogV.sure h1
    have h3:(e1.log.recs.map RecA.v).length=(e.log.recs.map RecA.v++[lsnR (recC L a c).v (((e.log.recs.map RecA.v).length:Int)+1)]).length:=congrArg (fun l:LogV=>l.recs.length) h1
    simp only [List.length_map,List.length_append,List.length_cons,List.length_nil] at h3
    have:=HSU.out
    omega
   have CF:=runForce_any M n R e1 ((e.log.recs.length:Int)+1) d1 s1.at' hsu1
   refine hK.out _ _ (True.intro) (fun hHeld=>?_)
   clear hK K
   try simp only [zz]
   refine wpAnyH_ready (rs:=[11]) (by kernel_rfl) (by simp) ?_
   refine AllReadyH.cons rfl (fun K hK=>?_) AllReadyH.nil
   go_simp
   refine CF.mono ?_
   clear CF
   rintro r d2 ⟨⟨v2,rfl⟩,s2,_⟩
   have HE:Hid (∃ e',Hid (e'.v=checkV e.v)∧RunStep M n R e w e' d2):=by
    refine ⟨e1.withLog (e1.log.upTo ((e.log.recs.length:Int)+1)),?_,EngStepG.after D0 (s1.trans s2)⟩
    have h1:(e1.withLog (e1.log.upTo ((e.log.recs.length:Int)+1))).v={ e1.v with log:=e1.v.log.upTo ((e.log.recs.length:Int)+1) }:=by
     simp only [EngA.v,EngA.withLog,LogA.upTo_v]
    rw [Hid,h1,HVC.out,hv1.out]
    rfl
   refine hK.out _ _ (True.intro) (fun hHeld=>?_)
   clear hK K
   try simp only [zz]
   refine wpAnyH_done (by kernel_rfl) ?_ _
   clear hHeld
   go_wp2
   go_end0
   exact ⟨⟨_,rfl⟩,HE.out⟩
end Go.Proofs.YtnoeobahjbdoiaaGreatDoor
namespace Go.Proofs.YtnoeobahjbdoiaaGreatDoor
open Go.RowKit
theorem implCheck_any (e:EngA) (se:e.shape) (w:World) (hg:ErrT w) (re:e.reads w) (hl:e.short 1048576) (hc:e.caps):
  Calls Tryz.prog 27 #[.agg e.cells.toArray] w fun r w'=>EngOne (checkAns e.v) w r w':=by
 obtain ⟨Z,hZ⟩:∃ Z,Hid (zeroE=Z):=⟨_,rfl⟩
 have sZ:Z.shape:=by rw [← hZ.out];exact zeroE_shape
 have HZ:=Tryz.zeroEng
 rw [hZ.out] at HZ
 obtain ⟨W,hW,b0,bR,hbW,hsW⟩:=boxes2 w e.cells Z.cells 59 59
 have HB:Hid (∀ u,Below W.heap.size W u→Box u w.heap.size e.cells 59):=fun u hu=>b0.below hu b0.lt
 have HBR:Hid (∀ u,Below W.heap.size W u→Box u (w.heap.size+1) Z.cells 59):=fun u hu=>bR.below hu bR.lt
 have HR:Hid (∀ u,Below W.heap.size W u→e.reads u):=fun u hu=>(re.below hbW).below hu
 have HEND:Hid (∀ u,Below W.heap.size W u→Below w.heap.size w u):=fun u hu=>hbW.trans (hu.mono hbW.size)
 have HG:Hid (∀ u,Below W.heap.size W u→ErrT u):=fun u hu=>hg.keep (hbW.trans (hu.mono hbW.size))
 have hw0:w.heap.size+1<W.heap.size:=by omega
 have N0:Below W.heap.size W W:=Below.refl _ _
 have HIe:=eng_info se
 have r0:W.rangeAt w.heap.size 0 e.cells:=Box.range [] e.cells [] (by simpa using HB.out _ N0)
 have FIN:Hid (∀ (D:EngA) (u:World),D.shape→Below W.heap.size W u→D.own u W.heap.size u.heap.size→∃ WF,Hid (u.setCells (w.heap.size+1) 0 D.cells.toArray.toList=WF)∧Hid (u.there (w.heap.size+1) 0 D.cells.toArray.size)∧Hid ((loadVar 59 ⟨w.heap.size+1,0,none⟩).run Tryz.prog WF=.ok (.agg D.cells.toArray) WF)∧Hid (D.own WF w.heap.size WF.heap.size∧Below w.heap.size w WF)):=fun D u sD hu od=>by
  obtain ⟨WF,hWF,hwF,hsF,HTF,bF⟩:=eng_out sD sZ (HBR.out u hu)
  exact ⟨WF,hWF,HTF,eng_load sD bF,(od.within hwF (.inr (by omega))).widen (by omega) (by omega) (Nat.le_refl _),(HEND.out _ hu).trans (hwF.below (by omega) (by have:=hu.size;omega))⟩
 have C:=refusal_any e true se W (HG.out _ N0) (HR.out _ N0) hl
 clear b0 bR hsW
 go_enter Tryz.func27,Tryz.ntmps27
 go_upto_region 1 with (first | (guard_target=wpList _ _ _ (Oper.mk _ (Op.alloc _) _ _ _ _::_) _ _;refine alloc_of 59 Z.cells HZ ?_) | fail)
 rw [hW.out]
 clear hW
 go_wp2_with (first | (guard_target=wpList _ _ _ (Oper.mk (some 6) _ _ _ _ _::_) _ _;refine wpList_load_mid rfl 59 (.tmp 1) rfl w.heap.size 0 rfl (e.cells) _ (r0) Tryz.underlying59 rfl HIe ?_) | fail)
 refine C.mono ?_
 clear C r0
 rintro r d1 ⟨rfl,hb⟩
 have N1:Below W.heap.size W d1:=N0.trans (hb.mono N0.size)
 clear hb
 have r1:d1.rangeAt w.heap.size 0 e.cells:=Box.range [] e.cells [] (by simpa using HB.out _ N1)
 by_cases hz:refuseV e.v true=0
 rotate_left
 ·have HV:Hid (checkAns e.v=(e.v,refuseV e.v true)):=by rw [Hid,checkAns,if_pos hz]
  have hzb:(refuseV e.v true == 0)=false:=by simpa using hz
  have C:=copyEngine_any e se d1 (HR.out _ N1) hl hc
  generalize refuseV e.v true=RV at*
  go_wp2_with (first | (guard_target=wpList _ _ _ (Oper.mk (some 10) _ _ _ _ _::_) _ _;refine wpList_load_mid rfl 59 (.tmp 1) rfl w.heap.size 0 rfl (e.cells) _ (r1) Tryz.underlying59 rfl HIe ?_) | fail)
  refine C.mono ?_
  clear C r1
  rintro r d2 ⟨t,rfl,st,hv,ot,hb⟩
  have N2:Below W.heap.size W d2:=N1.trans (hb.mono N1.size)
  obtain ⟨WF,hWF,HTF,HLF,HE⟩:=FIN.out t d2 st N2 (ot.widen (by have:=N1.size;omega) (Nat.le_refl _) (Nat.le_refl _))
  have HIt:=eng_info st
  have HOt:=all_oneCell_toArray (oneE t)
  clear hb ot
  go_wp2_with (first | (guard_target=wpList _ _ _ (Oper.mk none (Op.store _ (Operand.tmp 2) _) _ _ _ _::_) _ _;refine wpList_store_mid rfl 59 (.tmp 2) (.tmp 11) rfl (w.heap.size+1) 0 (t.cells).toArray rfl rfl HTF.out (by rw [List.size_toArray];exact HIt) HOt ?_) | fail)
  rw [hWF.out]
  exact bodyPost_ret (v:=.tuple #[.agg t.cells.toArray,.int .i64 RV]) (results_cell_one Tryz.results27 rfl HLF.out rfl) rfl ⟨t,by rw [HV.out],st,by rw [HV.out];exact hv,HE.out.1,HE.out.2⟩
 have hok:=refuse_ok hz
 have HCO:Hid (ClaimsOk (claimsTo e.holds e.holds.length) e.holds):=okEng_holds hok
 have HOK:Hid (okEng e.v=true∧e.v.log.recs.length≤3800):=⟨hok,refuse_len hz⟩
 have HV:Hid (checkAns e.v=(checkV e.v,0)):=by rw [Hid,checkAns,if_neg (fun q=>q hz)]
 have C:=run_any e se d1 (HR.out _ N1) hl hc
 have hlH:=hl.holds
 rw [hz]
 clear hok hz
 go_wp2_with (first | (guard_target=wpList _ _ _ (Oper.mk (some 13) _ _ _ _ _::_) _ _;refine wpList_load_mid rfl 59 (.tmp 1) rfl w.heap.size 0 rfl (e.cells) _ (r1) Tryz.underlying59 rfl HIe ?_) | fail)
 refine C.mono ?_
 clear C r1
 rintro r d2 ⟨t,M,R,rfl,st,hv,ot,hMR,hRl,hM,hm,bR,hb⟩
 have N2:Below W.heap.size W d2:=N1.trans (hb.mono N1.size)
 have z1:=N1.size
 have z2:=hb.size
 clear hb
 have C:=runCheck_any M (e.holds.length:Int) R t d2 (runAt_of st ot hMR bR) (HG.out _ N2) (by rw [hv.out];exact HOK.out.1) (by
  have h1:=HOK.out.2
  rw [← hv.out] at h1
  simpa [EngA.v,LogA.v] using h1)
 go_wp2_with fail
 refine C.mono ?_
 clear C bR
 rintro r d3 ⟨⟨v3,rfl⟩,s,hvs,s3⟩
 have C:=restStep_any W d1 d2 d3 M R e.holds t s ot hMR hM hm s3 HCO.out hlH N2 z1 z2
 clear ot hm s3
 go_wp2_with fail
 refine C.mono ?_
 clear C
 rintro r d4 ⟨D,rfl,sD,hvD,oD,N4⟩
 obtain ⟨WF,hWF,HTF,HLF,HE⟩:=FIN.out D d4 sD N4 oD
 have HVD:Hid (D.v=(checkAns e.v).1):=by
  rw [Hid,HV.out,hvD.out,hvs.out,hv.out]
  rfl
 have HID:=eng_info sD
 have HOD:=all_oneCell_toArray (oneE D)
 clear oD
 go_wp2_with (first | (guard_target=wpList _ _ _ (Oper.mk none (Op.store _ (Operand.tmp 2) _) _ _ _ _::_) _ _;refine wpList_store_mid rfl 59 (.tmp 2) (.tmp 18) rfl (w.heap.size+1) 0 (D.cells).toArray rfl rfl HTF.out (by rw [List.size_toArray];exact HID) HOD ?_) | fail)
 rw [hWF.out]
 exact bodyPost_ret (v:=.tuple #[.agg D.cells.toArray,.int .i64 0]) (results_cell_one Tryz.results27 rfl HLF.out rfl) rfl ⟨D,by rw [HV.out],sD,HVD,HE.out.1,HE.out.2⟩
end Go.Proofs.YtnoeobahjbdoiaaGreatDoor