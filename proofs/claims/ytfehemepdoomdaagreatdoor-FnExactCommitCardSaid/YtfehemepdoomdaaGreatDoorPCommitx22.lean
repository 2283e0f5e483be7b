/- Several texts in one, in their order. -/
import Derived.Test.YtfehemepdoomdaaGreatDoorPCommitx17
import Derived.Test.YtfehemepdoomdaaGreatDoorPCommitx21
import Derived.Test.YtfehemepdoomdaaGreatDoorPCommitx10
import Derived.Test.YtfehemepdoomdaaGreatDoorPCommitx4
import Derived.Test.YtfehemepdoomdaaGreatDoorPCommitx12
import Derived.Test.YtfehemepdoomdaaGreatDoorPCommitx8
import Derived.Deep.RegionLaw
import Derived.Deep.DrawnRows
import Derived.Test.YtfehemepdoomdaaGreatDoorPCommitx11
import Derived.Test.YtfehemepdoomdaaGreatDoorPCommitx9
import Derived.Test.YtfehemepdoomdaaGreatDoorPCommitx5
import Derived.Test.YtfehemepdoomdaaGreatDoorPCommitx14
import Derived.Test.YtfehemepdoomdaaGreatDoorPCommitx15
import Derived.Test.YtfehemepdoomdaaGreatDoorPCommitx1
set_option maxHeartbeats 8000000
set_option maxRecDepth 100000
namespace Go.Proofs.YtfehemepdoomdaaGreatDoor
open Go.RowKit
theorem l7Code_any (e:EngA) (se:e.shape) (w:World) (re:e.reads w) (hl:e.short 1048576):
  Calls Tryz.prog 46 #[.agg e.cells.toArray] w fun r w'=>r=.returned (.int .i64 (refuseV e.v true))∧Below w.heap.size w w':=by
 have HV:Hid (refuseV e.v true=if okEng e.v && (!e.down && true) then (if 3800<e.log.recs.length then 4 else 0) else 1):=by
  rw [Hid]
  unfold refuseV
  rw [show e.v.log.recs.length=e.log.recs.length by simp [EngA.v,LogA.v]]
  rfl
 generalize refuseV e.v true=RV at*
 have CE:=fun u (hr:e.reads u)=>specEngineOk_any e se u hr hl
 have hrl:e.log.recs.length≤1048576:=hl.log.len
 have HI:=eng_info se
 obtain ⟨W,hW,b0,hbW,hsW⟩:=boxes1 w e.cells 58
 have HB:Hid (∀ u,Below W.heap.size W u→Box u w.heap.size e.cells 58):=fun u hu=>b0.below hu b0.lt
 have HR:Hid (∀ u,Below W.heap.size W u→e.reads u):=fun u hu=>(re.below hbW).below hu
 have HEND:Hid (∀ u,Below W.heap.size W u→Below w.heap.size w u):=fun u hu=>hbW.trans (hu.mono hbW.size)
 have hw0:w.heap.size<W.heap.size:=by omega
 have N:Below W.heap.size W W:=Below.refl _ _
 clear b0 hsW
 have pe:W.rangeAt w.heap.size 0 e.cells:=Box.range [] e.cells [] (by simpa using HB.out W N)
 clear re hl
 have C1:=CE W (HR.out W N)
 clear CE
 go_enter Tryz.func46,Tryz.ntmps46
 go_wp2_with (first | (guard_target=wpList _ _ _ (Oper.mk (some 4) _ _ _ _ _::_) _ _;refine wpList_load_mid rfl 58 (.tmp 1) rfl w.heap.size 0 rfl (e.cells) _ (by rw [hW.out];exact pe) Tryz.underlying58 rfl HI ?_) | fail)
 rw [hW.out]
 clear hW pe
 refine C1.mono ?_
 clear C1
 rintro r w1 ⟨rfl,hb⟩
 replace N:=N.trans (hb.mono N.size)
 clear hb
 have p2:=(eng_parts se (HB.out _ N)).2.2.1
 have l0:w1.cell? ⟨w.heap.size,138,none⟩=some (.slice e.log.a e.log.recs.length e.log.c):=p2 0 _ rfl
 have p6:=(eng_parts se (HB.out _ N)).2.2.2.2.2.2
 have HE:Hid (Below w.heap.size w w1):=HEND.out _ N
 obtain ⟨vO,hO⟩:∃ b,Hid (okEng e.v=b):=⟨_,rfl⟩
 obtain ⟨vD,hD⟩:∃ b,Hid (e.down=b):=⟨_,rfl⟩
 rw [hO.out,hD.out] at HV
 rw [hD.out] at p6
 rw [hO.out]
 clear p2 hO hD
 cases vO with
 | false=>
  have HF:Hid (RV=1):=HV.out.trans rfl
  go_wp2
  go_ret
  exact ⟨ret_int HF.out.symm,HE.out⟩
 | true=>
  cases vD with
  | true=>
   have HF:Hid (RV=1):=HV.out.trans rfl
   go_wp2
   go_ret
   exact ⟨ret_int HF.out.symm,HE.out⟩
  | false=>
   by_cases hx:3800<e.log.recs.length
   ·have hxi:(3800:Int)<(e.log.recs.length:Int):=by omega
    have HF:Hid (RV=4):=HV.out.trans (if_pos hx)
    clear hx
    go_wp2
    go_ret
    exact ⟨ret_int HF.out.symm,HE.out⟩
   ·have hxi:¬ (3800:Int)<(e.log.recs.length:Int):=by omega
    have HF:Hid (RV=0):=HV.out.trans (if_neg hx)
    clear hx
    go_wp2
    go_ret
    exact ⟨ret_int HF.out.symm,HE.out⟩
theorem l6CopySeat_own (s:SeatA) (w:World) (hr:s.reads w) (hl:s.short 1099511627776):
  Calls Tryz.prog 118 #[.agg s.cells.toArray] w fun e w'=>∃ t:SeatA,e=.returned (.agg t.cells.toArray)∧Hid (t.v=s.v)∧t.own w' w.heap.size w'.heap.size∧Below w.heap.size w w':=by
 obtain ⟨W,hW,b0,b1,hbW,hsW⟩:=boxes2 w s.cells [.int .i64 0,.int .i64 0,.bool false,.int .i64 0,.slice none 0 0,.slice none 0 0,.bool false,.int .i64 0,.slice none 0 0,.slice none 0 0,.bool false,.int .i64 0,.slice none 0 0,.slice none 0 0,.bool false,.int .i64 0,.slice none 0 0,.slice none 0 0,.bool false,.bool false] 144 144
 have b1':Box W (w.heap.size+1) zeroSt.cells 144:=b1
 have hs0:w.heap.size+1<W.heap.size:=by omega
 have hrg0:W.rangeAt w.heap.size 1 s.page.cells:=seat_page s b0
 have HL:=Tryz.infoPg s.page rfl
 have C:=l3Copy_own s.page rfl W (hr.below hbW) hl
 clear hsW b1
 go_enter Tryz.func118,Tryz.ntmps118
 go_upto_region 1 with fail
 rw [hW.out]
 clear hW
 go_wp2_with (first | (guard_target=wpList _ _ _ (Oper.mk (some 4) _ _ _ _ _::_) _ _;refine wpList_load_mid rfl 47 (.tmp 3) rfl w.heap.size 1 rfl s.page.cells _ hrg0 Tryz.underlying47 rfl HL ?_) | fail)
 clear hrg0 HL
 refine C.mono ?_
 clear C
 rintro e w1 ⟨ts,rfl,hv,ho,hb1⟩
 obtain ⟨y0,y1,y2,y3,rfl⟩:=four_slots' (ts:=ts) (by have:=congrArg List.length hv.out;simpa [SeatA.page,SeatA.ss] using this)
 have hs1:=hb1.size
 have b01:=b0.below hb1 b0.lt
 have b11:=b1'.below hb1 b1'.lt
 obtain ⟨W2,hW2,b02,hw2,hs2,hth2⟩:=seat_fill s b01 s.page.lsn y0 y1 y2 y3
 obtain ⟨q,hq⟩:∃ q:SeatA,Hid ((⟨s.no,s.page.lsn,y0,y1,y2,y3,s.dirty,s.hot⟩:SeatA)=q):=⟨_,rfl⟩
 rw [hq.out] at b02
 have b12:=b11.within hw2 (by omega)
 obtain ⟨WF,hWF,hwF,hsF,HTF,HLF,bF⟩:=seat_out q _ rfl b12
 have r4:W2.rangeAt w.heap.size 0 q.cells:=Box.range [] q.cells [] (by simpa using b02)
 have oq:q.own w1 W.heap.size w1.heap.size:=by rw [← hq.out];exact ho
 have HV:Hid (q.v=s.v):=by rw [Hid,← hq.out];simp only [SeatA.v,SeatA.ss];rw [show List.map (fun x:SlotA=>x.v) [y0,y1,y2,y3]=s.page.ss.map (·.v) from hv.out];rfl
 have HFIN:Hid (q.own WF w.heap.size WF.heap.size∧Below w.heap.size w WF):=⟨((oq.within hw2 (.inr (by omega))).within hwF (.inr (by omega))).widen (by omega) (by omega) (Nat.le_refl _),((hbW.trans (hb1.mono (by omega))).trans (hw2.below (by omega) (by omega))).trans (hwF.below (by omega) (by omega))⟩
 have HI1:=Tryz.infoPg ⟨s.page.lsn,[y0,y1,y2,y3]⟩ rfl
 have HO1:=page_one ⟨s.page.lsn,[y0,y1,y2,y3]⟩
 have HI2:=seat_info q
 have HO2:=seat_one q
 have HW2:Hid (w1.setCells w.heap.size 1 (PageA.cells ⟨s.page.lsn,[y0,y1,y2,y3]⟩).toArray.toList=W2):=hW2.out
 have HWF:Hid (W2.setCells (w.heap.size+1) 0 q.cells.toArray.toList=WF):=hWF.out
 have HTF':W2.there (w.heap.size+1) 0 q.cells.toArray.size:=HTF.out
 clear hW2 hWF HTF hq hs1 hs2 hsF hw2 hwF b01 b11 b02 b12 bF oq ho hv hb1 b0 b1' hbW
 generalize PageA.cells ⟨s.page.lsn,[y0,y1,y2,y3]⟩=pc at*
 go_wp2_with (first | (guard_target=wpList _ _ _ (Oper.mk none (Op.store _ (Operand.tmp 6) _) _ _ _ _::_) _ _;refine wpList_store_mid rfl 47 (.tmp 6) (.tmp 5) rfl w.heap.size 1 pc.toArray rfl rfl hth2 (by rw [List.size_toArray];exact HI1) HO1 ?_;rw [HW2.out]) | (guard_target=wpList _ _ _ (Oper.mk (some 7) _ _ _ _ _::_) _ _;refine wpList_load_mid rfl 144 (.tmp 1) rfl w.heap.size 0 rfl q.cells _ r4 Tryz.underlying144 rfl HI2 ?_) | (guard_target=wpList _ _ _ (Oper.mk none (Op.store _ (Operand.tmp 2) _) _ _ _ _::_) _ _;refine wpList_store_mid rfl 144 (.tmp 2) (.tmp 7) rfl (w.heap.size+1) 0 q.cells.toArray rfl rfl HTF' (by rw [List.size_toArray];exact HI2) HO2 ?_;rw [HWF.out]) | fail)
 exact bodyPost_ret (v:=.agg q.cells.toArray) (results_one Tryz.results118 rfl HLF.out) rfl ⟨q,rfl,HV,HFIN.out.1,HFIN.out.2⟩
end Go.Proofs.YtfehemepdoomdaaGreatDoor
namespace Go.Proofs.YtfehemepdoomdaaGreatDoor
open Go.RowKit
attribute [local go_sem ↓] Go.wp_at_zero Go.wp_at_succ
theorem l6Copy_any (l:PoolA) (w:World) (hr:l.reads w) (hl:l.short 1048576):
  Calls Tryz.prog 83 #[.agg l.cells.toArray] w fun e w'=>∃ t:PoolA,e=.returned (.agg t.cells.toArray)∧Hid (t.v=l.v)∧t.own w' w.heap.size w'.heap.size∧Below w.heap.size w w':=by
 obtain ⟨rs,s,a,c⟩:=l
 have hl2:=(PoolA.short_wide hl).each
 have hl0:=hl.len
 simp only [PoolA.reads,PoolA.cells,PoolA.own] at*
 obtain ⟨W,hW,b0,b1,b2,hbW,hsW⟩:=boxes3 w [.slice a rs.length c,.int .i64 s] [.slice none 0 0,.int .i64 0] [.slice none 0 0,.int .i64 s] 51 51 51
 have hs0:w.heap.size+1+1<W.heap.size:=by omega
 clear hsW
 have x0:=b0.cell 0 _ rfl
 have x1:=b0.cell 1 _ rfl
 have HC:Hid (∀ k,k<rs.length→∃ b off,a=some ⟨b,off,none⟩∧w.rangeAt b (off+k*20) (rs.getD k zeroSt).cells∧(rs.getD k zeroSt).reads w∧(rs.getD k zeroSt).short 1099511627776):=fun k hk=>by
  obtain ⟨b,off,ha,hc⟩:=hr (by intro e;rw [e] at hk;simp at hk)
  exact ⟨b,off,ha,(hc k hk).1,(hc k hk).2,hl2 _ (seatD_mem rs k hk)⟩
 have HI:Hid ((Tryz.prog.info? 144).map (·.size)=some 20):=by rw [Hid];kernel_rfl
 clear hr hl hl2
 go_enter Tryz.func83,Tryz.ntmps83
 go_wp2_with fail
 rw [hW.out]
 clear hW x0 x1
 go_loopw [4] (fun i wr=>∃ (k:Nat) (ts:List SeatA) (a':Option Addr) (c':Nat),k≤rs.length∧i=.int .i64 k∧Hid (CameSt rs ts k)∧Box wr (w.heap.size+1+1) [.slice a' ts.length c',.int .i64 s] 51∧Box wr w.heap.size [.slice a rs.length c,.int .i64 s] 51∧Box wr (w.heap.size+1) [.slice none 0 0,.int .i64 0] 51∧OwnSts wr W.heap.size wr.heap.size a' c' ts∧Below w.heap.size w wr∧W.heap.size≤wr.heap.size)
  (fun i _=>rs.length-(intOf i).toNat)
 case atStart=>exact ⟨0,[],none,0,Nat.zero_le _,rfl,cameSt_none rs,b2,b0,b1,ownSts_nil _ _ _ (Nat.le_refl _),hbW,Nat.le_refl _⟩
 case round=>
  obtain ⟨k,ts,a',c',hk,rfl,hc,k2,k0,k1,hown,hnx,hsz⟩:=hrel
  clear b0 b1 b2 hbW
  have x0:=k0.cell 0 _ rfl
  by_cases hlt:k<rs.length
  ·obtain ⟨b,off,rfl,hcell,hrd,hsh⟩:=HC.out k hlt
   have hbB:=rangeSt_lt hcell
   have hnw:=hnx.size
   have HR:Hid (∀ u,Below w.heap.size w u→u.rangeAt b (off+k*20) (rs.getD k zeroSt).cells):=fun u hu=>rangeAt_below hcell hu hbB
   have HS:Hid (∀ q:SeatA,q.v=(rs.getD k zeroSt).v→CameSt rs (ts++[q]) (k+1)):=fun q hq=>hc.out.snoc hlt hq
   have HL:Hid (ts.length=k):=hc.out.1
   clear hcell HC
   generalize rs.getD k zeroSt=z at*
   have e0:=k2.cell 0 _ rfl
   have HSS:Hid (∀ u,Below w.heap.size w u→Box u w.heap.size [.slice (some ⟨b,off,none⟩) rs.length c,.int .i64 s] 51→u.rangeAt b (off+k*20) z.cells∧u.cell? ⟨w.heap.size,0,none⟩=some (.slice (some ⟨b,off,none⟩) rs.length c)):=fun u h1 h2=>⟨HR.out u h1,h2.cell 0 _ rfl⟩
   go_wp2_with fail
   refine wp_region_held_drew (S:=fun w'=>w'.rangeAt b (off+k*20) z.cells∧w'.cell? ⟨w.heap.size,0,none⟩=some (.slice (some ⟨b,off,none⟩) rs.length c)) (by kernel_rfl) ?_ (fun hHeld=>?_)
   ·exact HSS.out _ hnx.drew (k0.drewN 1)
   refine tq 0 (v:=.pointer (some ⟨w.heap.size+1+1,0,none⟩)) rfl hHeld ?_
   try simp only [zz]
   refine tq 2 (v:=.pointer (some ⟨w.heap.size,0,none⟩)) rfl hHeld ?_
   try simp only [zz]
   refine tk 3 (v:=.slice (some ⟨b,off,none⟩) rs.length c) rfl (Or.inl ⟨by rfl,?_⟩) hHeld ?_
   ·intro w' hSw
    have hx:=hSw.2
    go_simp<;>rfl
   try simp only [zz]
   refine tq 4 (v:=.int .i64 k) rfl hHeld ?_
   try simp only [zz]
   refine tq 5 (v:=.pointer (some ⟨b,off+k*20,none⟩)) rfl hHeld ?_
   try simp only [zz]
   refine tk 6 rfl (yieldsIf_load_mid (by rfl) _ _ rfl _ _ rfl z.cells _ (fun _ h=>h.1) Tryz.underlying144 rfl HI.out) hHeld ?_
   try simp only [zz]
   have hnd:Below wr.heap.size wr wr.drew:=(Below.refl _ _).drew
   have C:=l6CopySeat_own z wr.drew (hrd.below hnx.drew) hsh
   refine wpAnyH_ready (rs:=[1,7]) (by kernel_rfl) (by simp) ?_
   refine AllReadyH.cons rfl (fun K hK=>?_) (AllReadyH.cons rfl (fun K hK=>?_) AllReadyH.nil)
   ·go_simp
    refine hK.out _ _ (hHeld) (fun hHeld=>?_)
    clear hK K
    try simp only [zz]
    refine wpAnyH_ready (rs:=[7]) (by kernel_rfl) (by simp) ?_
    refine AllReadyH.cons rfl (fun K hK=>?_) AllReadyH.nil
    go_simp
    refine C.mono ?_
    clear C
    rintro e u2 ⟨q,rfl,hq,hqo,hb2⟩
    have hb2':Below wr.heap.size wr u2:=hnd.trans hb2
    have hn2:Below w.heap.size w u2:=hnx.trans (hb2'.mono hnw)
    have k22:=k2.below hb2' k2.lt
    have k02:=k0.below hb2' k0.lt
    have k12:=k1.below hb2' k1.lt
    have o2:=hown.below hb2'
    have hqo2:q.own u2 wr.heap.size u2.heap.size:=hqo
    have hs2:=hb2'.size
    refine hK.out _ _ (HSS.out _ hn2 k02) (fun hHeld=>?_)
    clear hK K
    try simp only [zz]
    refine wpAnyH_ready (rs:=[8]) (by kernel_rfl) (by simp) ?_
    refine AllReadyH.cons rfl (fun K hK=>?_) AllReadyH.nil
    go_simp
    simp only [cellsSt_len,lit_seat,not_true_eq_false,Nat.lt_irrefl,or_self,if_false]
    go_simp
    obtain ⟨W3,hW3,b3,hb3,hs3⟩:=boxes1 u2 q.cells 144
    rw [hW3.out]
    have hn3:Below w.heap.size w W3:=hn2.trans (hb3.mono hn2.size)
    have k23:=k22.below hb3 k22.lt
    have k03:=k02.below hb3 k02.lt
    have k13:=k12.below hb3 k12.lt
    have o3:=o2.below hb3
    have hqo3:=hqo2.below hb3
    have r3:W3.rangeAt u2.heap.size 0 q.cells:=Box.range [] q.cells [] (by simpa using b3)
    have hs3':=b3.lt
    clear hs3 hb3 hW3 b3 k02 k12 o2 hqo2
    refine hK.out _ _ (HSS.out _ hn3 k03) (fun hHeld=>?_)
    clear hK K
    try simp only [zz]
    have hll:ts.length+1≤68719476736:=by have:=HL.out;omega
    refine wpAnyH_ready (rs:=[9]) (by kernel_rfl) (by simp) ?_
    refine AllReadyH.cons rfl (fun K hK=>?_) AllReadyH.nil
    refine step_append_seat rfl (.tmp 16) (.tmp 23) rfl W.heap.size wr.heap.size a' c' ts rfl o3 u2.heap.size 0 1 q rfl r3 wr.heap.size u2.heap.size hqo3 (Nat.le_refl _) (by omega) hll hsz ?_
    intro a9 c9 w9 o9 g9 _
    have HCM:=HS.out q hq.out
    obtain ⟨ys,hys⟩:∃ ys,Hid (ts++[q]=ys):=⟨_,rfl⟩
    rw [hys.out] at o9 HCM ⊢
    have hw9:Within W.heap.size wr.heap.size W3 w9:=Within.of_grown g9 (fun j hj=>⟨(o3.row.lt j hj).1,o3.blk j hj⟩)
    have hs9:=hw9.size
    have hn9:Below w.heap.size w w9:=hn3.trans (hw9.below (by omega) (by omega))
    have k29:=k23.within hw9 (by omega)
    have k09:=k03.within hw9 (by omega)
    have k19:=k13.within hw9 (by omega)
    refine hK.out _ _ (HSS.out _ hn9 k09) (fun hHeld=>?_)
    clear hK K hw9 g9 o3 r3 hqo3 k23 k03 k13
    try simp only [zz]
    refine tq 10 (v:=.pointer (some ⟨w.heap.size+1+1,0,none⟩)) rfl hHeld ?_
    try simp only [zz]
    have m0:=k29.cell 0 _ rfl
    have mf0:=k29.frozen 0
    obtain ⟨WF,hWF,kF,hwF,hsF⟩:=box_set k29 0 (.slice a9 ys.length c9)
    simp only [List.set] at kF
    have hsFa:=Nat.le_of_eq hsF
    have hsFb:=Nat.le_of_eq hsF.symm
    clear hsF
    have k0F:=k09.within hwF (by omega)
    have k1F:=k19.within hwF (by omega)
    have oF:=(o9.within hwF (.inr (by omega))).widen (Nat.le_refl _) hsFb (Nat.le_refl _)
    have hnF:Below w.heap.size w WF:=hn9.trans (hwF.below (by omega) (by omega))
    clear hwF k29 k09 k19 o9
    refine wpAnyH_ready (rs:=[11]) (by kernel_rfl) (by simp) ?_
    refine AllReadyH.cons rfl (fun K hK=>?_) AllReadyH.nil
    go_simp
    rw [hWF.out]
    refine hK.out _ _ (HSS.out _ hnF k0F) (fun hHeld=>?_)
    clear hK K
    try simp only [zz]
    refine wpAnyH_done (by kernel_rfl) ?_ _
    clear m0 mf0 hWF
    go_wp2_with fail
    go_roundw
    case rel=>exact ⟨k+1,ys,a9,c9,by omega,by go_num,HCM,kF,k0F,k1F,oF,hnF,by omega⟩
    case measure=>simp [intOf];omega
   ·go_simp
    refine C.mono ?_
    clear C
    rintro e u2 ⟨q,rfl,hq,hqo,hb2⟩
    have hb2':Below wr.heap.size wr u2:=hnd.trans hb2
    have hn2:Below w.heap.size w u2:=hnx.trans (hb2'.mono hnw)
    have k22:=k2.below hb2' k2.lt
    have k02:=k0.below hb2' k0.lt
    have k12:=k1.below hb2' k1.lt
    have o2:=hown.below hb2'
    have hqo2:q.own u2 wr.heap.size u2.heap.size:=hqo
    have hs2:=hb2'.size
    refine hK.out _ _ (HSS.out _ hn2 k02) (fun hHeld=>?_)
    clear hK K
    try simp only [zz]
    refine wpAnyH_ready (rs:=[1,8]) (by kernel_rfl) (by simp) ?_
    refine AllReadyH.cons rfl (fun K hK=>?_) (AllReadyH.cons rfl (fun K hK=>?_) AllReadyH.nil)
    ·have d0:=k22.cell 0 _ rfl
     go_simp
     refine hK.out _ _ (hHeld) (fun hHeld=>?_)
     clear hK K
     try simp only [zz]
     refine wpAnyH_ready (rs:=[8]) (by kernel_rfl) (by simp) ?_
     refine AllReadyH.cons rfl (fun K hK=>?_) AllReadyH.nil
     go_simp
     simp only [cellsSt_len,lit_seat,not_true_eq_false,Nat.lt_irrefl,or_self,if_false]
     go_simp
     obtain ⟨W3,hW3,b3,hb3,hs3⟩:=boxes1 u2 q.cells 144
     rw [hW3.out]
     have hn3:Below w.heap.size w W3:=hn2.trans (hb3.mono hn2.size)
     have k23:=k22.below hb3 k22.lt
     have k03:=k02.below hb3 k02.lt
     have k13:=k12.below hb3 k12.lt
     have o3:=o2.below hb3
     have hqo3:=hqo2.below hb3
     have r3:W3.rangeAt u2.heap.size 0 q.cells:=Box.range [] q.cells [] (by simpa using b3)
     have hs3':=b3.lt
     clear hs3 hb3 hW3 b3 k02 k12 o2 hqo2
     refine hK.out _ _ (HSS.out _ hn3 k03) (fun hHeld=>?_)
     clear hK K
     try simp only [zz]
     have hll:ts.length+1≤68719476736:=by have:=HL.out;omega
     refine wpAnyH_ready (rs:=[9]) (by kernel_rfl) (by simp) ?_
     refine AllReadyH.cons rfl (fun K hK=>?_) AllReadyH.nil
     refine step_append_seat rfl (.tmp 16) (.tmp 23) rfl W.heap.size wr.heap.size a' c' ts rfl o3 u2.heap.size 0 1 q rfl r3 wr.heap.size u2.heap.size hqo3 (Nat.le_refl _) (by omega) hll hsz ?_
     intro a9 c9 w9 o9 g9 _
     have HCM:=HS.out q hq.out
     obtain ⟨ys,hys⟩:∃ ys,Hid (ts++[q]=ys):=⟨_,rfl⟩
     rw [hys.out] at o9 HCM ⊢
     have hw9:Within W.heap.size wr.heap.size W3 w9:=Within.of_grown g9 (fun j hj=>⟨(o3.row.lt j hj).1,o3.blk j hj⟩)
     have hs9:=hw9.size
     have hn9:Below w.heap.size w w9:=hn3.trans (hw9.below (by omega) (by omega))
     have k29:=k23.within hw9 (by omega)
     have k09:=k03.within hw9 (by omega)
     have k19:=k13.within hw9 (by omega)
     refine hK.out _ _ (HSS.out _ hn9 k09) (fun hHeld=>?_)
     clear hK K hw9 g9 o3 r3 hqo3 k23 k03 k13
     try simp only [zz]
     refine tq 10 (v:=.pointer (some ⟨w.heap.size+1+1,0,none⟩)) rfl hHeld ?_
     try simp only [zz]
     have m0:=k29.cell 0 _ rfl
     have mf0:=k29.frozen 0
     obtain ⟨WF,hWF,kF,hwF,hsF⟩:=box_set k29 0 (.slice a9 ys.length c9)
     simp only [List.set] at kF
     have hsFa:=Nat.le_of_eq hsF
     have hsFb:=Nat.le_of_eq hsF.symm
     clear hsF
     have k0F:=k09.within hwF (by omega)
     have k1F:=k19.within hwF (by omega)
     have oF:=(o9.within hwF (.inr (by omega))).widen (Nat.le_refl _) hsFb (Nat.le_refl _)
     have hnF:Below w.heap.size w WF:=hn9.trans (hwF.below (by omega) (by omega))
     clear hwF k29 k09 k19 o9
     refine wpAnyH_ready (rs:=[11]) (by kernel_rfl) (by simp) ?_
     refine AllReadyH.cons rfl (fun K hK=>?_) AllReadyH.nil
     go_simp
     rw [hWF.out]
     refine hK.out _ _ (HSS.out _ hnF k0F) (fun hHeld=>?_)
     clear hK K
     try simp only [zz]
     refine wpAnyH_done (by kernel_rfl) ?_ _
     clear m0 mf0 hWF
     go_wp2_with fail
     go_roundw
     case rel=>exact ⟨k+1,ys,a9,c9,by omega,by go_num,HCM,kF,k0F,k1F,oF,hnF,by omega⟩
     case measure=>simp [intOf];omega
    ·go_simp
     simp only [cellsSt_len,lit_seat,not_true_eq_false,Nat.lt_irrefl,or_self,if_false]
     go_simp
     obtain ⟨W3,hW3,b3,hb3,hs3⟩:=boxes1 u2 q.cells 144
     rw [hW3.out]
     have hn3:Below w.heap.size w W3:=hn2.trans (hb3.mono hn2.size)
     have k23:=k22.below hb3 k22.lt
     have k03:=k02.below hb3 k02.lt
     have k13:=k12.below hb3 k12.lt
     have o3:=o2.below hb3
     have hqo3:=hqo2.below hb3
     have r3:W3.rangeAt u2.heap.size 0 q.cells:=Box.range [] q.cells [] (by simpa using b3)
     have hs3':=b3.lt
     clear hs3 hb3 hW3 b3 k02 k12 o2 hqo2
     refine hK.out _ _ (HSS.out _ hn3 k03) (fun hHeld=>?_)
     clear hK K
     try simp only [zz]
     have d0:=k23.cell 0 _ rfl
     refine wpAnyH_ready (rs:=[1]) (by kernel_rfl) (by simp) ?_
     refine AllReadyH.cons rfl (fun K hK=>?_) AllReadyH.nil
     go_simp
     refine hK.out _ _ (hHeld) (fun hHeld=>?_)
     clear hK K
     try simp only [zz]
     have hll:ts.length+1≤68719476736:=by have:=HL.out;omega
     refine wpAnyH_ready (rs:=[9]) (by kernel_rfl) (by simp) ?_
     refine AllReadyH.cons rfl (fun K hK=>?_) AllReadyH.nil
     refine step_append_seat rfl (.tmp 16) (.tmp 23) rfl W.heap.size wr.heap.size a' c' ts rfl o3 u2.heap.size 0 1 q rfl r3 wr.heap.size u2.heap.size hqo3 (Nat.le_refl _) (by omega) hll hsz ?_
     intro a9 c9 w9 o9 g9 _
     have HCM:=HS.out q hq.out
     obtain ⟨ys,hys⟩:∃ ys,Hid (ts++[q]=ys):=⟨_,rfl⟩
     rw [hys.out] at o9 HCM ⊢
     have hw9:Within W.heap.size wr.heap.size W3 w9:=Within.of_grown g9 (fun j hj=>⟨(o3.row.lt j hj).1,o3.blk j hj⟩)
     have hs9:=hw9.size
     have hn9:Below w.heap.size w w9:=hn3.trans (hw9.below (by omega) (by omega))
     have k29:=k23.within hw9 (by omega)
     have k09:=k03.within hw9 (by omega)
     have k19:=k13.within hw9 (by omega)
     refine hK.out _ _ (HSS.out _ hn9 k09) (fun hHeld=>?_)
     clear hK K hw9 g9 o3 r3 hqo3 k23 k03 k13
     try simp only [zz]
     refine tq 10 (v:=.pointer (some ⟨w.heap.size+1+1,0,none⟩)) rfl hHeld ?_
     try simp only [zz]
     have m0:=k29.cell 0 _ rfl
     have mf0:=k29.frozen 0
     obtain ⟨WF,hWF,kF,hwF,hsF⟩:=box_set k29 0 (.slice a9 ys.length c9)
     simp only [List.set] at kF
     have hsFa:=Nat.le_of_eq hsF
     have hsFb:=Nat.le_of_eq hsF.symm
     clear hsF
     have k0F:=k09.within hwF (by omega)
     have k1F:=k19.within hwF (by omega)
     have oF:=(o9.within hwF (.inr (by omega))).widen (Nat.le_refl _) hsFb (Nat.le_refl _)
     have hnF:Below w.heap.size w WF:=hn9.trans (hwF.below (by omega) (by omega))
     clear hwF k29 k09 k19 o9
     refine wpAnyH_ready (rs:=[11]) (by kernel_rfl) (by simp) ?_
     refine AllReadyH.cons rfl (fun K hK=>?_) AllReadyH.nil
     go_simp
     rw [hWF.out]
     refine hK.out _ _ (HSS.out _ hnF k0F) (fun hHeld=>?_)
     clear hK K
     try simp only [zz]
     refine wpAnyH_done (by kernel_rfl) ?_ _
     clear m0 mf0 hWF
     go_wp2_with fail
     go_roundw
     case rel=>exact ⟨k+1,ys,a9,c9,by omega,by go_num,HCM,kF,k0F,k1F,oF,hnF,by omega⟩
     case measure=>simp [intOf];omega
  ·have HE:Hid (ts.map SeatA.v=rs.map SeatA.v):=by
    have e:k=rs.length:=by omega
    rw [e] at hc
    exact hc.out.all
   have e0:=k2.cell 0 _ rfl
   have e1:=k2.cell 1 _ rfl
   have m0:=k1.cell 0 _ rfl
   have m1:=k1.cell 1 _ rfl
   have mf0:=k1.frozen 0
   have mf1:=k1.frozen 1
   obtain ⟨WF,hWF,bF,hwF,hsF⟩:=box2_fill k1 (.slice a' ts.length c') (.int .i64 s)
   have q0:=bF.cell 0 _ rfl
   have q1:=bF.cell 1 _ rfl
   have hoF:=(hown.within hwF (.inr (by omega))).widen (show w.heap.size≤W.heap.size by omega) (show wr.heap.size≤WF.heap.size by omega) (Nat.le_refl _)
   have hbF:Below w.heap.size w WF:=hnx.trans (hwF.below (by omega) (by have:=hnx.size;omega))
   clear hwF hsF bF
   go_wp2
   rw [hWF.out]
   exact bodyPost_ret (v:=.agg #[.slice a' ts.length c',.int .i64 s]) (by simp [results,Tryz.results83,go_sem,q0,q1]) rfl ⟨⟨ts,s,a',c'⟩,rfl,by simp only [Hid,PoolA.v];rw [HE.out],hoF,hbF⟩
end Go.Proofs.YtfehemepdoomdaaGreatDoor
namespace Go.Proofs.YtfehemepdoomdaaGreatDoor
open Go.RowKit
def Out (k a b:Nat):Prop:=k<a∨b≤k
structure CopI (e:EngA) (lo:Nat) (w:World) (c2 c5 c6 c9 c10 c13:Bool) (X2 X5 X6 X9 X10 X13:Value) (q:PoolA) (l:LogA) (p0 p1 l0 l1 A6 A10:Nat) (aT:Option Addr) (cT:Nat) (aH:Option Addr) (cH:Nat):Prop where
 val:(c5=true→c2=true)∧(c9=true→c5=true∧c6=true)∧(c13=true→c9=true∧c10=true)
 low:lo≤w.heap.size
 top:p1≤w.heap.size∧l1≤w.heap.size
 no:(c2=false→p0=0∧p1=0)∧(c5=false→l0=0∧l1=0)
 pool:c2=true→X2=.agg q.cells.toArray∧Hid (q.v=e.poolA.v)∧q.own w p0 p1∧lo≤p0∧p0≤p1
 log:c5=true→X5=.agg l.cells.toArray∧Hid (l.v=e.log.v)∧l.own w l0 l1∧p1≤l0∧lo≤l0∧l0≤l1
 six:c6=true→X6=.slice (some ⟨A6,0,none⟩) 0 0∧(c9=false→OwnL w A6 (A6+1) (some ⟨A6,0,none⟩) 0 [])∧lo≤A6∧A6<w.heap.size∧Out A6 p0 p1∧Out A6 l0 l1
 ten:c10=true→X10=.slice (some ⟨A10,0,none⟩) 0 0∧(c13=false→OwnH w A10 (A10+1) (some ⟨A10,0,none⟩) 0 [])∧lo≤A10∧A10<w.heap.size∧Out A10 p0 p1∧Out A10 l0 l1
 both:c6=true→c10=true→A6≠A10
 txs:c9=true→X9=.slice aT e.txs.length cT∧OwnL w lo w.heap.size aT cT e.txs∧∀ k,(Value.slice aT e.txs.length cT).ownBlock=some k→Out k p0 p1∧Out k l0 l1∧(c10=true→k≠A10)
 holds:c13=true→X13=.slice aH e.holds.length cH∧OwnH w lo w.heap.size aH cH e.holds∧∀ k,(Value.slice aH e.holds.length cH).ownBlock=some k→Out k p0 p1∧Out k l0 l1∧∀ j,(Value.slice aT e.txs.length cT).ownBlock=some j→j≠k
theorem CopI.start (e:EngA) (lo:Nat) (w:World) (X2 X5 X6 X9 X10 X13:Value) (h:lo≤w.heap.size):CopI e lo w false false false false false false X2 X5 X6 X9 X10 X13 e.poolA e.log 0 0 0 0 0 0 none 0 none 0:=
 ⟨⟨nofun,nofun,nofun⟩,h,⟨Nat.zero_le _,Nat.zero_le _⟩,⟨fun _=>⟨rfl,rfl⟩,fun _=>⟨rfl,rfl⟩⟩,nofun,nofun,nofun,nofun,nofun,nofun,nofun⟩
section
variable {e:EngA} {lo:Nat} {w w':World} {c2 c5 c6 c9 c10 c13:Bool} {X2 X5 X6 X9 X10 X13:Value} {q:PoolA} {l:LogA} {p0 p1 l0 l1 A6 A10:Nat} {aT:Option Addr} {cT:Nat} {aH:Option Addr} {cH:Nat}
theorem CopI.below (h:CopI e lo w c2 c5 c6 c9 c10 c13 X2 X5 X6 X9 X10 X13 q l p0 p1 l0 l1 A6 A10 aT cT aH cH) (hb:Below w.heap.size w w'):CopI e lo w' c2 c5 c6 c9 c10 c13 X2 X5 X6 X9 X10 X13 q l p0 p1 l0 l1 A6 A10 aT cT aH cH:=by
 have hs:=hb.size
 refine ⟨h.val,by have:=h.low;omega,by have:=h.top;omega,h.no,fun c=>?_,fun c=>?_,fun c=>?_,fun c=>?_,h.both,fun c=>?_,fun c=>?_⟩
 ·obtain ⟨a,b,d,f⟩:=h.pool c;exact ⟨a,b,OwnSts.below d hb,f⟩
 ·obtain ⟨a,b,d,f⟩:=h.log c;exact ⟨a,b,OwnRs.below d hb,f⟩
 ·obtain ⟨a,b,d,f,g⟩:=h.six c;exact ⟨a,fun x=>(b x).below hb,d,by omega,g⟩
 ·obtain ⟨a,b,d,f,g⟩:=h.ten c;exact ⟨a,fun x=>(b x).below hb,d,by omega,g⟩
 ·obtain ⟨a,b,d⟩:=h.txs c;exact ⟨a,(b.below hb).widen (Nat.le_refl _) hs (Nat.le_refl _),d⟩
 ·obtain ⟨a,b,d⟩:=h.holds c;exact ⟨a,(b.below hb).widen (Nat.le_refl _) hs (Nat.le_refl _),d⟩
theorem CopI.step2 {X:Value} {q':PoolA} (h:CopI e lo w false c5 c6 c9 c10 c13 X2 X5 X6 X9 X10 X13 q l p0 p1 l0 l1 A6 A10 aT cT aH cH) (hX:X=.agg q'.cells.toArray) (hv:Hid (q'.v=e.poolA.v)) (ho:q'.own w' w.heap.size w'.heap.size) (hb:Below w.heap.size w w'):
  CopI e lo w' true c5 c6 c9 c10 c13 X X5 X6 X9 X10 X13 q' l w.heap.size w'.heap.size l0 l1 A6 A10 aT cT aH cH:=by
 have hs:=hb.size
 have h5:c5=false:=by cases hc:c5 with | false=>rfl | true=>exact absurd (h.val.1 hc) (by simp)
 have h9:c9=false:=by cases hc:c9 with | false=>rfl | true=>have:=(h.val.2.1 hc).1;rw [h5] at this;cases this
 have h13:c13=false:=by cases hc:c13 with | false=>rfl | true=>have:=(h.val.2.2 hc).1;rw [h9] at this;cases this
 subst h5 h9 h13
 have g:=h.below hb
 refine ⟨⟨nofun,nofun,nofun⟩,g.low,⟨Nat.le_refl _,g.top.2⟩,⟨nofun,g.no.2⟩,fun _=>⟨hX,hv,ho,h.low,hs⟩,nofun,fun c=>?_,fun c=>?_,g.both,nofun,nofun⟩
 ·obtain ⟨a,b,d,f,_,k⟩:=g.six c;have:=(h.six c).2.2.2.1;exact ⟨a,b,d,f,.inl (by omega),k⟩
 ·obtain ⟨a,b,d,f,_,k⟩:=g.ten c;have:=(h.ten c).2.2.2.1;exact ⟨a,b,d,f,.inl (by omega),k⟩
theorem CopI.step5 {X:Value} {l':LogA} (h:CopI e lo w c2 false c6 c9 c10 c13 X2 X5 X6 X9 X10 X13 q l p0 p1 l0 l1 A6 A10 aT cT aH cH) (hc2:c2=true) (hX:X=.agg l'.cells.toArray) (hv:Hid (l'.v=e.log.v)) (ho:l'.own w' w.heap.size w'.heap.size) (hb:Below w.heap.size w w'):
  CopI e lo w' c2 true c6 c9 c10 c13 X2 X X6 X9 X10 X13 q l' p0 p1 w.heap.size w'.heap.size A6 A10 aT cT aH cH:=by
 have hs:=hb.size
 have h9:c9=false:=by cases hc:c9 with | false=>rfl | true=>have:=(h.val.2.1 hc).1;cases this
 have h13:c13=false:=by cases hc:c13 with | false=>rfl | true=>have:=(h.val.2.2 hc).1;rw [h9] at this;cases this
 subst h9 h13
 have g:=h.below hb
 refine ⟨⟨fun _=>hc2,nofun,nofun⟩,g.low,⟨g.top.1,Nat.le_refl _⟩,⟨g.no.1,nofun⟩,g.pool,fun _=>⟨hX,hv,ho,h.top.1,h.low,hs⟩,fun c=>?_,fun c=>?_,g.both,nofun,nofun⟩
 ·obtain ⟨a,b,d,f,k,_⟩:=g.six c;have:=(h.six c).2.2.2.1;exact ⟨a,b,d,f,k,.inl (by omega)⟩
 ·obtain ⟨a,b,d,f,k,_⟩:=g.ten c;have:=(h.ten c).2.2.2.1;exact ⟨a,b,d,f,k,.inl (by omega)⟩
theorem CopI.step6 {X:Value} (h:CopI e lo w c2 c5 false c9 c10 c13 X2 X5 X6 X9 X10 X13 q l p0 p1 l0 l1 A6 A10 aT cT aH cH) (hX:X=.slice (some ⟨w.heap.size,0,none⟩) 0 0) (hw:w.alloc (.cells #[] 106)=w'):
  CopI e lo w' c2 c5 true c9 c10 c13 X2 X5 X X9 X10 X13 q l p0 p1 l0 l1 w.heap.size A10 aT cT aH cH:=by
 subst hw
 have hb:Below w.heap.size w (w.alloc (.cells #[] 106)):=(Below.refl _ _).alloc (Nat.le_refl _) _
 have h9:c9=false:=by cases hc:c9 with | false=>rfl | true=>have:=(h.val.2.1 hc).2;cases this
 have h13:c13=false:=by cases hc:c13 with | false=>rfl | true=>have:=(h.val.2.2 hc).1;rw [h9] at this;cases this
 subst h9 h13
 have g:=h.below hb
 refine ⟨⟨h.val.1,nofun,nofun⟩,g.low,g.top,g.no,g.pool,g.log,fun _=>⟨hX,fun _=>ownL_lit0 w,h.low,by simp,.inr h.top.1,.inr h.top.2⟩,g.ten,fun _ c=>?_,nofun,nofun⟩
 have:=(h.ten c).2.2.2.1
 omega
theorem CopI.step10 {X:Value} (h:CopI e lo w c2 c5 c6 c9 false c13 X2 X5 X6 X9 X10 X13 q l p0 p1 l0 l1 A6 A10 aT cT aH cH) (hX:X=.slice (some ⟨w.heap.size,0,none⟩) 0 0) (hw:w.alloc (.cells #[] 110)=w'):
  CopI e lo w' c2 c5 c6 c9 true c13 X2 X5 X6 X9 X X13 q l p0 p1 l0 l1 A6 w.heap.size aT cT aH cH:=by
 subst hw
 have hb:Below w.heap.size w (w.alloc (.cells #[] 110)):=(Below.refl _ _).alloc (Nat.le_refl _) _
 have h13:c13=false:=by cases hc:c13 with | false=>rfl | true=>have:=(h.val.2.2 hc).2;cases this
 subst h13
 have g:=h.below hb
 refine ⟨⟨h.val.1,h.val.2.1,nofun⟩,g.low,g.top,g.no,g.pool,g.log,g.six,fun _=>⟨hX,fun _=>ownH_lit0 w,h.low,by simp,.inr h.top.1,.inr h.top.2⟩,fun c _=>?_,fun c=>?_,nofun⟩
 ·have:=(h.six c).2.2.2.1
  omega
 ·obtain ⟨a,b,d⟩:=g.txs c
  refine ⟨a,b,fun k hk=>⟨(d k hk).1,(d k hk).2.1,fun _=>?_⟩⟩
  have:=((h.txs c).2.1.lt k hk).2
  omega
theorem CopI.step9 {X:Value} {a':Option Addr} {c':Nat} (h:CopI e lo w c2 c5 c6 false c10 c13 X2 X5 X6 X9 X10 X13 q l p0 p1 l0 l1 A6 A10 aT cT aH cH) (hc5:c5=true) (hc6:c6=true) (hX:X=.slice a' e.txs.length c') (ho:OwnL w' A6 w'.heap.size a' c' e.txs) (hg:w.grownBy w' (some A6))
  (hk:∀ k,(Value.slice a' e.txs.length c').ownBlock=some k→some A6=some k∨k=w.heap.size):
  CopI e lo w' c2 c5 c6 true c10 c13 X2 X5 X6 X X10 X13 q l p0 p1 l0 l1 A6 A10 a' c' aH cH:=by
 have h13:c13=false:=by cases hc:c13 with | false=>rfl | true=>have:=(h.val.2.2 hc).1;cases this
 subst h13
 have t:Touch [A6] w w':=Touch.of_grown hg (fun k hk=>by cases hk;exact List.mem_singleton.2 rfl)
 have hs:=t.size
 obtain ⟨x1,x2,x3,x4,x5,x6⟩:=h.six hc6
 have hlo:=h.low
 have htop:=h.top
 refine ⟨⟨h.val.1,fun _=>⟨hc5,hc6⟩,nofun⟩,by omega,by omega,h.no,fun c=>?_,fun c=>?_,fun c=>⟨x1,nofun,x3,by omega,x5,x6⟩,fun c=>?_,h.both,fun _=>⟨hX,ho.widen x3 (Nat.le_refl _) (Nat.le_refl _),fun k hk'=>?_⟩,nofun⟩
 ·obtain ⟨a,b,d,f⟩:=h.pool c
  exact ⟨a,b,OwnSts.touch d t (fun k hk hm=>by have:=OwnSts.blocks_lt d k hk;rw [List.mem_singleton.1 hm] at this;rcases x5 with y | y<;>omega),f⟩
 ·obtain ⟨a,b,d,f⟩:=h.log c
  exact ⟨a,b,OwnRs.touch d t (fun k hk hm=>by have:=OwnRs.blocks_lt d k hk;rw [List.mem_singleton.1 hm] at this;rcases x6 with y | y<;>omega),f⟩
 ·obtain ⟨a,b,d,f,g⟩:=h.ten c
  have hne:=h.both hc6 c
  exact ⟨a,fun x=>(b x).touch t (fun k hk hm=>by cases hk;exact hne (List.mem_singleton.1 hm).symm),d,by omega,g⟩
 ·rcases hk k hk' with y | y
  ·cases y;exact ⟨x5,x6,fun c=>h.both hc6 c⟩
  ·subst y;exact ⟨.inr htop.1,.inr htop.2,fun c=>by have:=(h.ten c).2.2.2.1;omega⟩
theorem CopI.step13 {X:Value} {a':Option Addr} {c':Nat} (h:CopI e lo w c2 c5 c6 c9 c10 false X2 X5 X6 X9 X10 X13 q l p0 p1 l0 l1 A6 A10 aT cT aH cH) (hc9:c9=true) (hc10:c10=true) (hX:X=.slice a' e.holds.length c') (ho:OwnH w' A10 w'.heap.size a' c' e.holds) (hg:w.grownBy w' (some A10))
  (hk:∀ k,(Value.slice a' e.holds.length c').ownBlock=some k→some A10=some k∨k=w.heap.size):
  CopI e lo w' c2 c5 c6 c9 c10 true X2 X5 X6 X9 X10 X q l p0 p1 l0 l1 A6 A10 aT cT a' c':=by
 have t:Touch [A10] w w':=Touch.of_grown hg (fun k hk=>by cases hk;exact List.mem_singleton.2 rfl)
 have hs:=t.size
 obtain ⟨x1,x2,x3,x4,x5,x6⟩:=h.ten hc10
 have hlo:=h.low
 have htop:=h.top
 refine ⟨⟨h.val.1,h.val.2.1,fun _=>⟨hc9,hc10⟩⟩,by omega,by omega,h.no,fun c=>?_,fun c=>?_,fun c=>?_,fun c=>⟨x1,nofun,x3,by omega,x5,x6⟩,h.both,fun c=>?_,fun _=>⟨hX,ho.widen x3 (Nat.le_refl _) (Nat.le_refl _),fun k hk'=>?_⟩⟩
 ·obtain ⟨a,b,d,f⟩:=h.pool c
  exact ⟨a,b,OwnSts.touch d t (fun k hk hm=>by have:=OwnSts.blocks_lt d k hk;rw [List.mem_singleton.1 hm] at this;rcases x5 with y | y<;>omega),f⟩
 ·obtain ⟨a,b,d,f⟩:=h.log c
  exact ⟨a,b,OwnRs.touch d t (fun k hk hm=>by have:=OwnRs.blocks_lt d k hk;rw [List.mem_singleton.1 hm] at this;rcases x6 with y | y<;>omega),f⟩
 ·obtain ⟨a,b,d,f,g⟩:=h.six c
  exact ⟨a,fun x=>(by rw [hc9] at x;cases x),d,by omega,g⟩
 ·obtain ⟨a,b,d⟩:=h.txs c
  exact ⟨a,(b.touch t (fun k hk hm=>(d k hk).2.2 hc10 (List.mem_singleton.1 hm))).widen (Nat.le_refl _) hs (Nat.le_refl _),d⟩
 ·obtain ⟨_,b,d⟩:=h.txs hc9
  rcases hk k hk' with y | y
  ·cases y;exact ⟨x5,x6,fun j hj=>(d j hj).2.2 hc10⟩
  ·subst y;exact ⟨.inr htop.1,.inr htop.2,fun j hj=>by have:=(b.lt j hj).2;omega⟩
end
end Go.Proofs.YtfehemepdoomdaaGreatDoor
namespace Go.Proofs.YtfehemepdoomdaaGreatDoor
open Go.RowKit
structure CopB (Z:EngA) (nT nH:Nat) (lo:Nat) (w:World) (c3 c6 c9 c10 c13:Bool) (X3:Value) (BO p0 p1 l0 l1 A6 A10:Nat) (aT:Option Addr) (cT:Nat) (aH:Option Addr) (cH:Nat):Prop where
 box:c3=true→X3=.pointer (some ⟨BO,0,none⟩)∧Box w BO Z.cells TE∧lo≤BO∧Out BO p0 p1∧Out BO l0 l1
 six:c3=true→c6=true→BO≠A6
 ten:c3=true→c10=true→BO≠A10
 txs:c3=true→c9=true→∀ k,(Value.slice aT nT cT).ownBlock=some k→k≠BO
 holds:c3=true→c13=true→∀ k,(Value.slice aH nH cH).ownBlock=some k→k≠BO
section
variable {Z e:EngA} {nT nH lo:Nat} {w w':World} {c2 c3 c5 c6 c9 c10 c13:Bool} {X2 X3 X5 X6 X9 X10 X13:Value} {q:PoolA} {l:LogA} {BO p0 p1 l0 l1 A6 A10:Nat} {aT:Option Addr} {cT:Nat} {aH:Option Addr} {cH:Nat}
theorem CopB.start (X3:Value) (w:World):CopB Z nT nH lo w false c6 c9 c10 c13 X3 0 p0 p1 l0 l1 A6 A10 aT cT aH cH:=⟨nofun,nofun,nofun,nofun,nofun⟩
theorem CopB.below (h:CopB Z nT nH lo w c3 c6 c9 c10 c13 X3 BO p0 p1 l0 l1 A6 A10 aT cT aH cH) (hb:Below w.heap.size w w'):CopB Z nT nH lo w' c3 c6 c9 c10 c13 X3 BO p0 p1 l0 l1 A6 A10 aT cT aH cH:=
 ⟨fun c=>by obtain ⟨a,b,d⟩:=h.box c;exact ⟨a,b.below hb b.lt,d⟩,h.six,h.ten,h.txs,h.holds⟩
theorem CopB.step2 (h:CopB Z nT nH lo w c3 c6 c9 c10 c13 X3 BO p0 p1 l0 l1 A6 A10 aT cT aH cH) (hb:Below w.heap.size w w'):CopB Z nT nH lo w' c3 c6 c9 c10 c13 X3 BO w.heap.size w'.heap.size l0 l1 A6 A10 aT cT aH cH:=
 ⟨fun c=>by obtain ⟨a,b,d,f,g⟩:=h.box c;exact ⟨a,b.below hb b.lt,d,.inl b.lt,g⟩,h.six,h.ten,h.txs,h.holds⟩
theorem CopB.step5 (h:CopB Z nT nH lo w c3 c6 c9 c10 c13 X3 BO p0 p1 l0 l1 A6 A10 aT cT aH cH) (hb:Below w.heap.size w w'):CopB Z nT nH lo w' c3 c6 c9 c10 c13 X3 BO p0 p1 w.heap.size w'.heap.size A6 A10 aT cT aH cH:=
 ⟨fun c=>by obtain ⟨a,b,d,f,g⟩:=h.box c;exact ⟨a,b.below hb b.lt,d,f,.inl b.lt⟩,h.six,h.ten,h.txs,h.holds⟩
theorem CopB.step6 (h:CopB Z nT nH lo w c3 c6 c9 c10 c13 X3 BO p0 p1 l0 l1 A6 A10 aT cT aH cH) (hb:Below w.heap.size w w'):CopB Z nT nH lo w' c3 true c9 c10 c13 X3 BO p0 p1 l0 l1 w.heap.size A10 aT cT aH cH:=
 ⟨(h.below hb).box,fun c _=>by have:=(h.box c).2.1.lt;omega,h.ten,h.txs,h.holds⟩
theorem CopB.step10 (h:CopB Z nT nH lo w c3 c6 c9 c10 c13 X3 BO p0 p1 l0 l1 A6 A10 aT cT aH cH) (hb:Below w.heap.size w w'):CopB Z nT nH lo w' c3 c6 c9 true c13 X3 BO p0 p1 l0 l1 A6 w.heap.size aT cT aH cH:=
 ⟨(h.below hb).box,h.six,fun c _=>by have:=(h.box c).2.1.lt;omega,h.txs,h.holds⟩
theorem CopB.step9 {a':Option Addr} {c':Nat} (h:CopB Z nT nH lo w c3 c6 c9 c10 c13 X3 BO p0 p1 l0 l1 A6 A10 aT cT aH cH) (hc6:c6=true) (hg:w.grownBy w' (some A6)) (hk:∀ k,(Value.slice a' nT c').ownBlock=some k→some A6=some k∨k=w.heap.size):
  CopB Z nT nH lo w' c3 c6 true c10 c13 X3 BO p0 p1 l0 l1 A6 A10 a' c' aH cH:=
 ⟨fun c=>by obtain ⟨a,b,d⟩:=h.box c;exact ⟨a,b.block (hg.block BO b.lt (fun x=>h.six c hc6 (Option.some.inj x))),d⟩,h.six,h.ten,fun c _ k hk'=>by
  rcases hk k hk' with y | y
  ·cases y;exact Ne.symm (h.six c hc6)
  ·have:=(h.box c).2.1.lt;omega,h.holds⟩
theorem CopB.step13 {a':Option Addr} {c':Nat} (h:CopB Z nT nH lo w c3 c6 c9 c10 c13 X3 BO p0 p1 l0 l1 A6 A10 aT cT aH cH) (hc10:c10=true) (hg:w.grownBy w' (some A10)) (hk:∀ k,(Value.slice a' nH c').ownBlock=some k→some A10=some k∨k=w.heap.size):
  CopB Z nT nH lo w' c3 c6 c9 c10 true X3 BO p0 p1 l0 l1 A6 A10 aT cT a' c':=
 ⟨fun c=>by obtain ⟨a,b,d⟩:=h.box c;exact ⟨a,b.block (hg.block BO b.lt (fun x=>h.ten c hc10 (Option.some.inj x))),d⟩,h.six,h.ten,h.txs,fun c _ k hk'=>by
  rcases hk k hk' with y | y
  ·cases y;exact Ne.symm (h.ten c hc10)
  ·have:=(h.box c).2.1.lt;omega⟩
theorem CopB.laid {X:Value} (i:CopI e lo w c2 c5 c6 c9 c10 c13 X2 X5 X6 X9 X10 X13 q l p0 p1 l0 l1 A6 A10 aT cT aH cH) (hX:X=.pointer (some ⟨w.heap.size,0,none⟩)) (hb:Box w' w.heap.size Z.cells TE):
  CopB Z e.txs.length e.holds.length lo w' true c6 c9 c10 c13 X w.heap.size p0 p1 l0 l1 A6 A10 aT cT aH cH:=
 ⟨fun _=>⟨hX,hb,i.low,.inr i.top.1,.inr i.top.2⟩,fun _ c=>by have:=(i.six c).2.2.2.1;omega,fun _ c=>by have:=(i.ten c).2.2.2.1;omega,
  fun _ c k hk=>by have:=((i.txs c).2.1.lt k hk).2;omega,fun _ c k hk=>by have:=((i.holds c).2.1.lt k hk).2;omega⟩
end
theorem CopI.whole {e:EngA} {lo:Nat} {w:World} {X2 X5 X6 X9 X10 X13:Value} {q:PoolA} {l:LogA} {p0 p1 l0 l1 A6 A10:Nat} {aT:Option Addr} {cT:Nat} {aH:Option Addr} {cH:Nat}
  (i:CopI e lo w true true true true true true X2 X5 X6 X9 X10 X13 q l p0 p1 l0 l1 A6 A10 aT cT aH cH):
  X2=.agg q.cells.toArray∧X5=.agg l.cells.toArray∧X9=.slice aT e.txs.length cT∧X13=.slice aH e.holds.length cH∧Hid (q.v=e.poolA.v)∧Hid (l.v=e.log.v)∧
  OwnSts w lo w.heap.size q.a q.c q.seats∧OwnRs w lo w.heap.size l.a l.c l.recs∧OwnL w lo w.heap.size aT cT e.txs∧OwnH w lo w.heap.size aH cH e.holds∧
  (blocksSts q.a q.c q.seats++(blocksRs l.a l.c l.recs++(rowOf aT e.txs.length cT++rowOf aH e.holds.length cH))).Nodup:=by
 obtain ⟨a1,a2,a3,a4,a5⟩:=i.pool rfl
 obtain ⟨b1,b2,b3,b4,b5,b6⟩:=i.log rfl
 obtain ⟨t1,t2,t3⟩:=i.txs rfl
 obtain ⟨h1,h2,h3⟩:=i.holds rfl
 have tp:=i.top
 refine ⟨a1,b1,t1,h1,a2,b2,OwnSts.widen a3 a4 tp.1 (Nat.le_refl _),OwnRs.widen b3 b5 tp.2 (Nat.le_refl _),t2,h2,?_⟩
 have B2:=OwnSts.blocks_lt a3
 have B3:=OwnRs.blocks_lt b3
 have nr:∀ o:Option Nat,o.toList.Nodup:=fun o=>by cases o<;>simp
 simp only [List.nodup_append,List.mem_append]
 refine ⟨OwnSts.apart a3,⟨OwnRs.apart b3,⟨nr _,nr _,fun x hx y hy=>(h3 y (Option.mem_toList.1 hy)).2.2 x (Option.mem_toList.1 hx)⟩,fun x hx y hy=>?_⟩,fun x hx y hy=>?_⟩
 ·have:=B3 x hx
  rcases hy with hy | hy
  ·rcases (t3 y (Option.mem_toList.1 hy)).2.1 with o | o<;>omega
  ·rcases (h3 y (Option.mem_toList.1 hy)).2.1 with o | o<;>omega
 ·have:=B2 x hx
  rcases hy with hy | hy | hy
  ·have:=B3 y hy;omega
  ·rcases (t3 y (Option.mem_toList.1 hy)).1 with o | o<;>omega
  ·rcases (h3 y (Option.mem_toList.1 hy)).1 with o | o<;>omega
def copE (e:EngA) (q:PoolA) (l:LogA) (aT:Option Addr) (cT:Nat) (aH:Option Addr) (cH:Nat):EngA:=⟨zeroE.disk,q.seats,q.a,q.c,q.hand,l,e.txs,aT,cT,e.holds,aH,cH,e.next,e.down⟩
theorem copE_shape (e:EngA) (q:PoolA) (l:LogA) (aT:Option Addr) (cT:Nat) (aH:Option Addr) (cH:Nat):(copE e q l aT cT aH cH).shape:=⟨zeroE_shape.eight,zeroE_shape.four⟩
theorem run_buildEC (w:World) (e:EngA) (q:PoolA) (l:LogA) (aT:Option Addr) (cT:Nat) (aH:Option Addr) (cH:Nat):
  (Instr.build 58 #[(1,.agg q.cells.toArray),(2,.agg l.cells.toArray),(3,.slice aT e.txs.length cT),(4,.slice aH e.holds.length cH),(5,.int .i64 e.next),(6,.bool e.down)]).run Tryz.prog w=.ok (.agg (copE e q l aT cT aH cH).cells.toArray) w:=run_build w _ _ _ (by kernel_rfl)
theorem zdisk_own (w:World) (lo hi:Nat) (h:hi≤w.heap.size):OwnS w lo hi (zeroE.disk.flatMap (·.ss)):=by
 refine ⟨fun s hs=>?_,List.nodup_nil⟩
 obtain ⟨p,hp,hs⟩:=List.mem_flatMap.1 hs
 have h1:p=zeroP:=by
  simp only [zeroE,List.mem_cons,List.not_mem_nil,or_false] at hp
  rcases hp with h | h | h | h | h | h | h | h<;>exact h
 rw [h1] at hs
 have h2:s=zeroS:=by simpa [zeroP] using hs
 rw [h2]
 exact zero_own _ _ _ h
theorem CopI.eng {Z e:EngA} {lo:Nat} {w:World} {X2 X5 X6 X9 X10 X13 X3:Value} {q:PoolA} {l:LogA} {BO p0 p1 l0 l1 A6 A10:Nat} {aT:Option Addr} {cT:Nat} {aH:Option Addr} {cH:Nat}
  (i:CopI e lo w true true true true true true X2 X5 X6 X9 X10 X13 q l p0 p1 l0 l1 A6 A10 aT cT aH cH) (b:CopB Z e.txs.length e.holds.length lo w true true true true true X3 BO p0 p1 l0 l1 A6 A10 aT cT aH cH):
  (copE e q l aT cT aH cH).own w lo w.heap.size∧BO∉(copE e q l aT cT aH cH).blocks:=by
 obtain ⟨_,_,_,_,_,_,o1,o2,o3,o4,nd⟩:=i.whole
 obtain ⟨_,_,_,f1,f2⟩:=b.box rfl
 refine ⟨⟨zdisk_own w _ _ (Nat.le_refl _),o1,o2,o3,o4,nd⟩,fun hm=>?_⟩
 have hm':BO∈blocksSts q.a q.c q.seats++(blocksRs l.a l.c l.recs++(rowOf aT e.txs.length cT++rowOf aH e.holds.length cH)):=hm
 simp only [List.mem_append] at hm'
 rcases hm' with h | h | h | h
 ·have:=OwnSts.blocks_lt (i.pool rfl).2.2.1 BO h;rcases f1 with y | y<;>omega
 ·have:=OwnRs.blocks_lt (i.log rfl).2.2.1 BO h;rcases f2 with y | y<;>omega
 ·exact b.txs rfl rfl BO (Option.mem_toList.1 h) rfl
 ·exact b.holds rfl rfl BO (Option.mem_toList.1 h) rfl
end Go.Proofs.YtfehemepdoomdaaGreatDoor
namespace Go.Proofs.YtfehemepdoomdaaGreatDoor
open Go.RowKit
theorem step_append_holds {w:World} {ops:Array Oper} {o:Oper} {act:Act} {K:Act→World→Prop} {Q:Exit→Act→World→Prop} {E:Prop} (hgd:o.guard=none) (s x:Operand)
  (ho:o.op=.call { callee:=.builtin .append,args:=#[s,x],argTypes:=#[56,56] })
  (lo hi:Nat) (a:Option Addr) (c:Nat) (xs:List HoldV) (hs:act.eval s=.slice a xs.length c) (hown:OwnH w lo hi a c xs)
  (sa:Option Addr) (sc:Nat) (zs:List HoldV) (hx:act.eval x=.slice sa zs.length sc) (hr:ReadsH w sa zs) (hc:sa=none→sc=0)
  (hb:xs.length+zs.length≤1099511627776) (hlo:lo≤w.heap.size)
  (h:∀ a' c' ys w',Hid (ys=xs++zs)→OwnH w' lo w'.heap.size a' c' ys→w.grownBy w' (Value.slice a xs.length c).ownBlock→
   (∀ k,(Value.slice a' ys.length c').ownBlock=some k→(Value.slice a xs.length c).ownBlock=some k∨k=w.heap.size)→K (act.put o.dst (.slice a' ys.length c')) w'):
  if Region.wanted o (yielded ops act.tmps)=true then Oper.wp Tryz.prog o act w K Q else E:=by
 have hw:Region.wanted o (yielded ops act.tmps)=true:=by simp [Region.wanted,hgd]
 rw [if_pos hw]
 obtain ⟨a',c',ys,w',hrun,h1,h2,h3,h4⟩:=run_append_holds (w:=w) o.type lo hi a c xs hown sa sc zs hr hc hb hlo
 unfold Oper.wp execOp
 simp only [ho,resolve,invoke,builtin,Sem.run_bind,Sem.run_pure,Result.andThen_ok,List.map_toArray,List.map_cons,List.map_nil,hs,hx,hrun]
 exact h a' c' ys w' h1 h2 h3 h4
theorem step_alloc {w:World} {ops:Array Oper} {act:Act} {K:Act→World→Prop} {Q:Exit→Act→World→Prop} {E:Prop} {dst:Option Nat} {ty:TypeId} {pos:String} {aft:Array Edge} (T:TypeId) (cs:List Value)
  (hz:(Tryz.prog.info? T).map (·.zero)=some (some (.agg cs.toArray)))
  (h:K (act.put dst (.pointer (some ⟨w.heap.size,0,none⟩))) (w.alloc (.cells cs.toArray T))):
  if Region.wanted { dst:=dst,op:=.alloc T,type:=ty,pos:=pos,after:=aft,guard:=none } (yielded ops act.tmps)=true then Oper.wp Tryz.prog { dst:=dst,op:=.alloc T,type:=ty,pos:=pos,after:=aft,guard:=none } act w K Q else E:=by
 rw [if_pos (by simp [Region.wanted])]
 cases hi:Tryz.prog.info? T with
 | none=>rw [hi] at hz;cases hz
 | some inf=>
  rw [hi] at hz
  have hz':inf.zero=some (.agg cs.toArray):=by simpa using hz
  unfold Oper.wp execOp
  have e1:(zeroValue T).run Tryz.prog w=.ok (.agg cs.toArray) w:=by simp [zeroValue,typeInfo,hi,hz']
  have e2:(Instr.alloc T true (.tuple #[])).run Tryz.prog w=.ok (.pointer (some ⟨w.heap.size,0,none⟩)) (w.alloc (.cells cs.toArray T)):=by
   unfold Instr.alloc
   simp only [Sem.run_bind,e1,Result.andThen_ok]
   simp [newVar,go_sem]
  simp only [Sem.run_bind,e2,Result.andThen_ok,Sem.run_pure]
  exact h
theorem within_touch {B:Nat} {w w':World} (h:Within B (B+1) w w'):Touch [B] w w':=⟨h.os,h.tape,h.output,h.size,fun k hk hn=>h.block k hk (fun hh=>hn (List.mem_singleton.2 (by omega)))⟩
theorem own_disk {w:World} {lo D hi:Nat} {t:EngA} {ts:List PageA} (h:t.own w lo D) (hd:OwnS w D hi (slots8 ts)) (h1:lo≤D) (h2:D≤hi) (h3:hi≤w.heap.size):({ t with disk:=ts }:EngA).own w lo hi:=by
 refine ⟨hd.widen h1 (Nat.le_refl _) h3,h.pool.widen (Nat.le_refl _) h2 h3,h.log.widen (Nat.le_refl _) h2 h3,h.txs.widen (Nat.le_refl _) h2 h3,h.holds.widen (Nat.le_refl _) h2 h3,?_⟩
 have hb:=h.blocks_lt
 have ap:=h.apart
 simp only [EngA.blocks,List.nodup_append] at ap
 simp only [EngA.blocks,List.nodup_append]
 refine ⟨hd.apart,ap.2.1,fun x hx y hy=>?_⟩
 have h4:=hd.blocks_lt x hx
 have h5:=hb y (List.mem_append.2 (.inr hy))
 omega
theorem step_build {w:World} {o:Oper} {act:Act} {K:Act→World→Prop} {Q:Exit→Act→World→Prop} (T:TypeId) {v:Value} (parts:Array (Nat × Operand)) {ps:Array (Nat × Value)} (hr:(Instr.build T ps).run Tryz.prog w=.ok v w)
  (ho:o.op=.build T parts) (hp:parts.map (fun p=>(p.1,act.eval p.2))=ps) (h:K (act.put o.dst v) w):Oper.wp Tryz.prog o act w K Q:=by
 subst hp
 unfold Oper.wp execOp
 simp only [ho,Sem.run_bind,hr,Result.andThen_ok,Sem.run_pure]
 exact h
theorem l7Copy_any (e:EngA) (se:e.shape) (w:World) (re:e.reads w) (hl:e.short 1048576) (hc:e.caps):
  Calls Tryz.prog 48 #[.agg e.cells.toArray] w fun r w'=>∃ t:EngA,r=.returned (.agg t.cells.toArray)∧t.shape∧Hid (t.v=e.v)∧t.own w' w.heap.size w'.heap.size∧Below w.heap.size w w':=by
 obtain ⟨Z,hZ⟩:∃ Z,Hid (zeroE=Z):=⟨_,rfl⟩
 have sZ:Z.shape:=by rw [← hZ.out];exact zeroE_shape
 have HZ:=Tryz.zeroEng
 rw [hZ.out] at HZ
 obtain ⟨W,hW,b0,bR,hbW,hsW⟩:=boxes2 w e.cells Z.cells 58 58
 have HB:Hid (∀ u,Below W.heap.size W u→Box u w.heap.size e.cells 58):=fun u hu=>b0.below hu b0.lt
 have HBR:Hid (∀ u,Below W.heap.size W u→Box u (w.heap.size+1) Z.cells 58):=fun u hu=>bR.below hu bR.lt
 have HR:Hid (∀ u,Below W.heap.size W u→e.reads u):=fun u hu=>(re.below hbW).below hu
 have HEND:Hid (∀ u,Below W.heap.size W u→Below w.heap.size w u):=fun u hu=>hbW.trans (hu.mono hbW.size)
 have hw0:w.heap.size+1<W.heap.size:=by omega
 have N:Below W.heap.size W W:=Below.refl _ _
 clear b0 bR hsW
 have HS:Hid (∀ u,Below W.heap.size W u→(u.rangeAt w.heap.size 136 e.poolA.cells∧u.rangeAt w.heap.size 138 e.log.cells∧u.cell? ⟨w.heap.size,140,none⟩=some (.slice e.aT e.txs.length e.cT)∧u.cell? ⟨w.heap.size,141,none⟩=some (.slice e.aH e.holds.length e.cH)∧u.cell? ⟨w.heap.size,142,none⟩=some (.int .i64 e.next)∧u.cell? ⟨w.heap.size,143,none⟩=some (.bool e.down))):=fun u hu=>(eng_parts se (HB.out u hu)).2
 go_enter Tryz.func48,Tryz.ntmps48
 go_upto_region 1 with (first | (guard_target=wpList _ _ _ (Oper.mk _ (Op.alloc _) _ _ _ _::_) _ _;refine alloc_of 58 Z.cells HZ ?_) | fail)
 rw [hW.out,show (w.alloc (Obj.cells e.cells.toArray 58)).heap.size=w.heap.size+1 from by simp]
 clear hW
 have D0:Below W.heap.size W W.drew:=N.drew
 refine wp_region_held_drew (S:=fun u=>(u.rangeAt w.heap.size 136 e.poolA.cells∧u.rangeAt w.heap.size 138 e.log.cells∧u.cell? ⟨w.heap.size,140,none⟩=some (.slice e.aT e.txs.length e.cT)∧u.cell? ⟨w.heap.size,141,none⟩=some (.slice e.aH e.holds.length e.cH)∧u.cell? ⟨w.heap.size,142,none⟩=some (.int .i64 e.next)∧u.cell? ⟨w.heap.size,143,none⟩=some (.bool e.down))) (by kernel_rfl) (HS.out _ D0) (fun hHeld=>?_)
 generalize W.drew=d0 at*
 refine tq 0 (v:=.pointer (some ⟨w.heap.size,136,none⟩)) rfl hHeld ?_
 try simp only [zz]
 refine tk 1 rfl (yieldsIf_load_mid (by rfl) _ _ rfl _ _ rfl (e.poolA.cells) _ (fun _ h=>h.1) Tryz.underlying51 rfl (pool_info _)) hHeld ?_
 try simp only [zz]
 refine tq 3 (v:=.pointer (some ⟨w.heap.size,138,none⟩)) rfl hHeld ?_
 try simp only [zz]
 refine tk 4 rfl (yieldsIf_load_mid (by rfl) _ _ rfl _ _ rfl (e.log.cells) _ (fun _ h=>h.2.1) Tryz.underlying54 rfl (log_info _)) hHeld ?_
 try simp only [zz]
 refine tq 7 (v:=.pointer (some ⟨w.heap.size,140,none⟩)) rfl hHeld ?_
 try simp only [zz]
 refine tk 8 (v:=.slice e.aT e.txs.length e.cT) rfl (Or.inl ⟨by rfl,?_⟩) hHeld ?_
 ·intro w' hSw
  have hx:=hSw.2.2.1
  go_simp<;>rfl
 try simp only [zz]
 refine tq 11 (v:=.pointer (some ⟨w.heap.size,141,none⟩)) rfl hHeld ?_
 try simp only [zz]
 refine tk 12 (v:=.slice e.aH e.holds.length e.cH) rfl (Or.inl ⟨by rfl,?_⟩) hHeld ?_
 ·intro w' hSw
  have hx:=hSw.2.2.2.1
  go_simp<;>rfl
 try simp only [zz]
 refine tq 14 (v:=.pointer (some ⟨w.heap.size,142,none⟩)) rfl hHeld ?_
 try simp only [zz]
 refine tk 15 (v:=.int .i64 e.next) rfl (Or.inl ⟨by rfl,?_⟩) hHeld ?_
 ·intro w' hSw
  have hx:=hSw.2.2.2.2.1
  go_simp<;>rfl
 try simp only [zz]
 refine tq 16 (v:=.pointer (some ⟨w.heap.size,143,none⟩)) rfl hHeld ?_
 try simp only [zz]
 refine tk 17 (v:=.bool e.down) rfl (Or.inl ⟨by rfl,?_⟩) hHeld ?_
 ·intro w' hSw
  have hx:=hSw.2.2.2.2.2
  go_simp<;>rfl
 try simp only [zz]
 clear hHeld
 refine wpAnyH_inv (I:=fun l a u=>∃ (c2 c5 c6 c9 c10 c13 c3 c18:Bool) (X2 X5 X6 X9 X10 X13 X3 X23:Value) (q:PoolA) (l':LogA) (p0 p1 l0 l1 A6 A10:Nat) (aT:Option Addr) (cT:Nat) (aH:Option Addr) (cH:Nat) (BO:Nat),
  l=#[true,true,c2,true,true,c5,c6,true,true,c9,c10,true,true,c13,true,true,true,true,c18,c3,false]∧a=⟨([.agg e.cells.toArray,.pointer (some ⟨w.heap.size,0,none⟩),.pointer (some ⟨w.heap.size+1,0,none⟩),X3,undef,.pointer (some ⟨w.heap.size,136,none⟩),.agg (e.poolA.cells).toArray,X2,.pointer (some ⟨w.heap.size,138,none⟩),.agg (e.log.cells).toArray,X5,X6,.pointer (some ⟨w.heap.size,140,none⟩),.slice e.aT e.txs.length e.cT,X9,X10,.pointer (some ⟨w.heap.size,141,none⟩),.slice e.aH e.holds.length e.cH,X13,.pointer (some ⟨w.heap.size,142,none⟩),.int .i64 e.next,.pointer (some ⟨w.heap.size,143,none⟩),.bool e.down,X23,undef,undef,undef,undef,undef,undef,undef,undef,undef,undef,undef,undef,undef]:List Value).toArray,[]⟩∧CopI e W.heap.size u c2 c5 c6 c9 c10 c13 X2 X5 X6 X9 X10 X13 q l' p0 p1 l0 l1 A6 A10 aT cT aH cH∧CopB Z e.txs.length e.holds.length W.heap.size u c3 c6 c9 c10 c13 X3 BO p0 p1 l0 l1 A6 A10 aT cT aH cH∧(c18=true→(c2 && (c5 && (c6 && (c9 && (c10 && c13)))))=true∧X23=.agg (copE e q l' aT cT aH cH).cells.toArray)∧Below W.heap.size W u)
  (stop:=fun l=>l.getD 18 false && l.getD 19 false) ?_ ?_ _ _ _ _ (by kernel_rfl) ?_
 rotate_right
 ·exact ⟨false,false,false,false,false,false,false,false,undef,undef,undef,undef,undef,undef,undef,undef,e.poolA,e.log,0,0,0,0,0,0,none,0,none,0,0,by kernel_rfl,rfl,CopI.start e _ _ _ _ _ _ _ _ D0.size,CopB.start _ _,nofun,D0⟩
 ·rintro l a u ⟨c2,c5,c6,c9,c10,c13,c3,c18,X2,X5,X6,X9,X10,X13,X3,X23,q,l',p0,p1,l0,l1,A6,A10,aT,cT,aH,cH,BO,rfl,rfl,hI,hB,h18,hN⟩ hst
  refine inv_step (fun j=>(j == 2 && !c2) || ((j == 5 && (!c5 && c2)) || ((j == 6 && !c6) || ((j == 9 && (!c9 && (c5 && c6))) || ((j == 10 && !c10) || ((j == 13 && (!c13 && (c9 && c10))) || ((j == 19 && !c3) || (j == 18 && (!c18 && (c2 && (c5 && (c6 && (c9 && (c10 && c13)))))))))))))) ?_ ?_
  ·have hval:=And.intro hI.val (fun h=>(h18 h).1)
   clear hI hB hN h18
   revert hst hval
   cases c2<;>cases c5<;>cases c6<;>cases c9<;>cases c10<;>cases c13<;>cases c3<;>cases c18<;>first | exact (fun h _=>absurd h (by decide)) | exact (fun _ h=>absurd h (by decide)) | exact (fun _ _=>by (show _=true;kernel_rfl))
  ·clear hst
   intro j hj
   simp only [Bool.or_eq_true,Bool.and_eq_true,beq_iff_eq,Bool.not_eq_true'] at hj
   rcases hj with (⟨rfl,rfl⟩ | ⟨rfl,rfl,h2⟩ | ⟨rfl,rfl⟩ | ⟨rfl,rfl,h5,h6⟩ | ⟨rfl,rfl⟩ | ⟨rfl,rfl,h9,h10⟩ | ⟨rfl,rfl⟩ | ⟨rfl,rfl,a2,a5,a6,a9,a10,a13⟩)
   ·refine wpOp_inv rfl (fun K hK=>?_)
    go_simp
    refine (l6Copy_any e.poolA u (HR.out _ hN).pool hl.pool).mono ?_
    rintro r u' ⟨t,rfl,hv,ho,hb⟩
    have hN':Below W.heap.size W u':=hN.trans (hb.mono hN.size)
    exact hK.out _ _ ⟨HS.out _ hN',true,c5,c6,c9,c10,c13,c3,c18,_,X5,X6,X9,X10,X13,X3,X23,t,l',_,_,l0,l1,A6,A10,aT,cT,aH,cH,BO,by kernel_rfl,rfl,hI.step2 rfl hv ho hb,hB.step2 hb,fun h=>absurd (h18 h).1 (by simp),hN'⟩
   ·refine wpOp_inv rfl (fun K hK=>?_)
    go_simp
    refine (l5Copy_any e.log u (HR.out _ hN).log hl.log hc.recs).mono ?_
    rintro r u' ⟨t,rfl,hv,ho,hb⟩
    have hN':Below W.heap.size W u':=hN.trans (hb.mono hN.size)
    exact hK.out _ _ ⟨HS.out _ hN',c2,true,c6,c9,c10,c13,c3,c18,X2,_,X6,X9,X10,X13,X3,X23,q,t,p0,p1,_,_,A6,A10,aT,cT,aH,cH,BO,by kernel_rfl,rfl,hI.step5 h2 rfl hv ho hb,hB.step5 hb,fun h=>absurd (h18 h).1 (by simp),hN'⟩
   ·refine wpOp_inv rfl (fun K hK=>?_)
    have hb:Below u.heap.size u (u.alloc (.cells #[] 106)):=(Below.refl _ _).alloc (Nat.le_refl _) _
    have hN':Below W.heap.size W (u.alloc (.cells #[] 106)):=hN.trans (hb.mono hN.size)
    go_simp
    exact hK.out _ _ ⟨HS.out _ hN',c2,c5,true,c9,c10,c13,c3,c18,X2,X5,_,X9,X10,X13,X3,X23,q,l',p0,p1,l0,l1,_,A10,aT,cT,aH,cH,BO,by kernel_rfl,rfl,hI.step6 rfl rfl,hB.step6 hb,fun h=>absurd (h18 h).1 (by simp),hN'⟩
   ·refine wpOp_inv rfl (fun K hK=>?_)
    obtain ⟨x1,x2,x3,x4,_,_⟩:=hI.six h6
    refine step_append_lives rfl (.tmp 11) (.tmp 13) rfl A6 (A6+1) (some ⟨A6,0,none⟩) 0 [] (by rw [x1];rfl) (x2 rfl) e.aT e.cT e.txs rfl (HR.out _ hN).txs hc.txs (by have:=hl.txs;simp only [List.length_nil];omega) (by omega) ?_
    intro a' c' ys u' hys ho hg hk
    have hyy:ys=e.txs:=hys.out
    subst hyy
    have hN':Below W.heap.size W u':=hN.grown hg hN.size (fun k hk=>by cases hk;exact x3)
    exact hK.out _ _ ⟨HS.out _ hN',c2,c5,c6,true,c10,c13,c3,c18,X2,X5,X6,_,X10,X13,X3,X23,q,l',p0,p1,l0,l1,A6,A10,a',c',aH,cH,BO,by kernel_rfl,rfl,hI.step9 h5 h6 rfl ho hg hk,hB.step9 h6 hg hk,fun h=>absurd (h18 h).1 (by simp),hN'⟩
   ·refine wpOp_inv rfl (fun K hK=>?_)
    have hb:Below u.heap.size u (u.alloc (.cells #[] 110)):=(Below.refl _ _).alloc (Nat.le_refl _) _
    have hN':Below W.heap.size W (u.alloc (.cells #[] 110)):=hN.trans (hb.mono hN.size)
    go_simp
    exact hK.out _ _ ⟨HS.out _ hN',c2,c5,c6,c9,true,c13,c3,c18,X2,X5,X6,X9,_,X13,X3,X23,q,l',p0,p1,l0,l1,A6,_,aT,cT,aH,cH,BO,by kernel_rfl,rfl,hI.step10 rfl rfl,hB.step10 hb,fun h=>absurd (h18 h).1 (by simp),hN'⟩
   ·refine wpOp_inv rfl (fun K hK=>?_)
    obtain ⟨x1,x2,x3,x4,_,_⟩:=hI.ten h10
    refine step_append_holds rfl (.tmp 15) (.tmp 17) rfl A10 (A10+1) (some ⟨A10,0,none⟩) 0 [] (by rw [x1];rfl) (x2 rfl) e.aH e.cH e.holds rfl (HR.out _ hN).holds hc.holds (by have:=hl.holds;simp only [List.length_nil];omega) (by omega) ?_
    intro a' c' ys u' hys ho hg hk
    have hyy:ys=e.holds:=hys.out
    subst hyy
    have hN':Below W.heap.size W u':=hN.grown hg hN.size (fun k hk=>by cases hk;exact x3)
    exact hK.out _ _ ⟨HS.out _ hN',c2,c5,c6,c9,c10,true,c3,c18,X2,X5,X6,X9,X10,_,X3,X23,q,l',p0,p1,l0,l1,A6,A10,aT,cT,a',c',BO,by kernel_rfl,rfl,hI.step13 h9 h10 rfl ho hg hk,hB.step13 h10 hg hk,fun h=>absurd (h18 h).1 (by simp),hN'⟩
   ·refine wpOp_inv rfl (fun K hK=>?_)
    obtain ⟨u',hu',bu,hb,_⟩:=boxes1 u Z.cells 58
    have hN':Below W.heap.size W u':=hN.trans (hb.mono hN.size)
    refine step_alloc 58 Z.cells HZ ?_
    rw [hu'.out]
    exact hK.out _ _ ⟨HS.out _ hN',c2,c5,c6,c9,c10,c13,true,c18,X2,X5,X6,X9,X10,X13,_,X23,q,l',p0,p1,l0,l1,A6,A10,aT,cT,aH,cH,_,by kernel_rfl,rfl,hI.below hb,CopB.laid hI rfl bu,h18,hN'⟩
   ·refine wpOp_inv rfl (fun K hK=>?_)
    subst a2 a5 a6 a9 a10 a13
    obtain ⟨rfl,rfl,rfl,rfl,_⟩:=hI.whole
    rw [if_pos (by rfl)]
    refine step_build 58 #[(1,.tmp 7),(2,.tmp 10),(3,.tmp 14),(4,.tmp 18),(5,.tmp 20),(6,.tmp 22)] (run_buildEC u e q l' aT cT aH cH) rfl (by simp only [List.map_toArray,List.map_cons,List.map_nil];rfl) ?_
    exact hK.out _ _ ⟨HS.out _ hN,true,true,true,true,true,true,c3,true,_,_,X6,_,X10,_,X3,_,q,l',p0,p1,l0,l1,A6,A10,aT,cT,aH,cH,BO,by kernel_rfl,rfl,hI,hB,fun _=>⟨rfl,rfl⟩,hN⟩
 rintro l a u ⟨c2,c5,c6,c9,c10,c13,c3,c18,X2,X5,X6,X9,X10,X13,X3,X23,q,l',p0,p1,l0,l1,A6,A10,aT,cT,aH,cH,BO,rfl,rfl,hI,hB,h18,hN⟩ hst
 obtain ⟨rfl,rfl⟩:c18=true∧c3=true:=by simpa using hst
 clear hst
 obtain ⟨hcs,rfl⟩:=h18 rfl
 obtain ⟨rfl,rfl,rfl,rfl,rfl,rfl⟩:c2=true∧c5=true∧c6=true∧c9=true∧c10=true∧c13=true:=by simpa using hcs
 clear h18 hcs
 obtain ⟨rfl,rfl,rfl,rfl,hv2,hv5,_⟩:=hI.whole
 have hsh:=copE_shape e q l' aT cT aH cH
 have HWH:Hid (∀ (t:EngA),t.disk.map pgv=e.disk.map pgv→(t.seats,t.aS,t.cS,t.hand,t.log,t.txs,t.aT,t.cT,t.holds,t.aH,t.cH,t.next,t.down)=(q.seats,q.a,q.c,q.hand,l',e.txs,aT,cT,e.holds,aH,cH,e.next,e.down)→t.v=e.v):=fun t h1 h2=>by
  have v2:=hv2.out
  have v5:=hv5.out
  simp only [Prod.mk.injEq] at h2
  obtain ⟨g1,g2,g3,g4,g5,g6,g7,g8,g9,g10,g11,g12,g13⟩:=h2
  simp only [PoolA.v,EngA.poolA,PoolV.mk.injEq] at v2
  simp only [EngA.v,g1,g4,g5,g6,g9,g12,g13,v2.1,v2.2,v5]
  congr 1
 obtain ⟨rfl,bu,hBl,_,_⟩:=hB.box rfl
 obtain ⟨ho,hBO⟩:=hI.eng hB
 clear hI hB hv2 hv5
 obtain ⟨u1,hu1,hw1,hs1,HT1,b1⟩:=eng_out hsh sZ bu
 have z1:=hw1.size
 have z2:=Nat.le_of_eq hs1
 have o1:(copE e q l' aT cT aH cH).own u1 W.heap.size u1.heap.size:=(ho.touch (within_touch hw1) (fun k hk hm=>hBO (by rw [← List.mem_singleton.1 hm];exact hk))).widen (Nat.le_refl _) (by omega) (Nat.le_refl _)
 have hN1:Below W.heap.size W u1:=hN.trans (hw1.below hBl (by have:=hN.size;omega))
 have hlB:BO<u1.heap.size:=b1.lt
 show wpAnyH _ _ _ _ _ 1 _ _ _
 refine wpAnyH_ready (rs:=[20]) (by kernel_rfl) (by simp) ?_
 refine AllReadyH.cons rfl (fun K hK=>?_) AllReadyH.nil
 rw [if_pos (by rfl)]
 refine wp_store_mid 58 (.tmp 3) (.tmp 23) rfl BO 0 (copE e q l' aT cT aH cH).cells.toArray rfl rfl HT1.out (by rw [List.size_toArray];exact eng_info hsh) (all_oneCell_toArray (oneE _)) ?_
 rw [hu1.out]
 refine hK.out _ _ (HS.out _ hN1) (fun hHeld=>?_)
 clear hK K hHeld
 try simp only [zz]
 refine wpAnyH_done (by kernel_rfl) ?_ _
 clear bu ho hN hw1 hs1 HT1 hu1 z1 z2 HS
 have HT0:Hid (∀ ts:List PageA,ts.map pgv=e.disk.map pgv→({ (copE e q l' aT cT aH cH) with disk:=ts }:EngA).v=e.v):=fun ts h=>HWH.out _ h rfl
 clear HWH
 generalize copE e q l' aT cT aH cH=t0 at*
 have HD8:Hid (t0.disk.length=8∧e.disk.length=8):=⟨hsh.eight,se.eight⟩
 have HFD:Hid (∀ p∈e.disk,Fit p.ss):=fun p hp s hs=>by have:=hl.disk p hp s hs;omega
 have b1':Box u1 BO (cellsPs ([]++t0.disk.drop 0)++t0.tail) 58:=b1
 clear b1
 go_wp2_with fail
 go_loopw [4] (fun i wr=>∃ (k:Nat) (ts:List PageA),k≤8∧i=.int .i64 (k:Int)∧Hid (ts.length=k∧(∀ p∈ts,p.ss.length=4)∧ts.map pgv=(e.disk.take k).map pgv)∧OwnS wr u1.heap.size wr.heap.size (slots8 ts)∧Box wr BO (cellsPs (ts++t0.disk.drop k)++t0.tail) 58∧t0.own wr W.heap.size u1.heap.size∧Below W.heap.size W wr∧u1.heap.size≤wr.heap.size) (fun i _=>8-(intOf i).toNat)
 case atStart=>exact ⟨0,[],Nat.zero_le _,rfl,⟨rfl,fun p hp=>by (simp at hp),rfl⟩,OwnS.nil _ _ _,b1',o1,hN1,Nat.le_refl _⟩
 case round=>
  obtain ⟨k,ts,hk,rfl,hts,hown,c1,ot,hnx,hsr⟩:=hrel
  clear b1' o1 hN1
  by_cases hlt:k<8
  ·have hkl:k<e.disk.length:=by rw [HD8.out.2];exact hlt
   have hkt:k<t0.disk.length:=by rw [HD8.out.1];exact hlt
   have HP4:=se.disk8.at hlt
   have HZ4:=hsh.disk8.at hlt
   have F1:=HFD.out _ (pageD_mem (k:=k) hkl)
   have R1:=(HR.out _ hnx).disk _ (pageD_mem (k:=k) hkl)
   have HTK:Hid ((e.disk.take (k+1)).map pgv=(e.disk.take k).map pgv++[pgv (e.disk.getD k zeroP)]):=by rw [Hid,List.take_succ_eq_append_getElem hkl,pageD_eq hkl,List.map_append];rfl
   have HDR:t0.disk.drop k=t0.disk.getD k zeroP::t0.disk.drop (k+1):=by rw [← pageD_eq hkt];exact List.drop_eq_getElem_cons hkt
   have rP:wr.rangeAt w.heap.size (k*17) (e.disk.getD k zeroP).cells:=by have:=EngA.page_at se (HB.out _ hnx) k hkl;rwa [pageD_eq hkl] at this
   rw [HDR] at c1
   clear HDR
   generalize e.disk.getD k zeroP=p at*
   generalize t0.disk.getD k zeroP=zp at*
   have HIp:=page_infoP p HP4
   have C1:=l3Copy_own p HP4 wr R1 F1
   have hi0:(0:Int)≤(k:Int):=by omega
   have hi8:(k:Int)<8:=by omega
   clear R1
   go_wp2_with (first | (guard_target=wpList _ _ _ (Oper.mk (some 32) _ _ _ _ _::_) _ _;refine wpList_load_mid rfl 47 (.tmp 31) rfl w.heap.size (k*17) rfl (p.cells) _ rP Tryz.underlying47 rfl HIp ?_) | fail)
   refine C1.mono ?_
   clear C1 rP
   rintro r w1 ⟨us,rfl,hv,ho1,hb1⟩
   have hu4:us.length=4:=by have:=congrArg List.length hv.out;simp only [List.length_map] at this;omega
   have s1:=hb1.size
   obtain ⟨q,hq⟩:∃ q:PageA,Hid ((⟨p.lsn,us⟩:PageA)=q):=⟨_,rfl⟩
   have hq4:q.ss.length=4:=by rw [← hq.out];exact hu4
   have oq:OwnS w1 wr.heap.size w1.heap.size q.ss:=by rw [← hq.out];exact ho1
   have HQV:Hid (pgv q=pgv p):=by rw [Hid,← hq.out];simp only [pgv];rw [hv.out]
   rw [hq.out]
   clear hq hv ho1 hu4
   replace c1:=c1.below hb1 c1.lt
   have hown1:=hown.below hb1
   replace hnx:=hnx.trans (hb1.mono hnx.size)
   replace ot:=ot.below hb1
   rw [cellsPs_app,cellsPs_cons,List.append_assoc,List.append_assoc] at c1
   obtain ⟨W2,hW2,d3,hw2,hs2⟩:=range_fill (cellsPs ts) zp.cells q.cells (cellsPs (t0.disk.drop (k+1))++t0.tail) c1 (by rw [page_len q hq4,page_len zp HZ4])
   have hl3:(cellsPs ts).length=k*17:=by rw [cellsPs_len _ hts.out.2.1,hts.out.1]
   rw [hl3] at hW2
   have HTH:Hid (w1.there BO (k*17) q.cells.toArray.size):=c1.there _ _ (by rw [List.size_toArray,page_len q hq4,List.length_append,List.length_append,hl3,page_len zp HZ4];omega)
   have s2:=hw2.size
   have d3':Box W2 BO (cellsPs ((ts++[q])++t0.disk.drop (k+1))++t0.tail) 58:=by
    rw [List.append_assoc,cellsPs_app,List.singleton_append,cellsPs_cons,List.append_assoc,List.append_assoc];exact d3
   have HOW:Hid (OwnS W2 u1.heap.size W2.heap.size (slots8 (ts++[q]))∧t0.own W2 W.heap.size u1.heap.size):=by
    refine ⟨?_,ot.touch (within_touch hw2) (fun k hk hm=>hBO (by rw [← List.mem_singleton.1 hm];exact hk))⟩
    rw [slots8_app,slots8_cons]
    have o:=(hown1.snocs oq (by omega) (by omega) (Nat.le_refl _))
    simpa [slots8] using (o.within hw2 (.inr (by omega))).widen (Nat.le_refl _) s2 (Nat.le_refl _)
   have HTS:Hid ((ts++[q]).length=k+1∧(∀ p∈ts++[q],p.ss.length=4)∧(ts++[q]).map pgv=(e.disk.take (k+1)).map pgv):=by
    refine ⟨by rw [List.length_append,hts.out.1];rfl,fun x hx=>?_,?_⟩
    ·rcases List.mem_append.1 hx with h | h
     ·exact hts.out.2.1 x h
     ·rw [List.mem_singleton.1 h];exact hq4
    ·rw [HTK.out,List.map_append,hts.out.2.2,← HQV.out];rfl
   have HN:Hid (Below W.heap.size W W2∧u1.heap.size≤W2.heap.size):=⟨hnx.trans (hw2.below hBl (by have:=hnx.size;omega)),by omega⟩
   have HIq:Hid ((Tryz.prog.info? 47).map (·.size)=some q.cells.toArray.size):=page_infoP q hq4
   have HOq:=all_oneCell_toArray (oneP q)
   have HW2:Hid (w1.setCells BO (k*17) q.cells.toArray.toList=W2):=hW2.out
   clear c1 d3 hown hown1 oq hw2 hs2 hW2 hnx hts HTK HQV hl3 hb1 ot
   go_wp2_with (first | (guard_target=wpList _ _ _ (Oper.mk none (Op.store _ (Operand.tmp 35) _) _ _ _ _::_) _ _;refine wpList_store_mid rfl 47 (.tmp 35) (.tmp 33) rfl BO (k*17) (q.cells).toArray rfl rfl HTH.out HIq.out HOq ?_) | fail)
   rw [HW2.out]
   go_roundw
   case rel=>exact ⟨k+1,ts++[q],by omega,by go_num,HTS,HOW.out.1,d3',HOW.out.2,HN.out.1,HN.out.2⟩
   case measure=>simp [intOf];omega
  ·obtain rfl:k=8:=by omega
   have hkk:¬ ((8:Nat):Int)<8:=by omega
   obtain ⟨T,hT⟩:∃ T:EngA,Hid (({ t0 with disk:=ts }:EngA)=T):=⟨_,rfl⟩
   have sT:T.shape:=by rw [← hT.out];exact ⟨hts.out.1,hts.out.2.1⟩
   have bT:Box wr BO T.cells 58:=by
    have e0:t0.disk.drop 8=[]:=List.drop_eq_nil_of_le (by rw [HD8.out.1];exact Nat.le_refl _)
    rw [e0,List.append_nil] at c1
    rw [← hT.out];exact c1
   have HV:Hid (T.v=e.v):=by rw [Hid,← hT.out];exact HT0.out ts (by rw [hts.out.2.2,← HD8.out.2,List.take_length])
   have oT:T.own wr W.heap.size wr.heap.size:=by
    rw [← hT.out]
    exact own_disk ot hown (by omega) hsr (Nat.le_refl _)
   have bR:=HBR.out _ hnx
   obtain ⟨WF,hWF,hwF,hsF,HTF,bF⟩:=eng_out sT sZ bR
   have HLF':Hid (_=_):=eng_load sT bF
   have rT:wr.rangeAt BO 0 T.cells:=Box.range [] T.cells [] (by simpa using bT)
   have HEND2:Hid (T.own WF w.heap.size WF.heap.size∧Below w.heap.size w WF):=⟨(oT.within hwF (.inr (by omega))).widen (by omega) (by omega) (Nat.le_refl _),(HEND.out _ hnx).trans (hwF.below (by omega) (by have:=hnx.size;omega))⟩
   have HI:=eng_info sT
   have HO:=all_oneCell_toArray (oneE T)
   clear hwF hsF bF oT bT bR c1 hown ot hts hT
   go_wp2_with (first | (guard_target=wpList _ _ _ (Oper.mk (some 36) _ _ _ _ _::_) _ _;refine wpList_load_mid rfl 58 (.tmp 3) rfl BO 0 rfl (T.cells) _ rT Tryz.underlying58 rfl HI ?_) | (guard_target=wpList _ _ _ (Oper.mk none (Op.store _ (Operand.tmp 2) _) _ _ _ _::_) _ _;refine wpList_store_mid rfl 58 (.tmp 2) (.tmp 36) rfl (w.heap.size+1) 0 (T.cells).toArray rfl rfl HTF.out (by rw [List.size_toArray];exact HI) HO ?_) | fail)
   rw [hWF.out]
   exact bodyPost_ret (v:=.agg T.cells.toArray) (results_one Tryz.results48 rfl HLF'.out) rfl ⟨T,rfl,sT,HV,HEND2.out.1,HEND2.out.2⟩
def callCode (e:EngV) (tx:Int):Int:=if refuseV e true≠0 then refuseV e true else if liveOf e.txs tx= -1 then 2 else 0
theorem l7Call_any (e:EngA) (tx:Int) (se:e.shape) (w:World) (re:e.reads w) (hl:e.short 1048576) (hc:e.caps):
  Calls Tryz.prog 16 #[.agg e.cells.toArray,.int .i64 tx] w fun r w'=>∃ t:EngA,r=.returned (.tuple #[.agg t.cells.toArray,.int .i64 (callCode e.v tx)])∧t.shape∧Hid (t.v=e.v)∧t.own w' w.heap.size w'.heap.size∧Below w.heap.size w w':=by
 obtain ⟨Z,hZ⟩:∃ Z,Hid (zeroE=Z):=⟨_,rfl⟩
 have sZ:Z.shape:=by rw [← hZ.out];exact zeroE_shape
 have HZ:=Tryz.zeroEng
 rw [hZ.out] at HZ
 obtain ⟨W,hW,b0,bR,hbW,hsW⟩:=boxes2 w e.cells Z.cells 58 58
 have HB:Hid (∀ u,Below W.heap.size W u→Box u w.heap.size e.cells 58):=fun u hu=>b0.below hu b0.lt
 have HBR:Hid (∀ u,Below W.heap.size W u→Box u (w.heap.size+1) Z.cells 58):=fun u hu=>bR.below hu bR.lt
 have HR:Hid (∀ u,Below W.heap.size W u→e.reads u):=fun u hu=>(re.below hbW).below hu
 have HEND:Hid (∀ u,Below W.heap.size W u→Below w.heap.size w u):=fun u hu=>hbW.trans (hu.mono hbW.size)
 have hw0:w.heap.size+1<W.heap.size:=by omega
 have N0:Below W.heap.size W W:=Below.refl _ _
 have HIe:=eng_info se
 have r0:W.rangeAt w.heap.size 0 e.cells:=Box.range [] e.cells [] (by simpa using HB.out _ N0)
 have FIN:Hid (∀ (D:EngA) (u:World),D.shape→Below W.heap.size W u→D.own u W.heap.size u.heap.size→∃ WF,Hid (u.setCells (w.heap.size+1) 0 D.cells.toArray.toList=WF)∧Hid (u.there (w.heap.size+1) 0 D.cells.toArray.size)∧Hid ((loadVar 58 ⟨w.heap.size+1,0,none⟩).run Tryz.prog WF=.ok (.agg D.cells.toArray) WF)∧Hid (D.own WF w.heap.size WF.heap.size∧Below w.heap.size w WF)):=fun D u sD hu od=>by
  obtain ⟨WF,hWF,hwF,hsF,HTF,bF⟩:=eng_out sD sZ (HBR.out u hu)
  exact ⟨WF,hWF,HTF,eng_load sD bF,(od.within hwF (.inr (by omega))).widen (by omega) (by omega) (Nat.le_refl _),(HEND.out _ hu).trans (hwF.below (by omega) (by have:=hu.size;omega))⟩
 have C:=l7Code_any e se W (HR.out _ N0) hl
 have hlT:=hl.txs
 clear b0 bR hsW
 go_enter Tryz.func16,Tryz.ntmps16
 go_upto_region 1 with (first | (guard_target=wpList _ _ _ (Oper.mk _ (Op.alloc _) _ _ _ _::_) _ _;refine alloc_of 58 Z.cells HZ ?_) | fail)
 rw [hW.out]
 clear hW
 go_wp2_with (first | (guard_target=wpList _ _ _ (Oper.mk (some 7) _ _ _ _ _::_) _ _;refine wpList_load_mid rfl 58 (.tmp 2) rfl w.heap.size 0 rfl (e.cells) _ (r0) Tryz.underlying58 rfl HIe ?_) | fail)
 refine C.mono ?_
 clear C r0
 rintro r d1 ⟨rfl,hb⟩
 have N1:Below W.heap.size W d1:=N0.trans (hb.mono N0.size)
 have z1:=N1.size
 clear hb
 have r1:d1.rangeAt w.heap.size 0 e.cells:=Box.range [] e.cells [] (by simpa using HB.out _ N1)
 by_cases hz:refuseV e.v true=0
 rotate_left
 ·have HV:Hid (callCode e.v tx=refuseV e.v true):=by rw [Hid,callCode,if_pos hz]
  have hzb:(refuseV e.v true == 0)=false:=by simpa using hz
  have C:=l7Copy_any e se d1 (HR.out _ N1) hl hc
  clear hz
  generalize refuseV e.v true=RV at*
  go_wp2_with (first | (guard_target=wpList _ _ _ (Oper.mk (some 17) _ _ _ _ _::_) _ _;refine wpList_load_mid rfl 58 (.tmp 2) rfl w.heap.size 0 rfl (e.cells) _ (r1) Tryz.underlying58 rfl HIe ?_) | fail)
  refine C.mono ?_
  clear C r1
  rintro r d2 ⟨t,rfl,st,hv,ot,hb⟩
  have N2:Below W.heap.size W d2:=N1.trans (hb.mono N1.size)
  obtain ⟨WF,hWF,HTF,HLF,HE⟩:=FIN.out t d2 st N2 (ot.widen (by omega) (Nat.le_refl _) (Nat.le_refl _))
  have HIt:=eng_info st
  have HOt:=all_oneCell_toArray (oneE t)
  clear hb ot
  go_wp2_with (first | (guard_target=wpList _ _ _ (Oper.mk none (Op.store _ (Operand.tmp 4) _) _ _ _ _::_) _ _;refine wpList_store_mid rfl 58 (.tmp 4) (.tmp 18) rfl (w.heap.size+1) 0 (t.cells).toArray rfl rfl HTF.out (by rw [List.size_toArray];exact HIt) HOt ?_) | fail)
  rw [hWF.out]
  exact bodyPost_ret (v:=.tuple #[.agg t.cells.toArray,.int .i64 RV]) (results_cell_one Tryz.results16 rfl HLF.out rfl) rfl ⟨t,by rw [HV.out],st,hv,HE.out.1,HE.out.2⟩
 have CL:=l7Live_any e se tx d1 (HR.out _ N1).txs (by omega)
 obtain ⟨L,hL⟩:∃ L,Hid (liveOf e.txs tx=L):=⟨_,rfl⟩
 have hLc:L= -1∨∃ j:Nat,L=j:=by
  rw [← hL.out]
  rcases live_cases e.txs tx with h | ⟨j,h,_⟩
  ·exact .inl h
  ·exact .inr ⟨j,h⟩
 have HV:Hid (callCode e.v tx=if L= -1 then 2 else 0):=by
  rw [Hid,callCode,if_neg (fun q=>q hz),← hL.out]
  rfl
 rw [hL.out] at CL
 rw [hz]
 clear hL hz
 rcases hLc with rfl | ⟨j,rfl⟩
 ·have HV2:Hid (callCode e.v tx=2):=by rw [Hid,HV.out,if_pos rfl]
  go_wp2_with (first | (guard_target=wpList _ _ _ (Oper.mk (some 12) _ _ _ _ _::_) _ _;refine wpList_load_mid_if (by rfl) 58 (.tmp 2) rfl w.heap.size 0 rfl (e.cells) _ (r1) Tryz.underlying58 rfl HIe ?_) | fail)
  refine CL.mono ?_
  clear CL r1
  rintro r d2 ⟨rfl,hb⟩
  have N2:Below W.heap.size W d2:=N1.trans (hb.mono N1.size)
  have z2:=hb.size
  clear hb
  have r2:d2.rangeAt w.heap.size 0 e.cells:=Box.range [] e.cells [] (by simpa using HB.out _ N2)
  have C:=l7Copy_any e se d2 (HR.out _ N2) hl hc
  go_wp2_with (first | (guard_target=wpList _ _ _ (Oper.mk (some 17) _ _ _ _ _::_) _ _;refine wpList_load_mid rfl 58 (.tmp 2) rfl w.heap.size 0 rfl (e.cells) _ (r2) Tryz.underlying58 rfl HIe ?_) | fail)
  refine C.mono ?_
  clear C r2
  rintro r d3 ⟨t,rfl,st,hv,ot,hb⟩
  have N3:Below W.heap.size W d3:=N2.trans (hb.mono N2.size)
  obtain ⟨WF,hWF,HTF,HLF,HE⟩:=FIN.out t d3 st N3 (ot.widen (by omega) (Nat.le_refl _) (Nat.le_refl _))
  have HIt:=eng_info st
  have HOt:=all_oneCell_toArray (oneE t)
  clear hb ot
  go_wp2_with (first | (guard_target=wpList _ _ _ (Oper.mk none (Op.store _ (Operand.tmp 4) _) _ _ _ _::_) _ _;refine wpList_store_mid rfl 58 (.tmp 4) (.tmp 18) rfl (w.heap.size+1) 0 (t.cells).toArray rfl rfl HTF.out (by rw [List.size_toArray];exact HIt) HOt ?_) | fail)
  rw [hWF.out]
  exact bodyPost_ret (v:=.tuple #[.agg t.cells.toArray,.int .i64 2]) (results_cell_one Tryz.results16 rfl HLF.out rfl) rfl ⟨t,by rw [HV2.out],st,hv,HE.out.1,HE.out.2⟩
 ·have HV2:Hid (callCode e.v tx=0):=by rw [Hid,HV.out,if_neg (by omega)]
  have hj:¬ (j:Int)<0:=by omega
  go_wp2_with (first | (guard_target=wpList _ _ _ (Oper.mk (some 12) _ _ _ _ _::_) _ _;refine wpList_load_mid_if (by rfl) 58 (.tmp 2) rfl w.heap.size 0 rfl (e.cells) _ (r1) Tryz.underlying58 rfl HIe ?_) | fail)
  refine CL.mono ?_
  clear CL r1
  rintro r d2 ⟨rfl,hb⟩
  have N2:Below W.heap.size W d2:=N1.trans (hb.mono N1.size)
  have z2:=hb.size
  clear hb
  have r2:d2.rangeAt w.heap.size 0 e.cells:=Box.range [] e.cells [] (by simpa using HB.out _ N2)
  have C:=l7Copy_any e se d2 (HR.out _ N2) hl hc
  go_wp2_with (first | (guard_target=wpList _ _ _ (Oper.mk (some 17) _ _ _ _ _::_) _ _;refine wpList_load_mid rfl 58 (.tmp 2) rfl w.heap.size 0 rfl (e.cells) _ (r2) Tryz.underlying58 rfl HIe ?_) | fail)
  refine C.mono ?_
  clear C r2
  rintro r d3 ⟨t,rfl,st,hv,ot,hb⟩
  have N3:Below W.heap.size W d3:=N2.trans (hb.mono N2.size)
  obtain ⟨WF,hWF,HTF,HLF,HE⟩:=FIN.out t d3 st N3 (ot.widen (by omega) (Nat.le_refl _) (Nat.le_refl _))
  have HIt:=eng_info st
  have HOt:=all_oneCell_toArray (oneE t)
  clear hb ot
  go_wp2_with (first | (guard_target=wpList _ _ _ (Oper.mk none (Op.store _ (Operand.tmp 4) _) _ _ _ _::_) _ _;refine wpList_store_mid rfl 58 (.tmp 4) (.tmp 18) rfl (w.heap.size+1) 0 (t.cells).toArray rfl rfl HTF.out (by rw [List.size_toArray];exact HIt) HOt ?_) | fail)
  rw [hWF.out]
  exact bodyPost_ret (v:=.tuple #[.agg t.cells.toArray,.int .i64 0]) (results_cell_one Tryz.results16 rfl HLF.out rfl) rfl ⟨t,by rw [HV2.out],st,hv,HE.out.1,HE.out.2⟩
end Go.Proofs.YtfehemepdoomdaaGreatDoor
namespace Go.Proofs.YtfehemepdoomdaaGreatDoor
open Go.RowKit
def commitOf (e:EngV) (tx:Int):EngV × Int:=if callCode e tx≠0 then (e,callCode e tx) else (commitV e tx,0)
theorem specCommitOf_any (e:EngA) (tx:Int) (se:e.shape) (w:World) (re:e.reads w) (hl:e.short 1048576) (hc:e.caps):
  Calls Tryz.prog 5 #[.agg e.cells.toArray,.int .i64 tx] w fun r w'=>EngOne (commitOf e.v tx) w r w':=by
 obtain ⟨Z,hZ⟩:∃ Z,Hid (zeroE=Z):=⟨_,rfl⟩
 have sZ:Z.shape:=by rw [← hZ.out];exact zeroE_shape
 have HZ:=Tryz.zeroEng
 rw [hZ.out] at HZ
 obtain ⟨W,hW,b0,bR,hbW,hsW⟩:=boxes2 w e.cells Z.cells 58 58
 have HB:Hid (∀ u,Below W.heap.size W u→Box u w.heap.size e.cells 58):=fun u hu=>b0.below hu b0.lt
 have HBR:Hid (∀ u,Below W.heap.size W u→Box u (w.heap.size+1) Z.cells 58):=fun u hu=>bR.below hu bR.lt
 have HR:Hid (∀ u,Below W.heap.size W u→e.reads u):=fun u hu=>(re.below hbW).below hu
 have HEND:Hid (∀ u,Below W.heap.size W u→Below w.heap.size w u):=fun u hu=>hbW.trans (hu.mono hbW.size)
 have hw0:w.heap.size+1<W.heap.size:=by omega
 have N0:Below W.heap.size W W:=Below.refl _ _
 have HIe:=eng_info se
 have r0:W.rangeAt w.heap.size 0 e.cells:=Box.range [] e.cells [] (by simpa using HB.out _ N0)
 have FIN:Hid (∀ (D:EngA) (u:World),D.shape→Below W.heap.size W u→D.own u W.heap.size u.heap.size→∃ WF,Hid (u.setCells (w.heap.size+1) 0 D.cells.toArray.toList=WF)∧Hid (u.there (w.heap.size+1) 0 D.cells.toArray.size)∧Hid ((loadVar 58 ⟨w.heap.size+1,0,none⟩).run Tryz.prog WF=.ok (.agg D.cells.toArray) WF)∧Hid (D.own WF w.heap.size WF.heap.size∧Below w.heap.size w WF)):=fun D u sD hu od=>by
  obtain ⟨WF,hWF,hwF,hsF,HTF,bF⟩:=eng_out sD sZ (HBR.out u hu)
  exact ⟨WF,hWF,HTF,eng_load sD bF,(od.within hwF (.inr (by omega))).widen (by omega) (by omega) (Nat.le_refl _),(HEND.out _ hu).trans (hwF.below (by omega) (by have:=hu.size;omega))⟩
 have C:=l7Call_any e tx se W (HR.out _ N0) hl hc
 have hlT:=hl.txs
 have hlH:=hl.holds
 have hlL:=hl.log.len
 clear b0 bR hsW
 go_enter Tryz.func5,Tryz.ntmps5
 go_upto_region 1 with (first | (guard_target=wpList _ _ _ (Oper.mk _ (Op.alloc _) _ _ _ _::_) _ _;refine alloc_of 58 Z.cells HZ ?_) | fail)
 rw [hW.out]
 clear hW
 go_wp2_with (first | (guard_target=wpList _ _ _ (Oper.mk (some 9) _ _ _ _ _::_) _ _;refine wpList_load_mid rfl 58 (.tmp 2) rfl w.heap.size 0 rfl (e.cells) _ (r0) Tryz.underlying58 rfl HIe ?_) | fail)
 refine C.mono ?_
 clear C r0
 rintro r d1 ⟨t,rfl,st,hv,ot,hb⟩
 have N1:Below W.heap.size W d1:=N0.trans (hb.mono N0.size)
 have z1:=N1.size
 obtain ⟨Zd,hZd,bZ,hbZ,hsZ⟩:=boxes1 d1 Z.cells 58
 obtain ⟨d2,hd2,hw2,hs2,HT2,b5⟩:=eng_out st sZ bZ
 have hb2:Below d1.heap.size d1 d2:=hbZ.trans (hw2.below (Nat.le_refl _) (by omega))
 have N2:Below W.heap.size W d2:=N1.trans (hb2.mono N1.size)
 have z2:=b5.lt
 have ot2:=ot.below hb2
 have HIt:=eng_info st
 have HOt:=all_oneCell_toArray (oneE t)
 have hv':t.v=e.v:=hv.out
 have HTL:Hid (t.txs=e.txs∧t.log.recs.length=e.log.recs.length∧t.holds=e.holds):=⟨congrArg EngV.txs hv',by
  have h1:=congrArg (fun x:EngV=>x.log.recs.length) hv'
  simpa [EngA.v,LogA.v] using h1,congrArg EngV.holds hv'⟩
 clear hv' bZ hbZ hsZ hw2 hs2 hb2 hb ot
 by_cases hz:callCode e.v tx=0
 rotate_left
 ·have HV:Hid (commitOf e.v tx=(e.v,callCode e.v tx)):=by rw [Hid,commitOf,if_pos hz]
  have hzb:(callCode e.v tx == 0)=false:=by simpa using hz
  obtain ⟨WF,hWF,HTF,HLF,HE⟩:=FIN.out t d2 st N2 (ot2.widen (Nat.le_refl _) (by omega) (Nat.le_refl _))
  have r3:d2.rangeAt d1.heap.size 0 t.cells:=Box.range [] t.cells [] (by simpa using b5)
  generalize callCode e.v tx=RV at*
  clear ot2 b5 HTL hz
  go_wp2_with (first | (guard_target=wpList _ _ _ (Oper.mk _ (Op.alloc _) _ _ _ _::_) _ _;refine alloc_of 58 Z.cells HZ ?_) | (guard_target=wpList _ _ _ (Oper.mk none (Op.store _ (Operand.tmp 6) _) _ _ _ _::_) _ _;refine wpList_store_mid rfl 58 (.tmp 6) (.tmp 12) rfl d1.heap.size 0 (t.cells).toArray rfl rfl (by rw [hZd.out];exact HT2.out) (by rw [List.size_toArray];exact HIt) HOt ?_) | (guard_target=wpList _ _ _ (Oper.mk (some 18) _ _ _ _ _::_) _ _;refine wpList_load_mid rfl 58 (.tmp 6) rfl d1.heap.size 0 rfl (t.cells) _ (by rw [hZd.out,hd2.out];exact r3) Tryz.underlying58 rfl HIt ?_) | (guard_target=wpList _ _ _ (Oper.mk none (Op.store _ (Operand.tmp 4) _) _ _ _ _::_) _ _;refine wpList_store_mid rfl 58 (.tmp 4) (.tmp 18) rfl (w.heap.size+1) 0 (t.cells).toArray rfl rfl (by rw [hZd.out,hd2.out];exact HTF.out) (by rw [List.size_toArray];exact HIt) HOt ?_) | fail)
  rw [hZd.out,hd2.out,hWF.out]
  exact bodyPost_ret (v:=.tuple #[.agg t.cells.toArray,.int .i64 RV]) (results_cell_one Tryz.results5 rfl HLF.out rfl) rfl ⟨t,by rw [HV.out],st,by rw [HV.out];exact hv,HE.out.1,HE.out.2⟩
 have HV:Hid (commitOf e.v tx=(commitV e.v tx,0)):=by rw [Hid,commitOf,if_neg (fun q=>q hz)]
 have HVT:Hid (t.v=e.v):=hv.out
 rw [hz]
 clear hz hv
 have a2:EngAt d2 d1.heap.size t:=⟨b5,st,ot2.widen (Nat.zero_le _) (by omega) (Nat.le_refl _),fun hk=>by have:=(ot2.blocks_lt _ hk).2;omega⟩
 have C:=l7Commit_any d1.heap.size t tx d2 a2 (by rw [HTL.out.2.1];omega) (by rw [HTL.out.1];omega) (by rw [HTL.out.2.2];omega)
 go_wp2_with (first | (guard_target=wpList _ _ _ (Oper.mk _ (Op.alloc _) _ _ _ _::_) _ _;refine alloc_of 58 Z.cells HZ ?_) | (guard_target=wpList _ _ _ (Oper.mk none (Op.store _ (Operand.tmp 6) _) _ _ _ _::_) _ _;refine wpList_store_mid rfl 58 (.tmp 6) (.tmp 12) rfl d1.heap.size 0 (t.cells).toArray rfl rfl (by rw [hZd.out];exact HT2.out) (by rw [List.size_toArray];exact HIt) HOt ?_) | fail)
 rw [hZd.out,hd2.out]
 clear hZd hd2 HT2
 refine C.mono ?_
 clear C a2 b5
 rintro r d4 ⟨⟨v4,rfl⟩,D,hvD,s4⟩
 have z4:=s4.size
 have hbl:=ot2.blocks_lt
 have sD:=s4.at'.shape
 have oD:D.own d4 W.heap.size d4.heap.size:=EngA.own.raise s4.at'.own (fun k hk=>(s4.fresh k hk).elim (fun q=>(hbl k q).1) (fun q=>by omega))
 have N4:Below W.heap.size W d4:=N2.trans ⟨s4.touch.os,s4.touch.tape,s4.touch.output,s4.touch.size,fun k hk=>s4.touch.block k (by have:=N2.size;omega) (fun hq=>by
  rcases List.mem_cons.1 hq with q | q
  ·omega
  ·have:=(hbl k q).1;omega)⟩
 have r4:d4.rangeAt d1.heap.size 0 D.cells:=Box.range [] D.cells [] (by simpa using s4.at'.box)
 obtain ⟨WF,hWF,HTF,HLF,HE⟩:=FIN.out D d4 sD N4 oD
 have HVD:Hid (D.v=(commitOf e.v tx).1):=by rw [Hid,HV.out,hvD.out,HVT.out]
 have HID:=eng_info sD
 have HOD:=all_oneCell_toArray (oneE D)
 clear oD s4 ot2
 go_wp2_with (first | (guard_target=wpList _ _ _ (Oper.mk (some 18) _ _ _ _ _::_) _ _;refine wpList_load_mid rfl 58 (.tmp 6) rfl d1.heap.size 0 rfl (D.cells) _ (r4) Tryz.underlying58 rfl HID ?_) | (guard_target=wpList _ _ _ (Oper.mk none (Op.store _ (Operand.tmp 4) _) _ _ _ _::_) _ _;refine wpList_store_mid rfl 58 (.tmp 4) (.tmp 18) rfl (w.heap.size+1) 0 (D.cells).toArray rfl rfl HTF.out (by rw [List.size_toArray];exact HID) HOD ?_) | fail)
 rw [hWF.out]
 exact bodyPost_ret (v:=.tuple #[.agg D.cells.toArray,.int .i64 0]) (results_cell_one Tryz.results5 rfl HLF.out rfl) rfl ⟨D,by rw [HV.out],sD,HVD,HE.out.1,HE.out.2⟩
end Go.Proofs.YtfehemepdoomdaaGreatDoor