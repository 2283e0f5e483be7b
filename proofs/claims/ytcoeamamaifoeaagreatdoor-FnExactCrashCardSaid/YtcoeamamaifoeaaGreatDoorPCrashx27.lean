/- Several texts in one, in their order. -/
import Derived.Test.YtcoeamamaifoeaaGreatDoorPCrashx20
import Derived.Test.YtcoeamamaifoeaaGreatDoorPCrashx5
import Derived.Test.YtcoeamamaifoeaaGreatDoorPCrashx7
import Derived.BigQuiet
import Derived.Test.YtcoeamamaifoeaaGreatDoorPCrashx1
set_option maxHeartbeats 8000000
set_option maxRecDepth 100000
namespace Go.Proofs.YtcoeamamaifoeaaGreatDoor
open Go.RowKit
theorem seatB_v (s:SeatA):seatB s.v=(inB s.no 0 7 && okP s.lsn (s.ss.map (·.v))):=rfl
theorem specPoolOk_any (p:PoolA) (w:World) (hr:p.reads w) (hl:p.short 1099511627776):
  Calls Tryz.prog 51 #[.agg p.cells.toArray] w fun e w'=>e=.returned (.bool (okPool p.v))∧Below w.heap.size w w':=by
 have HLEN:Hid (¬ p.seats.length≤3→okPool p.v=false):=fun h=>okPool_long (by simpa [PoolA.v] using h)
 have HHAND:Hid (inB p.hand 0 2=false→okPool p.v=false):=fun h=>okPool_hand h
 have HNO:Hid (∀ k,k<p.seats.length→seatB (p.seats.getD k zeroSt).v=false→okPool p.v=false):=fun k hk h=>okPool_no k (by simpa [PoolA.v] using hk) (fresh_bad (by rw [PoolA.v,seatV_at];exact h))
 have HDUP:Hid (∀ k j,k<p.seats.length→j<k→(p.seats.getD j zeroSt).no=(p.seats.getD k zeroSt).no→okPool p.v=false):=fun k j hk hj h=>okPool_no k (by simpa [PoolA.v] using hk) (fresh_dup hj (by simpa [PoolA.v] using hk) (by rw [PoolA.v,seatV_at,seatV_at];exact h))
 have HALL:Hid (p.seats.length≤3→inB p.hand 0 2=true→(∀ k,k<p.seats.length→seatB (p.seats.getD k zeroSt).v=true∧∀ j,j<k→(p.seats.getD j zeroSt).no≠(p.seats.getD k zeroSt).no)→okPool p.v=true):=fun h0 h1 h=>okPool_yes (by simpa [PoolA.v] using h0) h1 (fun k hk=>by
  have hk':k<p.seats.length:=by simpa [PoolA.v] using hk
  refine fresh_yes hk (by rw [PoolA.v,seatV_at];exact (h k hk').1) (fun j hj=>?_)
  rw [PoolA.v,seatV_at,seatV_at]
  exact (h k hk').2 j hj)
 generalize okPool p.v=R at*
 have HS:Hid (∀ k,k<p.seats.length→(p.seats.getD k zeroSt).short 1099511627776):=fun k hk=>hl.at k hk
 have hlen:=hl.len
 obtain ⟨rs,s,a,c⟩:=p
 simp only [PoolA.reads,PoolA.cells] at*
 obtain ⟨W,hW,b0,hbW,hsW⟩:=boxes1 w [.slice a rs.length c,.int .i64 s] 51
 have c0:=b0.cell 0 _ rfl
 have c1:=b0.cell 1 _ rfl
 clear hl hsW
 have HC:Hid (∀ k,k<rs.length→∃ b off,a=some ⟨b,off,none⟩∧(∀ j,j<rs.length→W.rangeAt b (off+j*20) (rs.getD j zeroSt).cells)∧(rs.getD k zeroSt).reads W):=fun k hk=>by
  obtain ⟨b,off,ha,hc⟩:=(ReadsSts.below hr hbW) (by intro e;rw [e] at hk;simp at hk)
  exact ⟨b,off,ha,fun j hj=>(hc j hj).1,(hc k hk).2⟩
 clear hr
 by_cases h4:rs.length≤3
 case neg=>
  have HR:Hid (R=false):=HLEN.out h4
  clear HLEN HHAND HNO HALL HDUP
  go_enter Tryz.func51,Tryz.ntmps51
  go_wp2_with fail
  rw [hW.out]
  go_ret
  exact ⟨ret_bool HR.out.symm,hbW⟩
 case pos=>
  cases h5:inB s 0 2 with
  | false=>
   have HR:Hid (R=false):=HHAND.out h5
   clear HLEN HHAND HNO HALL HDUP
   have C:=l1In_any s 0 2 W
   rw [h5] at C
   clear h5
   go_enter Tryz.func51,Tryz.ntmps51
   go_wp2_with fail
   rw [hW.out]
   refine C.mono ?_
   rintro e u ⟨rfl,hu⟩
   rw [hu]
   clear hu u
   go_wp2
   go_ret
   exact ⟨ret_bool HR.out.symm,hbW⟩
  | true=>
   have HALL2:=HALL.out h4 h5
   have HALL3:Hid _:=HALL2
   have C:=l1In_any s 0 2 W
   rw [h5] at C
   clear h5 HALL2 HALL HLEN HHAND
   go_enter Tryz.func51,Tryz.ntmps51
   go_wp2_with fail
   rw [hW.out]
   refine C.mono ?_
   rintro e u ⟨rfl,hu⟩
   rw [hu]
   clear hu u hW C
   go_wp2_with fail
   go_loopw [3,4] (fun i _ wr=>∃ k:Nat,k≤rs.length∧i=.int .i64 k∧Hid (∀ m,m<k→seatB (rs.getD m zeroSt).v=true∧∀ j,j<m→(rs.getD j zeroSt).no≠(rs.getD m zeroSt).no)∧Below W.heap.size W wr) (fun i _ _=>rs.length-(intOf i).toNat)
   case atStart=>exact ⟨0,Nat.zero_le _,rfl,fun j hj=>by omega,Below.refl _ _⟩
   case round=>
    obtain ⟨k,hk,rfl,hall,hbl⟩:=hrel
    have hbm:Below w.heap.size w wr:=hbW.trans (hbl.mono hbW.size)
    have HP:Hid (∀ u,Below W.heap.size W u→u.cell? ⟨w.heap.size,0,none⟩=some (.slice a rs.length c)):=fun u hu=>(hu.cell (block_lt c0)).trans c0
    have r0:=HP.out wr hbl
    clear c0 c1
    by_cases hlt:k<rs.length
    ·obtain ⟨b,off,rfl,hcell,hrd⟩:=HC.out k hlt
     have HCL:Hid (∀ u,Below W.heap.size W u→∀ j,j<rs.length→u.rangeAt b (off+j*20) (rs.getD j zeroSt).cells):=fun u hu j hj=>rangeSt_below (hcell j hj) hu
     have hyr:=HCL.out wr hbl k hlt
     have x0:wr.cell? ⟨b,off+k*20,none⟩=some (.int .i64 (rs.getD k zeroSt).no):=hyr 0 _ rfl
     have HPG:Hid (wr.rangeAt b (off+k*20+1) (rs.getD k zeroSt).page.cells):=by
      intro j v hj
      have hjl:=(List.getElem?_eq_some_iff.1 hj).1
      have:=hyr (1+j) v (by rw [SeatA.cells_page,Nat.add_comm,List.getElem?_cons_succ,List.getElem?_append_left hjl];exact hj)
      rw [show off+k*20+1+j=off+k*20+(1+j) by omega]
      exact this
     have HIP:=(by show _=some 17;kernel_rfl:(Tryz.prog.info? 47).map (·.size)=some (rs.getD k zeroSt).page.cells.length)
     have C:=specPageOk_any (rs.getD k zeroSt).page rfl wr (hrd.below hbl) (HS.out k hlt)
     have CI:=l1In_any (rs.getD k zeroSt).no 0 7 wr
     have HN:Hid (seatB (rs.getD k zeroSt).v=false→R=false):=HNO.out k hlt
     have HD:Hid (∀ j,j<k→(rs.getD j zeroSt).no=(rs.getD k zeroSt).no→R=false):=fun j hj h=>HDUP.out k j hlt hj h
     have HY:Hid (seatB (rs.getD k zeroSt).v=true→(∀ j,j<k→(rs.getD j zeroSt).no≠(rs.getD k zeroSt).no)→∀ m,m<k+1→seatB (rs.getD m zeroSt).v=true∧∀ j,j<m→(rs.getD j zeroSt).no≠(rs.getD m zeroSt).no):=fun h h' m hm=>by
      by_cases e:m=k
      ·rw [e];exact ⟨h,h'⟩
      ·exact hall.out m (by omega)
     have hkk:(k:Int)<(rs.length:Int):=by omega
     have hk0:(0:Int)≤(k:Int):=by omega
     have HX0:Hid (∀ u,Below W.heap.size W u→∀ j,j<rs.length→u.cell? ⟨b,off+j*20,none⟩=some (.int .i64 (rs.getD j zeroSt).no)):=fun u hu j hj=>HCL.out u hu j hj 0 _ rfl
     have e1:PageA.cells (rs.getD k zeroSt).page=(rs.getD k zeroSt).page.cells:=rfl
     rw [seatB_v] at HN HY
     have e2:(rs.getD k zeroSt).page.lsn=(rs.getD k zeroSt).lsn:=rfl
     have e3:(rs.getD k zeroSt).page.ss=(rs.getD k zeroSt).ss:=rfl
     rw [e2,e3] at C
     clear hcell HC HNO HDUP hall HS hrd hyr HCL e1 e2 e3
     generalize hy:rs.getD k zeroSt=y at*
     have HYE:Hid (rs.getD k zeroSt=y):=hy
     clear hy
     cases h6:inB y.no 0 7 with
     | false=>
      have HR2:Hid (R=false):=HN.out (by rw [h6];rfl)
      rw [h6] at CI
      clear HN HY HD C h6
      go_wp2_with fail
      refine CI.mono ?_
      rintro e u ⟨rfl,hu⟩
      rw [hu]
      clear hu u CI
      go_wp2_with fail
      go_ret
      exact ⟨ret_bool HR2.out.symm,hbm⟩
     | true=>
      rw [h6,Bool.true_and] at HN HY
      rw [h6] at CI
      clear h6
      cases h7:okP y.lsn (y.ss.map (·.v)) with
      | false=>
       have HR2:Hid (R=false):=HN.out h7
       rw [h7] at C
       clear HN HY HD h7
       generalize y.page.cells=pc at*
       go_wp2_with fail
       refine CI.mono ?_
       rintro e u ⟨rfl,hu⟩
       rw [hu]
       clear hu u CI
       go_wp2_with (first | (guard_target=wpList _ _ _ (Oper.mk (some 36) _ _ _ _ _::_) _ _;refine wpList_load_mid_if (by rfl) 47 (.tmp 35) rfl b (off+k*20+1) rfl pc _ HPG.out Tryz.underlying47 rfl HIP ?_) | fail)
       refine C.mono ?_
       rintro e w1 ⟨rfl,hb1⟩
       go_wp2_with fail
       go_ret
       exact ⟨ret_bool HR2.out.symm,hbm.trans (hb1.mono hbm.size)⟩
      | true=>
       have HY2:=HY.out h7
       have HY3:Hid _:=HY2
       rw [h7] at C
       clear HN HY h7 HY2
       generalize y.page.cells=pc at*
       go_wp2_with fail
       refine CI.mono ?_
       rintro e u ⟨rfl,hu⟩
       rw [hu]
       clear hu u CI
       go_wp2_with (first | (guard_target=wpList _ _ _ (Oper.mk (some 36) _ _ _ _ _::_) _ _;refine wpList_load_mid_if (by rfl) 47 (.tmp 35) rfl b (off+k*20+1) rfl pc _ HPG.out Tryz.underlying47 rfl HIP ?_) | fail)
       refine C.mono ?_
       rintro e w1 ⟨rfl,hb1⟩
       have hbl1:Below W.heap.size W w1:=hbl.trans (hb1.mono hbl.size)
       clear C hb1 x0 r0 HPG HIP hbl hbm
       have HZK:Hid (∀ u,Below W.heap.size W u→u.cell? ⟨b,off+k*20,none⟩=some (.int .i64 y.no)):=fun u hu=>by rw [← HYE.out];exact HX0.out u hu k hlt
       generalize y.no=zk at*
       go_wp2_with fail
       go_loopw [4] (fun i wr=>∃ j:Nat,j≤k∧i=.int .i64 j∧Hid (∀ m,m<j→(rs.getD m zeroSt).no≠zk)∧Below W.heap.size W wr) (fun i _=>k-(intOf i).toNat)
       case atStart=>exact ⟨0,Nat.zero_le _,rfl,fun j hj=>by omega,hbl1⟩
       case round=>
        obtain ⟨j,hj,rfl,hal,hbl2⟩:=hrel
        have hbm2:Below w.heap.size w wr:=hbW.trans (hbl2.mono hbW.size)
        by_cases hjk:j<k
        ·have hjl:j<rs.length:=by omega
         have hjj:(j:Int)<(rs.length:Int):=by omega
         have hj0:(0:Int)≤(j:Int):=by omega
         have r1:=HP.out wr hbl2
         have y0:=HZK.out wr hbl2
         have y1:=HX0.out wr hbl2 j hjl
         have HD2:Hid ((rs.getD j zeroSt).no=zk→R=false):=HD.out j hjk
         have HN2:Hid ((rs.getD j zeroSt).no≠zk→∀ m,m<j+1→(rs.getD m zeroSt).no≠zk):=fun h m hm=>by
          by_cases e:m=j
          ·rw [e];exact h
          ·exact hal.out m (by omega)
         clear HD hal hbl1
         generalize (rs.getD j zeroSt).no=zj at*
         by_cases hq:zj=zk
         ·have HR2:Hid (R=false):=HD2.out hq
          have hqb:(zj == zk)=true:=by simpa using hq
          clear hq HD2 HN2
          go_wp2_with fail
          go_quiet (fail)
          go_wp2_with fail
          go_ret
          exact ⟨ret_bool HR2.out.symm,below_drewN hbm2 _⟩
         ·have HN3:=HN2.out hq
          have HN4:Hid _:=HN3
          have hqb:(zj == zk)=false:=by simpa using hq
          clear hq HD2 HN2 HN3
          go_wp2_with fail
          go_quiet (fail)
          go_wp2_with fail
          go_roundw
          case rel=>exact ⟨j+1,by omega,by go_num,HN4,below_drewN hbl2 _⟩
          case measure=>simp [intOf];omega
        ·have HAL:Hid (∀ m,m<k→(rs.getD m zeroSt).no≠zk):=fun m hm=>hal.out m (by omega)
         have HZ:=HY3.out HAL.out
         have HZ2:Hid _:=HZ
         clear HZ HY3 HAL hal HD
         go_wp2_with fail
         go_roundw
         case rel=>exact ⟨k+1,by omega,by go_num,HZ2,hbl2⟩
         case measure=>simp [intOf];omega
    ·have HE:Hid (true=R):=(HALL3.out (fun m hm=>hall.out m (by omega))).symm
     clear hall HALL3
     go_wp2
     go_ret
     exact ⟨ret_bool HE.out,hbm⟩
end Go.Proofs.YtcoeamamaifoeaaGreatDoor