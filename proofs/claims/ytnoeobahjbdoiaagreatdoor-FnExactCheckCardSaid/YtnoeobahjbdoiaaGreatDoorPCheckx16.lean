/- Several texts in one, in their order. -/
import Derived.Test.YtnoeobahjbdoiaaGreatDoorPCheckx15
import Derived.Test.YtnoeobahjbdoiaaGreatDoorPCheckx5
import Derived.Test.YtnoeobahjbdoiaaGreatDoorPCheckx12
import Derived.Test.YtnoeobahjbdoiaaGreatDoorPCheckx9
import Derived.Deep.CutRange
import Derived.Deep.RegionLaw
import Derived.Test.YtnoeobahjbdoiaaGreatDoorPCheckx8
import Derived.Test.YtnoeobahjbdoiaaGreatDoorPCheckx14
import Derived.Test.YtnoeobahjbdoiaaGreatDoorPCheckx4
import Derived.Deep.Cut
import Derived.Test.YtnoeobahjbdoiaaGreatDoorPCheckx10
import Derived.Test.YtnoeobahjbdoiaaGreatDoorPCheckx11
import Derived.Test.YtnoeobahjbdoiaaGreatDoorPCheckx1
set_option maxHeartbeats 8000000
set_option maxRecDepth 100000
namespace Go.Proofs.YtnoeobahjbdoiaaGreatDoor
open Go.RowKit
def partAt (e:EngV) (i:Nat):Bool:=inB (e.holds.getD i zeroH).oid 1 31 && decide (0≤liveOf e.txs (e.holds.getD i zeroH).tx)
theorem hold_no {e:EngV} {k:Nat} (hk:k<e.holds.length) (h:partAt e k=false):holdsB e=false:=by
 refine all_no k hk ?_
 unfold partAt at h
 unfold holdAt
 rw [← Bool.and_assoc,h,Bool.false_and]
theorem hold_yes {e:EngV} (h:∀ k,k<e.holds.length→partAt e k=true):holdsB e=decide ((claimsTo e.holds e.holds.length).length=e.holds.length):=by
 have hh:∀ k,k<e.holds.length→holdAt e k=freshH e.holds k:=fun k hk=>by
  have:=h k hk
  unfold partAt at this
  unfold holdAt
  rw [← Bool.and_assoc,this,Bool.true_and]
 by_cases q:(claimsTo e.holds e.holds.length).length=e.holds.length
 ·rw [decide_eq_true q]
  refine all_yes fun k hk=>?_
  rw [hh k hk]
  exact all_yes fun j hj=>decide_eq_true ((claims_len _ _).1 q k hk j hj)
 ·rw [decide_eq_false q]
  by_cases r:holdsB e=true
  ·exact absurd ((claims_len _ _).2 fun i hi j hj=>by
    have h1:=all_at r i hi
    rw [hh i hi] at h1
    exact of_decide_eq_true (all_at h1 j hj)) q
  ·simpa using r
theorem holdsOk_any (e:EngA) (se:e.shape) (w:World) (re:e.reads w) (hl:e.short 1048576):
  Calls Tryz.prog 161 #[.agg e.cells.toArray] w fun r w'=>r=.returned (.bool (holdsB e.v))∧Below w.heap.size w w':=by
 have HNO:Hid (∀ k,k<e.holds.length→partAt e.v k=false→holdsB e.v=false):=fun k hk h=>hold_no hk h
 have HYES:Hid ((∀ k,k<e.holds.length→partAt e.v k=true)→holdsB e.v=decide ((claimsTo e.holds e.holds.length).length=e.holds.length)):=fun h=>hold_yes h
 have HPA:Hid (∀ k,partAt e.v k=(inB (e.holds.getD k zeroH).oid 1 31 && decide (0≤liveOf e.txs (e.holds.getD k zeroH).tx))):=fun k=>rfl
 obtain ⟨RB,hRB⟩:∃ RB,holdsB e.v=RB:=⟨_,rfl⟩
 rw [hRB] at HNO HYES ⊢
 clear hRB
 have hlt:=hl.txs
 have hlh:=hl.holds
 obtain ⟨W,hW,b0,hbW,hsW⟩:=boxes1 w e.cells 59
 have HB:Hid (∀ u,Below W.heap.size W u→Box u w.heap.size e.cells 59):=fun u hu=>b0.below hu b0.lt
 have HR:Hid (∀ u,Below W.heap.size W u→e.reads u):=fun u hu=>(re.below hbW).below hu
 have HEND:Hid (∀ u,Below W.heap.size W u→Below w.heap.size w u):=fun u hu=>hbW.trans (hu.mono hbW.size)
 have hw0:w.heap.size<W.heap.size:=by omega
 have N:Below W.heap.size W W:=Below.refl _ _
 clear b0 hsW
 obtain ⟨_,_,_,_,p4,_,_⟩:=eng_parts se (HB.out W N)
 clear hl re
 go_enter Tryz.func161,Tryz.ntmps161
 go_upto_region 1 with fail
 rw [hW.out]
 clear hW
 go_wp2_with fail
 clear p4
 go_loopw [8] (fun i wr=>∃ k:Nat,k≤e.holds.length∧i=.int .i64 (k:Int)∧Hid (∀ j,j<k→partAt e.v j=true)∧Below W.heap.size W wr) (fun i _=>e.holds.length-(intOf i).toNat)
 case atStart=>exact ⟨0,Nat.zero_le _,rfl,fun j hj=>by omega,N⟩
 case round=>
  obtain ⟨k,hk,rfl,hall,hbr⟩:=hrel
  clear N
  have hsr:=hbr.size
  by_cases hlt2:k<e.holds.length
  ·obtain ⟨b,off,ha,hc⟩:=(HR.out _ hbr).holds (by intro e0;rw [e0] at hlt2;simp at hlt2)
   obtain ⟨c0,c1⟩:=hc k hlt2
   have HPK:Hid (_=_):=HPA.out k
   have HNK:Hid (_→_):=HNO.out k hlt2
   rw [ha]
   clear hc ha
   generalize e.holds.getD k zeroH=t at*
   obtain ⟨V,hV,bV,hbV,hsV⟩:=boxes1 wr [.int .i64 t.tx,.int .i64 t.oid] 132
   have nV:Below W.heap.size W V:=hbr.trans (hbV.mono hbr.size)
   have x1:=bV.cell 1 _ rfl
   have x0:=bV.cell 0 _ rfl
   obtain ⟨_,_,_,p3,_,_,_⟩:=eng_parts se (HB.out _ nV)
   have C2:=isUnderWay_any e.aT e.cT e.txs t.tx V (HR.out _ nV).txs (by omega)
   have hkl:(k:Int)<(e.holds.length:Int):=by omega
   have hk0:(0:Int)≤(k:Int):=by omega
   clear hbV hsV bV
   go_upto_region 4 with fail
   rw [hV.out]
   clear hV c0 c1
   go_wp2_with fail
   refine (oidOk_any _ _).mono ?_
   rintro r w1 ⟨rfl,rfl⟩
   obtain ⟨bA,hA⟩:∃ bA,Hid (inB t.oid 1 31=bA):=⟨_,rfl⟩
   rw [hA.out]
   cases bA with
   | false=>
    have HE:Hid (RB=false∧Below w.heap.size w w1):=⟨HNK.out (by rw [HPK.out,hA.out];rfl),HEND.out _ nV⟩
    clear C2
    go_wp2
    go_ret
    exact ⟨ret_bool HE.out.1.symm,HE.out.2⟩
   | true=>
    go_wp2_with fail
    refine C2.mono ?_
    clear C2 p3 x0 x1
    rintro r w2 ⟨rfl,hb2⟩
    have n2:Below W.heap.size W w2:=nV.trans (hb2.mono nV.size)
    clear hb2 nV
    obtain ⟨bB,hB⟩:∃ bB,Hid (decide (0≤liveOf e.txs t.tx)=bB):=⟨_,rfl⟩
    rw [hB.out]
    cases bB with
    | false=>
     have HE:Hid (RB=false∧Below w.heap.size w w2):=⟨HNK.out (by rw [HPK.out,hA.out,hB.out];rfl),HEND.out _ n2⟩
     go_wp2
     go_ret
     exact ⟨ret_bool HE.out.1.symm,HE.out.2⟩
    | true=>
     have HK:Hid (∀ j,j<k+1→partAt e.v j=true):=fun j hj=>by
      by_cases q:j=k
      ·rw [q,HPK.out,hA.out,hB.out];rfl
      ·exact hall.out j (by omega)
     go_wp2_with fail
     go_roundw
     case rel=>exact ⟨k+1,by omega,by go_num,HK,n2⟩
     case measure=>simp [intOf];omega
  ·have e1:k=e.holds.length:=by omega
   have HRB:Hid (RB=_):=HYES.out (by rw [e1] at hall;exact hall.out)
   have hge:¬ (k:Int)<(e.holds.length:Int):=by omega
   clear hall e1
   go_upto_region 7 with fail
   have HS:Hid (∀ u,Below wr.heap.size wr u→u.cell? ⟨w.heap.size,141,none⟩=some (.slice e.aH e.holds.length e.cH)):=fun u hu=>by
    obtain ⟨_,_,_,_,q4,_,_⟩:=eng_parts se (HB.out u (hbr.trans (hu.mono hbr.size)))
    exact q4
   have D0:Below wr.heap.size wr wr.drew:=(Below.refl _ _).drew
   have N2:Below W.heap.size W wr.drew:=hbr.trans (D0.mono hbr.size)
   have hle:(claimsTo e.holds e.holds.length).length≤e.holds.length:=claims_len_le _ _
   obtain ⟨bA,hA⟩:∃ bA,Hid ((((claimsTo e.holds e.holds.length).length:Int) == (e.holds.length:Int))=bA):=⟨_,rfl⟩
   have HRA:Hid (RB=bA):=HRB.out.trans (by rw [← hA.out];exact Bool.eq_iff_iff.2 (by rw [decide_eq_true_iff,beq_iff_eq];omega))
   have HCC:Hid (∀ u,Below W.heap.size W u→Calls Tryz.prog 106 #[.slice e.aH e.holds.length e.cH] u fun r w'=>r=.returned (.map (some u.heap.size))∧MapAt w' u.heap.size (claimsTo e.holds e.holds.length)∧Below u.heap.size u w'):=fun u hu=>claimsOf_any e.aH e.cH e.holds u (HR.out _ hu).holds (by omega)
   clear HRB hge HYES HNO HPA
   generalize hcl:claimsTo e.holds e.holds.length=cl at*
   clear hcl
   refine wp_region_held_drew (S:=fun u=>u.cell? ⟨w.heap.size,141,none⟩=some (.slice e.aH e.holds.length e.cH)) (by kernel_rfl) (HS.out _ D0) (fun hHeld=>?_)
   generalize wr.drew=d0 at*
   refine tq 0 (v:=.pointer (some ⟨w.heap.size,141,none⟩)) rfl hHeld ?_
   try simp only [zz]
   refine tk 1 (v:=.slice e.aH e.holds.length e.cH) rfl (Or.inl ⟨by rfl,?_⟩) hHeld ?_
   ·intro w' hSw
    have hx:=hSw
    go_simp<;>rfl
   try simp only [zz]
   refine tq 4 (v:=.pointer (some ⟨w.heap.size,141,none⟩)) rfl hHeld ?_
   try simp only [zz]
   refine tk 5 (v:=.slice e.aH e.holds.length e.cH) rfl (Or.inl ⟨by rfl,?_⟩) hHeld ?_
   ·intro w' hSw
    have hx:=hSw
    go_simp<;>rfl
   try simp only [zz]
   refine tq 6 (v:=.int .i64 (e.holds.length:Int)) rfl hHeld ?_
   try simp only [zz]
   refine wpAnyH_ready (rs:=[2]) (by kernel_rfl) (by simp) ?_
   refine AllReadyH.cons rfl (fun K hK=>?_) AllReadyH.nil
   go_simp
   refine (HCC.out _ N2).mono ?_
   rintro r d1 ⟨rfl,hm1,hb1⟩
   have D1:Below wr.heap.size wr d1:=D0.trans (hb1.mono D0.size)
   have N3:Below W.heap.size W d1:=hbr.trans (D1.mono hbr.size)
   refine hK.out _ _ (HS.out _ D1) (fun hHeld=>?_)
   clear hK K hb1
   try simp only [zz]
   refine wpAnyH_ready (rs:=[3]) (by kernel_rfl) (by simp) ?_
   refine AllReadyH.cons rfl (fun K hK=>?_) AllReadyH.nil
   have hlen:=run_len_c hm1
   go_simp
   refine hK.out _ _ (HS.out _ D1) (fun hHeld=>?_)
   clear hK K 
   try simp only [zz]
   refine tk 7 (v:=.bool bA) rfl (Or.inl ⟨by rfl,?_⟩) hHeld ?_
   ·intro w' hSw
    have hx:=hA.out
    go_simp<;>rfl
   try simp only [zz]
   refine tq 8 (v:=.bool bA) rfl hHeld ?_
   try simp only [zz]
   refine wpAnyH_done (by kernel_rfl) ?_ _
   clear hHeld
   have HE:Hid (RB=bA∧Below w.heap.size w d1):=⟨HRA.out,HEND.out _ N3⟩
   go_wp2
   go_ret
   exact ⟨ret_bool HE.out.1.symm,HE.out.2⟩
theorem implEngineOk_any (e:EngA) (se:e.shape) (w:World) (hg:ErrT w) (re:e.reads w) (hl:e.short 1048576):
  Calls Tryz.prog 100 #[.agg e.cells.toArray] w fun r w'=>r=.returned (.bool (okEng e.v))∧Below w.heap.size w w':=by
 have HOK:Hid (okEng e.v=(okLog e.log.v && (okPool e.poolA.v && (inB e.next 1 1001 && (okTxs e.v && (nextB e.v && (diskB e.v && (seatsB e.v && (!e.down || bareB e.v))))))))):=rfl
 have HTX:Hid (okTxs e.v=(txsB e.v && (holdsB e.v && decide (e.txs.length≤6)))):=rfl
 have HNO:Hid (okPool e.poolA.v=true→∀ k,k<e.seats.length→∃ n:Nat,(e.seats.getD k zeroSt).no=n∧n<8):=fun h k hk=>by
  obtain ⟨n,h1,h2⟩:=seat_no (e:=e.v) h k (by simpa [EngA.v] using hk)
  exact ⟨n,by rw [← h1];show _=(e.v.seats.getD k zeroStV).no;rw [show e.v.seats.getD k zeroStV=(e.seats.getD k zeroSt).v from seatV_at e.seats k];rfl,h2⟩
 have CB:=fun u=>isBare_any e se u
 have CD:=fun u (hu:ErrT u) (hr:e.reads u)=>diskOk_any e se u hu hr hl
 have CS:=fun u (hr:e.reads u) h=>seatsOk_any e se u hr hl h
 have CN:=fun u (hr:e.reads u)=>nextOk_any e se u hr hl
 have CT:=fun u (hr:e.reads u) h=>txsOk_any e se u hr hl h
 have CH:=fun u (hr:e.reads u)=>holdsOk_any e se u hr hl
 have HLP:Hid (e.poolA.short 1099511627776):=PoolA.short_wide hl.pool
 have HLL:Hid (e.log.short 1099511627776):=LogA.short_wide hl.log
 obtain ⟨ROK,hROK⟩:∃ b,okEng e.v=b:=⟨_,rfl⟩
 rw [hROK] at HOK ⊢
 clear hROK
 have HI:=eng_info se
 obtain ⟨W,hW,b0,hbW,hsW⟩:=boxes1 w e.cells 59
 have HB:Hid (∀ u,Below W.heap.size W u→Box u w.heap.size e.cells 59):=fun u hu=>b0.below hu b0.lt
 have HR:Hid (∀ u,Below W.heap.size W u→e.reads u):=fun u hu=>(re.below hbW).below hu
 have HEND:Hid (∀ u,Below W.heap.size W u→Below w.heap.size w u):=fun u hu=>hbW.trans (hu.mono hbW.size)
 have hw0:w.heap.size<W.heap.size:=by omega
 have N:Below W.heap.size W W:=Below.refl _ _
 clear b0 hsW
 have HG:Hid (∀ u,Below W.heap.size W u→ErrT u):=fun u hu=>hg.keep (HEND.out u hu)
 have HPE:Hid (∀ u,Below W.heap.size W u→u.rangeAt w.heap.size 0 e.cells):=fun u hu=>Box.range [] e.cells [] (by simpa using HB.out u hu)
 clear re hl hg
 have p1:=(eng_parts se (HB.out W N)).2.1
 have C1:=implPoolOk_any e.poolA W (HG.out W N) (HR.out W N).pool HLP.out
 go_enter Tryz.func100,Tryz.ntmps100
 go_upto_region 1 with fail
 rw [hW.out]
 clear hW
 go_wp2_with (first | (guard_target=wpList _ _ _ (Oper.mk (some 4) _ _ _ _ _::_) _ _;refine wpList_load_mid rfl 52 (.tmp 3) rfl w.heap.size 136 rfl (e.poolA.cells) _ p1 Tryz.underlying52 rfl (pool_info _) ?_) | fail)
 refine C1.mono ?_
 clear C1 p1
 rintro r w1 ⟨rfl,hb⟩
 replace N:=N.trans (hb.mono N.size)
 clear hb
 obtain ⟨vP,hP⟩:∃ b,Hid (okPool e.poolA.v=b):=⟨_,rfl⟩
 rw [hP.out] at HOK ⊢
 cases vP with
 | false=>
  have HE:Hid (ROK=false∧Below w.heap.size w w1):=⟨by rw [HOK.out];simp,HEND.out _ N⟩
  go_wp2
  go_ret
  exact ⟨ret_bool HE.out.1.symm,HE.out.2⟩
 | true=>
  have p2:=(eng_parts se (HB.out _ N)).2.2.1
  have C2:=implLogOk_any e.log w1 (HG.out _ N) (HR.out _ N).log HLL.out
  go_wp2_with (first | (guard_target=wpList _ _ _ (Oper.mk (some 9) _ _ _ _ _::_) _ _;refine wpList_load_mid_if (by rfl) 55 (.tmp 8) rfl w.heap.size 138 rfl (e.log.cells) _ p2 Tryz.underlying55 rfl (log_info _) ?_) | fail)
  refine C2.mono ?_
  clear C2 p2
  rintro r w2 ⟨rfl,hb⟩
  replace N:=N.trans (hb.mono N.size)
  clear hb
  obtain ⟨vL,hL⟩:∃ b,Hid (okLog e.log.v=b):=⟨_,rfl⟩
  rw [hL.out] at HOK ⊢
  cases vL with
  | false=>
   have HE:Hid (ROK=false∧Below w.heap.size w w2):=⟨by rw [HOK.out];simp,HEND.out _ N⟩
   go_wp2
   go_ret
   exact ⟨ret_bool HE.out.1.symm,HE.out.2⟩
  | true=>
   have p6:=(eng_parts se (HB.out _ N)).2.2.2.2.2.2
   have pe:=HPE.out _ N
   obtain ⟨vD,hD⟩:∃ b,Hid (e.down=b):=⟨_,rfl⟩
   rw [hD.out] at HOK p6
   have HL:Hid (okLog e.log.v=true):=hL.out
   have HP:Hid (okPool e.poolA.v=true):=hP.out
   clear hL hP
   cases vD with
   | false=>
    have HOK2:Hid (ROK=(inB e.next 1 1001 && (okTxs e.v && (nextB e.v && (diskB e.v && seatsB e.v))))):=by rw [Hid,HOK.out];simp
    clear HOK CB
    have C3:=CD w2 (HG.out _ N) (HR.out _ N)
    go_upto_region 3 with fail
    clear p6
    go_wp2_with (first | (guard_target=wpList _ _ _ (Oper.mk (some 22) _ _ _ _ _::_) _ _;refine wpList_load_mid rfl 59 (.tmp 1) rfl w.heap.size 0 rfl (e.cells) _ pe Tryz.underlying59 rfl HI ?_) | fail)
    refine C3.mono ?_
    clear C3 pe
    rintro r x0 ⟨rfl,hb⟩
    replace N:=N.trans (hb.mono N.size)
    clear hb
    obtain ⟨v1,hv1⟩:∃ b,Hid (diskB e.v=b):=⟨_,rfl⟩
    rw [hv1.out]
    cases v1 with
    | false=>
     have HE:Hid (ROK=false∧Below w.heap.size w x0):=⟨by
      rw [HOK2.out,HTX.out]
      have q:=hv1.out
      generalize inB e.next 1 1001=a1 at*
      generalize diskB e.v=a2 at*
      generalize seatsB e.v=a3 at*
      generalize nextB e.v=a4 at*
      generalize decide (e.txs.length≤6)=a5 at*
      generalize txsB e.v=a6 at*
      generalize holdsB e.v=a7 at*
      revert q
      cases a1<;>cases a2<;>cases a3<;>cases a4<;>cases a5<;>cases a6<;>cases a7<;>decide,HEND.out _ N⟩
     go_wp2
     go_ret
     exact ⟨ret_bool HE.out.1.symm,HE.out.2⟩
    | true=>
     have pe:=HPE.out _ N
     have C3:=CS _ (HR.out _ N) (HNO.out HP.out)
     go_wp2_with (first | (guard_target=wpList _ _ _ (Oper.mk (some 25) _ _ _ _ _::_) _ _;refine wpList_load_mid_if (by rfl) 59 (.tmp 1) rfl w.heap.size 0 rfl (e.cells) _ pe Tryz.underlying59 rfl HI ?_) | fail)
     refine C3.mono ?_
     clear C3 pe
     rintro r x1 ⟨rfl,hb⟩
     replace N:=N.trans (hb.mono N.size)
     clear hb
     obtain ⟨v2,hv2⟩:∃ b,Hid (seatsB e.v=b):=⟨_,rfl⟩
     rw [hv2.out]
     cases v2 with
     | false=>
      have HE:Hid (ROK=false∧Below w.heap.size w x1):=⟨by
       rw [HOK2.out,HTX.out]
       have q:=hv2.out
       generalize inB e.next 1 1001=a1 at*
       generalize diskB e.v=a2 at*
       generalize seatsB e.v=a3 at*
       generalize nextB e.v=a4 at*
       generalize decide (e.txs.length≤6)=a5 at*
       generalize txsB e.v=a6 at*
       generalize holdsB e.v=a7 at*
       revert q
       cases a1<;>cases a2<;>cases a3<;>cases a4<;>cases a5<;>cases a6<;>cases a7<;>decide,HEND.out _ N⟩
      go_wp2
      go_ret
      exact ⟨ret_bool HE.out.1.symm,HE.out.2⟩
     | true=>
      have pe:=HPE.out _ N
      have C3:=CN _ (HR.out _ N)
      go_wp2_with (first | (guard_target=wpList _ _ _ (Oper.mk (some 29) _ _ _ _ _::_) _ _;refine wpList_load_mid_if (by rfl) 59 (.tmp 1) rfl w.heap.size 0 rfl (e.cells) _ pe Tryz.underlying59 rfl HI ?_) | fail)
      refine C3.mono ?_
      clear C3 pe
      rintro r x2 ⟨rfl,hb⟩
      replace N:=N.trans (hb.mono N.size)
      clear hb
      obtain ⟨v3,hv3⟩:∃ b,Hid ((nextB e.v && inB e.next 1 1001)=b):=⟨_,rfl⟩
      rw [hv3.out]
      cases v3 with
      | false=>
       have HE:Hid (ROK=false∧Below w.heap.size w x2):=⟨by
        rw [HOK2.out,HTX.out]
        have q:=hv3.out
        generalize inB e.next 1 1001=a1 at*
        generalize diskB e.v=a2 at*
        generalize seatsB e.v=a3 at*
        generalize nextB e.v=a4 at*
        generalize decide (e.txs.length≤6)=a5 at*
        generalize txsB e.v=a6 at*
        generalize holdsB e.v=a7 at*
        revert q
        cases a1<;>cases a2<;>cases a3<;>cases a4<;>cases a5<;>cases a6<;>cases a7<;>decide,HEND.out _ N⟩
       go_wp2
       go_ret
       exact ⟨ret_bool HE.out.1.symm,HE.out.2⟩
      | true=>
       have pe:=HPE.out _ N
       have C3:=CT _ (HR.out _ N) HL.out
       go_wp2_with (first | (guard_target=wpList _ _ _ (Oper.mk (some 33) _ _ _ _ _::_) _ _;refine wpList_load_mid_if (by rfl) 59 (.tmp 1) rfl w.heap.size 0 rfl (e.cells) _ pe Tryz.underlying59 rfl HI ?_) | fail)
       refine C3.mono ?_
       clear C3 pe
       rintro r x3 ⟨rfl,hb⟩
       replace N:=N.trans (hb.mono N.size)
       clear hb
       obtain ⟨v4,hv4⟩:∃ b,Hid ((decide (e.txs.length≤6) && txsB e.v)=b):=⟨_,rfl⟩
       rw [hv4.out]
       cases v4 with
       | false=>
        have HE:Hid (ROK=false∧Below w.heap.size w x3):=⟨by
         rw [HOK2.out,HTX.out]
         have q:=hv4.out
         generalize inB e.next 1 1001=a1 at*
         generalize diskB e.v=a2 at*
         generalize seatsB e.v=a3 at*
         generalize nextB e.v=a4 at*
         generalize decide (e.txs.length≤6)=a5 at*
         generalize txsB e.v=a6 at*
         generalize holdsB e.v=a7 at*
         revert q
         cases a1<;>cases a2<;>cases a3<;>cases a4<;>cases a5<;>cases a6<;>cases a7<;>decide,HEND.out _ N⟩
        go_wp2
        go_ret
        exact ⟨ret_bool HE.out.1.symm,HE.out.2⟩
       | true=>
        have pe:=HPE.out _ N
        have C3:=CH _ (HR.out _ N)
        go_wp2_with (first | (guard_target=wpList _ _ _ (Oper.mk (some 37) _ _ _ _ _::_) _ _;refine wpList_load_mid_if (by rfl) 59 (.tmp 1) rfl w.heap.size 0 rfl (e.cells) _ pe Tryz.underlying59 rfl HI ?_) | fail)
        refine C3.mono ?_
        clear C3 pe
        rintro r x4 ⟨rfl,hb⟩
        replace N:=N.trans (hb.mono N.size)
        clear hb
        obtain ⟨v5,hv5⟩:∃ b,Hid (holdsB e.v=b):=⟨_,rfl⟩
        rw [hv5.out]
        cases v5 with
        | false=>
         have HE:Hid (ROK=false∧Below w.heap.size w x4):=⟨by
          rw [HOK2.out,HTX.out]
          have q:=hv5.out
          generalize inB e.next 1 1001=a1 at*
          generalize diskB e.v=a2 at*
          generalize seatsB e.v=a3 at*
          generalize nextB e.v=a4 at*
          generalize decide (e.txs.length≤6)=a5 at*
          generalize txsB e.v=a6 at*
          generalize holdsB e.v=a7 at*
          revert q
          cases a1<;>cases a2<;>cases a3<;>cases a4<;>cases a5<;>cases a6<;>cases a7<;>decide,HEND.out _ N⟩
         go_wp2
         go_ret
         exact ⟨ret_bool HE.out.1.symm,HE.out.2⟩
        | true=>
         have HE:Hid (ROK=true∧Below w.heap.size w x4):=⟨by
          have q1:=hv1.out
          have q2:=hv2.out
          have q3:=hv3.out
          have q4:=hv4.out
          have q5:=hv5.out
          rw [Bool.and_eq_true] at q3 q4
          rw [HOK2.out,HTX.out,q1,q2,q3.1,q3.2,q4.1,q4.2,q5];rfl,HEND.out _ N⟩
         go_wp2
         go_ret
         exact ⟨ret_bool HE.out.1.symm,HE.out.2⟩
   | true=>
    have C0:=CB w2
    go_wp2_with (first | (guard_target=wpList _ _ _ (Oper.mk (some 17) _ _ _ _ _::_) _ _;refine wpList_load_mid_if (by rfl) 59 (.tmp 1) rfl w.heap.size 0 rfl (e.cells) _ pe Tryz.underlying59 rfl HI ?_) | fail)
    refine C0.mono ?_
    clear C0 CB p6 pe
    rintro r w3 ⟨rfl,hb⟩
    replace N:=N.trans (hb.mono N.size)
    clear hb
    obtain ⟨vB,hB⟩:∃ b,Hid (bareB e.v=b):=⟨_,rfl⟩
    rw [hB.out] at HOK ⊢
    cases vB with
    | false=>
     have HE:Hid (ROK=false∧Below w.heap.size w w3):=⟨by rw [HOK.out];simp,HEND.out _ N⟩
     go_wp2
     go_ret
     exact ⟨ret_bool HE.out.1.symm,HE.out.2⟩
    | true=>
     have HOK2:Hid (ROK=(inB e.next 1 1001 && (okTxs e.v && (nextB e.v && (diskB e.v && seatsB e.v))))):=by rw [Hid,HOK.out];simp
     clear HOK
     have pe:=HPE.out _ N
     have C3:=CD w3 (HG.out _ N) (HR.out _ N)
     go_upto_region 3 with fail
     go_wp2_with (first | (guard_target=wpList _ _ _ (Oper.mk (some 22) _ _ _ _ _::_) _ _;refine wpList_load_mid rfl 59 (.tmp 1) rfl w.heap.size 0 rfl (e.cells) _ pe Tryz.underlying59 rfl HI ?_) | fail)
     refine C3.mono ?_
     clear C3 pe
     rintro r x0 ⟨rfl,hb⟩
     replace N:=N.trans (hb.mono N.size)
     clear hb
     obtain ⟨v1,hv1⟩:∃ b,Hid (diskB e.v=b):=⟨_,rfl⟩
     rw [hv1.out]
     cases v1 with
     | false=>
      have HE:Hid (ROK=false∧Below w.heap.size w x0):=⟨by
       rw [HOK2.out,HTX.out]
       have q:=hv1.out
       generalize inB e.next 1 1001=a1 at*
       generalize diskB e.v=a2 at*
       generalize seatsB e.v=a3 at*
       generalize nextB e.v=a4 at*
       generalize decide (e.txs.length≤6)=a5 at*
       generalize txsB e.v=a6 at*
       generalize holdsB e.v=a7 at*
       revert q
       cases a1<;>cases a2<;>cases a3<;>cases a4<;>cases a5<;>cases a6<;>cases a7<;>decide,HEND.out _ N⟩
      go_wp2
      go_ret
      exact ⟨ret_bool HE.out.1.symm,HE.out.2⟩
     | true=>
      have pe:=HPE.out _ N
      have C3:=CS _ (HR.out _ N) (HNO.out HP.out)
      go_wp2_with (first | (guard_target=wpList _ _ _ (Oper.mk (some 25) _ _ _ _ _::_) _ _;refine wpList_load_mid_if (by rfl) 59 (.tmp 1) rfl w.heap.size 0 rfl (e.cells) _ pe Tryz.underlying59 rfl HI ?_) | fail)
      refine C3.mono ?_
      clear C3 pe
      rintro r x1 ⟨rfl,hb⟩
      replace N:=N.trans (hb.mono N.size)
      clear hb
      obtain ⟨v2,hv2⟩:∃ b,Hid (seatsB e.v=b):=⟨_,rfl⟩
      rw [hv2.out]
      cases v2 with
      | false=>
       have HE:Hid (ROK=false∧Below w.heap.size w x1):=⟨by
        rw [HOK2.out,HTX.out]
        have q:=hv2.out
        generalize inB e.next 1 1001=a1 at*
        generalize diskB e.v=a2 at*
        generalize seatsB e.v=a3 at*
        generalize nextB e.v=a4 at*
        generalize decide (e.txs.length≤6)=a5 at*
        generalize txsB e.v=a6 at*
        generalize holdsB e.v=a7 at*
        revert q
        cases a1<;>cases a2<;>cases a3<;>cases a4<;>cases a5<;>cases a6<;>cases a7<;>decide,HEND.out _ N⟩
       go_wp2
       go_ret
       exact ⟨ret_bool HE.out.1.symm,HE.out.2⟩
      | true=>
       have pe:=HPE.out _ N
       have C3:=CN _ (HR.out _ N)
       go_wp2_with (first | (guard_target=wpList _ _ _ (Oper.mk (some 29) _ _ _ _ _::_) _ _;refine wpList_load_mid_if (by rfl) 59 (.tmp 1) rfl w.heap.size 0 rfl (e.cells) _ pe Tryz.underlying59 rfl HI ?_) | fail)
       refine C3.mono ?_
       clear C3 pe
       rintro r x2 ⟨rfl,hb⟩
       replace N:=N.trans (hb.mono N.size)
       clear hb
       obtain ⟨v3,hv3⟩:∃ b,Hid ((nextB e.v && inB e.next 1 1001)=b):=⟨_,rfl⟩
       rw [hv3.out]
       cases v3 with
       | false=>
        have HE:Hid (ROK=false∧Below w.heap.size w x2):=⟨by
         rw [HOK2.out,HTX.out]
         have q:=hv3.out
         generalize inB e.next 1 1001=a1 at*
         generalize diskB e.v=a2 at*
         generalize seatsB e.v=a3 at*
         generalize nextB e.v=a4 at*
         generalize decide (e.txs.length≤6)=a5 at*
         generalize txsB e.v=a6 at*
         generalize holdsB e.v=a7 at*
         revert q
         cases a1<;>cases a2<;>cases a3<;>cases a4<;>cases a5<;>cases a6<;>cases a7<;>decide,HEND.out _ N⟩
        go_wp2
        go_ret
        exact ⟨ret_bool HE.out.1.symm,HE.out.2⟩
       | true=>
        have pe:=HPE.out _ N
        have C3:=CT _ (HR.out _ N) HL.out
        go_wp2_with (first | (guard_target=wpList _ _ _ (Oper.mk (some 33) _ _ _ _ _::_) _ _;refine wpList_load_mid_if (by rfl) 59 (.tmp 1) rfl w.heap.size 0 rfl (e.cells) _ pe Tryz.underlying59 rfl HI ?_) | fail)
        refine C3.mono ?_
        clear C3 pe
        rintro r x3 ⟨rfl,hb⟩
        replace N:=N.trans (hb.mono N.size)
        clear hb
        obtain ⟨v4,hv4⟩:∃ b,Hid ((decide (e.txs.length≤6) && txsB e.v)=b):=⟨_,rfl⟩
        rw [hv4.out]
        cases v4 with
        | false=>
         have HE:Hid (ROK=false∧Below w.heap.size w x3):=⟨by
          rw [HOK2.out,HTX.out]
          have q:=hv4.out
          generalize inB e.next 1 1001=a1 at*
          generalize diskB e.v=a2 at*
          generalize seatsB e.v=a3 at*
          generalize nextB e.v=a4 at*
          generalize decide (e.txs.length≤6)=a5 at*
          generalize txsB e.v=a6 at*
          generalize holdsB e.v=a7 at*
          revert q
          cases a1<;>cases a2<;>cases a3<;>cases a4<;>cases a5<;>cases a6<;>cases a7<;>decide,HEND.out _ N⟩
         go_wp2
         go_ret
         exact ⟨ret_bool HE.out.1.symm,HE.out.2⟩
        | true=>
         have pe:=HPE.out _ N
         have C3:=CH _ (HR.out _ N)
         go_wp2_with (first | (guard_target=wpList _ _ _ (Oper.mk (some 37) _ _ _ _ _::_) _ _;refine wpList_load_mid_if (by rfl) 59 (.tmp 1) rfl w.heap.size 0 rfl (e.cells) _ pe Tryz.underlying59 rfl HI ?_) | fail)
         refine C3.mono ?_
         clear C3 pe
         rintro r x4 ⟨rfl,hb⟩
         replace N:=N.trans (hb.mono N.size)
         clear hb
         obtain ⟨v5,hv5⟩:∃ b,Hid (holdsB e.v=b):=⟨_,rfl⟩
         rw [hv5.out]
         cases v5 with
         | false=>
          have HE:Hid (ROK=false∧Below w.heap.size w x4):=⟨by
           rw [HOK2.out,HTX.out]
           have q:=hv5.out
           generalize inB e.next 1 1001=a1 at*
           generalize diskB e.v=a2 at*
           generalize seatsB e.v=a3 at*
           generalize nextB e.v=a4 at*
           generalize decide (e.txs.length≤6)=a5 at*
           generalize txsB e.v=a6 at*
           generalize holdsB e.v=a7 at*
           revert q
           cases a1<;>cases a2<;>cases a3<;>cases a4<;>cases a5<;>cases a6<;>cases a7<;>decide,HEND.out _ N⟩
          go_wp2
          go_ret
          exact ⟨ret_bool HE.out.1.symm,HE.out.2⟩
         | true=>
          have HE:Hid (ROK=true∧Below w.heap.size w x4):=⟨by
           have q1:=hv1.out
           have q2:=hv2.out
           have q3:=hv3.out
           have q4:=hv4.out
           have q5:=hv5.out
           rw [Bool.and_eq_true] at q3 q4
           rw [HOK2.out,HTX.out,q1,q2,q3.1,q3.2,q4.1,q4.2,q5];rfl,HEND.out _ N⟩
          go_wp2
          go_ret
          exact ⟨ret_bool HE.out.1.symm,HE.out.2⟩
def refuseV (e:EngV) (asked:Bool):Int:=if okEng e && (!e.down && asked) then (if 3800<e.log.recs.length then 4 else 0) else 1
theorem refusal_any (e:EngA) (asked:Bool) (se:e.shape) (w:World) (hg:ErrT w) (re:e.reads w) (hl:e.short 1048576):
  Calls Tryz.prog 47 #[.agg e.cells.toArray,.bool asked] w fun r w'=>r=.returned (.int .i64 (refuseV e.v asked))∧Below w.heap.size w w':=by
 have HV:Hid (refuseV e.v asked=if okEng e.v && (!e.down && asked) then (if 3800<e.log.recs.length then 4 else 0) else 1):=by
  rw [Hid]
  unfold refuseV
  rw [show e.v.log.recs.length=e.log.recs.length by simp [EngA.v,LogA.v]]
  rfl
 generalize refuseV e.v asked=RV at*
 have CE:=fun u (hu:ErrT u) (hr:e.reads u)=>implEngineOk_any e se u hu hr hl
 have hrl:e.log.recs.length≤1048576:=hl.log.len
 have HI:=eng_info se
 obtain ⟨W,hW,b0,hbW,hsW⟩:=boxes1 w e.cells 59
 have HB:Hid (∀ u,Below W.heap.size W u→Box u w.heap.size e.cells 59):=fun u hu=>b0.below hu b0.lt
 have HR:Hid (∀ u,Below W.heap.size W u→e.reads u):=fun u hu=>(re.below hbW).below hu
 have HEND:Hid (∀ u,Below W.heap.size W u→Below w.heap.size w u):=fun u hu=>hbW.trans (hu.mono hbW.size)
 have hw0:w.heap.size<W.heap.size:=by omega
 have N:Below W.heap.size W W:=Below.refl _ _
 clear b0 hsW
 have HG:Hid (∀ u,Below W.heap.size W u→ErrT u):=fun u hu=>hg.keep (HEND.out u hu)
 have pe:W.rangeAt w.heap.size 0 e.cells:=Box.range [] e.cells [] (by simpa using HB.out W N)
 clear re hl hg
 have C1:=CE W (HG.out W N) (HR.out W N)
 clear CE
 go_enter Tryz.func47,Tryz.ntmps47
 go_wp2_with (first | (guard_target=wpList _ _ _ (Oper.mk (some 6) _ _ _ _ _::_) _ _;refine wpList_load_mid rfl 59 (.tmp 2) rfl w.heap.size 0 rfl (e.cells) _ (by rw [hW.out];exact pe) Tryz.underlying59 rfl HI ?_) | fail)
 rw [hW.out]
 clear hW pe
 refine C1.mono ?_
 clear C1
 rintro r w1 ⟨rfl,hb⟩
 replace N:=N.trans (hb.mono N.size)
 clear hb
 have p2:=(eng_parts se (HB.out _ N)).2.2.1
 have l0:w1.cell? ⟨w.heap.size,138,none⟩=some (.slice e.log.a e.log.recs.length e.log.c):=p2 0 _ rfl
 have p6:=(eng_parts se (HB.out _ N)).2.2.2.2.2.2
 have HE:Hid (Below w.heap.size w w1):=HEND.out _ N
 obtain ⟨vO,hO⟩:∃ b,Hid (okEng e.v=b):=⟨_,rfl⟩
 obtain ⟨vD,hD⟩:∃ b,Hid (e.down=b):=⟨_,rfl⟩
 rw [hO.out,hD.out] at HV
 rw [hD.out] at p6
 rw [hO.out]
 clear p2 hO hD
 cases vO with
 | false=>
  have HF:Hid (RV=1):=HV.out.trans rfl
  go_wp2
  go_ret
  exact ⟨ret_int HF.out.symm,HE.out⟩
 | true=>
  cases vD with
  | true=>
   have HF:Hid (RV=1):=HV.out.trans rfl
   go_wp2
   go_ret
   exact ⟨ret_int HF.out.symm,HE.out⟩
  | false=>
   cases asked with
   | false=>
    have HF:Hid (RV=1):=HV.out.trans rfl
    go_wp2
    go_ret
    exact ⟨ret_int HF.out.symm,HE.out⟩
   | true=>
    by_cases hx:3800<e.log.recs.length
    ·have hxi:(3800:Int)<(e.log.recs.length:Int):=by omega
     have HF:Hid (RV=4):=HV.out.trans (if_pos hx)
     clear hx
     go_wp2
     go_ret
     exact ⟨ret_int HF.out.symm,HE.out⟩
    ·have hxi:¬ (3800:Int)<(e.log.recs.length:Int):=by omega
     have HF:Hid (RV=0):=HV.out.trans (if_neg hx)
     clear hx
     go_wp2
     go_ret
     exact ⟨ret_int HF.out.symm,HE.out⟩
theorem Within.touch1 {B:Nat} {w w':World} (h:Within B (B+1) w w'):Touch [B] w w':=⟨h.os,h.tape,h.output,h.size,fun k hk hn=>h.block k hk (fun hh=>hn (List.mem_singleton.2 (by omega)))⟩
def RecA.at (r:RecA) (n:Int):RecA:={ r with lsn:=n }
theorem at_v (r:RecA) (n:Int):(r.at n).v=lsnR r.v n:=rfl
theorem short_at {r:RecA} {m:Nat} (h:r.short m) (n:Int):(r.at n).short m:=⟨h.bf,h.af,h.txs⟩
theorem rec_set {w:World} {B:Nat} {q:RecA} (b:Box w B q.cells 135) (n:Int):∃ W,Hid (w.setCell ⟨B,0,none⟩ (.int .i64 n)=W)∧Box W B (q.at n).cells 135∧Within B (B+1) w W∧W.heap.size=w.heap.size:=by
 obtain ⟨W,hW,bW,hw,hs⟩:=box_set b 0 (.int .i64 n)
 exact ⟨W,hW,bW,hw,hs⟩
theorem okEng_holds {e:EngV} (h:okEng e=true):ClaimsOk (claimsTo e.holds e.holds.length) e.holds:=by
 have h1:holdsB e=true:=by
  unfold okEng okTxs at h
  simp only [Bool.and_eq_true] at h
  exact h.2.2.2.1.2.1
 have hat:∀ i,i<e.holds.length→holdAt e i=true:=fun i hi=>List.all_eq_true.1 h1 i (List.mem_range.2 hi)
 refine claimsTo_ok (fun i hi j hj=>?_) (fun x hx=>?_)
 ·have:=hat i hi
  unfold holdAt freshH at this
  simp only [Bool.and_eq_true] at this
  have:=List.all_eq_true.1 this.2.2 j (List.mem_range.2 hj)
  simpa using this
 ·obtain ⟨i,hi,rfl⟩:=List.mem_iff_getElem.1 hx
  have:=hat i hi
  unfold holdAt at this
  simp only [Bool.and_eq_true] at this
  have h2:=this.1
  have e1:e.holds.getD i zeroH=e.holds[i]:=by simp [List.getD,hi]
  rw [e1] at h2
  simpa [inB] using h2
theorem okEng_next1 {e:EngV} (h:okEng e=true):1≤e.next∧e.next≤1001:=by
 unfold okEng at h
 simp only [Bool.and_eq_true] at h
 simpa [inB] using h.2.2.1
theorem refuse_ok {e:EngV} (h:refuseV e true=0):okEng e=true:=by
 unfold refuseV at h
 cases ho:okEng e with
 | true=>rfl
 | false=>rw [ho] at h;simp at h
def AddAnsR (B o:Nat) (cs:List Value) (T:TypeId) (a:Option Addr) (c:Nat) (rs:List RecA) (lo:Nat) (r:RecV) (w:World) (e:Ending) (w':World):Prop:=
 (e=.returned (.int .i64 0)∧(rs.length=4000∨okR (lsnR r ((rs.length:Int)+1))=false)∧Below w.heap.size w w')∨
 ∃ (x:RecA) (a':Option Addr) (c':Nat),e=.returned (.int .i64 ((rs.length:Int)+1))∧rs.length≠4000∧okR (lsnR r ((rs.length:Int)+1))=true∧x.v=lsnR r ((rs.length:Int)+1)∧
  Box w' B (cs.set o (.slice a' (rs.length+1) c')) T∧OwnRs w' lo w'.heap.size a' c' (rs++[x])∧Touch (B::blocksRs a c rs) w w'∧(∀ k∈blocksRs a' c' (rs++[x]),k∈blocksRs a c rs∨w.heap.size≤k)
theorem logAddR_any (B o:Nat) (cs:List Value) (T:TypeId) (a:Option Addr) (c:Nat) (rs:List RecA) (lo hi:Nat) (r:RecA) (w:World) (hg:ErrT w) (b:Box w B cs T) (h0:cs[o]? =some (.slice a rs.length c)) (own:OwnRs w lo hi a c rs)
  (hlo:lo≤hi) (hT:∀ (u:World) (vs:List Value) (l k:Nat) (a:Option Addr) (c:Nat) (xs:List RecA),Box u B vs T→OwnRs u l k a c xs→B∉blocksRs a c xs)
  (hll:rs.length≤1048576) (hrr:r.reads w) (hrs:r.short 1099511627776) (hrc:r.aL=none→r.cL=0):
  Calls Tryz.prog 140 #[.pointer (some ⟨B,o,none⟩),.agg r.cells.toArray] w fun e w'=>AddAnsR B o cs T a c rs lo r.v w e w':=by
 have hBw:=b.lt
 have htop:=own.top
 obtain ⟨W,hW,b1,hbW,hsW⟩:=boxes1 w r.cells 135
 have HI:Hid ((Tryz.prog.info? 135).map (·.size)=some 15):=by rw [Hid];kernel_rfl
 have HTT:Hid (∀ (u:World) (vs:List Value) (l k:Nat) (a:Option Addr) (c:Nat) (xs:List RecA),Box u B vs T→OwnRs u l k a c xs→B∉blocksRs a c xs):=hT
 have HO:Hid (cs[o]? =some (.slice a rs.length c)):=h0
 have bB:=b.below hbW b.lt
 have ow:=own.below hbW
 have c0:=bB.cell o _ h0
 have hsw:=hbW.size
 have hs0:w.heap.size<W.heap.size:=by omega
 have zf:=b1.frozen 0
 have zc:=b1.cell 0 _ rfl
 obtain ⟨W4,hW4,yB,hw4,hs4⟩:=rec_set b1 ((rs.length:Int)+1)
 have hs4a:=Nat.le_of_eq hs4
 have hs4b:=Nat.le_of_eq hs4.symm
 clear hs4 b1 h0 hT b own hsW
 have bB4:=bB.within hw4 (by omega)
 have ow4:=ow.within hw4 (.inl (by omega))
 have D4:Below w.heap.size w W4:=hbW.trans (hw4.below (Nat.le_refl _) (by omega))
 have HYV:Hid ((r.at ((rs.length:Int)+1)).v=lsnR r.v ((rs.length:Int)+1)):=at_v _ _
 have HYS:Hid ((r.at ((rs.length:Int)+1)).short 1099511627776):=short_at hrs _
 have HY0:Hid ((r.at ((rs.length:Int)+1)).lsn=(rs.length:Int)+1):=rfl
 have HYR:Hid (∀ u,Below w.heap.size w u→(r.at ((rs.length:Int)+1)).reads u):=fun u hu=>⟨(hrr.below hu).bf,(hrr.below hu).af,(hrr.below hu).txs⟩
 have HYC:Hid ((r.at ((rs.length:Int)+1)).aL=none→(r.at ((rs.length:Int)+1)).cL=0):=hrc
 have C4:=lsnAt_any (rs.length:Int) W (by omega)
 clear hw4 hrr hrs hrc bB ow
 go_enter Tryz.func140,Tryz.ntmps140
 go_upto_region 1 with fail
 rw [hW.out]
 clear hW
 go_wp2_with fail
 refine C4.mono ?_
 clear C4
 rintro e w3' ⟨rfl,h3'⟩
 subst h3'
 go_upto_region 2 with fail
 rw [hW4.out]
 clear hW4 zc zf c0
 generalize r.at ((rs.length:Int)+1)=y at*
 have HRY:Hid (∀ u,Below W4.heap.size W4 u→u.rangeAt w.heap.size 0 y.cells):=fun u hu=>Box.range [] y.cells [] (by simpa using yB.below hu yB.lt)
 have C5:=implRecOk_any y W4 (hg.keep D4) (HYR.out W4 D4) HYS.out
 have c4:=bB4.cell o _ HO.out
 by_cases h4:rs.length=4000
 ·have h4b:((rs.length:Int) == 4000)=true:=by simp only [beq_iff_eq];omega
  have HF:Hid (AddAnsR B o cs T a c rs lo r.v w (.returned (.int .i64 0)) W4):=.inl ⟨rfl,.inl h4,D4⟩
  clear h4 C5
  go_wp2
  go_ret
  exact HF.out
 ·have h4b:((rs.length:Int) == 4000)=false:=by simp only [beq_eq_false_iff_ne];omega
  have ry:=HRY.out W4 (Below.refl _ _)
  go_wp2_with (first | (guard_target=wpList _ _ _ (Oper.mk (some 19) _ _ _ _ _::_) _ _;refine wpList_load_mid_if (by rfl) 135 (.tmp 3) rfl w.heap.size 0 rfl y.cells _ ry Tryz.underlying135 rfl HI.out ?_) | fail)
  refine C5.mono ?_
  clear C5 c4 ry
  rintro e w6 ⟨rfl,B6⟩
  have hs6:=B6.size
  have bB6:=bB4.below B6 bB4.lt
  have ow6:=ow4.below B6
  have D6:Below w.heap.size w w6:=D4.trans (B6.mono D4.size)
  clear bB4 ow4
  obtain ⟨vR,hR⟩:∃ v,Hid (okR y.v=v):=⟨_,rfl⟩
  rw [hR.out]
  cases vR with
  | false=>
   have HF:Hid (AddAnsR B o cs T a c rs lo r.v w (.returned (.int .i64 0)) w6):=.inl ⟨rfl,.inr (by rw [← HYV.out];exact hR.out),D6⟩
   clear h4
   go_wp2
   go_ret
   exact HF.out
  | true=>
   have hnd:Below w6.heap.size w6 w6.drew:=(Below.refl _ _).drew
   have C:=copyRec_own y w6.drew (HYR.out _ D6.drew) HYS.out HYC.out
   have bBd:=bB6.below hnd bB6.lt
   have owd:=ow6.below hnd
   have Bd:=B6.drew
   have HKK:Hid (rs.length≠4000∧okR (lsnR r.v ((rs.length:Int)+1))=true):=⟨h4,by rw [← HYV.out];exact hR.out⟩
   have zd:w6.heap.size≤w6.drew.heap.size:=hnd.size
   clear h4 h4b hR bB6 ow6
   go_upto_region 4 with fail
   refine wp_region_late (· == 11) (S:=fun u=>u.cell? ⟨B,o,none⟩=some (.slice a rs.length c)∧u.rangeAt w.heap.size 0 y.cells) (by kernel_rfl) ⟨bBd.cell o _ HO.out,HRY.out _ Bd⟩ (fun hHeld=>?_)
   have D7:Below w.heap.size w w6.drew:=D6.drew
   generalize w6.drew=d0 at*
   clear hnd B6 D6
   refine wpAnyL_take (i:=0) (v:=.pointer (some ⟨B,o,none⟩)) rfl (by kernel_rfl) (fun _ _ _ h=>h) (Or.inl ⟨by rfl,?_⟩) hHeld ?_
   ·intro w' hSw
    go_simp<;>rfl
   try simp only [zz]
   refine wpAnyL_take (i:=1) (v:=.pointer (some ⟨B,o,none⟩)) rfl (by kernel_rfl) (fun _ _ _ h=>h) (Or.inl ⟨by rfl,?_⟩) hHeld ?_
   ·intro w' hSw
    go_simp<;>rfl
   try simp only [zz]
   refine wpAnyL_take (i:=2) (v:=.pointer (some ⟨B,o,none⟩)) rfl (by kernel_rfl) (fun _ _ _ h=>h) (Or.inl ⟨by rfl,?_⟩) hHeld ?_
   ·intro w' hSw
    go_simp<;>rfl
   try simp only [zz]
   refine wpAnyL_take (i:=3) (v:=.pointer (some ⟨B,o,none⟩)) rfl (by kernel_rfl) (fun _ _ _ h=>h) (Or.inl ⟨by rfl,?_⟩) hHeld ?_
   ·intro w' hSw
    go_simp<;>rfl
   try simp only [zz]
   refine wpAnyL_take (i:=4) (v:=.slice a rs.length c) rfl (by kernel_rfl) (fun _ _ _ h=>h) (Or.inl ⟨by rfl,?_⟩) hHeld ?_
   ·intro w' hSw
    have hx:=hSw.1
    go_simp<;>rfl
   try simp only [zz]
   refine wpAnyL_take (i:=5) rfl (by kernel_rfl) (fun _ _ _ h=>h) (yieldsIf_load_mid (by rfl) _ _ rfl _ _ rfl (y.cells) _ (fun _ h=>h.2) Tryz.underlying135 rfl HI.out) hHeld ?_
   try simp only [zz]
   refine wpAnyL_next 6 (by kernel_rfl) rfl (fun K hK=>?_)
   go_simp
   refine C.mono ?_
   clear C
   rintro e d1 ⟨x,rfl,hx,oxx,hbx⟩
   have hsx:=hbx.size
   have B7:Below W4.heap.size W4 d1:=Bd.trans (hbx.mono Bd.size)
   have D8:Below w.heap.size w d1:=D7.trans (hbx.mono D7.size)
   have bB7:=bBd.below hbx bBd.lt
   have ow7:=owd.below hbx
   have HXV:Hid (x.v=lsnR r.v ((rs.length:Int)+1)):=hx.out.trans HYV.out
   clear hx bBd owd
   refine hK.out _ _ (⟨bB7.cell o _ HO.out,HRY.out _ B7⟩) (fun hHeld=>?_)
   clear hK K hbx
   try simp only [zz]
   refine wpAnyL_next 7 (by kernel_rfl) rfl (fun K hK=>?_)
   go_simp
   simp only [cellsR_len,lit_rec,not_true_eq_false,Nat.lt_irrefl,or_self,if_false]
   go_simp
   obtain ⟨W9,hW9,y9,hb9,hs9⟩:=boxes1 d1 x.cells 135
   rw [hW9.out]
   have hlt9:=y9.lt
   have hs9':=hb9.size
   clear hs9
   have R9:Hid (W9.rangeAt d1.heap.size 0 x.cells):=Box.range [] x.cells [] (by simpa using y9)
   have B9:Below W4.heap.size W4 W9:=B7.trans (hb9.mono B7.size)
   have D9:Below w.heap.size w W9:=D8.trans (hb9.mono D8.size)
   have bB9:=bB7.below hb9 bB7.lt
   have ow9:=ow7.below hb9
   have ox9:=oxx.below hb9
   clear bB7 ow7 oxx y9
   refine hK.out _ _ (⟨bB9.cell o _ HO.out,HRY.out _ B9⟩) (fun hHeld=>?_)
   clear hK K hW9 hb9
   try simp only [zz]
   have hll9:rs.length+1≤68719476736:=by omega
   refine wpAnyL_next 8 (by kernel_rfl) rfl (fun K hK=>?_)
   refine step_append_recD rfl (.tmp 27) (.tmp 30) rfl lo hi a c rs rfl ow9 d1.heap.size 0 1 x rfl R9.out d0.heap.size d1.heap.size ox9 (by omega) (fun k hk hk'=>by have:=(ox9.blocks_lt k hk).1;have:=(OwnRs.blocks_lt ow9 k hk').2;omega) (by omega) hll9 hlo ?_
   intro a10 c10 w10 o10 g10 k10
   rw [List.length_append,List.length_singleton]
   have hw10:Within lo hi W9 w10:=Within.of_grown g10 (fun j hj=>⟨(OwnRs.row ow9).lt j hj |>.1,OwnRs.blk ow9 j hj⟩)
   have hs10:=hw10.size
   have hB9:=HTT.out _ _ _ _ _ _ _ bB9 ow9
   have t10:Touch (blocksRs a c rs) W9 w10:=Touch.of_grown g10 (fun j hj=>List.mem_append.2 (.inl (Option.mem_toList.2 hj)))
   have bBa:=bB9.touch t10 hB9
   have hf10:∀ k∈blocksRs a10 c10 (rs++[x]),k∈blocksRs a c rs∨w.heap.size≤k:=fun k hk=>by
    have:=D9.size
    rcases List.mem_append.1 hk with h | h
    ·rcases k10 k (Option.mem_toList.1 h) with q | q
     ·exact .inl (List.mem_append.2 (.inl (Option.mem_toList.2 q)))
     ·exact .inr (by omega)
    ·rw [List.flatMap_append] at h
     rcases List.mem_append.1 h with q | q
     ·exact .inl (List.mem_append.2 (.inr q))
     ·simp only [List.flatMap_cons,List.flatMap_nil,List.append_nil] at q
      have:=(ox9.blocks_lt k q).1
      have:=D7.size
      exact .inr (by omega)
   have hR10:w10.rangeAt w.heap.size 0 y.cells:=rangeAt_block (HRY.out _ B9) (hw10.block w.heap.size (by omega) (by omega))
   refine hK.out _ _ (⟨bBa.cell o _ HO.out,hR10⟩) (fun hHeld=>?_)
   clear hK K 
   try simp only [zz]
   refine wpAnyL_next 9 (by kernel_rfl) rfl (fun K hK=>?_)
   go_simp
   refine hK.out _ _ (hHeld) (fun hHeld=>?_)
   clear hK K 
   try simp only [zz]
   refine wpAnyL_take (i:=10) (v:=.pointer (some ⟨B,o,none⟩)) rfl (by kernel_rfl) (fun _ _ _ h=>h) (Or.inl ⟨by rfl,?_⟩) hHeld ?_
   ·intro w' hSw
    go_simp<;>rfl
   try simp only [zz]
   have ef0:=bBa.frozen o
   have e0:=bBa.cell o _ HO.out
   obtain ⟨W11,hW11,bBb,hw11,hs11⟩:=box_set bBa o (.slice a10 (rs.length+1) c10)
   have hs11a:=Nat.le_of_eq hs11
   have hs11b:=Nat.le_of_eq hs11.symm
   clear hs11
   have hR11:W11.rangeAt w.heap.size 0 y.cells:=rangeAt_block hR10 (hw11.block w.heap.size (by omega) (by omega))
   have y0:=hR11 0 _ rfl
   have oRow:=o10.touch hw11.touch1 (fun k hk hk'=>HTT.out _ _ _ _ _ _ _ bBa o10 (by rw [← List.mem_singleton.1 hk'];exact hk))
   have HF:Hid (AddAnsR B o cs T a c rs lo r.v w (.returned (.int .i64 y.lsn)) W11):=.inr ⟨x,a10,c10,by rw [HY0.out],HKK.out.1,HKK.out.2,HXV.out,bBb,oRow.widen (Nat.le_refl _) hs11b (Nat.le_refl _),((Touch.of_below D9).trans (t10.mono (fun k hk=>List.mem_cons_of_mem _ hk))).trans (hw11.touch1.mono (fun k hk=>by rw [List.mem_singleton.1 hk];exact List.mem_cons_self)),hf10⟩
   refine wpAnyL_last 11 (by kernel_rfl) rfl rfl (fun K hK=>?_)
   go_simp
   rw [hW11.out]
   refine hK.out _ _ ?_
   clear hK K
   refine wpAnyL_done (by kernel_rfl) ?_ _
   clear hW11 ef0 e0 hHeld bBb hw11 oRow t10 hf10 hB9 k10
   go_wp2
   go_ret
   exact HF.out
abbrev TRun:TypeId:=148
def EngA.run (M:Nat) (n:Int) (e:EngA):List Value:=runCells e.cells M n
abbrev RunAt (M:Nat) (n:Int):=EngAtG (EngA.run M n) TRun
abbrev RunStep (M:Nat) (n:Int):=EngStepG (EngA.run M n) TRun
def EngA.runTail (e:EngA) (M:Nat) (n:Int):List Value:=[.slice e.aS e.seats.length e.cS,.int .i64 e.hand,.slice e.log.a e.log.recs.length e.log.c,.int .i64 e.log.sure,.slice e.aT e.txs.length e.cT,.slice e.aH e.holds.length e.cH,.int .i64 e.next,.bool e.down,.map (some M),.int .i64 n]
theorem run_tail (e:EngA) (M:Nat) (n:Int):e.run M n=cellsPs e.disk++e.runTail M n:=by
 unfold EngA.run runCells EngA.cells
 rw [List.append_assoc]
 rfl
theorem run_at {e:EngA} (se:e.shape) (M:Nat) (n:Int) (j:Nat):(e.run M n)[136+j]? =(e.runTail M n)[j]? :=by
 rw [run_tail,List.getElem?_append_right (by rw [EngA.disk_len se];omega),EngA.disk_len se,show 136+j-136=j by omega]
theorem run_set {e:EngA} (se:e.shape) (M:Nat) (n:Int) (j:Nat) (v:Value):(e.run M n).set (136+j) v=cellsPs e.disk++(e.runTail M n).set j v:=by
 rw [run_tail,List.set_append_right _ _ (by rw [EngA.disk_len se];omega),EngA.disk_len se,show 136+j-136=j by omega]
theorem EngAtG.cellR {M:Nat} {n:Int} {w:World} {R:Nat} {e:EngA} (h:RunAt M n w R e) (j:Nat) (v:Value) (hv:(e.runTail M n)[j]? =some v):w.cell? ⟨R,136+j,none⟩=some v:=h.box.cell (136+j) v (by rw [run_at h.shape];exact hv)
theorem run_apart {w:World} {B lo hi:Nat} {vs:List Value} {a:Option Addr} {c:Nat} {rs:List RecA} (b:Box w B vs TRun) (h:OwnRs w lo hi a c rs):B∉blocksRs a c rs:=by
 intro hm
 have hb:w.heap[B]? =some (.cells vs.toArray 148 (0,0)):=b
 have no:∀ {b2 s2 n2:Nat} {e2:TypeId} {v2:Value} {x2:List Value},w.ownsRow b2 e2 s2 v2 n2 x2→v2.ownBlock=some B→e2=148:=by
  intro b2 s2 n2 e2 v2 x2 h2 hk2
  obtain ⟨cur2,hc2⟩:=ownsRow_at h2 hk2
  rw [hb] at hc2
  simp only [Option.some.injEq,Obj.cells.injEq] at hc2
  exact hc2.2.1.symm
 simp only [blocksRs,List.mem_append,List.mem_flatMap,Option.mem_toList] at hm
 rcases hm with h1 | ⟨r,hr,h1⟩
 ·have:=no h.row h1;cases this
 ·have hr':=h.each r hr
  simp only [RecA.blocks,SlotA.blocks,List.mem_append,Option.mem_toList] at h1
  rcases h1 with (h1 | h1) | (h1 | h1) | h1
  ·have:=no hr'.bf.ints.1 h1;cases this
  ·have:=no hr'.bf.refs.1 h1;cases this
  ·have:=no hr'.af.ints.1 h1;cases this
  ·have:=no hr'.af.refs.1 h1;cases this
  ·have:=no hr'.txs.1 h1;cases this
def addV (e:EngV) (r:RecV):EngV:={ e with log:=⟨e.log.recs++[lsnR r ((e.log.recs.length:Int)+1)],e.log.sure⟩ }
theorem runAdd_any (M:Nat) (n:Int) (R:Nat) (e:EngA) (r:RecA) (w:World) (h:RunAt M n w R e) (hg:ErrT w) (hll:e.log.recs.length≤3990) (hrr:r.reads w) (hrs:r.short 1099511627776) (hrc:r.aL=none→r.cL=0)
  (hok:okR (lsnR r.v ((e.log.recs.length:Int)+1))=true):
  Calls Tryz.prog 140 #[.pointer (some ⟨R,138,none⟩),.agg r.cells.toArray] w fun x w'=>x=.returned (.int .i64 ((e.log.recs.length:Int)+1))∧∃ e',Hid (e'.v=addV e.v r.v)∧RunStep M n R e w e' w':=by
 have h0:(e.run M n)[138]? =some (.slice e.log.a e.log.recs.length e.log.c):=(run_at h.shape M n 2).trans rfl
 refine (logAddR_any R 138 (e.run M n) TRun e.log.a e.log.c e.log.recs 0 w.heap.size r w hg h.box h0 h.own.log (Nat.zero_le _) (fun _ _ _ _ _ _ _ b o=>run_apart b o) (by omega) hrr hrs hrc).mono ?_
 rintro x w' (⟨_,hno,_⟩ | ⟨y,a',c',rfl,_,_,hy,bx,oR,ht,hf⟩)
 ·rcases hno with q | q
  ·omega
  ·rw [hok] at q;cases q
 refine ⟨rfl,e.withLog ⟨e.log.recs++[y],e.log.sure,a',c'⟩,?_,h.logs ⟨e.log.recs++[y],e.log.sure,a',c'⟩ ?_ oR ht hf⟩
 ·simp only [Hid,EngA.v,EngA.withLog,addV,LogA.v,List.map_append,List.map_cons,List.map_nil,hy,List.length_map]
 ·have e1:=run_set h.shape M n 2 (.slice a' (e.log.recs.length+1) c')
  rw [show 136+2=138 from rfl] at e1
  rw [e1] at bx
  have e2:(e.withLog ⟨e.log.recs++[y],e.log.sure,a',c'⟩).run M n=cellsPs e.disk++(e.runTail M n).set 2 (.slice a' (e.log.recs.length+1) c'):=by
   rw [run_tail]
   simp only [EngA.withLog,EngA.runTail,List.length_append,List.length_singleton]
   rfl
  rw [e2]
  exact bx
theorem runForce_any (M:Nat) (n:Int) (R:Nat) (e:EngA) (x:Int) (w:World) (h:RunAt M n w R e) (hs:e.log.sure≤e.log.recs.length):
  Calls Tryz.prog 135 #[.pointer (some ⟨R,138,none⟩),.int .i64 x] w fun r w'=>(∃ v,r=.returned v)∧RunStep M n R e w (e.withLog (e.log.upTo x)) w'∧Touch [R] w w':=by
 have h0:(e.run M n)[138]? =some (.slice e.log.a e.log.recs.length e.log.c):=(run_at h.shape M n 2).trans rfl
 have h1:(e.run M n)[138+1]? =some (.int .i64 e.log.sure):=(run_at h.shape M n 3).trans rfl
 refine (logForce_any R 138 (e.run M n) TRun e.log.a e.log.c e.log.recs.length e.log.sure x w h.box h0 h1).mono ?_
 rintro r w' ⟨hr,bx,hw,hz⟩
 have hm:min (max e.log.sure x) (e.log.recs.length:Int)=max e.log.sure (min x e.log.recs.length):=by omega
 rw [hm] at bx
 have ht:Touch [R] w w':=hw.touch1
 have hR:∀ k∈blocksRs e.log.a e.log.c e.log.recs,k∉[R]:=fun k hk hm=>h.off (by rw [← List.mem_singleton.1 hm];exact EngA.mem_log hk)
 refine ⟨hr,h.logs (e.log.upTo x) ?_ ((h.own.log.touch ht hR).widen (Nat.le_refl _) (by omega) (Nat.le_refl _)) (ht.mono (fun k hk=>by rw [List.mem_singleton.1 hk];exact List.mem_cons_self)) (fun k hk=>.inl hk),ht⟩
 have e1:=run_set h.shape M n 3 (.int .i64 (max e.log.sure (min x e.log.recs.length)))
 rw [show 136+3=138+1 from rfl] at e1
 rw [e1] at bx
 have e2:(e.withLog (e.log.upTo x)).run M n=cellsPs e.disk++(e.runTail M n).set 3 (.int .i64 (max e.log.sure (min x e.log.recs.length))):=by
  rw [run_tail]
  rfl
 rw [e2]
 exact bx
theorem SlotA.raise {w:World} {lo lo' hi:Nat} {s:SlotA} (h:s.own w lo hi) (hb:∀ k∈s.blocks,lo'≤k):s.own w lo' hi:=
 ⟨⟨ownsRow_base h.ints.1 (fun k hk=>hb k (List.mem_append.2 (.inl (Option.mem_toList.2 hk)))),h.ints.2⟩,⟨ownsRow_base h.refs.1 (fun k hk=>hb k (List.mem_append.2 (.inr (Option.mem_toList.2 hk)))),h.refs.2⟩,h.apart⟩
theorem EngA.own.raise {w:World} {lo hi:Nat} {e:EngA} (h:e.own w 0 hi) (hb:∀ k∈e.blocks,lo≤k):e.own w lo hi:=by
 refine ⟨⟨fun s hs=>?_,h.disk.apart⟩,⟨ownsRow_base h.pool.row (fun k hk=>hb k (EngA.mem_pool (List.mem_append.2 (.inl (Option.mem_toList.2 hk))))),h.pool.top,h.pool.blk,fun s hs=>?_,h.pool.apart⟩,⟨ownsRow_base h.log.row (fun k hk=>hb k (EngA.mem_log (List.mem_append.2 (.inl (Option.mem_toList.2 hk))))),h.log.top,h.log.blk,fun r hr=>?_,h.log.apart⟩,
  ⟨ownsRow_base h.txs.1 (fun k hk=>hb k (EngA.mem_txs (Option.mem_toList.2 hk))),h.txs.2⟩,⟨ownsRow_base h.holds.1 (fun k hk=>hb k (EngA.mem_holds (Option.mem_toList.2 hk))),h.holds.2⟩,h.apart⟩
 ·exact SlotA.raise (h.disk.each s hs) (fun k hk=>hb k (EngA.mem_disk (List.mem_flatMap.2 ⟨s,hs,hk⟩)))
 ·have hS:OwnS w 0 hi s.ss:=h.pool.each s hs
  exact ⟨fun x hx=>SlotA.raise (hS.each x hx) (fun k hk=>hb k (EngA.mem_pool (List.mem_append.2 (.inr (List.mem_flatMap.2 ⟨s,hs,List.mem_flatMap.2 ⟨x,hx,hk⟩⟩))))),hS.apart⟩
 ·have hr1:=h.log.each r hr
  have hk:∀ k∈r.blocks,lo≤k:=fun k hk=>hb k (EngA.mem_log (List.mem_append.2 (.inr (List.mem_flatMap.2 ⟨r,hr,hk⟩))))
  exact ⟨SlotA.raise hr1.bf (fun k h1=>hk k (List.mem_append.2 (.inl h1))),SlotA.raise hr1.af (fun k h1=>hk k (List.mem_append.2 (.inr (List.mem_append.2 (.inl h1))))),⟨ownsRow_base hr1.txs.1 (fun k h1=>hk k (List.mem_append.2 (.inr (List.mem_append.2 (.inr (Option.mem_toList.2 h1)))))),hr1.txs.2⟩,hr1.apart⟩
theorem results_cell_one {P:Program} {fn:Func} {s t:Nat} {ty:TypeId} {tmps:Array Value} {w:World} {v b:Value} {ad:Addr} (hf:fn.results=#[.cell s ty,.tmp t]) (ht:tmps[s]?.getD undef=.pointer (some ad)) (hl:(loadVar ty ad).run P w=.ok v w) (hb:tmps[t]?.getD undef=b):(results fn tmps).run P w=.ok (.tuple #[v,b]) w:=by
 unfold results
 rw [hf]
 simp [ht,asAddr,hl,hb]
def EngOne (x:EngV × Int) (w:World) (r:Ending) (w':World):Prop:=∃ t:EngA,r=.returned (.tuple #[.agg t.cells.toArray,.int .i64 x.2])∧t.shape∧Hid (t.v=x.1)∧t.own w' w.heap.size w'.heap.size∧Below w.heap.size w w'
theorem runAt_of {w:World} {lo M R:Nat} {n:Int} {t:EngA} (st:t.shape) (ot:t.own w lo M) (hMR:M<R) (bR:Box w R (runCells t.cells M n) 148):RunAt M n w R t:=by
 have hl:=bR.lt
 exact ⟨bR,st,ot.widen (Nat.zero_le _) (by omega) (Nat.le_refl _),fun hk=>by have:=(ot.blocks_lt R hk).2;omega⟩
theorem restStep_any (W d1 d2 d3:World) (M R:Nat) (hs:List HoldV) (t s:EngA) (ot:t.own d2 d1.heap.size M) (hMR:M<R) (hM:d1.heap.size≤M) (hm:MapAt d2 M (claimsTo hs hs.length)) (st:RunStep M (hs.length:Int) R t d2 s d3)
  (hco:ClaimsOk (claimsTo hs hs.length) hs) (hlen:hs.length≤1048576) (N2:Below W.heap.size W d2) (hW:W.heap.size≤d1.heap.size) (h12:d1.heap.size≤d2.heap.size):
  Calls Tryz.prog 53 #[.pointer (some ⟨R,0,none⟩)] d3 fun r w'=>∃ D:EngA,r=.returned (.agg D.cells.toArray)∧D.shape∧Hid (D.v={ s.v with holds:=hs })∧D.own w' W.heap.size w'.heap.size∧Below W.heap.size W w':=by
 have z3:=st.size
 have hb:=ot.blocks_lt
 have oS:s.own d3 d1.heap.size d3.heap.size:=EngA.own.raise st.at'.own (fun k hk=>(st.fresh k hk).elim (fun q=>(hb k q).1) (fun q=>by omega))
 have mS:MapAt d3 M (claimsTo hs hs.length):=hm.touch st.touch (fun hk=>by
  rcases List.mem_cons.1 hk with q | q
  ·omega
  ·have:=(hb M q).2;omega)
 have N3:Below W.heap.size W d3:=N2.trans ⟨st.touch.os,st.touch.tape,st.touch.output,st.touch.size,fun k hk=>st.touch.block k (by have:=N2.size;omega) (fun hq=>by
  rcases List.mem_cons.1 hq with q | q
  ·omega
  ·have:=(hb k q).1;omega)⟩
 have HPL:∀ k,0≤(atC k (claimsTo hs hs.length)).place∧(atC k (claimsTo hs hs.length)).place≤1099511627776:=fun k=>by have:=claims_place hs k hs.length;omega
 refine (rest_any R M s st.at'.shape _ _ d3 d1.heap.size d3.heap.size st.at'.box mS HPL oS st.at'.off (by omega) (Nat.le_refl _)).mono ?_
 rintro r w' ⟨xs,a,c,rfl,HP,oD,tD⟩
 have hhs:xs=hs:=hco.sorted HP.out.1 HP.out.2
 subst hhs
 refine ⟨_,rfl,⟨st.at'.shape.eight,st.at'.shape.four⟩,rfl,oD.widen (by omega) (Nat.le_refl _) (Nat.le_refl _),?_⟩
 exact N3.trans ⟨tD.os,tD.tape,tD.output,tD.size,fun k hk=>tD.block k (by have:=N3.size;omega) (fun hq=>by have:=List.mem_singleton.1 hq;omega)⟩
end Go.Proofs.YtnoeobahjbdoiaaGreatDoor
namespace Go.Proofs.YtnoeobahjbdoiaaGreatDoor
open Go.RowKit
attribute [local go_sem ↓] Go.wp_at_zero Go.wp_at_succ
def recC (ls:List LiveV) (a:Option Addr) (c:Nat):RecA:=⟨0,0,0,6,0,zeroS,zeroS,0,ls,a,c⟩
def recCV (ls:List LiveV):RecV:=(recC ls none 0).v
def checkV (e:EngV):EngV:=
 let e1:=logV e (recCV (e.txs.filter (fun l=>decide (0<l.last))))
 { e1 with log:=e1.log.upTo ((e.log.recs.length:Int)+1) }
theorem recC_v (ls:List LiveV) (a:Option Addr) (c:Nat):(recC ls a c).v=recCV ls:=rfl
theorem recC_blocks (ls:List LiveV) (a:Option Addr) (c:Nat):(recC ls a c).blocks=rowOf a ls.length c:=rfl
theorem recC_own {w:World} {lo hi:Nat} {ls:List LiveV} {a:Option Addr} {c:Nat} (h:OwnL w lo hi a c ls):(recC ls a c).own w lo hi:=⟨zero_own w lo hi h.2.1,zero_own w lo hi h.2.1,h,by rw [recC_blocks];exact rowOf_nodup _ _ _⟩
theorem build_recC {w:World} {ops:Array Oper} {rest:List Oper} {dst:Option Nat} {ty:TypeId} {pos:String} {aft:Array Edge} {act:Act} {Q:Exit→Act→World→Prop}
  (h:wpList Tryz.prog ops Q rest (act.put dst (.agg (recC [] none 0).cells.toArray)) w):
  wpList Tryz.prog ops Q ({ dst:=dst,op:=.build 135 #[(3,.const (.int .i64 6))],type:=ty,pos:=pos,after:=aft,guard:=none }::rest) act w:=by
 refine wpList_plain rfl fun K hK=>?_
 unfold Oper.wp execOp
 simp only [List.map_toArray,List.map_cons,List.map_nil]
 have e:(Instr.build 135 #[(3,Value.int .i64 6)]).run Tryz.prog w=.ok (.agg (recC [] none 0).cells.toArray) w:=run_build w _ _ _ (by kernel_rfl)
 have ec:act.eval (.const (.int .i64 6))=.int .i64 6:=rfl
 rw [ec]
 simp only [Sem.run_bind,e,Result.andThen_ok,Sem.run_pure]
 exact hK _ _ h
theorem l7Check_any (E:Nat) (e:EngA) (w:World) (h:EngAt w E e) (hlen:e.log.recs.length+1≤68719476736) (hT:e.txs.length≤68719476736):
  Calls Tryz.prog 81 #[.pointer (some ⟨E,0,none⟩)] w fun r w'=>(∃ v,r=.returned v)∧∃ e',Hid (e'.v=checkV e.v)∧EngStep E e w e' w':=by
 obtain ⟨W,hW,b0,hbW,hsW⟩:=boxes1 w zeroR.cells 135
 obtain ⟨W1,hW1,hw1,hs1,HT1,_,b1⟩:=rec_out (recC [] none 0) _ rfl b0
 have hW':Hid (w.alloc (.cells #[.int .i64 0,.int .i64 0,.int .i64 0,.int .i64 0,.int .i64 0,.bool false,.int .i64 0,.slice none 0 0,.slice none 0 0,.bool false,.int .i64 0,.slice none 0 0,.slice none 0 0,.int .i64 0,.slice none 0 0] 135)=W):=hW.out
 have hW1':Hid (W.setCells w.heap.size 0 (recC [] none 0).cells.toArray.toList=W1):=hW1.out
 have N1:Below w.heap.size w W1:=hbW.trans (hw1.below (Nat.le_refl _) (by omega))
 have HI:Hid ((Tryz.prog.info? 135).map (·.size)=some 15):=by rw [Hid];kernel_rfl
 have o1:OwnL W1 (w.heap.size+1) W1.heap.size none 0 []:=ownL_nil _ _ _ (Nat.le_refl _)
 obtain ⟨q0,hq0⟩:∃ q0,Hid (recC [] none 0=q0):=⟨_,rfl⟩
 have hW1q:Hid (W.setCells w.heap.size 0 q0.cells.toArray.toList=W1):=by rw [← hq0.out];exact hW1'
 have HTq:Hid (W.there w.heap.size 0 q0.cells.toArray.size):=by rw [← hq0.out];exact HT1
 have HOq:=rec_one q0
 clear hW hW1 hW1' HT1 hw1 hs1 hsW b0
 go_enter Tryz.func81,Tryz.ntmps81
 go_wp2_with (first | (guard_target=wpList _ _ _ (Oper.mk (some 4) _ _ _ _ _::_) _ _;refine build_recC ?_;rw [hq0.out]) | (guard_target=wpList _ _ _ (Oper.mk none (Op.store _ (Operand.tmp 2) _) _ _ _ _::_) _ _;refine wpList_store_mid rfl 135 (.tmp 2) (.tmp 4) rfl w.heap.size 0 q0.cells.toArray rfl rfl (by rw [hW'.out];exact HTq.out) HI.out HOq ?_;rw [hW'.out,hW1q.out]) | fail)
 clear hW' hW1q HTq HOq
 go_loopw [3] (fun i wr=>∃ (k:Nat) (a:Option Addr) (c:Nat) (L:List LiveV),i=.int .i64 k∧k≤e.txs.length∧L.length≤k∧Hid (L=(e.txs.take k).filter (fun l=>decide (0<l.last)))∧Box wr w.heap.size (recC L a c).cells 135∧OwnL wr (w.heap.size+1) wr.heap.size a c L∧Below w.heap.size w wr)
  (fun i _=>e.txs.length-(intOf i).toNat)
 case atStart=>exact ⟨0,none,0,[],rfl,Nat.zero_le _,Nat.le_refl _,rfl,b1,o1,N1⟩
 case round=>
  obtain ⟨k,a,c,L,rfl,hk,hLk,hL,bR,oL,hb⟩:=hrel
  clear b1 o1 N1
  have a1:=h.below hb
  have hs1:=hb.size
  have hlt1:=bR.lt
  have x0:wr.cell? ⟨E,140,none⟩=some (.slice e.aT e.txs.length e.cT):=EngA.cell_at a1.shape a1.box 4 _ rfl
  by_cases hlt:k<e.txs.length
  ·obtain ⟨b,off,ha,hcell⟩:=a1.own.txs.reads (by intro e1;rw [e1] at hlt;simp at hlt)
   obtain ⟨c0,c1,c2⟩:=hcell k hlt
   have hkk:(k:Int)<(e.txs.length:Int):=by omega
   have hi0:(0:Int)≤(k:Int):=by omega
   have HF':Hid (_=_):=takeL_succ e.txs k hlt
   have HSS:Hid (∀ u,EngAt u E e→u.cell? ⟨E,140,none⟩=some (.slice (some ⟨b,off,none⟩) e.txs.length e.cT)∧u.rangeAt b (off+k*3) (e.txs.getD k zeroL).cells):=fun u hu=>by
    refine ⟨by rw [← ha];exact EngA.cell_at hu.shape hu.box 4 _ rfl,?_⟩
    obtain ⟨b',off',ha',hc'⟩:=hu.own.txs.reads (by intro e1;rw [e1] at hlt;simp at hlt)
    rw [ha] at ha'
    cases ha'
    obtain ⟨d0,d1,d2⟩:=hc' k hlt
    intro j v hv
    match j,hv with
    | 0,hv=>cases hv;exact d0
    | 1,hv=>cases hv;exact d1
    | 2,hv=>cases hv;exact d2
   rw [ha] at x0
   clear hcell c0 c2
   generalize e.txs.getD k zeroL=z at*
   by_cases hq:0<z.last
   ·have HN:Hid (L++[z]=(e.txs.take (k+1)).filter (fun l=>decide (0<l.last))):=by rw [Hid,HF'.out,List.filter_append,← hL.out];simp [hq]
    have HIL:Hid ((Tryz.prog.info? 130).map (·.size)=some z.cells.length):=by rw [Hid];kernel_rfl
    have ND:Below wr.heap.size wr wr.drew:=(Below.refl _ _).drew
    clear hL HF' ha
    go_upto_region 5 with fail
    clear x0 c1
    have bRD:=bR.below ND bR.lt
    have y0:=bRD.cell 14 _ (show (recC L a c).cells[14]? =some (.slice a L.length c) from rfl)
    refine wp_region_held_drew (S:=fun w'=>w'.cell? ⟨E,140,none⟩=some (.slice (some ⟨b,off,none⟩) e.txs.length e.cT)∧w'.rangeAt b (off+k*3) z.cells) (by kernel_rfl) ?_ (fun hHeld=>?_)
    ·exact HSS.out _ (a1.below ND)
    refine tq 0 (v:=.pointer (some ⟨w.heap.size,14,none⟩)) rfl hHeld ?_
    try simp only [zz]
    refine tq 2 (v:=.pointer (some ⟨E,0,none⟩)) rfl hHeld ?_
    try simp only [zz]
    refine tq 3 (v:=.pointer (some ⟨E,0,none⟩)) rfl hHeld ?_
    try simp only [zz]
    refine tq 4 (v:=.pointer (some ⟨E,140,none⟩)) rfl hHeld ?_
    try simp only [zz]
    refine tk 5 (v:=.slice (some ⟨b,off,none⟩) e.txs.length e.cT) rfl (Or.inl ⟨by rfl,?_⟩) hHeld ?_
    ·intro w' hSw
     have hx:=hSw.1
     go_simp<;>rfl
    try simp only [zz]
    refine tq 6 (v:=.int .i64 k) rfl hHeld ?_
    try simp only [zz]
    refine tq 7 (v:=.pointer (some ⟨b,off+k*3,none⟩)) rfl hHeld ?_
    try simp only [zz]
    refine tk 8 (v:=.agg #[.int .i64 z.tx,.int .i64 z.last,.bool z.aborts]) rfl (yieldsIf_load_mid (by rfl) _ _ rfl _ _ rfl z.cells _ (fun _ h=>h.2) Tryz.underlying130 rfl HIL.out) hHeld ?_
    try simp only [zz]
    refine wpAnyH_ready (rs:=[1,9]) (by kernel_rfl) (by simp) ?_
    refine AllReadyH.cons rfl (fun K hK=>?_) (AllReadyH.cons rfl (fun K hK=>?_) AllReadyH.nil)
    ·go_simp
     refine hK.out _ _ (hHeld) (fun hHeld=>?_)
     clear hK K
     try simp only [zz]
     refine wpAnyH_ready (rs:=[9]) (by kernel_rfl) (by simp) ?_
     refine AllReadyH.cons rfl (fun K hK=>?_) AllReadyH.nil
     go_simp
     obtain ⟨V5,hV5,b5',hb5,hs5⟩:=boxes1 wr [.int .i64 z.tx,.int .i64 z.last,.bool z.aborts] 130
     have hV5':Hid (wr.alloc (.cells #[.int .i64 z.tx,.int .i64 z.last,.bool z.aborts] 130)=V5):=hV5.out
     rw [hV5'.out]
     obtain ⟨W5,hW5⟩:∃ W5,Hid (V5.drew=W5):=⟨_,rfl⟩
     rw [hW5.out]
     have ND5:Below wr.heap.size wr W5:=by rw [← hW5.out];exact hb5.drew
     have r5:ReadsL W5 (some ⟨wr.heap.size,0,none⟩) [z]:=by
      rw [← hW5.out]
      have h1:=(readsL_one wr z 130).below ((Below.refl _ _).drew)
      rw [hV5'.out] at h1
      exact h1
     have a5:=a1.below ND5
     have bR5:=bR.below ND5 bR.lt
     have oL5:=oL.below ND5
     have hs15:=ND5.size
     clear hs5 hb5 hW5 hV5 hV5' b5'
     refine hK.out _ _ (HSS.out _ a5) (fun hHeld=>?_)
     clear hK K
     try simp only [zz]
     clear y0 bRD
     refine wpAnyH_ready (rs:=[10]) (by kernel_rfl) (by simp) ?_
     refine AllReadyH.cons rfl (fun K hK=>?_) AllReadyH.nil
     refine step_append_lives rfl (.tmp 24) (.tmp 32) rfl (w.heap.size+1) wr.heap.size a c L rfl oL5 _ _ [z] rfl r5 (fun h=>by cases h) (by simp;omega) (by omega) ?_
     intro a9 c9 y9 w9 hy9 o9 g9 f9
     have N9:Below w.heap.size w w9:=grown_belowE (hb.trans (ND5.mono hs1)) g9 (fun j hj=>by have:=(oL.lt j hj).1;omega) (by omega)
     have a9':=h.below N9
     have bR9:Box w9 w.heap.size (recC L a c).cells 135:=bR5.block (g9.block _ bR5.lt (fun e1=>by have:=(oL.lt _ e1.symm).1;omega))
     have hs9:=g9.size
     refine hK.out _ _ (HSS.out _ a9') (fun hHeld=>?_)
     clear hK K g9
     try simp only [zz]
     refine tq 11 (v:=.pointer (some ⟨w.heap.size,14,none⟩)) rfl hHeld ?_
     try simp only [zz]
     have m0:=bR9.cell 14 _ (show (recC L a c).cells[14]? =some (.slice a L.length c) from rfl)
     have mf0:=bR9.frozen 14
     obtain ⟨WF,hWF,kF,hwF,hsF⟩:=box_set bR9 14 (.slice a9 y9.length c9)
     have kF':Box WF w.heap.size (recC y9 a9 c9).cells 135:=kF
     have hsFa:=Nat.le_of_eq hsF
     have hsFb:=Nat.le_of_eq hsF.symm
     clear hsF
     have oF:OwnL WF (w.heap.size+1) WF.heap.size a9 c9 y9:=(o9.within hwF (.inr (Nat.le_refl _))).widen (Nat.le_refl _) (by omega) (Nat.le_refl _)
     have NF:Below w.heap.size w WF:=N9.trans (hwF.below (Nat.le_refl _) (by omega))
     refine wpAnyH_ready (rs:=[12]) (by kernel_rfl) (by simp) ?_
     refine AllReadyH.cons rfl (fun K hK=>?_) AllReadyH.nil
     go_simp
     rw [hWF.out]
     refine hK.out _ _ (HSS.out _ (h.below NF)) (fun hHeld=>?_)
     clear hK K
     try simp only [Act.put,zA,zB,zC]
     refine wpAnyH_done (by kernel_rfl) ?_ _
     clear m0 mf0 hWF hHeld
     go_wp2_with fail
     go_roundw
     case rel=>exact ⟨k+1,a9,c9,y9,by go_num,by omega,by rw [hy9.out];simp;omega,by rw [Hid,hy9.out];exact HN.out,kF',oF,NF⟩
     case measure=>simp [intOf];omega
    ·skip
     go_simp
     obtain ⟨V5,hV5,b5',hb5,hs5⟩:=boxes1 wr [.int .i64 z.tx,.int .i64 z.last,.bool z.aborts] 130
     have hV5':Hid (wr.alloc (.cells #[.int .i64 z.tx,.int .i64 z.last,.bool z.aborts] 130)=V5):=hV5.out
     rw [hV5'.out]
     obtain ⟨W5,hW5⟩:∃ W5,Hid (V5.drew=W5):=⟨_,rfl⟩
     rw [hW5.out]
     have ND5:Below wr.heap.size wr W5:=by rw [← hW5.out];exact hb5.drew
     have r5:ReadsL W5 (some ⟨wr.heap.size,0,none⟩) [z]:=by
      rw [← hW5.out]
      have h1:=(readsL_one wr z 130).below ((Below.refl _ _).drew)
      rw [hV5'.out] at h1
      exact h1
     have a5:=a1.below ND5
     have bR5:=bR.below ND5 bR.lt
     have oL5:=oL.below ND5
     have hs15:=ND5.size
     clear hs5 hb5 hW5 hV5 hV5' b5'
     refine hK.out _ _ (HSS.out _ a5) (fun hHeld=>?_)
     clear hK K
     try simp only [zz]
     clear y0 bRD
     have y0:=bR5.cell 14 _ (show (recC L a c).cells[14]? =some (.slice a L.length c) from rfl)
     refine wpAnyH_ready (rs:=[1]) (by kernel_rfl) (by simp) ?_
     refine AllReadyH.cons rfl (fun K hK=>?_) AllReadyH.nil
     go_simp
     refine hK.out _ _ (hHeld) (fun hHeld=>?_)
     clear hK K
     try simp only [zz]
     clear y0
     refine wpAnyH_ready (rs:=[10]) (by kernel_rfl) (by simp) ?_
     refine AllReadyH.cons rfl (fun K hK=>?_) AllReadyH.nil
     refine step_append_lives rfl (.tmp 24) (.tmp 32) rfl (w.heap.size+1) wr.heap.size a c L rfl oL5 _ _ [z] rfl r5 (fun h=>by cases h) (by simp;omega) (by omega) ?_
     intro a9 c9 y9 w9 hy9 o9 g9 f9
     have N9:Below w.heap.size w w9:=grown_belowE (hb.trans (ND5.mono hs1)) g9 (fun j hj=>by have:=(oL.lt j hj).1;omega) (by omega)
     have a9':=h.below N9
     have bR9:Box w9 w.heap.size (recC L a c).cells 135:=bR5.block (g9.block _ bR5.lt (fun e1=>by have:=(oL.lt _ e1.symm).1;omega))
     have hs9:=g9.size
     refine hK.out _ _ (HSS.out _ a9') (fun hHeld=>?_)
     clear hK K g9
     try simp only [zz]
     refine tq 11 (v:=.pointer (some ⟨w.heap.size,14,none⟩)) rfl hHeld ?_
     try simp only [zz]
     have m0:=bR9.cell 14 _ (show (recC L a c).cells[14]? =some (.slice a L.length c) from rfl)
     have mf0:=bR9.frozen 14
     obtain ⟨WF,hWF,kF,hwF,hsF⟩:=box_set bR9 14 (.slice a9 y9.length c9)
     have kF':Box WF w.heap.size (recC y9 a9 c9).cells 135:=kF
     have hsFa:=Nat.le_of_eq hsF
     have hsFb:=Nat.le_of_eq hsF.symm
     clear hsF
     have oF:OwnL WF (w.heap.size+1) WF.heap.size a9 c9 y9:=(o9.within hwF (.inr (Nat.le_refl _))).widen (Nat.le_refl _) (by omega) (Nat.le_refl _)
     have NF:Below w.heap.size w WF:=N9.trans (hwF.below (Nat.le_refl _) (by omega))
     refine wpAnyH_ready (rs:=[12]) (by kernel_rfl) (by simp) ?_
     refine AllReadyH.cons rfl (fun K hK=>?_) AllReadyH.nil
     go_simp
     rw [hWF.out]
     refine hK.out _ _ (HSS.out _ (h.below NF)) (fun hHeld=>?_)
     clear hK K
     try simp only [Act.put,zA,zB,zC]
     refine wpAnyH_done (by kernel_rfl) ?_ _
     clear m0 mf0 hWF hHeld
     go_wp2_with fail
     go_roundw
     case rel=>exact ⟨k+1,a9,c9,y9,by go_num,by omega,by rw [hy9.out];simp;omega,by rw [Hid,hy9.out];exact HN.out,kF',oF,NF⟩
     case measure=>simp [intOf];omega
   ·have HN:Hid (L=(e.txs.take (k+1)).filter (fun l=>decide (0<l.last))):=by rw [Hid,HF'.out,List.filter_append,← hL.out];simp [hq]
    have hqb:¬ z.last > 0:=hq
    clear hL HF' hq ha
    go_wp2_with fail
    go_roundw
    case rel=>exact ⟨k+1,a,c,L,by go_num,by omega,by omega,HN,bR,oL,hb⟩
    case measure=>simp [intOf];omega
  ·have hkk:¬ (k:Int)<(e.txs.length:Int):=by omega
   have HL:Hid (L=e.txs.filter (fun l=>decide (0<l.last))):=by rw [Hid,hL.out,List.take_of_length_le (by omega)]
   clear hL
   have ND:Below wr.heap.size wr wr.drew:=(Below.refl _ _).drew
   go_upto_region 6 with fail
   clear x0
   obtain ⟨q,hq⟩:∃ q,Hid (recC L a c=q):=⟨_,rfl⟩
   rw [hq.out] at bR
   have HQB:Hid (∀ j∈q.blocks,w.heap.size+1≤j):=fun j hj=>by rw [← hq.out,recC_blocks] at hj;exact (oL.lt j (Option.mem_toList.1 hj)).1
   have HQV:Hid (q.v=recCV (e.txs.filter (fun l=>decide (0<l.last)))):=by rw [Hid,← hq.out,recC_v,HL.out]
   have aD:=a1.below ND
   have bD:=bR.below ND bR.lt
   have oq:q.own wr.drew 0 wr.drew.heap.size:=by
    rw [← hq.out]
    exact recC_own ((oL.below ND).widen (Nat.zero_le _) (Nat.le_refl _) (Nat.le_refl _))
   have hoffR:Off E e w.heap.size:=h.new (Nat.le_refl _)
   have hEl:=h.box.lt
   have HRR:Hid (∀ u,Box u w.heap.size q.cells 135→u.rangeAt w.heap.size 0 q.cells∧True):=fun u bu=>⟨Box.range [] q.cells [] (by simpa using bu),trivial⟩
   have C:=l7Log_any E e q wr.drew aD oq (fun j hj hm=>by have:=HQB.out j hj;have:=h.lt j hm;omega) (fun hj=>by have:=HQB.out E hj;omega) hlen (by omega)
   clear oq hq HL
   refine wp_region_held_drew (S:=fun w'=>w'.rangeAt w.heap.size 0 q.cells∧True) (by kernel_rfl) ?_ (fun hHeld=>?_)
   ·exact HRR.out _ bD
   refine tq 0 (v:=.pointer (some ⟨E,0,none⟩)) rfl hHeld ?_
   try simp only [zz]
   refine tq 1 (v:=.pointer (some ⟨E,0,none⟩)) rfl hHeld ?_
   try simp only [zz]
   refine tq 2 (v:=.pointer (some ⟨E,138,none⟩)) rfl hHeld ?_
   try simp only [zz]
   refine tq 3 (v:=.pointer (some ⟨E,0,none⟩)) rfl hHeld ?_
   try simp only [zz]
   refine tk 4 rfl (yieldsIf_load_mid (by rfl) _ _ rfl _ _ rfl q.cells _ (fun _ h=>h.1) Tryz.underlying135 rfl (rec_info q)) hHeld ?_
   try simp only [zz]
   refine wpAnyH_ready (rs:=[5]) (by kernel_rfl) (by simp) ?_
   refine AllReadyH.cons rfl (fun K hK=>?_) AllReadyH.nil
   go_simp
   refine C.mono ?_
   clear C
   rintro r w6 ⟨rfl,e6,he6,_,m6⟩
   have hqR:w.heap.size∉q.blocks:=fun hj=>by have:=HQB.out _ hj;omega
   have b6:=m6.boxes bD hoffR hqR
   have S6:EngStep E e w e6 w6:=EngMore.step ((EngStepG.refl h).below (hb.trans (ND.mono hs1))) m6 (fun j hj=>by have:=HQB.out j hj;omega)
   have hoff6:=m6.off bD.lt hoffR hqR
   refine hK.out _ _ (HRR.out _ b6) (fun hHeld=>?_)
   clear hK K
   try simp only [zz]
   have C2:=l5ForceEng_any E e6 ((e.log.recs.length:Int)+1) w6 S6.at'
   refine wpAnyH_ready (rs:=[6]) (by kernel_rfl) (by simp) ?_
   refine AllReadyH.cons rfl (fun K hK=>?_) AllReadyH.nil
   go_simp
   refine C2.mono ?_
   clear C2
   rintro r w7 ⟨⟨v7,rfl⟩,s7,_⟩
   have b7:=s7.boxes b6 hoff6
   have HEND:Hid (∃ e',Hid (e'.v=checkV e.v)∧EngStep E e w e' w7):=by
    refine ⟨_,?_,S6.trans s7⟩
    have e1:(e6.withLog (e6.log.upTo ((e.log.recs.length:Int)+1))).v={ e6.v with log:=e6.v.log.upTo ((e.log.recs.length:Int)+1) }:=by
     simp only [EngA.v,EngA.withLog,LogA.upTo_v]
    rw [Hid,e1,he6.out,HQV.out]
    simp only [checkV,EngA.v,LogA.v,List.length_map]
   refine hK.out _ _ (HRR.out _ b7) (fun hHeld=>?_)
   clear hK K s7 S6 m6 b6 b7 bD aD he6 HQV HRR
   try simp only [zz]
   refine wpAnyH_done (by kernel_rfl) ?_ _
   go_wp2
   go_end0
   exact ⟨⟨_,rfl⟩,HEND.out⟩
end Go.Proofs.YtnoeobahjbdoiaaGreatDoor
namespace Go.Proofs.YtnoeobahjbdoiaaGreatDoor
open Go.RowKit
theorem okEng_log {e:EngV} (h:okEng e=true):okLog e.log=true:=by
 unfold okEng at h
 simp only [Bool.and_eq_true] at h
 exact h.1
theorem okEng_sure {e:EngV} (h:okEng e=true):e.log.sure≤e.log.recs.length:=by
 have h1:=okEng_log h
 unfold okLog at h1
 simp only [Bool.and_eq_true] at h1
 have:=h1.2.1
 simp only [inB,decide_eq_true_eq] at this
 exact this.2
theorem refuse_len {e:EngV} {a:Bool} (h:refuseV e a=0):e.log.recs.length≤3800:=by
 unfold refuseV at h
 split at h
 ·split at h
  ·cases h
  ·omega
 ·cases h
theorem okEng_tx {e:EngV} (h:okEng e=true) (i:Nat) (hi:i<e.txs.length):txAt e i=true:=by
 unfold okEng okTxs at h
 simp only [Bool.and_eq_true] at h
 exact all_at h.2.2.2.1.1 i hi
theorem okEng_six {e:EngV} (h:okEng e=true):e.txs.length≤6:=by
 unfold okEng okTxs at h
 simp only [Bool.and_eq_true,decide_eq_true_eq] at h
 exact h.2.2.2.1.2.2
theorem lastFrom_le (tx:Int) (rs:List RecV):∀ k,0≤lastFrom tx rs k∧lastFrom tx rs k≤k:=by
 intro k
 induction k with
 | zero=>exact ⟨Int.le_refl _,Int.le_refl _⟩
 | succ k ih=>
  rw [lastFrom]
  split
  ·omega
  ·omega
theorem okEng_live {e:EngV} (h:okEng e=true):∀ t∈e.txs,1≤t.tx∧t.tx≤1000∧t.aborts=false∧t.last=lastOf e.log.recs t.tx∧0≤t.last∧t.last≤e.log.recs.length:=by
 intro t ht
 obtain ⟨i,hi,rfl⟩:=List.mem_iff_getElem.1 ht
 have h1:=okEng_tx h i hi
 have h2:=okEng_next1 h
 have e1:e.txs.getD i zeroL=e.txs[i]:=by simp [List.getD,hi]
 unfold txAt at h1
 rw [e1] at h1
 simp only [Bool.and_eq_true,inB,decide_eq_true_eq,Bool.not_eq_true'] at h1
 obtain ⟨⟨a1,a2⟩,a3,a4,_⟩:=h1
 have a5:=lastFrom_le e.txs[i].tx e.log.recs e.log.recs.length
 have a6:lastOf e.log.recs e.txs[i].tx=lastFrom e.txs[i].tx e.log.recs e.log.recs.length:=rfl
 exact ⟨a1,by omega,a3,a4,by omega,by omega⟩
theorem okEng_sorted {e:EngV} (h:okEng e=true):e.txs.Pairwise (fun a b=>a.tx<b.tx):=by
 have step:∀ i,i+1<e.txs.length→(e.txs.getD i zeroL).tx<(e.txs.getD (i+1) zeroL).tx:=fun i hi=>by
  have h1:=okEng_tx h (i+1) hi
  unfold txAt at h1
  simp only [Bool.and_eq_true,Bool.or_eq_true,decide_eq_true_eq,Nat.add_sub_cancel] at h1
  rcases h1.2.2.2 with q | q
  ·omega
  ·exact q
 have far:∀ j i,i<j→j<e.txs.length→(e.txs.getD i zeroL).tx<(e.txs.getD j zeroL).tx:=by
  intro j
  induction j with
  | zero=>intro i hi;omega
  | succ j ih=>
   intro i hi hj
   have h1:=step j hj
   by_cases q:i=j
   ·rw [q];exact h1
   ·have:=ih i (by omega) (by omega);omega
 rw [List.pairwise_iff_getElem]
 intro i j hi hj hij
 have:=far j i hij hj
 simpa [List.getD,hi,hj] using this
theorem okR_checkE {e:EngV} (h:okEng e=true) (hl:e.log.recs.length≤3800):okR (lsnR (recCV (e.txs.filter (fun l=>decide (0<l.last)))) ((e.log.recs.length:Int)+1))=true:=by
 have hp:=(okEng_sorted h).filter (fun l=>decide (0<l.last))
 have hm:∀ t∈e.txs.filter (fun l=>decide (0<l.last)),1≤t.tx∧t.tx≤1000∧1≤t.last∧t.last≤e.log.recs.length:=fun t ht=>by
  obtain ⟨h1,h2⟩:=List.mem_filter.1 ht
  have:=okEng_live h t h1
  have:0<t.last:=by simpa using h2
  omega
 have hlen:(e.txs.filter (fun l=>decide (0<l.last))).length≤6:=Nat.le_trans (List.length_filter_le _ _) (okEng_six h)
 generalize e.txs.filter (fun l=>decide (0<l.last))=L at*
 have hL:livesB ((e.log.recs.length:Int)+1) L=true:=by
  rw [livesB_all]
  ·exact decide_eq_true (by omega)
  ·intro k hk
   have hk1:=hm L[k] (List.getElem_mem hk)
   have e1:L.getD k zeroL=L[k]:=by simp [List.getD,hk]
   have g1:(inB (L.getD k zeroL).tx 1 1000 && inB (L.getD k zeroL).last 1 ((e.log.recs.length:Int)+1-1))=true:=by
    rw [e1]
    simp only [inB,Bool.and_eq_true,decide_eq_true_eq]
    omega
   cases k with
   | zero=>exact g1
   | succ k=>
    have:=List.pairwise_iff_getElem.1 hp k (k+1) (by omega) hk (by omega)
    have e2:L.getD k zeroL=L[k]:=by simp [List.getD,show k<L.length by omega]
    rw [liveOk,g1,Bool.true_and,e1,e2]
    exact decide_eq_true this
 have h0:inB ((e.log.recs.length:Int)+1) 1 1000000=true:=by simp only [inB,decide_eq_true_eq];omega
 simp only [okR,lsnR,recCV,recC,RecA.v,h0,hL]
 rfl
theorem live_none {e:EngV} (h:okEng e=true):liveOf e.txs 0= -1:=by
 have:∀ (ls:List LiveV) (k:Nat),(∀ t∈ls,1≤t.tx)→liveFrom 0 ls k= -1:=by
  intro ls
  induction ls with
  | nil=>intro k _;rfl
  | cons t r ih=>
   intro k ht
   have h1:=ht t List.mem_cons_self
   rw [liveFrom,if_neg (by omega)]
   exact ih _ (fun x hx=>ht x (List.mem_cons_of_mem _ hx))
 exact this e.txs 0 (fun t ht=>(okEng_live h t ht).1)
theorem checkV_add {e:EngV} (h:okEng e=true):checkV e={ addV e (recCV (e.txs.filter (fun l=>decide (0<l.last)))) with log:=(addV e (recCV (e.txs.filter (fun l=>decide (0<l.last))))).log.upTo ((e.log.recs.length:Int)+1) }:=by
 have h0:=live_none h
 unfold checkV logV addV lastV
 have e1:(recCV (e.txs.filter (fun l=>decide (0<l.last)))).tx=0:=rfl
 rw [e1,h0,if_neg (by omega)]
 rfl
def checkAns (e:EngV):EngV × Int:=if refuseV e true≠0 then (e,refuseV e true) else (checkV e,0)
end Go.Proofs.YtnoeobahjbdoiaaGreatDoor