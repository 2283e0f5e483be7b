/- Several texts in one, in their order. -/
import Derived.Test.YtcoeamamaifoeaaGreatDoorPCrashx29
import Derived.Test.YtcoeamamaifoeaaGreatDoorPCrashx7
import Derived.Test.YtcoeamamaifoeaaGreatDoorPCrashx20
import Derived.Test.YtcoeamamaifoeaaGreatDoorPCrashx14
import Derived.Test.YtcoeamamaifoeaaGreatDoorPCrashx12
import Derived.Test.YtcoeamamaifoeaaGreatDoorPCrashx13
import Derived.Test.YtcoeamamaifoeaaGreatDoorPCrashx15
import Derived.Deep.CutRange
import Derived.Test.YtcoeamamaifoeaaGreatDoorPCrashx1
set_option maxHeartbeats 8000000
set_option maxRecDepth 100000
namespace Go.Proofs.YtcoeamamaifoeaaGreatDoor
open Go.RowKit
def partAt (e:EngV) (i:Nat):Bool:=inB (e.holds.getD i zeroH).oid 1 31 && decide (0≤liveOf e.txs (e.holds.getD i zeroH).tx)
theorem hold_no {e:EngV} {k:Nat} (hk:k<e.holds.length) (h:partAt e k=false):holdsB e=false:=by
 refine all_no k hk ?_
 unfold partAt at h
 unfold holdAt
 rw [← Bool.and_assoc,h,Bool.false_and]
theorem hold_yes {e:EngV} (h:∀ k,k<e.holds.length→partAt e k=true):holdsB e=decide ((claimsTo e.holds e.holds.length).length=e.holds.length):=by
 have hh:∀ k,k<e.holds.length→holdAt e k=freshH e.holds k:=fun k hk=>by
  have:=h k hk
  unfold partAt at this
  unfold holdAt
  rw [← Bool.and_assoc,this,Bool.true_and]
 by_cases q:(claimsTo e.holds e.holds.length).length=e.holds.length
 ·rw [decide_eq_true q]
  refine all_yes fun k hk=>?_
  rw [hh k hk]
  exact all_yes fun j hj=>decide_eq_true ((claims_len _ _).1 q k hk j hj)
 ·rw [decide_eq_false q]
  by_cases r:holdsB e=true
  ·exact absurd ((claims_len _ _).2 fun i hi j hj=>by
    have h1:=all_at r i hi
    rw [hh i hi] at h1
    exact of_decide_eq_true (all_at h1 j hj)) q
  ·simpa using r
theorem holdsOk_any (e:EngA) (se:e.shape) (w:World) (re:e.reads w) (hl:e.short 1048576):
  Calls Tryz.prog 100 #[.agg e.cells.toArray] w fun r w'=>r=.returned (.bool (holdsB e.v))∧Below w.heap.size w w':=by
 have HNO:Hid (∀ k,k<e.holds.length→partAt e.v k=false→holdsB e.v=false):=fun k hk h=>hold_no hk h
 have HYES:Hid ((∀ k,k<e.holds.length→partAt e.v k=true)→holdsB e.v=decide ((claimsTo e.holds e.holds.length).length=e.holds.length)):=fun h=>hold_yes h
 have HPA:Hid (∀ k,partAt e.v k=(inB (e.holds.getD k zeroH).oid 1 31 && decide (0≤liveOf e.txs (e.holds.getD k zeroH).tx))):=fun k=>rfl
 obtain ⟨RB,hRB⟩:∃ RB,holdsB e.v=RB:=⟨_,rfl⟩
 rw [hRB] at HNO HYES ⊢
 clear hRB
 have hlt:=hl.txs
 have hlh:=hl.holds
 obtain ⟨W,hW,b0,hbW,hsW⟩:=boxes1 w e.cells 58
 have HB:Hid (∀ u,Below W.heap.size W u→Box u w.heap.size e.cells 58):=fun u hu=>b0.below hu b0.lt
 have HR:Hid (∀ u,Below W.heap.size W u→e.reads u):=fun u hu=>(re.below hbW).below hu
 have HEND:Hid (∀ u,Below W.heap.size W u→Below w.heap.size w u):=fun u hu=>hbW.trans (hu.mono hbW.size)
 have hw0:w.heap.size<W.heap.size:=by omega
 have N:Below W.heap.size W W:=Below.refl _ _
 clear b0 hsW
 obtain ⟨_,_,_,_,p4,_,_⟩:=eng_parts se (HB.out W N)
 clear hl re
 go_enter Tryz.func100,Tryz.ntmps100
 go_upto_region 1 with fail
 rw [hW.out]
 clear hW
 go_wp2_with fail
 clear p4
 go_loopw [8] (fun i wr=>∃ k:Nat,k≤e.holds.length∧i=.int .i64 (k:Int)∧Hid (∀ j,j<k→partAt e.v j=true)∧Below W.heap.size W wr) (fun i _=>e.holds.length-(intOf i).toNat)
 case atStart=>exact ⟨0,Nat.zero_le _,rfl,fun j hj=>by omega,N⟩
 case round=>
  obtain ⟨k,hk,rfl,hall,hbr⟩:=hrel
  clear N
  have hsr:=hbr.size
  by_cases hlt2:k<e.holds.length
  ·obtain ⟨b,off,ha,hc⟩:=(HR.out _ hbr).holds (by intro e0;rw [e0] at hlt2;simp at hlt2)
   obtain ⟨c0,c1⟩:=hc k hlt2
   have HPK:Hid (_=_):=HPA.out k
   have HNK:Hid (_→_):=HNO.out k hlt2
   rw [ha]
   clear hc ha
   generalize e.holds.getD k zeroH=t at*
   obtain ⟨V,hV,bV,hbV,hsV⟩:=boxes1 wr [.int .i64 t.tx,.int .i64 t.oid] 113
   have nV:Below W.heap.size W V:=hbr.trans (hbV.mono hbr.size)
   have x1:=bV.cell 1 _ rfl
   have x0:=bV.cell 0 _ rfl
   obtain ⟨_,_,_,p3,_,_,_⟩:=eng_parts se (HB.out _ nV)
   have C2:=isUnderWay_any e.aT e.cT e.txs t.tx V (HR.out _ nV).txs (by omega)
   have hkl:(k:Int)<(e.holds.length:Int):=by omega
   have hk0:(0:Int)≤(k:Int):=by omega
   clear hbV hsV bV
   go_upto_region 4 with fail
   rw [hV.out]
   clear hV c0 c1
   go_wp2_with fail
   refine (oidOk_any _ _).mono ?_
   rintro r w1 ⟨rfl,rfl⟩
   obtain ⟨bA,hA⟩:∃ bA,Hid (inB t.oid 1 31=bA):=⟨_,rfl⟩
   rw [hA.out]
   cases bA with
   | false=>
    have HE:Hid (RB=false∧Below w.heap.size w w1):=⟨HNK.out (by rw [HPK.out,hA.out];rfl),HEND.out _ nV⟩
    clear C2
    go_wp2
    go_ret
    exact ⟨ret_bool HE.out.1.symm,HE.out.2⟩
   | true=>
    go_wp2_with fail
    refine C2.mono ?_
    clear C2 p3 x0 x1
    rintro r w2 ⟨rfl,hb2⟩
    have n2:Below W.heap.size W w2:=nV.trans (hb2.mono nV.size)
    clear hb2 nV
    obtain ⟨bB,hB⟩:∃ bB,Hid (decide (0≤liveOf e.txs t.tx)=bB):=⟨_,rfl⟩
    rw [hB.out]
    cases bB with
    | false=>
     have HE:Hid (RB=false∧Below w.heap.size w w2):=⟨HNK.out (by rw [HPK.out,hA.out,hB.out];rfl),HEND.out _ n2⟩
     go_wp2
     go_ret
     exact ⟨ret_bool HE.out.1.symm,HE.out.2⟩
    | true=>
     have HK:Hid (∀ j,j<k+1→partAt e.v j=true):=fun j hj=>by
      by_cases q:j=k
      ·rw [q,HPK.out,hA.out,hB.out];rfl
      ·exact hall.out j (by omega)
     go_wp2_with fail
     go_roundw
     case rel=>exact ⟨k+1,by omega,by go_num,HK,n2⟩
     case measure=>simp [intOf];omega
  ·have e1:k=e.holds.length:=by omega
   have HRB:Hid (RB=_):=HYES.out (by rw [e1] at hall;exact hall.out)
   have hge:¬ (k:Int)<(e.holds.length:Int):=by omega
   clear hall e1
   go_upto_region 7 with fail
   have HS:Hid (∀ u,Below wr.heap.size wr u→u.cell? ⟨w.heap.size,141,none⟩=some (.slice e.aH e.holds.length e.cH)):=fun u hu=>by
    obtain ⟨_,_,_,_,q4,_,_⟩:=eng_parts se (HB.out u (hbr.trans (hu.mono hbr.size)))
    exact q4
   have D0:Below wr.heap.size wr wr.drew:=(Below.refl _ _).drew
   have N2:Below W.heap.size W wr.drew:=hbr.trans (D0.mono hbr.size)
   have hle:(claimsTo e.holds e.holds.length).length≤e.holds.length:=claims_len_le _ _
   obtain ⟨bA,hA⟩:∃ bA,Hid ((((claimsTo e.holds e.holds.length).length:Int) == (e.holds.length:Int))=bA):=⟨_,rfl⟩
   have HRA:Hid (RB=bA):=HRB.out.trans (by rw [← hA.out];exact Bool.eq_iff_iff.2 (by rw [decide_eq_true_iff,beq_iff_eq];omega))
   have HCC:Hid (∀ u,Below W.heap.size W u→Calls Tryz.prog 126 #[.slice e.aH e.holds.length e.cH] u fun r w'=>r=.returned (.map (some u.heap.size))∧MapAt w' u.heap.size (claimsTo e.holds e.holds.length)∧Below u.heap.size u w'):=fun u hu=>claimsOf_any e.aH e.cH e.holds u (HR.out _ hu).holds (by omega)
   clear HRB hge HYES HNO HPA
   generalize hcl:claimsTo e.holds e.holds.length=cl at*
   clear hcl
   refine wp_region_held_drew (S:=fun u=>u.cell? ⟨w.heap.size,141,none⟩=some (.slice e.aH e.holds.length e.cH)) (by kernel_rfl) (HS.out _ D0) (fun hHeld=>?_)
   generalize wr.drew=d0 at*
   refine tq 0 (v:=.pointer (some ⟨w.heap.size,141,none⟩)) rfl hHeld ?_
   try simp only [zz]
   refine tk 1 (v:=.slice e.aH e.holds.length e.cH) rfl (Or.inl ⟨by rfl,?_⟩) hHeld ?_
   ·intro w' hSw
    have hx:=hSw
    go_simp<;>rfl
   try simp only [zz]
   refine tq 4 (v:=.pointer (some ⟨w.heap.size,141,none⟩)) rfl hHeld ?_
   try simp only [zz]
   refine tk 5 (v:=.slice e.aH e.holds.length e.cH) rfl (Or.inl ⟨by rfl,?_⟩) hHeld ?_
   ·intro w' hSw
    have hx:=hSw
    go_simp<;>rfl
   try simp only [zz]
   refine tq 6 (v:=.int .i64 (e.holds.length:Int)) rfl hHeld ?_
   try simp only [zz]
   refine wpAnyH_ready (rs:=[2]) (by kernel_rfl) (by simp) ?_
   refine AllReadyH.cons rfl (fun K hK=>?_) AllReadyH.nil
   go_simp
   refine (HCC.out _ N2).mono ?_
   rintro r d1 ⟨rfl,hm1,hb1⟩
   have D1:Below wr.heap.size wr d1:=D0.trans (hb1.mono D0.size)
   have N3:Below W.heap.size W d1:=hbr.trans (D1.mono hbr.size)
   refine hK.out _ _ (HS.out _ D1) (fun hHeld=>?_)
   clear hK K hb1
   try simp only [zz]
   refine wpAnyH_ready (rs:=[3]) (by kernel_rfl) (by simp) ?_
   refine AllReadyH.cons rfl (fun K hK=>?_) AllReadyH.nil
   have hlen:=run_len_c hm1
   go_simp
   refine hK.out _ _ (HS.out _ D1) (fun hHeld=>?_)
   clear hK K 
   try simp only [zz]
   refine tk 7 (v:=.bool bA) rfl (Or.inl ⟨by rfl,?_⟩) hHeld ?_
   ·intro w' hSw
    have hx:=hA.out
    go_simp<;>rfl
   try simp only [zz]
   refine tq 8 (v:=.bool bA) rfl hHeld ?_
   try simp only [zz]
   refine wpAnyH_done (by kernel_rfl) ?_ _
   clear hHeld
   have HE:Hid (RB=bA∧Below w.heap.size w d1):=⟨HRA.out,HEND.out _ N3⟩
   go_wp2
   go_ret
   exact ⟨ret_bool HE.out.1.symm,HE.out.2⟩
theorem implEngineOk_any (e:EngA) (se:e.shape) (w:World) (hg:ErrT w) (re:e.reads w) (hl:e.short 1048576):
  Calls Tryz.prog 64 #[.agg e.cells.toArray] w fun r w'=>r=.returned (.bool (okEng e.v))∧Below w.heap.size w w':=by
 have HOK:Hid (okEng e.v=(okLog e.log.v && (okPool e.poolA.v && (inB e.next 1 1001 && (okTxs e.v && (nextB e.v && (diskB e.v && (seatsB e.v && (!e.down || bareB e.v))))))))):=rfl
 have HTX:Hid (okTxs e.v=(txsB e.v && (holdsB e.v && decide (e.txs.length≤6)))):=rfl
 have HNO:Hid (okPool e.poolA.v=true→∀ k,k<e.seats.length→∃ n:Nat,(e.seats.getD k zeroSt).no=n∧n<8):=fun h k hk=>by
  obtain ⟨n,h1,h2⟩:=seat_no (e:=e.v) h k (by simpa [EngA.v] using hk)
  exact ⟨n,by rw [← h1];show _=(e.v.seats.getD k zeroStV).no;rw [show e.v.seats.getD k zeroStV=(e.seats.getD k zeroSt).v from seatV_at e.seats k];rfl,h2⟩
 have CB:=fun u=>isBare_any e se u
 have CD:=fun u (hu:ErrT u) (hr:e.reads u)=>diskOk_any e se u hu hr hl
 have CS:=fun u (hr:e.reads u) h=>seatsOk_any e se u hr hl h
 have CN:=fun u (hr:e.reads u)=>nextOk_any e se u hr hl
 have CT:=fun u (hr:e.reads u) h=>txsOk_any e se u hr hl h
 have CH:=fun u (hr:e.reads u)=>holdsOk_any e se u hr hl
 have HLP:Hid (e.poolA.short 1099511627776):=PoolA.short_wide hl.pool
 have HLL:Hid (e.log.short 1099511627776):=LogA.short_wide hl.log
 obtain ⟨ROK,hROK⟩:∃ b,okEng e.v=b:=⟨_,rfl⟩
 rw [hROK] at HOK ⊢
 clear hROK
 have HI:=eng_info se
 obtain ⟨W,hW,b0,hbW,hsW⟩:=boxes1 w e.cells 58
 have HB:Hid (∀ u,Below W.heap.size W u→Box u w.heap.size e.cells 58):=fun u hu=>b0.below hu b0.lt
 have HR:Hid (∀ u,Below W.heap.size W u→e.reads u):=fun u hu=>(re.below hbW).below hu
 have HEND:Hid (∀ u,Below W.heap.size W u→Below w.heap.size w u):=fun u hu=>hbW.trans (hu.mono hbW.size)
 have hw0:w.heap.size<W.heap.size:=by omega
 have N:Below W.heap.size W W:=Below.refl _ _
 clear b0 hsW
 have HG:Hid (∀ u,Below W.heap.size W u→ErrT u):=fun u hu=>hg.keep (HEND.out u hu)
 have HPE:Hid (∀ u,Below W.heap.size W u→u.rangeAt w.heap.size 0 e.cells):=fun u hu=>Box.range [] e.cells [] (by simpa using HB.out u hu)
 clear re hl hg
 have p1:=(eng_parts se (HB.out W N)).2.1
 have C1:=implPoolOk_any e.poolA W (HG.out W N) (HR.out W N).pool HLP.out
 go_enter Tryz.func64,Tryz.ntmps64
 go_upto_region 1 with fail
 rw [hW.out]
 clear hW
 go_wp2_with (first | (guard_target=wpList _ _ _ (Oper.mk (some 4) _ _ _ _ _::_) _ _;refine wpList_load_mid rfl 51 (.tmp 3) rfl w.heap.size 136 rfl (e.poolA.cells) _ p1 Tryz.underlying51 rfl (pool_info _) ?_) | fail)
 refine C1.mono ?_
 clear C1 p1
 rintro r w1 ⟨rfl,hb⟩
 replace N:=N.trans (hb.mono N.size)
 clear hb
 obtain ⟨vP,hP⟩:∃ b,Hid (okPool e.poolA.v=b):=⟨_,rfl⟩
 rw [hP.out] at HOK ⊢
 cases vP with
 | false=>
  have HE:Hid (ROK=false∧Below w.heap.size w w1):=⟨by rw [HOK.out];simp,HEND.out _ N⟩
  go_wp2
  go_ret
  exact ⟨ret_bool HE.out.1.symm,HE.out.2⟩
 | true=>
  have p2:=(eng_parts se (HB.out _ N)).2.2.1
  have C2:=implLogOk_any e.log w1 (HG.out _ N) (HR.out _ N).log HLL.out
  go_wp2_with (first | (guard_target=wpList _ _ _ (Oper.mk (some 9) _ _ _ _ _::_) _ _;refine wpList_load_mid_if (by rfl) 54 (.tmp 8) rfl w.heap.size 138 rfl (e.log.cells) _ p2 Tryz.underlying54 rfl (log_info _) ?_) | fail)
  refine C2.mono ?_
  clear C2 p2
  rintro r w2 ⟨rfl,hb⟩
  replace N:=N.trans (hb.mono N.size)
  clear hb
  obtain ⟨vL,hL⟩:∃ b,Hid (okLog e.log.v=b):=⟨_,rfl⟩
  rw [hL.out] at HOK ⊢
  cases vL with
  | false=>
   have HE:Hid (ROK=false∧Below w.heap.size w w2):=⟨by rw [HOK.out];simp,HEND.out _ N⟩
   go_wp2
   go_ret
   exact ⟨ret_bool HE.out.1.symm,HE.out.2⟩
  | true=>
   have p6:=(eng_parts se (HB.out _ N)).2.2.2.2.2.2
   have pe:=HPE.out _ N
   obtain ⟨vD,hD⟩:∃ b,Hid (e.down=b):=⟨_,rfl⟩
   rw [hD.out] at HOK p6
   have HL:Hid (okLog e.log.v=true):=hL.out
   have HP:Hid (okPool e.poolA.v=true):=hP.out
   clear hL hP
   cases vD with
   | false=>
    have HOK2:Hid (ROK=(inB e.next 1 1001 && (okTxs e.v && (nextB e.v && (diskB e.v && seatsB e.v))))):=by rw [Hid,HOK.out];simp
    clear HOK CB
    have C3:=CD w2 (HG.out _ N) (HR.out _ N)
    go_upto_region 3 with fail
    clear p6
    go_wp2_with (first | (guard_target=wpList _ _ _ (Oper.mk (some 22) _ _ _ _ _::_) _ _;refine wpList_load_mid rfl 58 (.tmp 1) rfl w.heap.size 0 rfl (e.cells) _ pe Tryz.underlying58 rfl HI ?_) | fail)
    refine C3.mono ?_
    clear C3 pe
    rintro r x0 ⟨rfl,hb⟩
    replace N:=N.trans (hb.mono N.size)
    clear hb
    obtain ⟨v1,hv1⟩:∃ b,Hid (diskB e.v=b):=⟨_,rfl⟩
    rw [hv1.out]
    cases v1 with
    | false=>
     have HE:Hid (ROK=false∧Below w.heap.size w x0):=⟨by
      rw [HOK2.out,HTX.out]
      have q:=hv1.out
      generalize inB e.next 1 1001=a1 at*
      generalize diskB e.v=a2 at*
      generalize seatsB e.v=a3 at*
      generalize nextB e.v=a4 at*
      generalize decide (e.txs.length≤6)=a5 at*
      generalize txsB e.v=a6 at*
      generalize holdsB e.v=a7 at*
      revert q
      cases a1<;>cases a2<;>cases a3<;>cases a4<;>cases a5<;>cases a6<;>cases a7<;>decide,HEND.out _ N⟩
     go_wp2
     go_ret
     exact ⟨ret_bool HE.out.1.symm,HE.out.2⟩
    | true=>
     have pe:=HPE.out _ N
     have C3:=CS _ (HR.out _ N) (HNO.out HP.out)
     go_wp2_with (first | (guard_target=wpList _ _ _ (Oper.mk (some 25) _ _ _ _ _::_) _ _;refine wpList_load_mid_if (by rfl) 58 (.tmp 1) rfl w.heap.size 0 rfl (e.cells) _ pe Tryz.underlying58 rfl HI ?_) | fail)
     refine C3.mono ?_
     clear C3 pe
     rintro r x1 ⟨rfl,hb⟩
     replace N:=N.trans (hb.mono N.size)
     clear hb
     obtain ⟨v2,hv2⟩:∃ b,Hid (seatsB e.v=b):=⟨_,rfl⟩
     rw [hv2.out]
     cases v2 with
     | false=>
      have HE:Hid (ROK=false∧Below w.heap.size w x1):=⟨by
       rw [HOK2.out,HTX.out]
       have q:=hv2.out
       generalize inB e.next 1 1001=a1 at*
       generalize diskB e.v=a2 at*
       generalize seatsB e.v=a3 at*
       generalize nextB e.v=a4 at*
       generalize decide (e.txs.length≤6)=a5 at*
       generalize txsB e.v=a6 at*
       generalize holdsB e.v=a7 at*
       revert q
       cases a1<;>cases a2<;>cases a3<;>cases a4<;>cases a5<;>cases a6<;>cases a7<;>decide,HEND.out _ N⟩
      go_wp2
      go_ret
      exact ⟨ret_bool HE.out.1.symm,HE.out.2⟩
     | true=>
      have pe:=HPE.out _ N
      have C3:=CN _ (HR.out _ N)
      go_wp2_with (first | (guard_target=wpList _ _ _ (Oper.mk (some 29) _ _ _ _ _::_) _ _;refine wpList_load_mid_if (by rfl) 58 (.tmp 1) rfl w.heap.size 0 rfl (e.cells) _ pe Tryz.underlying58 rfl HI ?_) | fail)
      refine C3.mono ?_
      clear C3 pe
      rintro r x2 ⟨rfl,hb⟩
      replace N:=N.trans (hb.mono N.size)
      clear hb
      obtain ⟨v3,hv3⟩:∃ b,Hid ((nextB e.v && inB e.next 1 1001)=b):=⟨_,rfl⟩
      rw [hv3.out]
      cases v3 with
      | false=>
       have HE:Hid (ROK=false∧Below w.heap.size w x2):=⟨by
        rw [HOK2.out,HTX.out]
        have q:=hv3.out
        generalize inB e.next 1 1001=a1 at*
        generalize diskB e.v=a2 at*
        generalize seatsB e.v=a3 at*
        generalize nextB e.v=a4 at*
        generalize decide (e.txs.length≤6)=a5 at*
        generalize txsB e.v=a6 at*
        generalize holdsB e.v=a7 at*
        revert q
        cases a1<;>cases a2<;>cases a3<;>cases a4<;>cases a5<;>cases a6<;>cases a7<;>decide,HEND.out _ N⟩
       go_wp2
       go_ret
       exact ⟨ret_bool HE.out.1.symm,HE.out.2⟩
      | true=>
       have pe:=HPE.out _ N
       have C3:=CT _ (HR.out _ N) HL.out
       go_wp2_with (first | (guard_target=wpList _ _ _ (Oper.mk (some 33) _ _ _ _ _::_) _ _;refine wpList_load_mid_if (by rfl) 58 (.tmp 1) rfl w.heap.size 0 rfl (e.cells) _ pe Tryz.underlying58 rfl HI ?_) | fail)
       refine C3.mono ?_
       clear C3 pe
       rintro r x3 ⟨rfl,hb⟩
       replace N:=N.trans (hb.mono N.size)
       clear hb
       obtain ⟨v4,hv4⟩:∃ b,Hid ((decide (e.txs.length≤6) && txsB e.v)=b):=⟨_,rfl⟩
       rw [hv4.out]
       cases v4 with
       | false=>
        have HE:Hid (ROK=false∧Below w.heap.size w x3):=⟨by
         rw [HOK2.out,HTX.out]
         have q:=hv4.out
         generalize inB e.next 1 1001=a1 at*
         generalize diskB e.v=a2 at*
         generalize seatsB e.v=a3 at*
         generalize nextB e.v=a4 at*
         generalize decide (e.txs.length≤6)=a5 at*
         generalize txsB e.v=a6 at*
         generalize holdsB e.v=a7 at*
         revert q
         cases a1<;>cases a2<;>cases a3<;>cases a4<;>cases a5<;>cases a6<;>cases a7<;>decide,HEND.out _ N⟩
        go_wp2
        go_ret
        exact ⟨ret_bool HE.out.1.symm,HE.out.2⟩
       | true=>
        have pe:=HPE.out _ N
        have C3:=CH _ (HR.out _ N)
        go_wp2_with (first | (guard_target=wpList _ _ _ (Oper.mk (some 37) _ _ _ _ _::_) _ _;refine wpList_load_mid_if (by rfl) 58 (.tmp 1) rfl w.heap.size 0 rfl (e.cells) _ pe Tryz.underlying58 rfl HI ?_) | fail)
        refine C3.mono ?_
        clear C3 pe
        rintro r x4 ⟨rfl,hb⟩
        replace N:=N.trans (hb.mono N.size)
        clear hb
        obtain ⟨v5,hv5⟩:∃ b,Hid (holdsB e.v=b):=⟨_,rfl⟩
        rw [hv5.out]
        cases v5 with
        | false=>
         have HE:Hid (ROK=false∧Below w.heap.size w x4):=⟨by
          rw [HOK2.out,HTX.out]
          have q:=hv5.out
          generalize inB e.next 1 1001=a1 at*
          generalize diskB e.v=a2 at*
          generalize seatsB e.v=a3 at*
          generalize nextB e.v=a4 at*
          generalize decide (e.txs.length≤6)=a5 at*
          generalize txsB e.v=a6 at*
          generalize holdsB e.v=a7 at*
          revert q
          cases a1<;>cases a2<;>cases a3<;>cases a4<;>cases a5<;>cases a6<;>cases a7<;>decide,HEND.out _ N⟩
         go_wp2
         go_ret
         exact ⟨ret_bool HE.out.1.symm,HE.out.2⟩
        | true=>
         have HE:Hid (ROK=true∧Below w.heap.size w x4):=⟨by
          have q1:=hv1.out
          have q2:=hv2.out
          have q3:=hv3.out
          have q4:=hv4.out
          have q5:=hv5.out
          rw [Bool.and_eq_true] at q3 q4
          rw [HOK2.out,HTX.out,q1,q2,q3.1,q3.2,q4.1,q4.2,q5];rfl,HEND.out _ N⟩
         go_wp2
         go_ret
         exact ⟨ret_bool HE.out.1.symm,HE.out.2⟩
   | true=>
    have C0:=CB w2
    go_wp2_with (first | (guard_target=wpList _ _ _ (Oper.mk (some 17) _ _ _ _ _::_) _ _;refine wpList_load_mid_if (by rfl) 58 (.tmp 1) rfl w.heap.size 0 rfl (e.cells) _ pe Tryz.underlying58 rfl HI ?_) | fail)
    refine C0.mono ?_
    clear C0 CB p6 pe
    rintro r w3 ⟨rfl,hb⟩
    replace N:=N.trans (hb.mono N.size)
    clear hb
    obtain ⟨vB,hB⟩:∃ b,Hid (bareB e.v=b):=⟨_,rfl⟩
    rw [hB.out] at HOK ⊢
    cases vB with
    | false=>
     have HE:Hid (ROK=false∧Below w.heap.size w w3):=⟨by rw [HOK.out];simp,HEND.out _ N⟩
     go_wp2
     go_ret
     exact ⟨ret_bool HE.out.1.symm,HE.out.2⟩
    | true=>
     have HOK2:Hid (ROK=(inB e.next 1 1001 && (okTxs e.v && (nextB e.v && (diskB e.v && seatsB e.v))))):=by rw [Hid,HOK.out];simp
     clear HOK
     have pe:=HPE.out _ N
     have C3:=CD w3 (HG.out _ N) (HR.out _ N)
     go_upto_region 3 with fail
     go_wp2_with (first | (guard_target=wpList _ _ _ (Oper.mk (some 22) _ _ _ _ _::_) _ _;refine wpList_load_mid rfl 58 (.tmp 1) rfl w.heap.size 0 rfl (e.cells) _ pe Tryz.underlying58 rfl HI ?_) | fail)
     refine C3.mono ?_
     clear C3 pe
     rintro r x0 ⟨rfl,hb⟩
     replace N:=N.trans (hb.mono N.size)
     clear hb
     obtain ⟨v1,hv1⟩:∃ b,Hid (diskB e.v=b):=⟨_,rfl⟩
     rw [hv1.out]
     cases v1 with
     | false=>
      have HE:Hid (ROK=false∧Below w.heap.size w x0):=⟨by
       rw [HOK2.out,HTX.out]
       have q:=hv1.out
       generalize inB e.next 1 1001=a1 at*
       generalize diskB e.v=a2 at*
       generalize seatsB e.v=a3 at*
       generalize nextB e.v=a4 at*
       generalize decide (e.txs.length≤6)=a5 at*
       generalize txsB e.v=a6 at*
       generalize holdsB e.v=a7 at*
       revert q
       cases a1<;>cases a2<;>cases a3<;>cases a4<;>cases a5<;>cases a6<;>cases a7<;>decide,HEND.out _ N⟩
      go_wp2
      go_ret
      exact ⟨ret_bool HE.out.1.symm,HE.out.2⟩
     | true=>
      have pe:=HPE.out _ N
      have C3:=CS _ (HR.out _ N) (HNO.out HP.out)
      go_wp2_with (first | (guard_target=wpList _ _ _ (Oper.mk (some 25) _ _ _ _ _::_) _ _;refine wpList_load_mid_if (by rfl) 58 (.tmp 1) rfl w.heap.size 0 rfl (e.cells) _ pe Tryz.underlying58 rfl HI ?_) | fail)
      refine C3.mono ?_
      clear C3 pe
      rintro r x1 ⟨rfl,hb⟩
      replace N:=N.trans (hb.mono N.size)
      clear hb
      obtain ⟨v2,hv2⟩:∃ b,Hid (seatsB e.v=b):=⟨_,rfl⟩
      rw [hv2.out]
      cases v2 with
      | false=>
       have HE:Hid (ROK=false∧Below w.heap.size w x1):=⟨by
        rw [HOK2.out,HTX.out]
        have q:=hv2.out
        generalize inB e.next 1 1001=a1 at*
        generalize diskB e.v=a2 at*
        generalize seatsB e.v=a3 at*
        generalize nextB e.v=a4 at*
        generalize decide (e.txs.length≤6)=a5 at*
        generalize txsB e.v=a6 at*
        generalize holdsB e.v=a7 at*
        revert q
        cases a1<;>cases a2<;>cases a3<;>cases a4<;>cases a5<;>cases a6<;>cases a7<;>decide,HEND.out _ N⟩
       go_wp2
       go_ret
       exact ⟨ret_bool HE.out.1.symm,HE.out.2⟩
      | true=>
       have pe:=HPE.out _ N
       have C3:=CN _ (HR.out _ N)
       go_wp2_with (first | (guard_target=wpList _ _ _ (Oper.mk (some 29) _ _ _ _ _::_) _ _;refine wpList_load_mid_if (by rfl) 58 (.tmp 1) rfl w.heap.size 0 rfl (e.cells) _ pe Tryz.underlying58 rfl HI ?_) | fail)
       refine C3.mono ?_
       clear C3 pe
       rintro r x2 ⟨rfl,hb⟩
       replace N:=N.trans (hb.mono N.size)
       clear hb
       obtain ⟨v3,hv3⟩:∃ b,Hid ((nextB e.v && inB e.next 1 1001)=b):=⟨_,rfl⟩
       rw [hv3.out]
       cases v3 with
       | false=>
        have HE:Hid (ROK=false∧Below w.heap.size w x2):=⟨by
         rw [HOK2.out,HTX.out]
         have q:=hv3.out
         generalize inB e.next 1 1001=a1 at*
         generalize diskB e.v=a2 at*
         generalize seatsB e.v=a3 at*
         generalize nextB e.v=a4 at*
         generalize decide (e.txs.length≤6)=a5 at*
         generalize txsB e.v=a6 at*
         generalize holdsB e.v=a7 at*
         revert q
         cases a1<;>cases a2<;>cases a3<;>cases a4<;>cases a5<;>cases a6<;>cases a7<;>decide,HEND.out _ N⟩
        go_wp2
        go_ret
        exact ⟨ret_bool HE.out.1.symm,HE.out.2⟩
       | true=>
        have pe:=HPE.out _ N
        have C3:=CT _ (HR.out _ N) HL.out
        go_wp2_with (first | (guard_target=wpList _ _ _ (Oper.mk (some 33) _ _ _ _ _::_) _ _;refine wpList_load_mid_if (by rfl) 58 (.tmp 1) rfl w.heap.size 0 rfl (e.cells) _ pe Tryz.underlying58 rfl HI ?_) | fail)
        refine C3.mono ?_
        clear C3 pe
        rintro r x3 ⟨rfl,hb⟩
        replace N:=N.trans (hb.mono N.size)
        clear hb
        obtain ⟨v4,hv4⟩:∃ b,Hid ((decide (e.txs.length≤6) && txsB e.v)=b):=⟨_,rfl⟩
        rw [hv4.out]
        cases v4 with
        | false=>
         have HE:Hid (ROK=false∧Below w.heap.size w x3):=⟨by
          rw [HOK2.out,HTX.out]
          have q:=hv4.out
          generalize inB e.next 1 1001=a1 at*
          generalize diskB e.v=a2 at*
          generalize seatsB e.v=a3 at*
          generalize nextB e.v=a4 at*
          generalize decide (e.txs.length≤6)=a5 at*
          generalize txsB e.v=a6 at*
          generalize holdsB e.v=a7 at*
          revert q
          cases a1<;>cases a2<;>cases a3<;>cases a4<;>cases a5<;>cases a6<;>cases a7<;>decide,HEND.out _ N⟩
         go_wp2
         go_ret
         exact ⟨ret_bool HE.out.1.symm,HE.out.2⟩
        | true=>
         have pe:=HPE.out _ N
         have C3:=CH _ (HR.out _ N)
         go_wp2_with (first | (guard_target=wpList _ _ _ (Oper.mk (some 37) _ _ _ _ _::_) _ _;refine wpList_load_mid_if (by rfl) 58 (.tmp 1) rfl w.heap.size 0 rfl (e.cells) _ pe Tryz.underlying58 rfl HI ?_) | fail)
         refine C3.mono ?_
         clear C3 pe
         rintro r x4 ⟨rfl,hb⟩
         replace N:=N.trans (hb.mono N.size)
         clear hb
         obtain ⟨v5,hv5⟩:∃ b,Hid (holdsB e.v=b):=⟨_,rfl⟩
         rw [hv5.out]
         cases v5 with
         | false=>
          have HE:Hid (ROK=false∧Below w.heap.size w x4):=⟨by
           rw [HOK2.out,HTX.out]
           have q:=hv5.out
           generalize inB e.next 1 1001=a1 at*
           generalize diskB e.v=a2 at*
           generalize seatsB e.v=a3 at*
           generalize nextB e.v=a4 at*
           generalize decide (e.txs.length≤6)=a5 at*
           generalize txsB e.v=a6 at*
           generalize holdsB e.v=a7 at*
           revert q
           cases a1<;>cases a2<;>cases a3<;>cases a4<;>cases a5<;>cases a6<;>cases a7<;>decide,HEND.out _ N⟩
          go_wp2
          go_ret
          exact ⟨ret_bool HE.out.1.symm,HE.out.2⟩
         | true=>
          have HE:Hid (ROK=true∧Below w.heap.size w x4):=⟨by
           have q1:=hv1.out
           have q2:=hv2.out
           have q3:=hv3.out
           have q4:=hv4.out
           have q5:=hv5.out
           rw [Bool.and_eq_true] at q3 q4
           rw [HOK2.out,HTX.out,q1,q2,q3.1,q3.2,q4.1,q4.2,q5];rfl,HEND.out _ N⟩
          go_wp2
          go_ret
          exact ⟨ret_bool HE.out.1.symm,HE.out.2⟩
end Go.Proofs.YtcoeamamaifoeaaGreatDoor
namespace Go.Proofs.YtcoeamamaifoeaaGreatDoor
open Go.RowKit
theorem tearOf_no {l:LogV} (n:Int) (h:okLog l=false):tearOf l n=l:=by unfold tearOf;rw [if_neg];rintro ⟨h1,_⟩;rw [h] at h1;cases h1
theorem tearOf_neg {l:LogV} {n:Int} (h:¬ 0≤n):tearOf l n=l:=by unfold tearOf;rw [if_neg];rintro ⟨_,h1⟩;exact h h1
theorem tearOf_yes {l:LogV} {n:Int} (h:okLog l=true) (hn:0≤n):tearOf l n=⟨l.recs.take (leftOf l n),leftOf l n⟩:=by unfold tearOf;rw [if_pos ⟨h,hn⟩]
theorem tear_short {t p:LogA} {n:Int} (h:t.v=tearOf p.v n) {m:Nat} (hs:p.short m):t.short m:=by
 have e:∃ j,t.recs.map RecA.v=(p.recs.take j).map RecA.v:=by
  have:=congrArg LogV.recs h
  unfold tearOf at this
  split at this
  ·exact ⟨_,by simp only [LogA.v] at this;rw [this,List.map_take]⟩
  ·exact ⟨p.recs.length,by rw [List.take_length];exact this⟩
 obtain ⟨j,e⟩:=e
 exact ⟨by rw [mapV_len e,List.length_take];have:=hs.len;omega,mapV_all e (fun r=>r.short m) (fun a b e hb=>short_of e hb) (fun r hr=>hs.each r (List.mem_of_mem_take hr))⟩
theorem ReadsRs.take {w:World} {a:Option Addr} {rs:List RecA} (h:ReadsRs w a rs) (j:Nat):ReadsRs w a (rs.take j):=by
 intro hne
 have hne':rs≠[]:=by rintro rfl;simp at hne
 obtain ⟨b,off,ha,hc⟩:=h hne'
 refine ⟨b,off,ha,fun k hk=>?_⟩
 rw [List.length_take] at hk
 have e:(rs.take j).getD k zeroR=rs.getD k zeroR:=by simp [List.getD,show k<j by omega]
 rw [e]
 exact hc k (by omega)
theorem OwnRs.take {w:World} {lo hi:Nat} {a:Option Addr} {c:Nat} {rs:List RecA} (h:OwnRs w lo hi a c rs) (j:Nat) (hj:j≤rs.length):OwnRs w lo hi a c (rs.take j):=by
 have hl:(rs.take j).length=j:=by rw [List.length_take];omega
 have hob:(Value.slice a (rs.take j).length c).ownBlock=(Value.slice a rs.length c).ownBlock:=by cases a<;>rfl
 refine ⟨?_,h.top,fun k hk=>h.blk k (by rw [← hob];exact hk),fun r hr=>h.each r (List.mem_of_mem_take hr),?_⟩
 ·have hcl:cellsRs (rs.take j)=(cellsRs rs).take (j*15):=by
   have e2:cellsRs rs=cellsRs (rs.take j)++cellsRs (rs.drop j):=by rw [← cellsRs_app,List.take_append_drop]
   rw [e2]
   exact (List.take_left' (by rw [cellsRs_len,hl])).symm
  refine ⟨by rw [cellsRs_len],?_⟩
  rcases h.row.2 with ⟨hv,h0⟩ | ⟨g,cap,cur,hv,hg,hgg,h1,h2,h3,h4⟩
  ·simp only [Value.slice.injEq] at hv
   refine .inl ⟨?_,by omega⟩
   rw [hv.1,hv.2.2,show (rs.take j).length=0 by omega]
  ·simp only [Value.slice.injEq] at hv
   refine .inr ⟨g,cap,cur,?_,hg,hgg,by omega,h2,h3,?_⟩
   ·rw [hv.1,hv.2.2]
   ·rw [hcl,← h4,List.take_take,hl]
    congr 1
    have:=Nat.mul_le_mul_right 15 hj
    omega
 ·rw [hob]
  have hap:=h.apart
  have e:rs.flatMap RecA.blocks=(rs.take j).flatMap RecA.blocks++(rs.drop j).flatMap RecA.blocks:=by rw [← List.flatMap_append,List.take_append_drop]
  rw [e,← List.append_assoc] at hap
  exact (List.nodup_append.1 hap).1
theorem specTear_any (l:LogA) (n:Int) (w:World) (hr:l.reads w) (hl:l.short 1048576) (hcp:∀ r∈l.recs,r.aL=none→r.cL=0):
  Calls Tryz.prog 18 #[.agg l.cells.toArray,.int .i64 n] w fun e w'=>∃ t:LogA,e=.returned (.agg t.cells.toArray)∧Hid (t.v=tearOf l.v n)∧t.own w' w.heap.size w'.heap.size∧Below w.heap.size w w':=by
 have HNO:Hid (okLog l.v=false→tearOf l.v n=l.v):=fun h=>tearOf_no n h
 have HNEG:Hid (¬ 0≤n→tearOf l.v n=l.v):=fun h=>tearOf_neg h
 have HYES:Hid (okLog l.v=true→0≤n→tearOf l.v n=⟨l.v.recs.take (if n<l.recs.length-l.sure then (l.sure+n).toNat else l.recs.length),((if n<l.recs.length-l.sure then (l.sure+n).toNat else l.recs.length):Nat)⟩):=fun h hn=>by rw [tearOf_yes h hn];unfold leftOf;rw [l.v_len];rfl
 have HSR:Hid (okLog l.v=true→0≤l.sure∧l.sure≤l.recs.length):=fun h=>by have h1:=(okLog_yes h).2.1;have:=(okLog_yes h).2.2.1;rw [l.v_len] at this;exact ⟨h1,this⟩
 obtain ⟨W,hW,b0,b1,hbW,hsW⟩:=boxes2 w l.cells [.slice none 0 0,.int .i64 0] 54 54
 have hs0:w.heap.size+1<W.heap.size:=by omega
 clear hsW
 have C1:=l5Copy_any l W (hr.below hbW) hl hcp
 have HLV:Hid (∀ t:LogA,t.v=l.v→t.recs.length=l.recs.length∧t.sure=l.sure∧t.recs.map RecA.v=l.v.recs):=fun t h=>by
  simp only [LogA.v,LogV.mk.injEq] at h
  exact ⟨mapV_len h.1,h.2,h.1⟩
 have HX:Hid (∀ u,Below W.heap.size W u→Box u w.heap.size l.cells 54):=fun u hu=>b0.below hu b0.lt
 have hll:=hl.len
 simp only [LogA.cells] at*
 have x0:=b0.cell 0 _ rfl
 have x1:=b0.cell 1 _ rfl
 clear b0
 go_enter Tryz.func18,Tryz.ntmps18
 go_wp2_with fail
 rw [hW.out]
 clear hW
 refine C1.mono ?_
 clear C1 x0 x1
 rintro e w1 ⟨t,rfl,hv,ho,hb1⟩
 have HE:Hid (_∧_∧_):=HLV.out t hv.out
 obtain ⟨rt,st,at',ct⟩:=t
 have hrt:rt.length≤1048576:=by have:=HE.out.1;simp only at this;omega
 simp only
 obtain ⟨W2,hW2,b2,hb2,hs2⟩:=boxes1 w1 [.slice at' rt.length ct,.int .i64 st] 54
 have k12:Below W.heap.size W W2:=hb1.trans (hb2.mono hb1.size)
 have hs1:=hb1.size
 have hs2':=hb2.size
 have hlt2:=b2.lt
 have D2:Below w.heap.size w W2:=hbW.trans (k12.mono hbW.size)
 have o2:OwnRs W2 W.heap.size w1.heap.size at' ct rt:=OwnRs.below ho hb2
 have b12:=b1.below k12 b1.lt
 have C2:=specLogOk_any l W2 (hr.below D2) (LogA.short_wide hl)
 simp only [LogA.cells] at C2
 have y0:=(HX.out W2 k12).cell 0 _ rfl
 have y1:=(HX.out W2 k12).cell 1 _ rfl
 clear hs2 ho hb1 hb2 b1
 go_upto_region 2 with fail
 rw [hW2.out]
 clear hW2
 go_wp2_with fail
 refine C2.mono ?_
 clear C2 y0 y1
 generalize okLog l.v=R at*
 rintro e w3 ⟨rfl,hb3⟩
 have hs3:=hb3.size
 have b23:=b2.below hb3 b2.lt
 have b13:=b12.below hb3 b12.lt
 have o3:=OwnRs.below o2 hb3
 have D3:Below w.heap.size w w3:=D2.trans (hb3.mono D2.size)
 have K13:Hid (Below W.heap.size W w3):=k12.trans (hb3.mono k12.size)
 clear b2 b12 o2 hb3 D2 k12
 have k13:Below W.heap.size W w3:=K13.out
 cases R with
 | false=>
  have HV:=HNO.out rfl
  have e0:=b23.cell 0 _ rfl
  have e1':=b23.cell 1 _ rfl
  have m0:=b13.cell 0 _ rfl
  have m1:=b13.cell 1 _ rfl
  have mf0:=b13.frozen 0
  have mf1:=b13.frozen 1
  obtain ⟨WF,hWF,bF,hwF,hsF⟩:=box2_fill b13 (.slice at' rt.length ct) (.int .i64 st)
  have q0:=bF.cell 0 _ rfl
  have q1:=bF.cell 1 _ rfl
  have hoF:=(o3.within hwF (.inr (by omega))).widen (show w.heap.size≤W.heap.size by omega) (show w1.heap.size≤WF.heap.size by omega) (Nat.le_refl _)
  have hbF:Below w.heap.size w WF:=D3.trans (hwF.below (by omega) (by omega))
  have HF:Hid (_∧_∧_):=⟨hv.out.trans HV.symm,hoF,hbF⟩
  clear hwF hsF bF hv HV hoF hbF HNO HYES HLV HE hs1 hs2' hs3 hlt2
  go_wp2
  rw [hWF.out]
  exact bodyPost_ret (v:=.agg #[.slice at' rt.length ct,.int .i64 st]) (by simp [results,Tryz.results18,go_sem,q0,q1]) rfl ⟨⟨rt,st,at',ct⟩,rfl,HF.out.1,HF.out.2.1,HF.out.2.2⟩
 | true=>
  by_cases h0:0≤n
  case neg=>
   have HV:=HNEG.out (by omega)
   have e0:=b23.cell 0 _ rfl
   have e1':=b23.cell 1 _ rfl
   have m0:=b13.cell 0 _ rfl
   have m1:=b13.cell 1 _ rfl
   have mf0:=b13.frozen 0
   have mf1:=b13.frozen 1
   obtain ⟨WF,hWF,bF,hwF,hsF⟩:=box2_fill b13 (.slice at' rt.length ct) (.int .i64 st)
   have q0:=bF.cell 0 _ rfl
   have q1:=bF.cell 1 _ rfl
   have hoF:=(o3.within hwF (.inr (by omega))).widen (show w.heap.size≤W.heap.size by omega) (show w1.heap.size≤WF.heap.size by omega) (Nat.le_refl _)
   have hbF:Below w.heap.size w WF:=D3.trans (hwF.below (by omega) (by omega))
   have HF:Hid (_∧_∧_):=⟨hv.out.trans HV.symm,hoF,hbF⟩
   clear hwF hsF bF hv HV hoF hbF HNO HYES HLV HE hs1 hs2' hs3 hlt2
   go_wp2
   rw [hWF.out]
   exact bodyPost_ret (v:=.agg #[.slice at' rt.length ct,.int .i64 st]) (by simp [results,Tryz.results18,go_sem,q0,q1]) rfl ⟨⟨rt,st,at',ct⟩,rfl,HF.out.1,HF.out.2.1,HF.out.2.2⟩
  case pos=>
  have HV:=HYES.out rfl h0
  obtain ⟨hsr0,hsr1⟩:=HSR.out rfl
  have p0:=(HX.out w3 k13).cell 0 _ rfl
  have p1:=(HX.out w3 k13).cell 1 _ rfl
  obtain ⟨j,hj,HJ1,HJ2⟩:∃ j:Nat,j≤rt.length∧Hid ((if n<l.recs.length-l.sure then (l.sure+n).toNat else l.recs.length)=j)∧Hid ((if n<(l.recs.length:Int)-l.sure then l.sure+n else (l.recs.length:Int))=(j:Int)):=by
   have e1:rt.length=l.recs.length:=HE.out.1
   refine ⟨_,?_,rfl,?_⟩
   ·split<;>omega
   ·rw [Hid];split<;>omega
  have oj:=OwnRs.take o3 j hj
  have hcap:rt.length≤ct:=by
   rcases o3.row.2 with ⟨hv',h00⟩ | ⟨g,cap,cur,hv',_,_,h1,_⟩
   ·omega
   ·simp only [Value.slice.injEq] at hv';omega
  have hjl:(rt.take j).length=j:=by rw [List.length_take];omega
  rw [HJ1.out] at HV
  have e0:=b23.cell 0 _ rfl
  have e1':=b23.cell 1 _ rfl
  have ef0:=b23.frozen 0
  have ef1:=b23.frozen 1
  have hnil:at'=none→ct=0∧j=0:=by
   intro ha
   have h1:=OwnRs.nocap o3 ha
   exact ⟨h1,by omega⟩
  obtain ⟨W4,hW4,b24,hw4,hs4⟩:=box2_fill b23 (.slice at' j ct) (.int .i64 j)
  have hs4a:=Nat.le_of_eq hs4
  have hs4b:=Nat.le_of_eq hs4.symm
  clear hs4
  have b14:=b13.within hw4 (by omega)
  have o4:=oj.within hw4 (.inl (Nat.le_refl _))
  have D4:Below w.heap.size w W4:=D3.trans (hw4.below (by omega) (by omega))
  have y0:=b24.cell 0 _ rfl
  have y1:=b24.cell 1 _ rfl
  have m0:=b14.cell 0 _ rfl
  have m1:=b14.cell 1 _ rfl
  have mf0:=b14.frozen 0
  have mf1:=b14.frozen 1
  obtain ⟨WF,hWF,bF,hwF,hsF⟩:=box2_fill b14 (.slice at' j ct) (.int .i64 j)
  have q0:=bF.cell 0 _ rfl
  have q1:=bF.cell 1 _ rfl
  have hoF:=(o4.within hwF (.inr (by omega))).widen (show w.heap.size≤W.heap.size by omega) (show w1.heap.size≤WF.heap.size by omega) (Nat.le_refl _)
  have hbF:Below w.heap.size w WF:=D4.trans (hwF.below (by omega) (by omega))
  have HVV:Hid ((⟨rt.take j,(j:Int),at',ct⟩:LogA).v=tearOf l.v n):=by
   rw [Hid,HV]
   have e3:rt.map RecA.v=l.v.recs:=HE.out.2.2
   simp only [LogA.v,List.map_take] at e3 ⊢
   rw [e3]
  have HF:Hid (_∧_∧_):=⟨HVV.out,hoF,hbF⟩
  have HL:Hid ((rt.take j).length=j):=hjl
  clear hwF hsF bF hv HV hoF hbF HNO HNEG HYES HLV HE hs1 hs2' hs3 hlt2 HVV hs4a hs4b hw4 hjl HSR oj o4 b24 b14
  by_cases hk:n<(l.recs.length:Int)-l.sure
  ·rw [if_pos hk] at HJ2
   have hJ:=HJ2.out
   clear HJ1 HJ2
   cases at' with
   | none=>
    obtain ⟨rfl,rfl⟩:=hnil rfl
    have z0:((0:Nat):Int)=0:=rfl
    rw [z0] at hW4 hWF q1 y1
    clear z0
    go_upto_region 9 with fail
    rw [hW4.out]
    clear hW4 e0 e1' ef0 ef1
    go_wp2
    rw [hWF.out]
    exact bodyPost_ret (v:=.agg #[.slice none 0 0,.int .i64 0]) (by simp [results,Tryz.results18,go_sem,q0,q1]) rfl ⟨⟨rt.take 0,((0:Nat):Int),none,0⟩,by simp,HF.out.1,HF.out.2.1,HF.out.2.2⟩
   | some ad=>
    go_upto_region 9 with fail
    rw [hW4.out]
    clear hW4 e0 e1' ef0 ef1
    go_wp2
    rw [hWF.out]
    exact bodyPost_ret (v:=.agg #[.slice (some ad) j ct,.int .i64 j]) (by simp [results,Tryz.results18,go_sem,q0,q1]) rfl ⟨⟨rt.take j,(j:Int),some ad,ct⟩,by simp only;rw [HL.out],HF.out.1,HF.out.2.1,HF.out.2.2⟩
  ·rw [if_neg hk] at HJ2
   have hJ:=HJ2.out
   have hJn:l.recs.length=j:=by omega
   clear HJ1 HJ2
   cases at' with
   | none=>
    obtain ⟨rfl,rfl⟩:=hnil rfl
    have z0:((0:Nat):Int)=0:=rfl
    rw [z0] at hW4 hWF q1 y1
    clear z0
    go_upto_region 9 with fail
    rw [hW4.out]
    clear hW4 e0 e1' ef0 ef1
    go_wp2
    rw [hWF.out]
    exact bodyPost_ret (v:=.agg #[.slice none 0 0,.int .i64 0]) (by simp [results,Tryz.results18,go_sem,q0,q1]) rfl ⟨⟨rt.take 0,((0:Nat):Int),none,0⟩,by simp,HF.out.1,HF.out.2.1,HF.out.2.2⟩
   | some ad=>
    go_upto_region 9 with fail
    rw [hW4.out]
    clear hW4 e0 e1' ef0 ef1
    go_wp2
    rw [hWF.out]
    exact bodyPost_ret (v:=.agg #[.slice (some ad) j ct,.int .i64 j]) (by simp [results,Tryz.results18,go_sem,q0,q1]) rfl ⟨⟨rt.take j,(j:Int),some ad,ct⟩,by simp only;rw [HL.out],HF.out.1,HF.out.2.1,HF.out.2.2⟩
theorem OwnRs.capLen {w:World} {lo hi:Nat} {a:Option Addr} {c:Nat} {rs:List RecA} (h:OwnRs w lo hi a c rs):rs.length≤c:=by
 rcases h.row.2 with ⟨hv',h00⟩ | ⟨g,cap,cur,hv',_,_,h1,_⟩
 ·omega
 ·simp only [Value.slice.injEq] at hv';omega
theorem OwnRs.nilLen {w:World} {lo hi:Nat} {a:Option Addr} {c:Nat} {rs:List RecA} (h:OwnRs w lo hi a c rs):a=none→rs.length=0∧c=0:=fun ha=>by
 have h1:=h.nocap ha
 have h2:=h.capLen
 exact ⟨by omega,h1⟩
theorem sureLog_any (a:Option Addr) (c m:Nat) (w:World):
  Calls Tryz.prog 66 #[.slice a m c] w fun e w'=>e=.returned (.agg #[.slice a m c,.int .i64 m])∧Below w.heap.size w w':=by
 obtain ⟨W,hW,b0,hbW,hsW⟩:=boxes1 w [.slice a m c,.int .i64 m] 54
 have q0:=b0.cell 0 _ rfl
 have q1:=b0.cell 1 _ rfl
 clear b0 hsW
 go_enter Tryz.func66,Tryz.ntmps66
 go_wp2
 rw [hW.out]
 exact bodyPost_ret (v:=.agg #[.slice a m c,.int .i64 m]) (by simp [results,Tryz.results66,go_sem,q0,q1]) rfl ⟨rfl,hbW⟩
theorem implTear_any (l:LogA) (n:Int) (w:World) (hg:ErrT w) (hr:l.reads w) (hl:l.short 1048576) (hcp:∀ r∈l.recs,r.aL=none→r.cL=0) (hcl:l.recs.length≤l.c) (hnl:l.a=none→l.recs.length=0∧l.c=0):
  Calls Tryz.prog 27 #[.agg l.cells.toArray,.int .i64 n] w fun e w'=>∃ t:LogA,e=.returned (.agg t.cells.toArray)∧Hid (t.v=tearOf l.v n)∧t.own w' w.heap.size w'.heap.size∧Below w.heap.size w w':=by
 have HNO:Hid (okLog l.v=false→tearOf l.v n=l.v):=fun h=>tearOf_no n h
 have HNEG:Hid (¬ 0≤n→tearOf l.v n=l.v):=fun h=>tearOf_neg h
 have HYES:Hid (okLog l.v=true→0≤n→tearOf l.v n=⟨l.v.recs.take (if n<l.recs.length-l.sure then (l.sure+n).toNat else l.recs.length),((if n<l.recs.length-l.sure then (l.sure+n).toNat else l.recs.length):Nat)⟩):=fun h hn=>by rw [tearOf_yes h hn];unfold leftOf;rw [l.v_len];rfl
 have HSR:Hid (okLog l.v=true→0≤l.sure∧l.sure≤l.recs.length):=fun h=>by have h1:=(okLog_yes h).2.1;have:=(okLog_yes h).2.2.1;rw [l.v_len] at this;exact ⟨h1,this⟩
 obtain ⟨W,hW,b0,b1,hbW,hsW⟩:=boxes2 w l.cells [.slice none 0 0,.int .i64 0] 54 54
 have hs0:w.heap.size+1<W.heap.size:=by omega
 clear hsW
 have C1:=implLogOk_any l W (hg.keep hbW) (hr.below hbW) (LogA.short_wide hl)
 have HC2:Hid (∀ u,Below W.heap.size W u→Calls _ _ _ _ _):=fun u hu=>copyLog_any l u (hr.below (hbW.trans (hu.mono hbW.size))) hl hcp
 have HC3:Hid (∀ u j,Below W.heap.size W u→Calls _ _ _ _ _):=fun u j hu=>copyRecs_any l.a l.c (l.recs.take j) u (ReadsRs.take (hr.below (hbW.trans (hu.mono hbW.size))) j) (by rw [List.length_take];have:=hl.len;omega) (fun r hr'=>(LogA.short_wide hl).each r (List.mem_of_mem_take hr')) (fun r hr'=>hcp r (List.mem_of_mem_take hr'))
 have HX:Hid (∀ u,Below W.heap.size W u→Box u w.heap.size l.cells 54):=fun u hu=>b0.below hu b0.lt
 have HY:Hid (∀ u,Below W.heap.size W u→Box u (w.heap.size+1) [.slice none 0 0,.int .i64 0] 54):=fun u hu=>b1.below hu b1.lt
 have hll:=hl.len
 simp only [LogA.cells] at*
 have x0:=b0.cell 0 _ rfl
 have x1:=b0.cell 1 _ rfl
 clear b0 b1
 go_enter Tryz.func27,Tryz.ntmps27
 go_wp2_with fail
 rw [hW.out]
 clear hW
 refine C1.mono ?_
 clear C1 x0 x1
 generalize okLog l.v=R at*
 rintro e w1 ⟨rfl,hb1⟩
 have hs1:=hb1.size
 have p0:=(HX.out w1 hb1).cell 0 _ rfl
 have p1:=(HX.out w1 hb1).cell 1 _ rfl
 cases R with
 | false=>
  have HV:Hid (tearOf l.v n=l.v):=HNO.out rfl
  clear HNO HNEG HYES HSR
  have C2:=HC2.out w1 hb1
  go_wp2_with fail
  refine C2.mono ?_
  clear C2 p0 p1
  rintro e w2 ⟨t,rfl,hv,ho,hb2⟩
  have hs2:=hb2.size
  have B2:Below W.heap.size W w2:=hb1.trans (hb2.mono hs1)
  have b12:=HY.out w2 B2
  have m0:=b12.cell 0 _ rfl
  have m1:=b12.cell 1 _ rfl
  have mf0:=b12.frozen 0
  have mf1:=b12.frozen 1
  obtain ⟨WF,hWF,bF,hwF,hsF⟩:=box2_fill b12 (.slice t.a t.recs.length t.c) (.int .i64 t.sure)
  have q0:=bF.cell 0 _ rfl
  have q1:=bF.cell 1 _ rfl
  have hoF:=(LogA.own.within ho hwF (.inr (by omega))).widen (show w.heap.size≤w1.heap.size by omega) (show w2.heap.size≤WF.heap.size by omega) (Nat.le_refl _)
  have hbF:Below w.heap.size w WF:=(hbW.trans (B2.mono hbW.size)).trans (hwF.below (by omega) (by omega))
  have HF:Hid (_∧_∧_):=⟨hv.out.trans HV.out.symm,hoF,hbF⟩
  clear hwF hsF bF hv HV hoF hbF b12 ho hb2 B2
  go_wp2
  rw [hWF.out]
  exact bodyPost_ret (v:=.agg #[.slice t.a t.recs.length t.c,.int .i64 t.sure]) (by simp [results,Tryz.results27,go_sem,q0,q1]) rfl ⟨t,rfl,HF.out.1,HF.out.2.1,HF.out.2.2⟩
 | true=>
  by_cases h0:0≤n
  case neg=>
   have HV:Hid (tearOf l.v n=l.v):=HNEG.out (by omega)
   clear HNO HNEG HYES HSR
   have C2:=HC2.out w1 hb1
   go_wp2_with fail
   refine C2.mono ?_
   clear C2 p0 p1
   rintro e w2 ⟨t,rfl,hv,ho,hb2⟩
   have hs2:=hb2.size
   have B2:Below W.heap.size W w2:=hb1.trans (hb2.mono hs1)
   have b12:=HY.out w2 B2
   have m0:=b12.cell 0 _ rfl
   have m1:=b12.cell 1 _ rfl
   have mf0:=b12.frozen 0
   have mf1:=b12.frozen 1
   obtain ⟨WF,hWF,bF,hwF,hsF⟩:=box2_fill b12 (.slice t.a t.recs.length t.c) (.int .i64 t.sure)
   have q0:=bF.cell 0 _ rfl
   have q1:=bF.cell 1 _ rfl
   have hoF:=(LogA.own.within ho hwF (.inr (by omega))).widen (show w.heap.size≤w1.heap.size by omega) (show w2.heap.size≤WF.heap.size by omega) (Nat.le_refl _)
   have hbF:Below w.heap.size w WF:=(hbW.trans (B2.mono hbW.size)).trans (hwF.below (by omega) (by omega))
   have HF:Hid (_∧_∧_):=⟨hv.out.trans HV.out.symm,hoF,hbF⟩
   clear hwF hsF bF hv HV hoF hbF b12 ho hb2 B2
   go_wp2
   rw [hWF.out]
   exact bodyPost_ret (v:=.agg #[.slice t.a t.recs.length t.c,.int .i64 t.sure]) (by simp [results,Tryz.results27,go_sem,q0,q1]) rfl ⟨t,rfl,HF.out.1,HF.out.2.1,HF.out.2.2⟩
  case pos=>
  have HV:=HYES.out rfl h0
  obtain ⟨hsr0,hsr1⟩:=HSR.out rfl
  obtain ⟨j,hj,HJ1,HJ2⟩:∃ j:Nat,j≤l.recs.length∧Hid ((if n<l.recs.length-l.sure then (l.sure+n).toNat else l.recs.length)=j)∧Hid (l.sure+(if (l.recs.length:Int)-l.sure<n then (l.recs.length:Int)-l.sure else n)=(j:Int)):=by
   refine ⟨_,?_,rfl,?_⟩
   ·split<;>omega
   ·rw [Hid];split<;>split<;>omega
  rw [HJ1.out] at HV
  have hJ:=HJ2.out
  clear HNO HNEG HYES HSR HJ1 HJ2
  have hjl:(l.recs.take j).length=j:=by rw [List.length_take];omega
  have C3:=HC3.out w1 j hb1
  rw [hjl] at C3
  have HVT:Hid (∀ ts:List RecA,ts.map RecA.v=(l.recs.take j).map RecA.v→∀ (a':Option Addr) (c':Nat),(⟨ts,(ts.length:Int),a',c'⟩:LogA).v=tearOf l.v n):=fun ts h a' c'=>by
   rw [HV]
   have hlen:=mapV_len h
   rw [hjl] at hlen
   simp only [LogA.v,h,hlen,List.map_take]
  clear HV
  go_upto_region 4 with fail
  generalize (if (l.recs.length:Int)-l.sure<n then (l.recs.length:Int)-l.sure else n)=I1 at*
  clear hJ
  have hjc:j≤l.c:=by omega
  generalize l.a=A at*
  cases A with
  | none=>
   obtain ⟨hz1,hz2⟩:=hnl rfl
   obtain rfl:j=0:=by omega
   rw [hz2] at C3 p0 ⊢
   go_wp2_with fail
   refine C3.mono ?_
   clear C3 p0 p1
   rintro e w2 ⟨a',c',ts,rfl,hv,ho,hb2⟩
   have hs2:=hb2.size
   have B2:Below W.heap.size W w2:=hb1.trans (hb2.mono hs1)
   have HVV:Hid _:=HVT.out ts hv.out a' c'
   have C4:=sureLog_any a' c' ts.length w2
   go_wp2_with fail
   refine C4.mono ?_
   clear C4 HVT
   rintro e w3 ⟨rfl,hb3⟩
   have hs3:=hb3.size
   have B3:Below W.heap.size W w3:=B2.trans (hb3.mono (by omega))
   have o3:=OwnRs.below ho hb3
   have b13:=HY.out w3 B3
   have m0:=b13.cell 0 _ rfl
   have m1:=b13.cell 1 _ rfl
   have mf0:=b13.frozen 0
   have mf1:=b13.frozen 1
   obtain ⟨WF,hWF,bF,hwF,hsF⟩:=box2_fill b13 (.slice a' ts.length c') (.int .i64 ts.length)
   have q0:=bF.cell 0 _ rfl
   have q1:=bF.cell 1 _ rfl
   have hoF:=(o3.within hwF (.inr (by omega))).widen (show w.heap.size≤w1.heap.size by omega) (show w2.heap.size≤WF.heap.size by omega) (Nat.le_refl _)
   have hbF:Below w.heap.size w WF:=(hbW.trans (B3.mono hbW.size)).trans (hwF.below (by omega) (by omega))
   have HF:Hid (_∧_∧_):=⟨HVV.out,hoF,hbF⟩
   clear hwF hsF bF hv HVV hoF hbF b13 ho o3 hb2 hb3 B2 B3
   go_wp2
   rw [hWF.out]
   exact bodyPost_ret (v:=.agg #[.slice a' ts.length c',.int .i64 ts.length]) (by simp [results,Tryz.results27,go_sem,q0,q1]) rfl ⟨⟨ts,(ts.length:Int),a',c'⟩,rfl,HF.out.1,HF.out.2.1,HF.out.2.2⟩
  | some ad=>
   go_wp2_with fail
   refine C3.mono ?_
   clear C3 p0 p1
   rintro e w2 ⟨a',c',ts,rfl,hv,ho,hb2⟩
   have hs2:=hb2.size
   have B2:Below W.heap.size W w2:=hb1.trans (hb2.mono hs1)
   have HVV:Hid _:=HVT.out ts hv.out a' c'
   have C4:=sureLog_any a' c' ts.length w2
   go_wp2_with fail
   refine C4.mono ?_
   clear C4 HVT
   rintro e w3 ⟨rfl,hb3⟩
   have hs3:=hb3.size
   have B3:Below W.heap.size W w3:=B2.trans (hb3.mono (by omega))
   have o3:=OwnRs.below ho hb3
   have b13:=HY.out w3 B3
   have m0:=b13.cell 0 _ rfl
   have m1:=b13.cell 1 _ rfl
   have mf0:=b13.frozen 0
   have mf1:=b13.frozen 1
   obtain ⟨WF,hWF,bF,hwF,hsF⟩:=box2_fill b13 (.slice a' ts.length c') (.int .i64 ts.length)
   have q0:=bF.cell 0 _ rfl
   have q1:=bF.cell 1 _ rfl
   have hoF:=(o3.within hwF (.inr (by omega))).widen (show w.heap.size≤w1.heap.size by omega) (show w2.heap.size≤WF.heap.size by omega) (Nat.le_refl _)
   have hbF:Below w.heap.size w WF:=(hbW.trans (B3.mono hbW.size)).trans (hwF.below (by omega) (by omega))
   have HF:Hid (_∧_∧_):=⟨HVV.out,hoF,hbF⟩
   clear hwF hsF bF hv HVV hoF hbF b13 ho o3 hb2 hb3 B2 B3
   go_wp2
   rw [hWF.out]
   exact bodyPost_ret (v:=.agg #[.slice a' ts.length c',.int .i64 ts.length]) (by simp [results,Tryz.results27,go_sem,q0,q1]) rfl ⟨⟨ts,(ts.length:Int),a',c'⟩,rfl,HF.out.1,HF.out.2.1,HF.out.2.2⟩
end Go.Proofs.YtcoeamamaifoeaaGreatDoor