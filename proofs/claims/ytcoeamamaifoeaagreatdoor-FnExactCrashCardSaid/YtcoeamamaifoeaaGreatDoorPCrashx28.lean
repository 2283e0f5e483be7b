/- Several texts in one, in their order. -/
import Derived.Test.YtcoeamamaifoeaaGreatDoorPCrashx26
import Derived.Test.YtcoeamamaifoeaaGreatDoorPCrashx20
import Derived.Test.YtcoeamamaifoeaaGreatDoorPCrashx15
import Derived.Test.YtcoeamamaifoeaaGreatDoorPCrashx27
import Derived.Test.YtcoeamamaifoeaaGreatDoorPCrashx5
import Derived.Test.YtcoeamamaifoeaaGreatDoorPCrashx7
import Derived.Test.YtcoeamamaifoeaaGreatDoorPCrashx1
set_option maxHeartbeats 8000000
set_option maxRecDepth 100000
namespace Go.Proofs.YtcoeamamaifoeaaGreatDoor
open Go.RowKit
theorem specEngineOk_any (e:EngA) (se:e.shape) (w:World) (re:e.reads w) (hl:e.short 1048576):
  Calls Tryz.prog 17 #[.agg e.cells.toArray] w fun r w'=>r=.returned (.bool (okEng e.v))∧Below w.heap.size w w':=by
 have HL0:Hid (okLog e.log.v=false→okEng e.v=false):=fun h=>by (have h':okLog e.v.log=false:=h;simp [okEng,h'])
 have HP0:Hid (okPool e.poolA.v=false→okEng e.v=false):=fun h=>by (have h':okPool e.v.poolV=false:=h;simp [okEng,h'])
 have HN0:Hid (inB e.next 1 1001=false→okEng e.v=false):=fun h=>by (have h':inB e.v.next 1 1001=false:=h;simp [okEng,h'])
 have HT0:Hid (okTxs e.v=false→okEng e.v=false):=fun h=>by simp [okEng,h]
 have HX0:Hid (∀ k,k<e.log.recs.length→nextAt e.v k=false→okEng e.v=false):=fun k hk h=>okEng_next (by simpa [EngA.v,LogA.v] using hk) h
 have HD0:Hid (∀ k,k<8→diskAt e.v k=false→okEng e.v=false):=fun k hk h=>okEng_disk hk h
 have HS0:Hid (∀ k,k<e.seats.length→seatAt e.v k=false→okEng e.v=false):=fun k hk h=>okEng_seat (by simpa [EngA.v] using hk) h
 have HALL:Hid (okLog e.log.v=true→okPool e.poolA.v=true→inB e.next 1 1001=true→okTxs e.v=true→(∀ k,k<e.log.recs.length→nextAt e.v k=true)→(∀ k,k<8→diskAt e.v k=true)→(∀ k,k<e.seats.length→seatAt e.v k=true)→okEng e.v=(!e.down || (decide (e.seats.length=0) && (decide (e.txs.length=0) && decide (e.holds.length=0))))):=fun h1 h2 h3 h4 h5 h6 h7=>by
  have:=okEng_all (e:=e.v) h1 h2 h3 h4 (fun k hk=>h5 k (by simpa [EngA.v,LogA.v] using hk)) h6 (fun k hk=>h7 k (by simpa [EngA.v] using hk))
  rw [this]
  simp [bareB,EngA.v]
 have HXA:Hid (∀ k,nextAt e.v k=decide ((e.log.recs.getD k zeroR).tx<e.next)):=fun k=>by (show decide (((e.log.recs.map RecA.v).getD k zeroR.v).tx<e.next)=_;rw [recD_v];rfl)
 have HDA:Hid (∀ k,k<8→diskAt e.v k=(okP (e.disk.getD k zeroP).lsn ((e.disk.getD k zeroP).ss.map (·.v)) && decide ((e.disk.getD k zeroP).lsn≤e.log.sure))):=fun k hk=>by (rw [diskAt,diskV_at se k hk];rfl)
 have HSA:Hid (∀ k (n:Nat),(e.seats.getD k zeroSt).no=n→n<8→seatAt e.v k=(decide ((e.seats.getD k zeroSt).lsn≤(e.log.recs.length:Int)) && ((e.seats.getD k zeroSt).dirty || samePg ((e.seats.getD k zeroSt).lsn,(e.seats.getD k zeroSt).ss.map (·.v)) ((e.disk.getD n zeroP).lsn,(e.disk.getD n zeroP).ss.map (·.v))))):=fun k n hn h8=>by
  have e1:e.v.seats.getD k zeroStV=(e.seats.getD k zeroSt).v:=seatV_at e.seats k
  have e2:(e.seats.getD k zeroSt).v.no=n:=hn
  rw [seatAt,e1,e2,Int.toNat_natCast,diskV_at se n h8]
  simp only [EngA.v,LogA.v,List.length_map]
  rfl
 have HNO:Hid (okPool e.poolA.v=true→∀ k,k<e.seats.length→∃ n:Nat,(e.seats.getD k zeroSt).no=n∧n<8):=fun h k hk=>by
  obtain ⟨n,h1,h2⟩:=seat_no (e:=e.v) h k (by simpa [EngA.v] using hk)
  exact ⟨n,by rw [← h1];show _=(e.v.seats.getD k zeroStV).no;rw [show e.v.seats.getD k zeroStV=(e.seats.getD k zeroSt).v from seatV_at e.seats k];rfl,h2⟩
 have CT:=fun u (hu:e.reads u) h1 h2=>l7TxsOk_any e se u hu hl h1 h2
 obtain ⟨ROK,hROK⟩:∃ b,okEng e.v=b:=⟨_,rfl⟩
 rw [hROK] at HL0 HP0 HN0 HT0 HX0 HD0 HS0 HALL ⊢
 clear hROK
 obtain ⟨OTX,hOTX⟩:∃ b,okTxs e.v=b:=⟨_,rfl⟩
 rw [hOTX] at HT0 HALL CT
 clear hOTX
 obtain ⟨W,hW,b0,hbW,hsW⟩:=boxes1 w e.cells 58
 have HB:Hid (∀ u,Below W.heap.size W u→Box u w.heap.size e.cells 58):=fun u hu=>b0.below hu b0.lt
 have HR:Hid (∀ u,Below W.heap.size W u→e.reads u):=fun u hu=>(re.below hbW).below hu
 have HEND:Hid (∀ u,Below W.heap.size W u→Below w.heap.size w u):=fun u hu=>hbW.trans (hu.mono hbW.size)
 have hw0:w.heap.size<W.heap.size:=by omega
 have HFD:Hid (∀ p∈e.disk,Fit p.ss):=fun p hp s hs=>by have:=hl.disk p hp s hs;omega
 have HFS:Hid (∀ s∈e.seats,Fit s.ss):=fun s hs x hx=>by have:=hl.pool.each s hs x hx;omega
 have HLP:Hid (e.poolA.short 1099511627776):=PoolA.short_wide hl.pool
 have HLL:Hid (e.log.short 1099511627776):=LogA.short_wide hl.log
 have hrl:e.log.recs.length≤1048576:=hl.log.len
 have hsl:e.seats.length≤1048576:=hl.pool.len
 have htl:=hl.txs
 have hhl:=hl.holds
 have HI:=eng_info se
 clear b0 hsW hl re
 have N:Below W.heap.size W W:=Below.refl _ _
 obtain ⟨p0,p1,p2,p3,p4,p5,p6⟩:=eng_parts se (HB.out W N)
 have C1:=specLogOk_any e.log W (HR.out _ N).log HLL.out
 go_enter Tryz.func17,Tryz.ntmps17
 go_wp2_with (first | (guard_target=wpList _ _ _ (Oper.mk (some 8) _ _ _ _ _::_) _ _;refine wpList_load_mid rfl 54 (.tmp 7) rfl w.heap.size 138 rfl (e.log.cells) _ (by rw [hW.out];exact p2) Tryz.underlying54 rfl (log_info _) ?_) | fail)
 rw [hW.out]
 clear hW p0 p1 p2 p3 p4 p5 p6
 refine C1.mono ?_
 clear C1
 rintro r w1 ⟨rfl,hb⟩
 replace N:=N.trans (hb.mono N.size)
 clear hb
 obtain ⟨p0,p1,p2,p3,p4,p5,p6⟩:=eng_parts se (HB.out _ N)
 cases hlog:okLog e.log.v with
 | false=>
  have HLG:=HL0.out hlog
  have HLGh:Hid (_=_):=HLG
  clear HLG hlog
  have HE:Hid (ROK=false∧Below w.heap.size w w1):=⟨HLGh.out,HEND.out _ N⟩
  go_wp2
  go_ret
  exact ⟨ret_bool HE.out.1.symm,HE.out.2⟩
 | true=>
  have HLG:Hid (_=_):=hlog
  clear hlog
  have C2:=specPoolOk_any e.poolA w1 (HR.out _ N).pool HLP.out
  go_wp2_with (first | (guard_target=wpList _ _ _ (Oper.mk (some 13) _ _ _ _ _::_) _ _;refine wpList_load_mid_if (by rfl) 51 (.tmp 12) rfl w.heap.size 136 rfl (e.poolA.cells) _ p1 Tryz.underlying51 rfl (pool_info _) ?_) | fail)
  refine C2.mono ?_
  clear C2 p0 p1 p2 p3 p4 p5 p6
  rintro r w2 ⟨rfl,hb⟩
  replace N:=N.trans (hb.mono N.size)
  clear hb
  obtain ⟨p0,p1,p2,p3,p4,p5,p6⟩:=eng_parts se (HB.out _ N)
  cases hpool:okPool e.poolA.v with
  | false=>
   have HPL:Hid (_=_):=HP0.out hpool
   clear hpool
   have HE:Hid (ROK=false∧Below w.heap.size w w2):=⟨HPL.out,HEND.out _ N⟩
   go_wp2
   go_ret
   exact ⟨ret_bool HE.out.1.symm,HE.out.2⟩
  | true=>
   have HPL:Hid (_=_):=hpool
   clear hpool
   go_wp2_with fail
   refine (l1In_any _ _ _ _).mono ?_
   rintro r w2 ⟨rfl,rfl⟩
   cases hnx:inB e.next 1 1001 with
   | false=>
    have HNX:Hid (_=_):=HN0.out hnx
    clear hnx
    have HE:Hid (ROK=false∧Below w.heap.size w w2):=⟨HNX.out,HEND.out _ N⟩
    go_wp2
    go_ret
    exact ⟨ret_bool HE.out.1.symm,HE.out.2⟩
   | true=>
    have HNX:Hid (_=_):=hnx
    have hn1:1≤e.next∧e.next≤1001:=by simpa [inB] using hnx
    clear hnx
    have C4:=CT w2 (HR.out _ N) hn1.1 hn1.2
    clear CT
    have rE:w2.rangeAt w.heap.size 0 e.cells:=Box.range [] e.cells [] (by simpa using HB.out _ N)
    go_wp2_with (first | (guard_target=wpList _ _ _ (Oper.mk (some 24) _ _ _ _ _::_) _ _;refine wpList_load_mid_if (by rfl) 58 (.tmp 1) rfl w.heap.size 0 rfl (e.cells) _ rE Tryz.underlying58 rfl HI ?_) | fail)
    refine C4.mono ?_
    clear C4 p0 p1 p2 p3 p4 p5 p6 rE
    rintro r w4 ⟨rfl,hb⟩
    replace N:=N.trans (hb.mono N.size)
    clear hb
    obtain ⟨p0,p1,p2,p3,p4,p5,p6⟩:=eng_parts se (HB.out _ N)
    cases OTX with
    | false=>
     have HE:Hid (ROK=false∧Below w.heap.size w w4):=⟨HT0.out rfl,HEND.out _ N⟩
     go_wp2
     go_ret
     exact ⟨ret_bool HE.out.1.symm,HE.out.2⟩
    | true=>
     have l0:=p2 0 _ rfl
     go_wp2_with fail
     go_loopw [3] (fun i wr=>∃ k:Nat,k≤e.log.recs.length∧i=.int .i64 (k:Int)∧Hid (∀ j,j<k→nextAt e.v j=true)∧Below W.heap.size W wr) (fun i _=>e.log.recs.length-(intOf i).toNat)
     case atStart=>exact ⟨0,Nat.zero_le _,rfl,fun j hj=>by omega,N⟩
     case round=>
      obtain ⟨k,hk,rfl,hall,hbr⟩:=hrel
      clear p0 p1 p2 p3 p4 p5 p6 l0
      have hsr:=hbr.size
      by_cases hlt:k<e.log.recs.length
      ·obtain ⟨b,off,ha,hc⟩:=(HR.out _ hbr).log (by intro e0;rw [e0] at hlt;simp at hlt)
       have hc1:=(hc k hlt).1 1 _ rfl
       have HXK:Hid (_=_):=HXA.out k
       have HXN:Hid (_→_):=HX0.out k hlt
       clear hc
       generalize e.log.recs.getD k zeroR=z at*
       have HS:Hid (∀ u,Below wr.heap.size wr u→(u.cell? ⟨w.heap.size,138,none⟩=some (.slice (some ⟨b,off,none⟩) e.log.recs.length e.log.c)∧u.cell? ⟨b,off+k*15+1,none⟩=some (.int .i64 z.tx)∧u.cell? ⟨w.heap.size,142,none⟩=some (.int .i64 e.next))):=fun u hu=>by
        obtain ⟨_,_,q2,_,_,q5,_⟩:=eng_parts se (HB.out u (hbr.trans (hu.mono hbr.size)))
        have q20:=q2 0 _ rfl
        rw [ha] at q20
        exact ⟨q20,(hu.cell (p:=⟨b,off+k*15+1,none⟩) (block_lt hc1)).trans hc1,q5⟩
       obtain ⟨s0,_,_⟩:=HS.out wr (Below.refl _ _)
       have hkl:(k:Int)<(e.log.recs.length:Int):=by omega
       have hk0:(0:Int)≤(k:Int):=by omega
       clear hc1
       go_upto_region 6 with fail
       clear s0
       have D0:Below wr.heap.size wr wr.drew:=(Below.refl _ _).drew
       have N2:Below W.heap.size W wr.drew:=hbr.trans (D0.mono hbr.size)
       by_cases hx:z.tx<e.next
       ·have hxn:¬ e.next≤z.tx:=by omega
        have HK:Hid (∀ j,j<k+1→nextAt e.v j=true):=fun j hj=>by
         by_cases q:j=k
         ·rw [q,HXK.out];exact decide_eq_true hx
         ·exact hall.out j (by omega)
        clear hx
        refine wp_region_held_drew (S:=fun u=>(u.cell? ⟨w.heap.size,138,none⟩=some (.slice (some ⟨b,off,none⟩) e.log.recs.length e.log.c)∧u.cell? ⟨b,off+k*15+1,none⟩=some (.int .i64 z.tx)∧u.cell? ⟨w.heap.size,142,none⟩=some (.int .i64 e.next))) (by kernel_rfl) (HS.out _ D0) (fun hHeld=>?_)
        generalize wr.drew=d0 at*
        refine tq 0 (v:=.pointer (some ⟨w.heap.size,138,none⟩)) rfl hHeld ?_
        try simp only [zz]
        refine tq 1 (v:=.pointer (some ⟨w.heap.size,138,none⟩)) rfl hHeld ?_
        try simp only [zz]
        refine tk 2 (v:=.slice (some ⟨b,off,none⟩) e.log.recs.length e.log.c) rfl (Or.inl ⟨by rfl,?_⟩) hHeld ?_
        ·intro w' hSw
         have hx:=hSw.1
         go_simp<;>rfl
        try simp only [zz]
        refine tq 3 (v:=.int .i64 (k:Int)) rfl hHeld ?_
        try simp only [zz]
        refine tq 4 (v:=.pointer (some ⟨b,off+k*15,none⟩)) rfl hHeld ?_
        try simp only [zz]
        refine tq 5 (v:=.pointer (some ⟨b,off+k*15+1,none⟩)) rfl hHeld ?_
        try simp only [zz]
        refine tk 6 (v:=.int .i64 z.tx) rfl (Or.inl ⟨by rfl,?_⟩) hHeld ?_
        ·intro w' hSw
         have hx:=hSw.2.1
         go_simp<;>rfl
        try simp only [zz]
        refine tq 7 (v:=.pointer (some ⟨w.heap.size,142,none⟩)) rfl hHeld ?_
        try simp only [zz]
        refine tk 8 (v:=.int .i64 e.next) rfl (Or.inl ⟨by rfl,?_⟩) hHeld ?_
        ·intro w' hSw
         have hx:=hSw.2.2
         go_simp<;>rfl
        try simp only [zz]
        refine tq 9 (v:=.bool false) rfl hHeld ?_
        try simp only [zz]
        refine wpAnyH_done (by kernel_rfl) ?_ _
        clear hHeld
        go_wp2_with fail
        go_roundw
        case rel=>exact ⟨k+1,by omega,by go_num,HK,N2⟩
        case measure=>simp [intOf];omega
       ·have hxn:e.next≤z.tx:=by omega
        have HXF:Hid (ROK=false):=HXN.out (by rw [HXK.out];exact decide_eq_false hx)
        clear hx
        refine wp_region_held_drew (S:=fun u=>(u.cell? ⟨w.heap.size,138,none⟩=some (.slice (some ⟨b,off,none⟩) e.log.recs.length e.log.c)∧u.cell? ⟨b,off+k*15+1,none⟩=some (.int .i64 z.tx)∧u.cell? ⟨w.heap.size,142,none⟩=some (.int .i64 e.next))) (by kernel_rfl) (HS.out _ D0) (fun hHeld=>?_)
        generalize wr.drew=d0 at*
        refine tq 0 (v:=.pointer (some ⟨w.heap.size,138,none⟩)) rfl hHeld ?_
        try simp only [zz]
        refine tq 1 (v:=.pointer (some ⟨w.heap.size,138,none⟩)) rfl hHeld ?_
        try simp only [zz]
        refine tk 2 (v:=.slice (some ⟨b,off,none⟩) e.log.recs.length e.log.c) rfl (Or.inl ⟨by rfl,?_⟩) hHeld ?_
        ·intro w' hSw
         have hx:=hSw.1
         go_simp<;>rfl
        try simp only [zz]
        refine tq 3 (v:=.int .i64 (k:Int)) rfl hHeld ?_
        try simp only [zz]
        refine tq 4 (v:=.pointer (some ⟨b,off+k*15,none⟩)) rfl hHeld ?_
        try simp only [zz]
        refine tq 5 (v:=.pointer (some ⟨b,off+k*15+1,none⟩)) rfl hHeld ?_
        try simp only [zz]
        refine tk 6 (v:=.int .i64 z.tx) rfl (Or.inl ⟨by rfl,?_⟩) hHeld ?_
        ·intro w' hSw
         have hx:=hSw.2.1
         go_simp<;>rfl
        try simp only [zz]
        refine tq 7 (v:=.pointer (some ⟨w.heap.size,142,none⟩)) rfl hHeld ?_
        try simp only [zz]
        refine tk 8 (v:=.int .i64 e.next) rfl (Or.inl ⟨by rfl,?_⟩) hHeld ?_
        ·intro w' hSw
         have hx:=hSw.2.2
         go_simp<;>rfl
        try simp only [zz]
        refine tq 9 (v:=.bool true) rfl hHeld ?_
        try simp only [zz]
        refine wpAnyH_done (by kernel_rfl) ?_ _
        clear hHeld
        have HE:Hid (ROK=false∧Below w.heap.size w d0):=⟨HXF.out,HEND.out _ N2⟩
        go_wp2
        go_ret
        exact ⟨ret_bool HE.out.1.symm,HE.out.2⟩
      ·have e1:k=e.log.recs.length:=by omega
       have HXT:Hid (∀ j,j<e.log.recs.length→nextAt e.v j=true):=by rw [e1] at hall;exact hall
       have p2:=(eng_parts se (HB.out wr hbr)).2.2.1
       have l0:=p2 0 _ rfl
       have hge:¬ (k:Int)<(e.log.recs.length:Int):=by omega
       clear hall e1 p2
       go_upto_region 9 with fail
       clear l0 hge
       generalize wr=wq at*
       go_loopw [4] (fun i wr=>∃ k:Nat,k≤8∧i=.int .i64 (k:Int)∧Hid (∀ j,j<k→diskAt e.v j=true)∧Below W.heap.size W wr) (fun i _=>8-(intOf i).toNat)
       case atStart=>exact ⟨0,Nat.zero_le _,rfl,fun j hj=>by omega,hbr⟩
       case round=>
        clear hbr hsr
        obtain ⟨m,hm,rfl,hall,hbr⟩:=hrel
        have hsr:=hbr.size
        by_cases hlt2:m<8
        ·have hml:m<e.disk.length:=by rw [se.eight];exact hlt2
         have HDK:Hid (_=_):=HDA.out m hlt2
         have HDN:Hid (_→_):=HD0.out m hlt2
         have HP4:=se.disk8.at hlt2
         have F1:=HFD.out _ (pageD_mem (k:=m) hml)
         have HRP:Hid (∀ u,Below W.heap.size W u→ReadsS u (e.disk.getD m zeroP).ss):=fun u hu=>(HR.out _ hu).disk _ (pageD_mem (k:=m) hml)
         have HS:Hid (∀ u,Below wr.heap.size wr u→(u.rangeAt w.heap.size (m*17) (e.disk.getD m zeroP).cells∧u.cell? ⟨w.heap.size,m*17,none⟩=some (.int .i64 (e.disk.getD m zeroP).lsn)∧u.cell? ⟨w.heap.size,139,none⟩=some (.int .i64 e.log.sure))):=fun u hu=>by
          have bu:=HB.out u (hbr.trans (hu.mono hbr.size))
          obtain ⟨q0,_,q2,_,_,_,_⟩:=eng_parts se bu
          have bd:Box u w.heap.size (cellsPs e.disk++e.tail) 58:=bu
          have rp:=EngA.page_at se bu m hml
          rw [pageD_eq hml] at rp
          exact ⟨rp,rp 0 _ rfl,q2 1 _ rfl⟩
         generalize e.disk.getD m zeroP=p at*
         have hi0:(0:Int)≤(m:Int):=by omega
         have hi8:(m:Int)<8:=by omega
         go_upto_region 11 with fail
         have D0:Below wr.heap.size wr wr.drew:=(Below.refl _ _).drew
         have N2:Below W.heap.size W wr.drew:=hbr.trans (D0.mono hbr.size)
         obtain ⟨bA,hA⟩:∃ bA,Hid (okP p.lsn (p.ss.map (·.v))=bA):=⟨_,rfl⟩
         cases bA with
         | false=>
          have HXF:Hid (ROK=false):=HDN.out (by rw [HDK.out,hA.out];rfl)
          refine wp_region_held_drew (S:=fun u=>(u.rangeAt w.heap.size (m*17) p.cells∧u.cell? ⟨w.heap.size,m*17,none⟩=some (.int .i64 p.lsn)∧u.cell? ⟨w.heap.size,139,none⟩=some (.int .i64 e.log.sure))) (by kernel_rfl) (HS.out _ D0) (fun hHeld=>?_)
          generalize wr.drew=d0 at*
          refine tq 0 (v:=.int .i64 (m:Int)) rfl hHeld ?_
          try simp only [zz]
          refine tq 1 (v:=.pointer (some ⟨w.heap.size,0,none⟩)) rfl hHeld ?_
          try simp only [zz]
          refine tq 2 (v:=.pointer (some ⟨w.heap.size,m*17,none⟩)) rfl hHeld ?_
          try simp only [zz]
          refine tk 3 rfl (yieldsIf_load_mid (by rfl) _ _ rfl _ _ rfl (p.cells) _ (fun _ h=>h.1) Tryz.underlying47 rfl (page_infoP _ HP4)) hHeld ?_
          try simp only [zz]
          refine wpAnyH_ready (rs:=[4]) (by kernel_rfl) (by simp) ?_
          refine AllReadyH.cons rfl (fun K hK=>?_) AllReadyH.nil
          go_simp
          refine (specPageOk_any p HP4 _ (HRP.out _ N2) F1).mono ?_
          rintro r d1 ⟨rfl,hb1⟩
          rw [hA.out]
          have D1:Below wr.heap.size wr d1:=D0.trans (hb1.mono D0.size)
          have N3:Below W.heap.size W d1:=hbr.trans (D1.mono hbr.size)
          refine hK.out _ _ (HS.out _ D1) (fun hHeld=>?_)
          clear hK K hb1
          try simp only [zz]
          refine tq 5 (v:=.bool true) rfl hHeld ?_
          try simp only [zz]
          refine tq 6 (v:=.bool true) rfl hHeld ?_
          try simp only [zz]
          refine tk 7 (v:=undef) rfl (Or.inr ⟨by rfl,rfl⟩) hHeld ?_
          try simp only [zz]
          refine tk 8 (v:=undef) rfl (Or.inr ⟨by rfl,rfl⟩) hHeld ?_
          try simp only [zz]
          refine tk 9 (v:=undef) rfl (Or.inr ⟨by rfl,rfl⟩) hHeld ?_
          try simp only [zz]
          refine tk 10 (v:=undef) rfl (Or.inr ⟨by rfl,rfl⟩) hHeld ?_
          try simp only [zz]
          refine tk 11 (v:=undef) rfl (Or.inr ⟨by rfl,rfl⟩) hHeld ?_
          try simp only [zz]
          refine tk 12 (v:=undef) rfl (Or.inr ⟨by rfl,rfl⟩) hHeld ?_
          try simp only [zz]
          refine tk 13 (v:=undef) rfl (Or.inr ⟨by rfl,rfl⟩) hHeld ?_
          try simp only [zz]
          refine tk 14 (v:=undef) rfl (Or.inr ⟨by rfl,rfl⟩) hHeld ?_
          try simp only [zz]
          refine tk 15 (v:=undef) rfl (Or.inr ⟨by rfl,rfl⟩) hHeld ?_
          try simp only [zz]
          refine tq 16 (v:=.bool true) rfl hHeld ?_
          try simp only [zz]
          refine wpAnyH_done (by kernel_rfl) ?_ _
          clear hHeld
          have HE:Hid (ROK=false∧Below w.heap.size w d1):=⟨HXF.out,HEND.out _ N3⟩
          go_wp2
          go_ret
          exact ⟨ret_bool HE.out.1.symm,HE.out.2⟩
         | true=>
          by_cases hx:p.lsn≤e.log.sure
          ·have hxn:¬ e.log.sure<p.lsn:=by omega
           have HK:Hid (∀ j,j<m+1→diskAt e.v j=true):=fun j hj=>by
            by_cases q:j=m
            ·rw [q,HDK.out,hA.out,decide_eq_true hx];rfl
            ·exact hall.out j (by omega)
           clear hx
           refine wp_region_held_drew (S:=fun u=>(u.rangeAt w.heap.size (m*17) p.cells∧u.cell? ⟨w.heap.size,m*17,none⟩=some (.int .i64 p.lsn)∧u.cell? ⟨w.heap.size,139,none⟩=some (.int .i64 e.log.sure))) (by kernel_rfl) (HS.out _ D0) (fun hHeld=>?_)
           generalize wr.drew=d0 at*
           refine tq 0 (v:=.int .i64 (m:Int)) rfl hHeld ?_
           try simp only [zz]
           refine tq 1 (v:=.pointer (some ⟨w.heap.size,0,none⟩)) rfl hHeld ?_
           try simp only [zz]
           refine tq 2 (v:=.pointer (some ⟨w.heap.size,m*17,none⟩)) rfl hHeld ?_
           try simp only [zz]
           refine tk 3 rfl (yieldsIf_load_mid (by rfl) _ _ rfl _ _ rfl (p.cells) _ (fun _ h=>h.1) Tryz.underlying47 rfl (page_infoP _ HP4)) hHeld ?_
           try simp only [zz]
           refine wpAnyH_ready (rs:=[4]) (by kernel_rfl) (by simp) ?_
           refine AllReadyH.cons rfl (fun K hK=>?_) AllReadyH.nil
           go_simp
           refine (specPageOk_any p HP4 _ (HRP.out _ N2) F1).mono ?_
           rintro r d1 ⟨rfl,hb1⟩
           rw [hA.out]
           have D1:Below wr.heap.size wr d1:=D0.trans (hb1.mono D0.size)
           have N3:Below W.heap.size W d1:=hbr.trans (D1.mono hbr.size)
           refine hK.out _ _ (HS.out _ D1) (fun hHeld=>?_)
           clear hK K hb1
           try simp only [zz]
           refine tq 5 (v:=.bool false) rfl hHeld ?_
           try simp only [zz]
           refine tq 6 (v:=.bool false) rfl hHeld ?_
           try simp only [zz]
           refine tq 7 (v:=.int .i64 (m:Int)) rfl hHeld ?_
           try simp only [zz]
           refine tq 8 (v:=.pointer (some ⟨w.heap.size,0,none⟩)) rfl hHeld ?_
           try simp only [zz]
           refine tq 9 (v:=.pointer (some ⟨w.heap.size,m*17,none⟩)) rfl hHeld ?_
           try simp only [zz]
           refine tq 10 (v:=.pointer (some ⟨w.heap.size,m*17,none⟩)) rfl hHeld ?_
           try simp only [zz]
           refine tk 11 (v:=.int .i64 p.lsn) rfl (Or.inl ⟨by rfl,?_⟩) hHeld ?_
           ·intro w' hSw
            have hx:=hSw.2.1
            go_simp<;>rfl
           try simp only [zz]
           refine tq 12 (v:=.pointer (some ⟨w.heap.size,138,none⟩)) rfl hHeld ?_
           try simp only [zz]
           refine tq 13 (v:=.pointer (some ⟨w.heap.size,139,none⟩)) rfl hHeld ?_
           try simp only [zz]
           refine tk 14 (v:=.int .i64 e.log.sure) rfl (Or.inl ⟨by rfl,?_⟩) hHeld ?_
           ·intro w' hSw
            have hx:=hSw.2.2
            go_simp<;>rfl
           try simp only [zz]
           refine tq 15 (v:=.bool false) rfl hHeld ?_
           try simp only [zz]
           refine tq 16 (v:=.bool false) rfl hHeld ?_
           try simp only [zz]
           refine wpAnyH_done (by kernel_rfl) ?_ _
           clear hHeld
           go_wp2_with fail
           go_roundw
           case rel=>exact ⟨m+1,by omega,by go_num,HK,N3⟩
           case measure=>simp [intOf];omega
          ·have hxn:e.log.sure<p.lsn:=by omega
           have HXF:Hid (ROK=false):=HDN.out (by rw [HDK.out,hA.out,decide_eq_false hx];rfl)
           clear hx
           refine wp_region_held_drew (S:=fun u=>(u.rangeAt w.heap.size (m*17) p.cells∧u.cell? ⟨w.heap.size,m*17,none⟩=some (.int .i64 p.lsn)∧u.cell? ⟨w.heap.size,139,none⟩=some (.int .i64 e.log.sure))) (by kernel_rfl) (HS.out _ D0) (fun hHeld=>?_)
           generalize wr.drew=d0 at*
           refine tq 0 (v:=.int .i64 (m:Int)) rfl hHeld ?_
           try simp only [zz]
           refine tq 1 (v:=.pointer (some ⟨w.heap.size,0,none⟩)) rfl hHeld ?_
           try simp only [zz]
           refine tq 2 (v:=.pointer (some ⟨w.heap.size,m*17,none⟩)) rfl hHeld ?_
           try simp only [zz]
           refine tk 3 rfl (yieldsIf_load_mid (by rfl) _ _ rfl _ _ rfl (p.cells) _ (fun _ h=>h.1) Tryz.underlying47 rfl (page_infoP _ HP4)) hHeld ?_
           try simp only [zz]
           refine wpAnyH_ready (rs:=[4]) (by kernel_rfl) (by simp) ?_
           refine AllReadyH.cons rfl (fun K hK=>?_) AllReadyH.nil
           go_simp
           refine (specPageOk_any p HP4 _ (HRP.out _ N2) F1).mono ?_
           rintro r d1 ⟨rfl,hb1⟩
           rw [hA.out]
           have D1:Below wr.heap.size wr d1:=D0.trans (hb1.mono D0.size)
           have N3:Below W.heap.size W d1:=hbr.trans (D1.mono hbr.size)
           refine hK.out _ _ (HS.out _ D1) (fun hHeld=>?_)
           clear hK K hb1
           try simp only [zz]
           refine tq 5 (v:=.bool false) rfl hHeld ?_
           try simp only [zz]
           refine tq 6 (v:=.bool false) rfl hHeld ?_
           try simp only [zz]
           refine tq 7 (v:=.int .i64 (m:Int)) rfl hHeld ?_
           try simp only [zz]
           refine tq 8 (v:=.pointer (some ⟨w.heap.size,0,none⟩)) rfl hHeld ?_
           try simp only [zz]
           refine tq 9 (v:=.pointer (some ⟨w.heap.size,m*17,none⟩)) rfl hHeld ?_
           try simp only [zz]
           refine tq 10 (v:=.pointer (some ⟨w.heap.size,m*17,none⟩)) rfl hHeld ?_
           try simp only [zz]
           refine tk 11 (v:=.int .i64 p.lsn) rfl (Or.inl ⟨by rfl,?_⟩) hHeld ?_
           ·intro w' hSw
            have hx:=hSw.2.1
            go_simp<;>rfl
           try simp only [zz]
           refine tq 12 (v:=.pointer (some ⟨w.heap.size,138,none⟩)) rfl hHeld ?_
           try simp only [zz]
           refine tq 13 (v:=.pointer (some ⟨w.heap.size,139,none⟩)) rfl hHeld ?_
           try simp only [zz]
           refine tk 14 (v:=.int .i64 e.log.sure) rfl (Or.inl ⟨by rfl,?_⟩) hHeld ?_
           ·intro w' hSw
            have hx:=hSw.2.2
            go_simp<;>rfl
           try simp only [zz]
           refine tq 15 (v:=.bool true) rfl hHeld ?_
           try simp only [zz]
           refine tq 16 (v:=.bool true) rfl hHeld ?_
           try simp only [zz]
           refine wpAnyH_done (by kernel_rfl) ?_ _
           clear hHeld
           have HE:Hid (ROK=false∧Below w.heap.size w d1):=⟨HXF.out,HEND.out _ N3⟩
           go_wp2
           go_ret
           exact ⟨ret_bool HE.out.1.symm,HE.out.2⟩
        ·obtain rfl:m=8:=by omega
         have HDT:Hid (∀ j,j<8→diskAt e.v j=true):=hall
         have hge:¬ ((8:Nat):Int)<8:=by omega
         have p1:=(eng_parts se (HB.out wr hbr)).2.1
         have l0:wr.cell? ⟨w.heap.size,136,none⟩=some (.slice e.aS e.seats.length e.cS):=p1 0 _ rfl
         clear hall p1
         go_upto_region 14 with fail
         clear l0 hge
         generalize wr=wz at*
         go_loopw [5] (fun i wr=>∃ k:Nat,k≤e.seats.length∧i=.int .i64 (k:Int)∧Hid (∀ j,j<k→seatAt e.v j=true)∧Below W.heap.size W wr) (fun i _=>e.seats.length-(intOf i).toNat)
         case atStart=>exact ⟨0,Nat.zero_le _,rfl,fun j hj=>by omega,hbr⟩
         case round=>
          clear hbr hsr
          obtain ⟨i,hi,rfl,hall,hbr⟩:=hrel
          have hsr:=hbr.size
          have p1:=(eng_parts se (HB.out wr hbr)).2.1
          have l0:wr.cell? ⟨w.heap.size,136,none⟩=some (.slice e.aS e.seats.length e.cS):=p1 0 _ rfl
          clear p1
          by_cases hlt3:i<e.seats.length
          ·obtain ⟨b,off,ha,hc⟩:=seat_rngE (HR.out _ hbr).pool i hlt3
           have hcr:wr.rangeAt b (off+i*20) (e.seats.getD i zeroSt).cells:=(hc i hlt3).1
           obtain ⟨nn,hnn,hn8⟩:=HNO.out HPL.out i hlt3
           have HSK:Hid (_=_):=HSA.out i nn hnn hn8
           have HSN:Hid (_→_):=HS0.out i hlt3
           have F1:=HFS.out _ (seatD_mem e.seats i hlt3)
           have hnl:nn<e.disk.length:=by rw [se.eight];exact hn8
           have F2:=HFD.out _ (pageD_mem (k:=nn) hnl)
           have HQ4:=se.disk8.at hn8
           have HRS:Hid (∀ u,Below W.heap.size W u→ReadsS u (e.seats.getD i zeroSt).ss∧ReadsS u (e.disk.getD nn zeroP).ss):=fun u hu=>⟨by
            obtain ⟨_,_,_,hc2⟩:=seat_rngE (HR.out _ hu).pool i hlt3
            exact (hc2 i hlt3).2,(HR.out _ hu).disk _ (pageD_mem (k:=nn) hnl)⟩
           have HDG:Hid (∀ u,Below W.heap.size W u→u.rangeAt w.heap.size (nn*17) (e.disk.getD nn zeroP).cells):=fun u hu=>by
            have rp:=EngA.page_at se (HB.out u hu) nn hnl
            rw [pageD_eq hnl] at rp
            exact rp
           have ha':e.aS=some ⟨b,off,none⟩:=ha
           have l0':wr.cell? ⟨w.heap.size,136,none⟩=some (.slice (some ⟨b,off,none⟩) e.seats.length e.cS):=by rw [← ha'];exact l0
           clear hc l0 ha
           generalize e.seats.getD i zeroSt=s at*
           generalize e.disk.getD nn zeroP=p at*
           obtain ⟨ZV,hZV,bZ,hbZ,hsZ⟩:=boxes1 wr [.int .i64 0,.int .i64 0,.bool false,.int .i64 0,.slice none 0 0,.slice none 0 0,.bool false,.int .i64 0,.slice none 0 0,.slice none 0 0,.bool false,.int .i64 0,.slice none 0 0,.slice none 0 0,.bool false,.int .i64 0,.slice none 0 0,.slice none 0 0,.bool false,.bool false] 103
           obtain ⟨V,hV,hwS,hsS,HT,_,bS⟩:=seat_out s _ rfl bZ
           have nb:Below wr.heap.size wr V:=hbZ.trans (hwS.below (Nat.le_refl _) (by omega))
           have nV:Below W.heap.size W V:=hbr.trans (nb.mono hbr.size)
           have hlV:=bS.lt
           have HS:Hid (∀ u,Below V.heap.size V u→(u.cell? ⟨wr.heap.size,1,none⟩=some (.int .i64 s.lsn)∧u.cell? ⟨w.heap.size,138,none⟩=some (.slice e.log.a e.log.recs.length e.log.c)∧u.cell? ⟨wr.heap.size,18,none⟩=some (.bool s.dirty)∧u.rangeAt wr.heap.size 1 s.page.cells∧u.cell? ⟨wr.heap.size,0,none⟩=some (.int .i64 (nn:Int))∧u.rangeAt w.heap.size (nn*17) p.cells)):=fun u hu=>by
            have bu:=bS.below hu bS.lt
            have nu:=nV.trans (hu.mono nV.size)
            obtain ⟨_,_,q2,_,_,_,_⟩:=eng_parts se (HB.out u nu)
            have z0:=bu.cell 0 _ rfl
            rw [hnn] at z0
            exact ⟨bu.cell 1 _ rfl,q2 0 _ rfl,bu.cell 18 _ rfl,seat_page s bu,z0,HDG.out u nu⟩
           have hil:(i:Int)<(e.seats.length:Int):=by omega
           have hi0:(0:Int)≤(i:Int):=by omega
           have EV:Hid (ZV.setCells wr.heap.size 0 s.cells.toArray.toList=V):=hV.out
           clear bZ hbZ hsZ hwS hsS bS hV
           go_upto_region 17 with (first | (guard_target=wpList _ _ _ (Oper.mk (some 80) _ _ _ _ _::_) _ _;refine wpList_load_mid rfl 103 (.tmp 79) rfl b (off+i*20) rfl (s.cells) _ hcr Tryz.underlying103 rfl (seat_info _) ?_) | (guard_target=wpList _ _ _ (Oper.mk none (Op.store _ (Operand.tmp 6) _) _ _ _ _::_) _ _;refine wpList_store_mid rfl 103 (.tmp 6) (.tmp 80) rfl wr.heap.size 0 s.cells.toArray rfl rfl (by rw [hZV.out];exact HT.out) (by rw [List.size_toArray];exact seat_info _) (seat_one _) ?_) | fail)
           rw [hZV.out,EV.out]
           clear hZV EV HT hcr l0'
           have D0:Below V.heap.size V V.drew:=(Below.refl _ _).drew
           have N2:Below W.heap.size W V.drew:=nV.trans (D0.mono nV.size)
           have hn0i:(0:Int)≤(nn:Int):=by omega
           have hn8i:(nn:Int)<8:=by omega
           obtain ⟨dr,hdr⟩:∃ dr,Hid (s.dirty=dr):=⟨_,rfl⟩
           rw [hdr.out] at HS
           by_cases hx:s.lsn≤(e.log.recs.length:Int)
           ·have hxn:¬ (e.log.recs.length:Int)<s.lsn:=by omega
            cases dr with
            | true=>
             have HK:Hid (∀ j,j<i+1→seatAt e.v j=true):=fun j hj=>by
              by_cases q:j=i
              ·rw [q,HSK.out,decide_eq_true hx,hdr.out];rfl
              ·exact hall.out j (by omega)
             clear hx
             refine wp_region_held_drew (S:=fun u=>(u.cell? ⟨wr.heap.size,1,none⟩=some (.int .i64 s.lsn)∧u.cell? ⟨w.heap.size,138,none⟩=some (.slice e.log.a e.log.recs.length e.log.c)∧u.cell? ⟨wr.heap.size,18,none⟩=some (.bool true)∧u.rangeAt wr.heap.size 1 s.page.cells∧u.cell? ⟨wr.heap.size,0,none⟩=some (.int .i64 (nn:Int))∧u.rangeAt w.heap.size (nn*17) p.cells)) (by kernel_rfl) (HS.out _ D0) (fun hHeld=>?_)
             generalize V.drew=d0 at*
             refine tq 0 (v:=.pointer (some ⟨wr.heap.size,1,none⟩)) rfl hHeld ?_
             try simp only [zz]
             refine tq 1 (v:=.pointer (some ⟨wr.heap.size,1,none⟩)) rfl hHeld ?_
             try simp only [zz]
             refine tk 2 (v:=.int .i64 s.lsn) rfl (Or.inl ⟨by rfl,?_⟩) hHeld ?_
             ·intro w' hSw
              have hx:=hSw.1
              go_simp<;>rfl
             try simp only [zz]
             refine tq 3 (v:=.pointer (some ⟨w.heap.size,138,none⟩)) rfl hHeld ?_
             try simp only [zz]
             refine tq 4 (v:=.pointer (some ⟨w.heap.size,138,none⟩)) rfl hHeld ?_
             try simp only [zz]
             refine tk 5 (v:=.slice e.log.a e.log.recs.length e.log.c) rfl (Or.inl ⟨by rfl,?_⟩) hHeld ?_
             ·intro w' hSw
              have hx:=hSw.2.1
              go_simp<;>rfl
             try simp only [zz]
             refine tq 6 (v:=.int .i64 (e.log.recs.length:Int)) rfl hHeld ?_
             try simp only [zz]
             refine tq 7 (v:=.bool false) rfl hHeld ?_
             try simp only [zz]
             refine tq 8 (v:=.bool false) rfl hHeld ?_
             try simp only [zz]
             refine tq 9 (v:=.pointer (some ⟨wr.heap.size,18,none⟩)) rfl hHeld ?_
             try simp only [zz]
             refine tk 10 (v:=.bool true) rfl (Or.inl ⟨by rfl,?_⟩) hHeld ?_
             ·intro w' hSw
              have hx:=hSw.2.2.1
              go_simp<;>rfl
             try simp only [zz]
             refine tq 11 (v:=.bool false) rfl hHeld ?_
             try simp only [zz]
             refine tq 12 (v:=.bool false) rfl hHeld ?_
             try simp only [zz]
             refine tk 13 (v:=undef) rfl (Or.inr ⟨by rfl,rfl⟩) hHeld ?_
             try simp only [zz]
             refine tk 14 (v:=undef) rfl (Or.inr ⟨by rfl,rfl⟩) hHeld ?_
             try simp only [zz]
             refine tk 15 (v:=undef) rfl (Or.inr ⟨by rfl,rfl⟩) hHeld ?_
             try simp only [zz]
             refine tk 16 (v:=undef) rfl (Or.inr ⟨by rfl,rfl⟩) hHeld ?_
             try simp only [zz]
             refine tk 17 (v:=undef) rfl (Or.inr ⟨by rfl,rfl⟩) hHeld ?_
             try simp only [zz]
             refine tk 18 (v:=undef) rfl (Or.inr ⟨by rfl,rfl⟩) hHeld ?_
             try simp only [zz]
             refine tk 19 (v:=undef) rfl (Or.inr ⟨by rfl,rfl⟩) hHeld ?_
             try simp only [zz]
             refine tk 20 (v:=undef) rfl (Or.inr ⟨by rfl,rfl⟩) hHeld ?_
             try simp only [zz]
             refine tk 21 (v:=undef) rfl (Or.inr ⟨by rfl,rfl⟩) hHeld ?_
             try simp only [zz]
             refine tq 22 (v:=.bool false) rfl hHeld ?_
             try simp only [zz]
             refine tq 23 (v:=.bool false) rfl hHeld ?_
             try simp only [zz]
             refine wpAnyH_done (by kernel_rfl) ?_ _
             clear hHeld
             go_wp2_with fail
             go_roundw
             case rel=>exact ⟨i+1,by omega,by go_num,HK,N2⟩
             case measure=>simp [intOf];omega
            | false=>
             obtain ⟨sm,HSM⟩:∃ sm,Hid (samePg (s.lsn,s.ss.map (·.v)) (p.lsn,p.ss.map (·.v))=sm):=⟨_,rfl⟩
             have HSM':Hid (_=_):=HSM.out
             replace HSM:Hid (samePg (s.page.lsn,s.page.ss.map (·.v)) (p.lsn,p.ss.map (·.v))=sm):=HSM.out
             cases sm with
             | true=>
              have HK:Hid (∀ j,j<i+1→seatAt e.v j=true):=fun j hj=>by
               by_cases q:j=i
               ·rw [q,HSK.out,decide_eq_true hx,hdr.out,HSM'.out];rfl
               ·exact hall.out j (by omega)
              clear hx
              refine wp_region_held_drew (S:=fun u=>(u.cell? ⟨wr.heap.size,1,none⟩=some (.int .i64 s.lsn)∧u.cell? ⟨w.heap.size,138,none⟩=some (.slice e.log.a e.log.recs.length e.log.c)∧u.cell? ⟨wr.heap.size,18,none⟩=some (.bool false)∧u.rangeAt wr.heap.size 1 s.page.cells∧u.cell? ⟨wr.heap.size,0,none⟩=some (.int .i64 (nn:Int))∧u.rangeAt w.heap.size (nn*17) p.cells)) (by kernel_rfl) (HS.out _ D0) (fun hHeld=>?_)
              generalize V.drew=d0 at*
              refine tq 0 (v:=.pointer (some ⟨wr.heap.size,1,none⟩)) rfl hHeld ?_
              try simp only [zz]
              refine tq 1 (v:=.pointer (some ⟨wr.heap.size,1,none⟩)) rfl hHeld ?_
              try simp only [zz]
              refine tk 2 (v:=.int .i64 s.lsn) rfl (Or.inl ⟨by rfl,?_⟩) hHeld ?_
              ·intro w' hSw
               have hx:=hSw.1
               go_simp<;>rfl
              try simp only [zz]
              refine tq 3 (v:=.pointer (some ⟨w.heap.size,138,none⟩)) rfl hHeld ?_
              try simp only [zz]
              refine tq 4 (v:=.pointer (some ⟨w.heap.size,138,none⟩)) rfl hHeld ?_
              try simp only [zz]
              refine tk 5 (v:=.slice e.log.a e.log.recs.length e.log.c) rfl (Or.inl ⟨by rfl,?_⟩) hHeld ?_
              ·intro w' hSw
               have hx:=hSw.2.1
               go_simp<;>rfl
              try simp only [zz]
              refine tq 6 (v:=.int .i64 (e.log.recs.length:Int)) rfl hHeld ?_
              try simp only [zz]
              refine tq 7 (v:=.bool false) rfl hHeld ?_
              try simp only [zz]
              refine tq 8 (v:=.bool false) rfl hHeld ?_
              try simp only [zz]
              refine tq 9 (v:=.pointer (some ⟨wr.heap.size,18,none⟩)) rfl hHeld ?_
              try simp only [zz]
              refine tk 10 (v:=.bool false) rfl (Or.inl ⟨by rfl,?_⟩) hHeld ?_
              ·intro w' hSw
               have hx:=hSw.2.2.1
               go_simp<;>rfl
              try simp only [zz]
              refine tq 11 (v:=.bool true) rfl hHeld ?_
              try simp only [zz]
              refine tq 12 (v:=.bool true) rfl hHeld ?_
              try simp only [zz]
              refine tq 13 (v:=.pointer (some ⟨wr.heap.size,1,none⟩)) rfl hHeld ?_
              try simp only [zz]
              refine tk 14 rfl (yieldsIf_load_mid (by rfl) _ _ rfl _ _ rfl (s.page.cells) _ (fun _ h=>h.2.2.2.1) Tryz.underlying47 rfl (page_infoP _ rfl)) hHeld ?_
              try simp only [zz]
              refine tq 15 (v:=.pointer (some ⟨wr.heap.size,0,none⟩)) rfl hHeld ?_
              try simp only [zz]
              refine tk 16 (v:=.int .i64 (nn:Int)) rfl (Or.inl ⟨by rfl,?_⟩) hHeld ?_
              ·intro w' hSw
               have hx:=hSw.2.2.2.2.1
               go_simp<;>rfl
              try simp only [zz]
              refine tq 17 (v:=.pointer (some ⟨w.heap.size,0,none⟩)) rfl hHeld ?_
              try simp only [zz]
              refine tq 18 (v:=.pointer (some ⟨w.heap.size,nn*17,none⟩)) rfl hHeld ?_
              try simp only [zz]
              refine tk 19 rfl (yieldsIf_load_mid (by rfl) _ _ rfl _ _ rfl (p.cells) _ (fun _ h=>h.2.2.2.2.2) Tryz.underlying47 rfl (page_infoP _ HQ4)) hHeld ?_
              try simp only [zz]
              refine wpAnyH_ready (rs:=[20]) (by kernel_rfl) (by simp) ?_
              refine AllReadyH.cons rfl (fun K hK=>?_) AllReadyH.nil
              go_simp
              refine (l7SamePage_any s.page p rfl HQ4 _ (HRS.out _ N2).1 (HRS.out _ N2).2 F1 F2).mono ?_
              rintro r d1 ⟨rfl,hb1⟩
              have D1:Below V.heap.size V d1:=D0.trans (hb1.mono D0.size)
              have N3:Below W.heap.size W d1:=nV.trans (D1.mono nV.size)
              rw [HSM.out]
              refine hK.out _ _ (HS.out _ D1) (fun hHeld=>?_)
              clear hK K hb1
              try simp only [zz]
              refine tq 21 (v:=.bool false) rfl hHeld ?_
              try simp only [zz]
              refine tq 22 (v:=.bool false) rfl hHeld ?_
              try simp only [zz]
              refine tq 23 (v:=.bool false) rfl hHeld ?_
              try simp only [zz]
              refine wpAnyH_done (by kernel_rfl) ?_ _
              clear hHeld
              go_wp2_with fail
              go_roundw
              case rel=>exact ⟨i+1,by omega,by go_num,HK,N3⟩
              case measure=>simp [intOf];omega
             | false=>
              have HXF:Hid (ROK=false):=HSN.out (by rw [HSK.out,decide_eq_true hx,hdr.out,HSM'.out];rfl)
              clear hx
              refine wp_region_held_drew (S:=fun u=>(u.cell? ⟨wr.heap.size,1,none⟩=some (.int .i64 s.lsn)∧u.cell? ⟨w.heap.size,138,none⟩=some (.slice e.log.a e.log.recs.length e.log.c)∧u.cell? ⟨wr.heap.size,18,none⟩=some (.bool false)∧u.rangeAt wr.heap.size 1 s.page.cells∧u.cell? ⟨wr.heap.size,0,none⟩=some (.int .i64 (nn:Int))∧u.rangeAt w.heap.size (nn*17) p.cells)) (by kernel_rfl) (HS.out _ D0) (fun hHeld=>?_)
              generalize V.drew=d0 at*
              refine tq 0 (v:=.pointer (some ⟨wr.heap.size,1,none⟩)) rfl hHeld ?_
              try simp only [zz]
              refine tq 1 (v:=.pointer (some ⟨wr.heap.size,1,none⟩)) rfl hHeld ?_
              try simp only [zz]
              refine tk 2 (v:=.int .i64 s.lsn) rfl (Or.inl ⟨by rfl,?_⟩) hHeld ?_
              ·intro w' hSw
               have hx:=hSw.1
               go_simp<;>rfl
              try simp only [zz]
              refine tq 3 (v:=.pointer (some ⟨w.heap.size,138,none⟩)) rfl hHeld ?_
              try simp only [zz]
              refine tq 4 (v:=.pointer (some ⟨w.heap.size,138,none⟩)) rfl hHeld ?_
              try simp only [zz]
              refine tk 5 (v:=.slice e.log.a e.log.recs.length e.log.c) rfl (Or.inl ⟨by rfl,?_⟩) hHeld ?_
              ·intro w' hSw
               have hx:=hSw.2.1
               go_simp<;>rfl
              try simp only [zz]
              refine tq 6 (v:=.int .i64 (e.log.recs.length:Int)) rfl hHeld ?_
              try simp only [zz]
              refine tq 7 (v:=.bool false) rfl hHeld ?_
              try simp only [zz]
              refine tq 8 (v:=.bool false) rfl hHeld ?_
              try simp only [zz]
              refine tq 9 (v:=.pointer (some ⟨wr.heap.size,18,none⟩)) rfl hHeld ?_
              try simp only [zz]
              refine tk 10 (v:=.bool false) rfl (Or.inl ⟨by rfl,?_⟩) hHeld ?_
              ·intro w' hSw
               have hx:=hSw.2.2.1
               go_simp<;>rfl
              try simp only [zz]
              refine tq 11 (v:=.bool true) rfl hHeld ?_
              try simp only [zz]
              refine tq 12 (v:=.bool true) rfl hHeld ?_
              try simp only [zz]
              refine tq 13 (v:=.pointer (some ⟨wr.heap.size,1,none⟩)) rfl hHeld ?_
              try simp only [zz]
              refine tk 14 rfl (yieldsIf_load_mid (by rfl) _ _ rfl _ _ rfl (s.page.cells) _ (fun _ h=>h.2.2.2.1) Tryz.underlying47 rfl (page_infoP _ rfl)) hHeld ?_
              try simp only [zz]
              refine tq 15 (v:=.pointer (some ⟨wr.heap.size,0,none⟩)) rfl hHeld ?_
              try simp only [zz]
              refine tk 16 (v:=.int .i64 (nn:Int)) rfl (Or.inl ⟨by rfl,?_⟩) hHeld ?_
              ·intro w' hSw
               have hx:=hSw.2.2.2.2.1
               go_simp<;>rfl
              try simp only [zz]
              refine tq 17 (v:=.pointer (some ⟨w.heap.size,0,none⟩)) rfl hHeld ?_
              try simp only [zz]
              refine tq 18 (v:=.pointer (some ⟨w.heap.size,nn*17,none⟩)) rfl hHeld ?_
              try simp only [zz]
              refine tk 19 rfl (yieldsIf_load_mid (by rfl) _ _ rfl _ _ rfl (p.cells) _ (fun _ h=>h.2.2.2.2.2) Tryz.underlying47 rfl (page_infoP _ HQ4)) hHeld ?_
              try simp only [zz]
              refine wpAnyH_ready (rs:=[20]) (by kernel_rfl) (by simp) ?_
              refine AllReadyH.cons rfl (fun K hK=>?_) AllReadyH.nil
              go_simp
              refine (l7SamePage_any s.page p rfl HQ4 _ (HRS.out _ N2).1 (HRS.out _ N2).2 F1 F2).mono ?_
              rintro r d1 ⟨rfl,hb1⟩
              have D1:Below V.heap.size V d1:=D0.trans (hb1.mono D0.size)
              have N3:Below W.heap.size W d1:=nV.trans (D1.mono nV.size)
              rw [HSM.out]
              refine hK.out _ _ (HS.out _ D1) (fun hHeld=>?_)
              clear hK K hb1
              try simp only [zz]
              refine tq 21 (v:=.bool true) rfl hHeld ?_
              try simp only [zz]
              refine tq 22 (v:=.bool true) rfl hHeld ?_
              try simp only [zz]
              refine tq 23 (v:=.bool true) rfl hHeld ?_
              try simp only [zz]
              refine wpAnyH_done (by kernel_rfl) ?_ _
              clear hHeld
              have HE:Hid (ROK=false∧Below w.heap.size w d1):=⟨HXF.out,HEND.out _ N3⟩
              go_wp2
              go_ret
              exact ⟨ret_bool HE.out.1.symm,HE.out.2⟩
           ·have hxn:(e.log.recs.length:Int)<s.lsn:=by omega
            have HXF:Hid (ROK=false):=HSN.out (by rw [HSK.out,decide_eq_false hx];rfl)
            clear hx
            refine wp_region_held_drew (S:=fun u=>(u.cell? ⟨wr.heap.size,1,none⟩=some (.int .i64 s.lsn)∧u.cell? ⟨w.heap.size,138,none⟩=some (.slice e.log.a e.log.recs.length e.log.c)∧u.cell? ⟨wr.heap.size,18,none⟩=some (.bool dr)∧u.rangeAt wr.heap.size 1 s.page.cells∧u.cell? ⟨wr.heap.size,0,none⟩=some (.int .i64 (nn:Int))∧u.rangeAt w.heap.size (nn*17) p.cells)) (by kernel_rfl) (HS.out _ D0) (fun hHeld=>?_)
            generalize V.drew=d0 at*
            refine tq 0 (v:=.pointer (some ⟨wr.heap.size,1,none⟩)) rfl hHeld ?_
            try simp only [zz]
            refine tq 1 (v:=.pointer (some ⟨wr.heap.size,1,none⟩)) rfl hHeld ?_
            try simp only [zz]
            refine tk 2 (v:=.int .i64 s.lsn) rfl (Or.inl ⟨by rfl,?_⟩) hHeld ?_
            ·intro w' hSw
             have hx:=hSw.1
             go_simp<;>rfl
            try simp only [zz]
            refine tq 3 (v:=.pointer (some ⟨w.heap.size,138,none⟩)) rfl hHeld ?_
            try simp only [zz]
            refine tq 4 (v:=.pointer (some ⟨w.heap.size,138,none⟩)) rfl hHeld ?_
            try simp only [zz]
            refine tk 5 (v:=.slice e.log.a e.log.recs.length e.log.c) rfl (Or.inl ⟨by rfl,?_⟩) hHeld ?_
            ·intro w' hSw
             have hx:=hSw.2.1
             go_simp<;>rfl
            try simp only [zz]
            refine tq 6 (v:=.int .i64 (e.log.recs.length:Int)) rfl hHeld ?_
            try simp only [zz]
            refine tq 7 (v:=.bool true) rfl hHeld ?_
            try simp only [zz]
            refine tq 8 (v:=.bool true) rfl hHeld ?_
            try simp only [zz]
            refine tk 9 (v:=undef) rfl (Or.inr ⟨by rfl,rfl⟩) hHeld ?_
            try simp only [zz]
            refine tk 10 (v:=undef) rfl (Or.inr ⟨by rfl,rfl⟩) hHeld ?_
            try simp only [zz]
            refine tk 11 (v:=undef) rfl (Or.inr ⟨by rfl,rfl⟩) hHeld ?_
            try simp only [zz]
            refine tk 12 (v:=undef) rfl (Or.inr ⟨by rfl,rfl⟩) hHeld ?_
            try simp only [zz]
            refine tk 13 (v:=undef) rfl (Or.inr ⟨by rfl,rfl⟩) hHeld ?_
            try simp only [zz]
            refine tk 14 (v:=undef) rfl (Or.inr ⟨by rfl,rfl⟩) hHeld ?_
            try simp only [zz]
            refine tk 15 (v:=undef) rfl (Or.inr ⟨by rfl,rfl⟩) hHeld ?_
            try simp only [zz]
            refine tk 16 (v:=undef) rfl (Or.inr ⟨by rfl,rfl⟩) hHeld ?_
            try simp only [zz]
            refine tk 17 (v:=undef) rfl (Or.inr ⟨by rfl,rfl⟩) hHeld ?_
            try simp only [zz]
            refine tk 18 (v:=undef) rfl (Or.inr ⟨by rfl,rfl⟩) hHeld ?_
            try simp only [zz]
            refine tk 19 (v:=undef) rfl (Or.inr ⟨by rfl,rfl⟩) hHeld ?_
            try simp only [zz]
            refine tk 20 (v:=undef) rfl (Or.inr ⟨by rfl,rfl⟩) hHeld ?_
            try simp only [zz]
            refine tk 21 (v:=undef) rfl (Or.inr ⟨by rfl,rfl⟩) hHeld ?_
            try simp only [zz]
            refine tk 22 (v:=undef) rfl (Or.inr ⟨by rfl,rfl⟩) hHeld ?_
            try simp only [zz]
            refine tq 23 (v:=.bool true) rfl hHeld ?_
            try simp only [zz]
            refine wpAnyH_done (by kernel_rfl) ?_ _
            clear hHeld
            have HE:Hid (ROK=false∧Below w.heap.size w d0):=⟨HXF.out,HEND.out _ N2⟩
            go_wp2
            go_ret
            exact ⟨ret_bool HE.out.1.symm,HE.out.2⟩
          ·have e1:i=e.seats.length:=by omega
           have HST:Hid (∀ j,j<e.seats.length→seatAt e.v j=true):=by rw [e1] at hall;exact hall
           have HE:Hid (ROK=(!e.down || (decide (e.seats.length=0) && (decide (e.txs.length=0) && decide (e.holds.length=0))))∧Below w.heap.size w wr):=⟨HALL.out HLG.out HPL.out HNX.out trivial HXT.out HDT.out HST.out,HEND.out _ hbr⟩
           have hge:¬ (i:Int)<(e.seats.length:Int):=by omega
           obtain ⟨p0,p1,p2,p3,p4,p5,p6⟩:=eng_parts se (HB.out wr hbr)
           clear p0 p2 p5
           have l0:wr.cell? ⟨w.heap.size,136,none⟩=some (.slice e.aS e.seats.length e.cS):=p1 0 _ rfl
           clear p1
           clear hall e1
           obtain ⟨dn,hdn⟩:∃ dn,Hid (e.down=dn):=⟨_,rfl⟩
           rw [hdn.out] at p6 HE
           have HFF:Hid (_=_):=HE.out.1
           have HFB:Hid (Below _ _ _):=HE.out.2
           clear HE
           cases dn with
           | false=> 
            by_cases h1:e.seats.length=0
            ·by_cases h2:e.txs.length=0
             ·by_cases h3:e.holds.length=0
              ·have k1:((e.seats.length:Int) == 0)=true:=by simp [h1]
               have k2:((e.txs.length:Int) == 0)=true:=by simp [h2]
               have k3:((e.holds.length:Int) == 0)=true:=by simp [h3]
               have HF:Hid (ROK=true):=HFF.out.trans (by rw [decide_eq_true h1,decide_eq_true h2,decide_eq_true h3];rfl)
               clear HFF h1 h2 h3
               go_wp2
               go_ret
               exact ⟨ret_bool (by rw [HF.out]),HFB.out⟩
              ·have k1:((e.seats.length:Int) == 0)=true:=by simp [h1]
               have k2:((e.txs.length:Int) == 0)=true:=by simp [h2]
               have k3:((e.holds.length:Int) == 0)=false:=beq_eq_false_iff_ne.2 (by omega)
               have HF:Hid (ROK=true):=HFF.out.trans (by rw [decide_eq_true h1,decide_eq_true h2,decide_eq_false h3];rfl)
               clear HFF h1 h2 h3
               go_wp2
               go_ret
               exact ⟨ret_bool (by rw [HF.out]),HFB.out⟩
             ·by_cases h3:e.holds.length=0
              ·have k1:((e.seats.length:Int) == 0)=true:=by simp [h1]
               have k2:((e.txs.length:Int) == 0)=false:=beq_eq_false_iff_ne.2 (by omega)
               have k3:((e.holds.length:Int) == 0)=true:=by simp [h3]
               have HF:Hid (ROK=true):=HFF.out.trans (by rw [decide_eq_true h1,decide_eq_false h2,decide_eq_true h3];rfl)
               clear HFF h1 h2 h3
               go_wp2
               go_ret
               exact ⟨ret_bool (by rw [HF.out]),HFB.out⟩
              ·have k1:((e.seats.length:Int) == 0)=true:=by simp [h1]
               have k2:((e.txs.length:Int) == 0)=false:=beq_eq_false_iff_ne.2 (by omega)
               have k3:((e.holds.length:Int) == 0)=false:=beq_eq_false_iff_ne.2 (by omega)
               have HF:Hid (ROK=true):=HFF.out.trans (by rw [decide_eq_true h1,decide_eq_false h2,decide_eq_false h3];rfl)
               clear HFF h1 h2 h3
               go_wp2
               go_ret
               exact ⟨ret_bool (by rw [HF.out]),HFB.out⟩
            ·by_cases h2:e.txs.length=0
             ·by_cases h3:e.holds.length=0
              ·have k1:((e.seats.length:Int) == 0)=false:=beq_eq_false_iff_ne.2 (by omega)
               have k2:((e.txs.length:Int) == 0)=true:=by simp [h2]
               have k3:((e.holds.length:Int) == 0)=true:=by simp [h3]
               have HF:Hid (ROK=true):=HFF.out.trans (by rw [decide_eq_false h1,decide_eq_true h2,decide_eq_true h3];rfl)
               clear HFF h1 h2 h3
               go_wp2
               go_ret
               exact ⟨ret_bool (by rw [HF.out]),HFB.out⟩
              ·have k1:((e.seats.length:Int) == 0)=false:=beq_eq_false_iff_ne.2 (by omega)
               have k2:((e.txs.length:Int) == 0)=true:=by simp [h2]
               have k3:((e.holds.length:Int) == 0)=false:=beq_eq_false_iff_ne.2 (by omega)
               have HF:Hid (ROK=true):=HFF.out.trans (by rw [decide_eq_false h1,decide_eq_true h2,decide_eq_false h3];rfl)
               clear HFF h1 h2 h3
               go_wp2
               go_ret
               exact ⟨ret_bool (by rw [HF.out]),HFB.out⟩
             ·by_cases h3:e.holds.length=0
              ·have k1:((e.seats.length:Int) == 0)=false:=beq_eq_false_iff_ne.2 (by omega)
               have k2:((e.txs.length:Int) == 0)=false:=beq_eq_false_iff_ne.2 (by omega)
               have k3:((e.holds.length:Int) == 0)=true:=by simp [h3]
               have HF:Hid (ROK=true):=HFF.out.trans (by rw [decide_eq_false h1,decide_eq_false h2,decide_eq_true h3];rfl)
               clear HFF h1 h2 h3
               go_wp2
               go_ret
               exact ⟨ret_bool (by rw [HF.out]),HFB.out⟩
              ·have k1:((e.seats.length:Int) == 0)=false:=beq_eq_false_iff_ne.2 (by omega)
               have k2:((e.txs.length:Int) == 0)=false:=beq_eq_false_iff_ne.2 (by omega)
               have k3:((e.holds.length:Int) == 0)=false:=beq_eq_false_iff_ne.2 (by omega)
               have HF:Hid (ROK=true):=HFF.out.trans (by rw [decide_eq_false h1,decide_eq_false h2,decide_eq_false h3];rfl)
               clear HFF h1 h2 h3
               go_wp2
               go_ret
               exact ⟨ret_bool (by rw [HF.out]),HFB.out⟩
           | true=> 
            by_cases h1:e.seats.length=0
            ·by_cases h2:e.txs.length=0
             ·by_cases h3:e.holds.length=0
              ·have k1:((e.seats.length:Int) == 0)=true:=by simp [h1]
               have k2:((e.txs.length:Int) == 0)=true:=by simp [h2]
               have k3:((e.holds.length:Int) == 0)=true:=by simp [h3]
               have HF:Hid (ROK=true):=HFF.out.trans (by rw [decide_eq_true h1,decide_eq_true h2,decide_eq_true h3];rfl)
               clear HFF h1 h2 h3
               go_wp2
               go_ret
               exact ⟨ret_bool (by rw [HF.out]),HFB.out⟩
              ·have k1:((e.seats.length:Int) == 0)=true:=by simp [h1]
               have k2:((e.txs.length:Int) == 0)=true:=by simp [h2]
               have k3:((e.holds.length:Int) == 0)=false:=beq_eq_false_iff_ne.2 (by omega)
               have HF:Hid (ROK=false):=HFF.out.trans (by rw [decide_eq_true h1,decide_eq_true h2,decide_eq_false h3];rfl)
               clear HFF h1 h2 h3
               go_wp2
               go_ret
               exact ⟨ret_bool (by rw [HF.out]),HFB.out⟩
             ·by_cases h3:e.holds.length=0
              ·have k1:((e.seats.length:Int) == 0)=true:=by simp [h1]
               have k2:((e.txs.length:Int) == 0)=false:=beq_eq_false_iff_ne.2 (by omega)
               have k3:((e.holds.length:Int) == 0)=true:=by simp [h3]
               have HF:Hid (ROK=false):=HFF.out.trans (by rw [decide_eq_true h1,decide_eq_false h2,decide_eq_true h3];rfl)
               clear HFF h1 h2 h3
               go_wp2
               go_ret
               exact ⟨ret_bool (by rw [HF.out]),HFB.out⟩
              ·have k1:((e.seats.length:Int) == 0)=true:=by simp [h1]
               have k2:((e.txs.length:Int) == 0)=false:=beq_eq_false_iff_ne.2 (by omega)
               have k3:((e.holds.length:Int) == 0)=false:=beq_eq_false_iff_ne.2 (by omega)
               have HF:Hid (ROK=false):=HFF.out.trans (by rw [decide_eq_true h1,decide_eq_false h2,decide_eq_false h3];rfl)
               clear HFF h1 h2 h3
               go_wp2
               go_ret
               exact ⟨ret_bool (by rw [HF.out]),HFB.out⟩
            ·by_cases h2:e.txs.length=0
             ·by_cases h3:e.holds.length=0
              ·have k1:((e.seats.length:Int) == 0)=false:=beq_eq_false_iff_ne.2 (by omega)
               have k2:((e.txs.length:Int) == 0)=true:=by simp [h2]
               have k3:((e.holds.length:Int) == 0)=true:=by simp [h3]
               have HF:Hid (ROK=false):=HFF.out.trans (by rw [decide_eq_false h1,decide_eq_true h2,decide_eq_true h3];rfl)
               clear HFF h1 h2 h3
               go_wp2
               go_ret
               exact ⟨ret_bool (by rw [HF.out]),HFB.out⟩
              ·have k1:((e.seats.length:Int) == 0)=false:=beq_eq_false_iff_ne.2 (by omega)
               have k2:((e.txs.length:Int) == 0)=true:=by simp [h2]
               have k3:((e.holds.length:Int) == 0)=false:=beq_eq_false_iff_ne.2 (by omega)
               have HF:Hid (ROK=false):=HFF.out.trans (by rw [decide_eq_false h1,decide_eq_true h2,decide_eq_false h3];rfl)
               clear HFF h1 h2 h3
               go_wp2
               go_ret
               exact ⟨ret_bool (by rw [HF.out]),HFB.out⟩
             ·by_cases h3:e.holds.length=0
              ·have k1:((e.seats.length:Int) == 0)=false:=beq_eq_false_iff_ne.2 (by omega)
               have k2:((e.txs.length:Int) == 0)=false:=beq_eq_false_iff_ne.2 (by omega)
               have k3:((e.holds.length:Int) == 0)=true:=by simp [h3]
               have HF:Hid (ROK=false):=HFF.out.trans (by rw [decide_eq_false h1,decide_eq_false h2,decide_eq_true h3];rfl)
               clear HFF h1 h2 h3
               go_wp2
               go_ret
               exact ⟨ret_bool (by rw [HF.out]),HFB.out⟩
              ·have k1:((e.seats.length:Int) == 0)=false:=beq_eq_false_iff_ne.2 (by omega)
               have k2:((e.txs.length:Int) == 0)=false:=beq_eq_false_iff_ne.2 (by omega)
               have k3:((e.holds.length:Int) == 0)=false:=beq_eq_false_iff_ne.2 (by omega)
               have HF:Hid (ROK=false):=HFF.out.trans (by rw [decide_eq_false h1,decide_eq_false h2,decide_eq_false h3];rfl)
               clear HFF h1 h2 h3
               go_wp2
               go_ret
               exact ⟨ret_bool (by rw [HF.out]),HFB.out⟩
end Go.Proofs.YtcoeamamaifoeaaGreatDoor