/- Several texts in one, in their order. -/
import Derived.Test.YtjkckhfddgeboaaGreatDoorPGetx20
import Derived.Test.YtjkckhfddgeboaaGreatDoorPGetx12
import Derived.Test.YtjkckhfddgeboaaGreatDoorPGetx9
import Derived.Test.YtjkckhfddgeboaaGreatDoorPGetx17
import Derived.Test.YtjkckhfddgeboaaGreatDoorPGetx3
import Derived.Test.YtjkckhfddgeboaaGreatDoorPGetx10
import Derived.Test.YtjkckhfddgeboaaGreatDoorPGetx5
import Derived.Test.YtjkckhfddgeboaaGreatDoorPGetx1
set_option maxHeartbeats 8000000
set_option maxRecDepth 100000
namespace Go.Proofs.YtjkckhfddgeboaaGreatDoor
open Go.RowKit
theorem WB (e:qa) (se:e.shape) (w:World) (re:e.reads w) (hl:e.short 1048576):
  Calls Tryz.prog 69 #[.agg e.cells.toArray] w fun r w'=>r=.returned (.bool (jA e.v))∧Below w.heap.size w w':=by
 have HL0:Hid (kC e.log.v=false→jA e.v=false):=fun h=>by (have h':kC e.v.log=false:=h;simp [jA,h'])
 have HP0:Hid (jg e.qB.v=false→jA e.v=false):=fun h=>by (have h':jg e.v.wF=false:=h;simp [jA,h'])
 have HN0:Hid (inB e.next 1 1001=false→jA e.v=false):=fun h=>by (have h':inB e.v.next 1 1001=false:=h;simp [jA,h'])
 have HT0:Hid (zy e.v=false→jA e.v=false):=fun h=>by simp [jA,h]
 have HX0:Hid (∀ k,k<e.log.recs.length→vK e.v k=false→jA e.v=false):=fun k hk h=>CU (by simpa [qa.v,qz.v] using hk) h
 have HD0:Hid (∀ k,k<8→zJ e.v k=false→jA e.v=false):=fun k hk h=>CV hk h
 have Tg:Hid (∀ k,k<e.seats.length→zf e.v k=false→jA e.v=false):=fun k hk h=>CW (by simpa [qa.v] using hk) h
 have xP:Hid (kC e.log.v=true→jg e.qB.v=true→inB e.next 1 1001=true→zy e.v=true→(∀ k,k<e.log.recs.length→vK e.v k=true)→(∀ k,k<8→zJ e.v k=true)→(∀ k,k<e.seats.length→zf e.v k=true)→jA e.v=(!e.down || (decide (e.seats.length=0) && (decide (e.txs.length=0) && decide (e.holds.length=0))))):=fun h1 h2 h3 h4 h5 h6 h7=>by
  have:=TB (e:=e.v) h1 h2 h3 h4 (fun k hk=>h5 k (by simpa [qa.v,qz.v] using hk)) h6 (fun k hk=>h7 k (by simpa [qa.v] using hk));rw [this];simp [KX,qa.v]
 have Ow:Hid (∀ k,vK e.v k=decide ((e.log.recs.getD k qm).tx<e.next)):=fun k=>by (show decide (((e.log.recs.map qg.v).getD k qm.v).tx<e.next)=_;rw [Pn];rfl)
 have Et:Hid (∀ k,k<8→zJ e.v k=(ze (e.disk.getD k qM).lsn ((e.disk.getD k qM).ss.map (·.v)) && decide ((e.disk.getD k qM).lsn≤e.log.sure))):=fun k hk=>by (rw [zJ,Zo se k hk];rfl)
 have Ev:Hid (∀ k (n:Nat),(e.seats.getD k qc).no=n→n<8→zf e.v k=(decide ((e.seats.getD k qc).lsn≤(e.log.recs.length:Int)) && ((e.seats.getD k qc).dirty || yR ((e.seats.getD k qc).lsn,(e.seats.getD k qc).ss.map (·.v)) ((e.disk.getD n qM).lsn,(e.disk.getD n qM).ss.map (·.v))))):=fun k n hn h8=>by
  have e1:e.v.seats.getD k qD=(e.seats.getD k qc).v:=jZ e.seats k;have e2:(e.seats.getD k qc).v.no=n:=hn;rw [zf,e1,e2,Int.toNat_natCast,Zo se n h8];simp only [qa.v,qz.v,List.length_map];rfl
 have jP:Hid (jg e.qB.v=true→∀ k,k<e.seats.length→∃ n:Nat,(e.seats.getD k qc).no=n∧n<8):=fun h k hk=>by
  obtain ⟨n,h1,h2⟩:=rC (e:=e.v) h k (by simpa [qa.v] using hk);exact ⟨n,by rw [← h1];show _=(e.v.seats.getD k qD).no;rw [show e.v.seats.getD k qD=(e.seats.getD k qc).v from jZ e.seats k];rfl,h2⟩
 have CT:=fun u (hu:e.reads u) h1 h2=>Da e se u hu hl h1 h2
 obtain ⟨jQ,VJ⟩:∃ b,jA e.v=b:=⟨_,rfl⟩;rw [VJ] at HL0 HP0 HN0 HT0 HX0 HD0 Tg xP ⊢;clear VJ;obtain ⟨OTX,O1⟩:∃ b,zy e.v=b:=⟨_,rfl⟩;rw [O1] at HT0 xP CT;clear O1;obtain ⟨W,hW,b0,hbW,qp⟩:=qx w e.cells 42;have HB:Hid (∀ u,Below W.heap.size W u→Box u w.heap.size e.cells 42):=fun u hu=>b0.below hu b0.lt
 have HR:Hid (∀ u,Below W.heap.size W u→e.reads u):=fun u hu=>(re.below hbW).below hu
 have qR:Hid (∀ u,Below W.heap.size W u→Below w.heap.size w u):=fun u hu=>hbW.trans (hu.mono hbW.size)
 have hw0:w.heap.size<W.heap.size:=by omega
 have Uv:Hid (∀ p∈e.disk,Fit p.ss):=fun p hp s hs=>by have:=hl.disk p hp s hs;omega
 have Ew:Hid (∀ s∈e.seats,Fit s.ss):=fun s hs x hx=>by have:=hl.pool.each s hs x hx;omega
 have Ku:Hid (e.qB.short 1099511627776):=qi.qZ hl.pool;have RA:Hid (e.log.short 1099511627776):=qz.qZ hl.log;have hrl:e.log.recs.length≤1048576:=hl.log.len;have hsl:e.seats.length≤1048576:=hl.pool.len;have htl:=hl.txs;have hhl:=hl.holds;have HI:=kI se;clear b0 qp hl re;have N:Below W.heap.size W W:=Below.refl _ _;obtain ⟨p0,p1,p2,p3,p4,p5,p6⟩:=qH se (HB.out W N);have C1:=GY e.log W (HR.out _ N).log RA.out;go_enter Tryz.func69,Tryz.ntmps69;go_wp2_with (first | (guard_target=wpList _ _ _ (Oper.mk (some 8) _ _ _ _ _::_) _ _;refine wpList_load_mid rfl 38 (.tmp 7) rfl w.heap.size 138 rfl (e.log.cells) _ (by rw [hW.out];exact p2) Tryz.underlying38 rfl (xQ _) ?_) | fail);rw [hW.out];clear hW p0 p1 p2 p3 p4 p5 p6;refine C1.mono ?_;clear C1;rintro r w1 ⟨rfl,hb⟩;replace N:=N.trans (hb.mono N.size);clear hb;obtain ⟨p0,p1,p2,p3,p4,p5,p6⟩:=qH se (HB.out _ N);cases WA:kC e.log.v with
 | false=>
  have Z9:=HL0.out WA;have qd4:Hid (_=_):=Z9;clear Z9 WA;have HE:Hid (jQ=false∧Below w.heap.size w w1):=⟨qd4.out,qR.out _ N⟩;go_wp2;go_ret;exact ⟨qd HE.out.1.symm,HE.out.2⟩
 | true=>
  have Z9:Hid (_=_):=WA;clear WA;have C2:=dz e.qB w1 (HR.out _ N).pool Ku.out;go_wp2_with (first | (guard_target=wpList _ _ _ (Oper.mk (some 13) _ _ _ _ _::_) _ _;refine qK (by rfl) 35 (.tmp 12) rfl w.heap.size 136 rfl (e.qB.cells) _ p1 Tryz.underlying35 rfl (kY _) ?_) | fail);refine C2.mono ?_;clear C2 p0 p1 p2 p3 p4 p5 p6;rintro r w2 ⟨rfl,hb⟩;replace N:=N.trans (hb.mono N.size);clear hb;obtain ⟨p0,p1,p2,p3,p4,p5,p6⟩:=qH se (HB.out _ N);cases Ml:jg e.qB.v with
  | false=>
   have Yz:Hid (_=_):=HP0.out Ml;clear Ml;have HE:Hid (jQ=false∧Below w.heap.size w w2):=⟨Yz.out,qR.out _ N⟩;go_wp2;go_ret;exact ⟨qd HE.out.1.symm,HE.out.2⟩
  | true=>
   have Yz:Hid (_=_):=Ml;clear Ml;go_wp2_with fail;refine (jd _ _ _ _).mono ?_;rintro r w2 ⟨rfl,rfl⟩;cases hnx:inB e.next 1 1001 with
   | false=>
    have O3:Hid (_=_):=HN0.out hnx;clear hnx;have HE:Hid (jQ=false∧Below w.heap.size w w2):=⟨O3.out,qR.out _ N⟩;go_wp2;go_ret;exact ⟨qd HE.out.1.symm,HE.out.2⟩
   | true=>
    have O3:Hid (_=_):=hnx;have hn1:1≤e.next∧e.next≤1001:=by simpa [inB] using hnx
    clear hnx;have C4:=CT w2 (HR.out _ N) hn1.1 hn1.2;clear CT;have rE:w2.rangeAt w.heap.size 0 e.cells:=Box.range [] e.cells [] (by simpa using HB.out _ N);go_wp2_with (first | (guard_target=wpList _ _ _ (Oper.mk (some 24) _ _ _ _ _::_) _ _;refine qK (by rfl) 42 (.tmp 1) rfl w.heap.size 0 rfl (e.cells) _ rE Tryz.underlying42 rfl HI ?_) | fail);refine C4.mono ?_;clear C4 p0 p1 p2 p3 p4 p5 p6 rE;rintro r w4 ⟨rfl,hb⟩;replace N:=N.trans (hb.mono N.size);clear hb;obtain ⟨p0,p1,p2,p3,p4,p5,p6⟩:=qH se (HB.out _ N);cases OTX with
    | false=>
     have HE:Hid (jQ=false∧Below w.heap.size w w4):=⟨HT0.out rfl,qR.out _ N⟩;go_wp2;go_ret;exact ⟨qd HE.out.1.symm,HE.out.2⟩
    | true=>
     have l0:=p2 0 _ rfl;go_wp2_with fail;go_loopw [3] (fun i wr=>∃ k:Nat,k≤e.log.recs.length∧i=.int .i64 (k:Int)∧Hid (∀ j,j<k→vK e.v j=true)∧Below W.heap.size W wr) (fun i _=>e.log.recs.length-(intOf i).toNat)
     case atStart=>exact ⟨0,Nat.zero_le _,rfl,fun j hj=>by omega,N⟩
     case round=>
      obtain ⟨k,hk,rfl,hall,hbr⟩:=hrel;clear p0 p1 p2 p3 p4 p5 p6 l0;have uX:=hbr.size;by_cases hlt:k<e.log.recs.length
      ·obtain ⟨b,off,ha,hc⟩:=(HR.out _ hbr).log (by intro e0;rw [e0] at hlt;simp at hlt);have hc1:=(hc k hlt).1 1 _ rfl;have Tm:Hid (_=_):=Ow.out k;have Ox:Hid (_→_):=HX0.out k hlt;clear hc;generalize e.log.recs.getD k qm=z at*
       have HS:Hid (∀ u,Below wr.heap.size wr u→(u.cell? ⟨w.heap.size,138,none⟩=some (.slice (some ⟨b,off,none⟩) e.log.recs.length e.log.c)∧u.cell? ⟨b,off+k*15+1,none⟩=some (.int .i64 z.tx)∧u.cell? ⟨w.heap.size,142,none⟩=some (.int .i64 e.next))):=fun u hu=>by
        obtain ⟨_,_,q2,_,_,q5,_⟩:=qH se (HB.out u (hbr.trans (hu.mono hbr.size)));have q20:=q2 0 _ rfl;rw [ha] at q20;exact ⟨q20,(hu.cell (p:=⟨b,off+k*15+1,none⟩) (block_lt hc1)).trans hc1,q5⟩
       obtain ⟨s0,_,_⟩:=HS.out wr (Below.refl _ _);have hkl:(k:Int)<(e.log.recs.length:Int):=by omega
       have hk0:(0:Int)≤(k:Int):=by omega
       clear hc1;go_upto_region 6 with fail;clear s0;have D0:Below wr.heap.size wr wr.drew:=(Below.refl _ _).drew;have N2:Below W.heap.size W wr.drew:=hbr.trans (D0.mono hbr.size);by_cases hx:z.tx<e.next
       ·have Vk:¬ e.next≤z.tx:=by omega
        have HK:Hid (∀ j,j<k+1→vK e.v j=true):=fun j hj=>by
         by_cases q:j=k
         ·rw [q,Tm.out];exact decide_eq_true hx
         ·exact hall.out j (by omega)
        clear hx;refine wp_region_held_drew (S:=fun u=>(u.cell? ⟨w.heap.size,138,none⟩=some (.slice (some ⟨b,off,none⟩) e.log.recs.length e.log.c)∧u.cell? ⟨b,off+k*15+1,none⟩=some (.int .i64 z.tx)∧u.cell? ⟨w.heap.size,142,none⟩=some (.int .i64 e.next))) (by kernel_rfl) (HS.out _ D0) (fun hHeld=>?_);generalize wr.drew=d0 at*
        refine tr 0 (.pointer (some ⟨w.heap.size,138,none⟩)) ?_;refine tr 1 (.pointer (some ⟨w.heap.size,138,none⟩)) ?_;refine tk 2 (v:=.slice (some ⟨b,off,none⟩) e.log.recs.length e.log.c) rfl (Or.inl ⟨by rfl,?_⟩) hHeld ?_
        ·intro w' hSw;have hx:=hSw.1;go_simp<;>rfl
        try simp only [zz]
        refine tr 3 (.int .i64 (k:Int)) ?_;refine tr 4 (.pointer (some ⟨b,off+k*15,none⟩)) ?_;refine tr 5 (.pointer (some ⟨b,off+k*15+1,none⟩)) ?_;refine tk 6 (v:=.int .i64 z.tx) rfl (Or.inl ⟨by rfl,?_⟩) hHeld ?_
        ·intro w' hSw;have hx:=hSw.2.1;go_simp<;>rfl
        try simp only [zz]
        refine tr 7 (.pointer (some ⟨w.heap.size,142,none⟩)) ?_;refine tk 8 (v:=.int .i64 e.next) rfl (Or.inl ⟨by rfl,?_⟩) hHeld ?_
        ·intro w' hSw;have hx:=hSw.2.2;go_simp<;>rfl
        try simp only [zz]
        refine tr 9 (.bool false) ?_;refine wpAnyH_done (by kernel_rfl) ?_ _;clear hHeld;go_wp2_with fail;go_roundw
        case rel=>exact ⟨k+1,by omega,by go_num,HK,N2⟩
        case measure=>simp [intOf];omega
       ·have Vk:e.next≤z.tx:=by omega
        have YU:Hid (jQ=false):=Ox.out (by rw [Tm.out];exact decide_eq_false hx);clear hx;refine wp_region_held_drew (S:=fun u=>(u.cell? ⟨w.heap.size,138,none⟩=some (.slice (some ⟨b,off,none⟩) e.log.recs.length e.log.c)∧u.cell? ⟨b,off+k*15+1,none⟩=some (.int .i64 z.tx)∧u.cell? ⟨w.heap.size,142,none⟩=some (.int .i64 e.next))) (by kernel_rfl) (HS.out _ D0) (fun hHeld=>?_);generalize wr.drew=d0 at*
        refine tr 0 (.pointer (some ⟨w.heap.size,138,none⟩)) ?_;refine tr 1 (.pointer (some ⟨w.heap.size,138,none⟩)) ?_;refine tk 2 (v:=.slice (some ⟨b,off,none⟩) e.log.recs.length e.log.c) rfl (Or.inl ⟨by rfl,?_⟩) hHeld ?_
        ·intro w' hSw;have hx:=hSw.1;go_simp<;>rfl
        try simp only [zz]
        refine tr 3 (.int .i64 (k:Int)) ?_;refine tr 4 (.pointer (some ⟨b,off+k*15,none⟩)) ?_;refine tr 5 (.pointer (some ⟨b,off+k*15+1,none⟩)) ?_;refine tk 6 (v:=.int .i64 z.tx) rfl (Or.inl ⟨by rfl,?_⟩) hHeld ?_
        ·intro w' hSw;have hx:=hSw.2.1;go_simp<;>rfl
        try simp only [zz]
        refine tr 7 (.pointer (some ⟨w.heap.size,142,none⟩)) ?_;refine tk 8 (v:=.int .i64 e.next) rfl (Or.inl ⟨by rfl,?_⟩) hHeld ?_
        ·intro w' hSw;have hx:=hSw.2.2;go_simp<;>rfl
        try simp only [zz]
        refine tr 9 (.bool true) ?_;refine wpAnyH_done (by kernel_rfl) ?_ _;clear hHeld;have HE:Hid (jQ=false∧Below w.heap.size w d0):=⟨YU.out,qR.out _ N2⟩;go_wp2;go_ret;exact ⟨qd HE.out.1.symm,HE.out.2⟩
      ·have e1:k=e.log.recs.length:=by omega
       have HXT:Hid (∀ j,j<e.log.recs.length→vK e.v j=true):=by rw [e1] at hall;exact hall
       have p2:=(qH se (HB.out wr hbr)).2.2.1;have l0:=p2 0 _ rfl;have hge:¬ (k:Int)<(e.log.recs.length:Int):=by omega
       clear hall e1 p2;go_upto_region 9 with fail;clear l0 hge;generalize wr=wq at*
       go_loopw [4] (fun i wr=>∃ k:Nat,k≤8∧i=.int .i64 (k:Int)∧Hid (∀ j,j<k→zJ e.v j=true)∧Below W.heap.size W wr) (fun i _=>8-(intOf i).toNat)
       case atStart=>exact ⟨0,Nat.zero_le _,rfl,fun j hj=>by omega,hbr⟩
       case round=>
        clear hbr uX;obtain ⟨m,hm,rfl,hall,hbr⟩:=hrel;have uX:=hbr.size;by_cases hlt2:m<8
        ·have Y9:m<e.disk.length:=by rw [se.eight];exact hlt2
         have HDK:Hid (_=_):=Et.out m hlt2;have FH:Hid (_→_):=HD0.out m hlt2;have zT:=se.yQ.at hlt2;have F1:=Uv.out _ (j4 (k:=m) Y9);have FI:Hid (∀ u,Below W.heap.size W u→jK u (e.disk.getD m qM).ss):=fun u hu=>(HR.out _ hu).disk _ (j4 (k:=m) Y9)
         have HS:Hid (∀ u,Below wr.heap.size wr u→(u.rangeAt w.heap.size (m*17) (e.disk.getD m qM).cells∧u.cell? ⟨w.heap.size,m*17,none⟩=some (.int .i64 (e.disk.getD m qM).lsn)∧u.cell? ⟨w.heap.size,139,none⟩=some (.int .i64 e.log.sure))):=fun u hu=>by
          have bu:=HB.out u (hbr.trans (hu.mono hbr.size));obtain ⟨q0,_,q2,_,_,_,_⟩:=qH se bu;have bd:Box u w.heap.size (qj e.disk++e.tail) 42:=bu;have rp:=qa.YT se bu m Y9;rw [zm Y9] at rp;exact ⟨rp,rp 0 _ rfl,q2 1 _ rfl⟩
         generalize e.disk.getD m qM=p at*
         have hi0:(0:Int)≤(m:Int):=by omega
         have dW:(m:Int)<8:=by omega
         go_upto_region 11 with fail;have D0:Below wr.heap.size wr wr.drew:=(Below.refl _ _).drew;have N2:Below W.heap.size W wr.drew:=hbr.trans (D0.mono hbr.size);obtain ⟨bA,hA⟩:∃ bA,Hid (ze p.lsn (p.ss.map (·.v))=bA):=⟨_,rfl⟩;cases bA with
         | false=>
          have YU:Hid (jQ=false):=FH.out (by rw [HDK.out,hA.out];rfl);refine wp_region_held_drew (S:=fun u=>(u.rangeAt w.heap.size (m*17) p.cells∧u.cell? ⟨w.heap.size,m*17,none⟩=some (.int .i64 p.lsn)∧u.cell? ⟨w.heap.size,139,none⟩=some (.int .i64 e.log.sure))) (by kernel_rfl) (HS.out _ D0) (fun hHeld=>?_);generalize wr.drew=d0 at*
          refine tr 0 (.int .i64 (m:Int)) ?_;refine tr 1 (.pointer (some ⟨w.heap.size,0,none⟩)) ?_;refine tr 2 (.pointer (some ⟨w.heap.size,m*17,none⟩)) ?_;refine Go.Proofs.YtjkckhfddgeboaaGreatDoor.ts 3 rfl (yieldsIf_load_mid (by rfl) _ _ rfl _ _ rfl (p.cells) _ (fun _ h=>h.1) Tryz.underlying31 rfl (jM _ zT)) ?_;refine wpAnyH_ready (rs:=[4]) (by kernel_rfl) (by simp) ?_;refine AllReadyH.cons rfl (fun K hK=>?_) AllReadyH.nil;go_simp;refine (Qr p zT _ (FI.out _ N2) F1).mono ?_;rintro r d1 ⟨rfl,hb1⟩;rw [hA.out];have D1:Below wr.heap.size wr d1:=D0.trans (hb1.mono D0.size);have N3:Below W.heap.size W d1:=hbr.trans (D1.mono hbr.size);refine hK.out _ _ (HS.out _ D1) (fun hHeld=>?_);clear hK K hb1;try simp only [zz]
          refine tr 5 (.bool true) ?_;refine tr 6 (.bool true) ?_;refine Go.Proofs.YtjkckhfddgeboaaGreatDoor.tu 7 ?_;refine Go.Proofs.YtjkckhfddgeboaaGreatDoor.tu 8 ?_;refine Go.Proofs.YtjkckhfddgeboaaGreatDoor.tu 9 ?_;refine Go.Proofs.YtjkckhfddgeboaaGreatDoor.tu 10 ?_;refine Go.Proofs.YtjkckhfddgeboaaGreatDoor.tu 11 ?_;refine Go.Proofs.YtjkckhfddgeboaaGreatDoor.tu 12 ?_;refine Go.Proofs.YtjkckhfddgeboaaGreatDoor.tu 13 ?_;refine Go.Proofs.YtjkckhfddgeboaaGreatDoor.tu 14 ?_;refine Go.Proofs.YtjkckhfddgeboaaGreatDoor.tu 15 ?_;refine tr 16 (.bool true) ?_;refine wpAnyH_done (by kernel_rfl) ?_ _;clear hHeld;have HE:Hid (jQ=false∧Below w.heap.size w d1):=⟨YU.out,qR.out _ N3⟩;go_wp2;go_ret;exact ⟨qd HE.out.1.symm,HE.out.2⟩
         | true=>
          by_cases hx:p.lsn≤e.log.sure
          ·have Vk:¬ e.log.sure<p.lsn:=by omega
           have HK:Hid (∀ j,j<m+1→zJ e.v j=true):=fun j hj=>by
            by_cases q:j=m
            ·rw [q,HDK.out,hA.out,decide_eq_true hx];rfl
            ·exact hall.out j (by omega)
           clear hx;refine wp_region_held_drew (S:=fun u=>(u.rangeAt w.heap.size (m*17) p.cells∧u.cell? ⟨w.heap.size,m*17,none⟩=some (.int .i64 p.lsn)∧u.cell? ⟨w.heap.size,139,none⟩=some (.int .i64 e.log.sure))) (by kernel_rfl) (HS.out _ D0) (fun hHeld=>?_);generalize wr.drew=d0 at*
           refine tr 0 (.int .i64 (m:Int)) ?_;refine tr 1 (.pointer (some ⟨w.heap.size,0,none⟩)) ?_;refine tr 2 (.pointer (some ⟨w.heap.size,m*17,none⟩)) ?_;refine Go.Proofs.YtjkckhfddgeboaaGreatDoor.ts 3 rfl (yieldsIf_load_mid (by rfl) _ _ rfl _ _ rfl (p.cells) _ (fun _ h=>h.1) Tryz.underlying31 rfl (jM _ zT)) ?_;refine wpAnyH_ready (rs:=[4]) (by kernel_rfl) (by simp) ?_;refine AllReadyH.cons rfl (fun K hK=>?_) AllReadyH.nil;go_simp;refine (Qr p zT _ (FI.out _ N2) F1).mono ?_;rintro r d1 ⟨rfl,hb1⟩;rw [hA.out];have D1:Below wr.heap.size wr d1:=D0.trans (hb1.mono D0.size);have N3:Below W.heap.size W d1:=hbr.trans (D1.mono hbr.size);refine hK.out _ _ (HS.out _ D1) (fun hHeld=>?_);clear hK K hb1;try simp only [zz]
           refine tr 5 (.bool false) ?_;refine tr 6 (.bool false) ?_;refine tr 7 (.int .i64 (m:Int)) ?_;refine tr 8 (.pointer (some ⟨w.heap.size,0,none⟩)) ?_;refine tr 9 (.pointer (some ⟨w.heap.size,m*17,none⟩)) ?_;refine tr 10 (.pointer (some ⟨w.heap.size,m*17,none⟩)) ?_;refine tk 11 (v:=.int .i64 p.lsn) rfl (Or.inl ⟨by rfl,?_⟩) hHeld ?_
           ·intro w' hSw;have hx:=hSw.2.1;go_simp<;>rfl
           try simp only [zz]
           refine tr 12 (.pointer (some ⟨w.heap.size,138,none⟩)) ?_;refine tr 13 (.pointer (some ⟨w.heap.size,139,none⟩)) ?_;refine tk 14 (v:=.int .i64 e.log.sure) rfl (Or.inl ⟨by rfl,?_⟩) hHeld ?_
           ·intro w' hSw;have hx:=hSw.2.2;go_simp<;>rfl
           try simp only [zz]
           refine tr 15 (.bool false) ?_;refine tr 16 (.bool false) ?_;refine wpAnyH_done (by kernel_rfl) ?_ _;clear hHeld;go_wp2_with fail;go_roundw
           case rel=>exact ⟨m+1,by omega,by go_num,HK,N3⟩
           case measure=>simp [intOf];omega
          ·have Vk:e.log.sure<p.lsn:=by omega
           have YU:Hid (jQ=false):=FH.out (by rw [HDK.out,hA.out,decide_eq_false hx];rfl);clear hx;refine wp_region_held_drew (S:=fun u=>(u.rangeAt w.heap.size (m*17) p.cells∧u.cell? ⟨w.heap.size,m*17,none⟩=some (.int .i64 p.lsn)∧u.cell? ⟨w.heap.size,139,none⟩=some (.int .i64 e.log.sure))) (by kernel_rfl) (HS.out _ D0) (fun hHeld=>?_);generalize wr.drew=d0 at*
           refine tr 0 (.int .i64 (m:Int)) ?_;refine tr 1 (.pointer (some ⟨w.heap.size,0,none⟩)) ?_;refine tr 2 (.pointer (some ⟨w.heap.size,m*17,none⟩)) ?_;refine Go.Proofs.YtjkckhfddgeboaaGreatDoor.ts 3 rfl (yieldsIf_load_mid (by rfl) _ _ rfl _ _ rfl (p.cells) _ (fun _ h=>h.1) Tryz.underlying31 rfl (jM _ zT)) ?_;refine wpAnyH_ready (rs:=[4]) (by kernel_rfl) (by simp) ?_;refine AllReadyH.cons rfl (fun K hK=>?_) AllReadyH.nil;go_simp;refine (Qr p zT _ (FI.out _ N2) F1).mono ?_;rintro r d1 ⟨rfl,hb1⟩;rw [hA.out];have D1:Below wr.heap.size wr d1:=D0.trans (hb1.mono D0.size);have N3:Below W.heap.size W d1:=hbr.trans (D1.mono hbr.size);refine hK.out _ _ (HS.out _ D1) (fun hHeld=>?_);clear hK K hb1;try simp only [zz]
           refine tr 5 (.bool false) ?_;refine tr 6 (.bool false) ?_;refine tr 7 (.int .i64 (m:Int)) ?_;refine tr 8 (.pointer (some ⟨w.heap.size,0,none⟩)) ?_;refine tr 9 (.pointer (some ⟨w.heap.size,m*17,none⟩)) ?_;refine tr 10 (.pointer (some ⟨w.heap.size,m*17,none⟩)) ?_;refine tk 11 (v:=.int .i64 p.lsn) rfl (Or.inl ⟨by rfl,?_⟩) hHeld ?_
           ·intro w' hSw;have hx:=hSw.2.1;go_simp<;>rfl
           try simp only [zz]
           refine tr 12 (.pointer (some ⟨w.heap.size,138,none⟩)) ?_;refine tr 13 (.pointer (some ⟨w.heap.size,139,none⟩)) ?_;refine tk 14 (v:=.int .i64 e.log.sure) rfl (Or.inl ⟨by rfl,?_⟩) hHeld ?_
           ·intro w' hSw;have hx:=hSw.2.2;go_simp<;>rfl
           try simp only [zz]
           refine tr 15 (.bool true) ?_;refine tr 16 (.bool true) ?_;refine wpAnyH_done (by kernel_rfl) ?_ _;clear hHeld;have HE:Hid (jQ=false∧Below w.heap.size w d1):=⟨YU.out,qR.out _ N3⟩;go_wp2;go_ret;exact ⟨qd HE.out.1.symm,HE.out.2⟩
        ·obtain rfl:m=8:=by omega
         have HDT:Hid (∀ j,j<8→zJ e.v j=true):=hall;have hge:¬ ((8:Nat):Int)<8:=by omega
         have p1:=(qH se (HB.out wr hbr)).2.1;have l0:wr.cell? ⟨w.heap.size,136,none⟩=some (.slice e.aS e.seats.length e.cS):=p1 0 _ rfl;clear hall p1;go_upto_region 14 with fail;clear l0 hge;generalize wr=wz at*
         go_loopw [5] (fun i wr=>∃ k:Nat,k≤e.seats.length∧i=.int .i64 (k:Int)∧Hid (∀ j,j<k→zf e.v j=true)∧Below W.heap.size W wr) (fun i _=>e.seats.length-(intOf i).toNat)
         case atStart=>exact ⟨0,Nat.zero_le _,rfl,fun j hj=>by omega,hbr⟩
         case round=>
          clear hbr uX;obtain ⟨i,hi,rfl,hall,hbr⟩:=hrel;have uX:=hbr.size;have p1:=(qH se (HB.out wr hbr)).2.1;have l0:wr.cell? ⟨w.heap.size,136,none⟩=some (.slice e.aS e.seats.length e.cS):=p1 0 _ rfl;clear p1;by_cases hlt3:i<e.seats.length
          ·obtain ⟨b,off,ha,hc⟩:=XV (HR.out _ hbr).pool i hlt3;have hcr:wr.rangeAt b (off+i*20) (e.seats.getD i qc).cells:=(hc i hlt3).1;obtain ⟨nn,hnn,Xi⟩:=jP.out Yz.out i hlt3;have WR:Hid (_=_):=Ev.out i nn hnn Xi;have FK:Hid (_→_):=Tg.out i hlt3;have F1:=Ew.out _ (xE e.seats i hlt3);have hnl:nn<e.disk.length:=by rw [se.eight];exact Xi
           have F2:=Uv.out _ (j4 (k:=nn) hnl);have WT:=se.yQ.at Xi;have QA:Hid (∀ u,Below W.heap.size W u→jK u (e.seats.getD i qc).ss∧jK u (e.disk.getD nn qM).ss):=fun u hu=>⟨by
            obtain ⟨_,_,_,hc2⟩:=XV (HR.out _ hu).pool i hlt3;exact (hc2 i hlt3).2,(HR.out _ hu).disk _ (j4 (k:=nn) hnl)⟩
           have Ex:Hid (∀ u,Below W.heap.size W u→u.rangeAt w.heap.size (nn*17) (e.disk.getD nn qM).cells):=fun u hu=>by
            have rp:=qa.YT se (HB.out u hu) nn hnl;rw [zm hnl] at rp;exact rp
           have ha':e.aS=some ⟨b,off,none⟩:=ha;have l0':wr.cell? ⟨w.heap.size,136,none⟩=some (.slice (some ⟨b,off,none⟩) e.seats.length e.cS):=by rw [← ha'];exact l0
           clear hc l0 ha;generalize e.seats.getD i qc=s at*
           generalize e.disk.getD nn qM=p at*
           obtain ⟨ZV,uB,bZ,uY,Xh⟩:=qx wr [.int .i64 0,.int .i64 0,.bool false,.int .i64 0,.slice none 0 0,.slice none 0 0,.bool false,.int .i64 0,.slice none 0 0,.slice none 0 0,.bool false,.int .i64 0,.slice none 0 0,.slice none 0 0,.bool false,.int .i64 0,.slice none 0 0,.slice none 0 0,.bool false,.bool false] 167;obtain ⟨V,hV,Kl,Km,HT,_,bS⟩:=kg s _ rfl bZ;have nb:Below wr.heap.size wr V:=uY.trans (Kl.below (Nat.le_refl _) (by omega));have nV:Below W.heap.size W V:=hbr.trans (nb.mono hbr.size);have FJ:=bS.lt;have HS:Hid (∀ u,Below V.heap.size V u→(u.cell? ⟨wr.heap.size,1,none⟩=some (.int .i64 s.lsn)∧u.cell? ⟨w.heap.size,138,none⟩=some (.slice e.log.a e.log.recs.length e.log.c)∧u.cell? ⟨wr.heap.size,18,none⟩=some (.bool s.dirty)∧u.rangeAt wr.heap.size 1 s.page.cells∧u.cell? ⟨wr.heap.size,0,none⟩=some (.int .i64 (nn:Int))∧u.rangeAt w.heap.size (nn*17) p.cells)):=fun u hu=>by
            have bu:=bS.below hu bS.lt;have nu:=nV.trans (hu.mono nV.size);obtain ⟨_,_,q2,_,_,_,_⟩:=qH se (HB.out u nu);have z0:=bu.cell 0 _ rfl;rw [hnn] at z0;exact ⟨bu.cell 1 _ rfl,q2 0 _ rfl,bu.cell 18 _ rfl,vH s bu,z0,Ex.out u nu⟩
           have hil:(i:Int)<(e.seats.length:Int):=by omega
           have hi0:(0:Int)≤(i:Int):=by omega
           have EV:Hid (ZV.setCells wr.heap.size 0 s.cells.toArray.toList=V):=hV.out;clear bZ uY Xh Kl Km bS hV;go_upto_region 17 with (first | (guard_target=wpList _ _ _ (Oper.mk (some 80) _ _ _ _ _::_) _ _;refine wpList_load_mid rfl 167 (.tmp 79) rfl b (off+i*20) rfl (s.cells) _ hcr Tryz.underlying167 rfl (jI _) ?_) | (guard_target=wpList _ _ _ (Oper.mk none (Op.store _ (Operand.tmp 6) _) _ _ _ _::_) _ _;refine wpList_store_mid rfl 167 (.tmp 6) (.tmp 80) rfl wr.heap.size 0 s.cells.toArray rfl rfl (by rw [uB.out];exact HT.out) (by rw [List.size_toArray];exact jI _) (ko _) ?_) | fail);rw [uB.out,EV.out];clear uB EV HT hcr l0';have D0:Below V.heap.size V V.drew:=(Below.refl _ _).drew;have N2:Below W.heap.size W V.drew:=nV.trans (D0.mono nV.size);have qds:(0:Int)≤(nn:Int):=by omega
           have qdt:(nn:Int)<8:=by omega
           obtain ⟨dr,hdr⟩:∃ dr,Hid (s.dirty=dr):=⟨_,rfl⟩;rw [hdr.out] at HS;by_cases hx:s.lsn≤(e.log.recs.length:Int)
           ·have Vk:¬ (e.log.recs.length:Int)<s.lsn:=by omega
            cases dr with
            | true=>
             have HK:Hid (∀ j,j<i+1→zf e.v j=true):=fun j hj=>by
              by_cases q:j=i
              ·rw [q,WR.out,decide_eq_true hx,hdr.out];rfl
              ·exact hall.out j (by omega)
             clear hx;refine wp_region_held_drew (S:=fun u=>(u.cell? ⟨wr.heap.size,1,none⟩=some (.int .i64 s.lsn)∧u.cell? ⟨w.heap.size,138,none⟩=some (.slice e.log.a e.log.recs.length e.log.c)∧u.cell? ⟨wr.heap.size,18,none⟩=some (.bool true)∧u.rangeAt wr.heap.size 1 s.page.cells∧u.cell? ⟨wr.heap.size,0,none⟩=some (.int .i64 (nn:Int))∧u.rangeAt w.heap.size (nn*17) p.cells)) (by kernel_rfl) (HS.out _ D0) (fun hHeld=>?_);generalize V.drew=d0 at*
             refine tr 0 (.pointer (some ⟨wr.heap.size,1,none⟩)) ?_;refine tr 1 (.pointer (some ⟨wr.heap.size,1,none⟩)) ?_;refine tk 2 (v:=.int .i64 s.lsn) rfl (Or.inl ⟨by rfl,?_⟩) hHeld ?_
             ·intro w' hSw;have hx:=hSw.1;go_simp<;>rfl
             try simp only [zz]
             refine tr 3 (.pointer (some ⟨w.heap.size,138,none⟩)) ?_;refine tr 4 (.pointer (some ⟨w.heap.size,138,none⟩)) ?_;refine tk 5 (v:=.slice e.log.a e.log.recs.length e.log.c) rfl (Or.inl ⟨by rfl,?_⟩) hHeld ?_
             ·intro w' hSw;have hx:=hSw.2.1;go_simp<;>rfl
             try simp only [zz]
             refine tr 6 (.int .i64 (e.log.recs.length:Int)) ?_;refine tr 7 (.bool false) ?_;refine tr 8 (.bool false) ?_;refine tr 9 (.pointer (some ⟨wr.heap.size,18,none⟩)) ?_;refine tk 10 (v:=.bool true) rfl (Or.inl ⟨by rfl,?_⟩) hHeld ?_
             ·intro w' hSw;have hx:=hSw.2.2.1;go_simp<;>rfl
             try simp only [zz]
             refine tr 11 (.bool false) ?_;refine tr 12 (.bool false) ?_;refine Go.Proofs.YtjkckhfddgeboaaGreatDoor.tu 13 ?_;refine Go.Proofs.YtjkckhfddgeboaaGreatDoor.tu 14 ?_;refine Go.Proofs.YtjkckhfddgeboaaGreatDoor.tu 15 ?_;refine Go.Proofs.YtjkckhfddgeboaaGreatDoor.tu 16 ?_;refine Go.Proofs.YtjkckhfddgeboaaGreatDoor.tu 17 ?_;refine Go.Proofs.YtjkckhfddgeboaaGreatDoor.tu 18 ?_;refine Go.Proofs.YtjkckhfddgeboaaGreatDoor.tu 19 ?_;refine Go.Proofs.YtjkckhfddgeboaaGreatDoor.tu 20 ?_;refine Go.Proofs.YtjkckhfddgeboaaGreatDoor.tu 21 ?_;refine tr 22 (.bool false) ?_;refine tr 23 (.bool false) ?_;refine wpAnyH_done (by kernel_rfl) ?_ _;clear hHeld;go_wp2_with fail;go_roundw
             case rel=>exact ⟨i+1,by omega,by go_num,HK,N2⟩
             case measure=>simp [intOf];omega
            | false=>
             obtain ⟨sm,XW⟩:∃ sm,Hid (yR (s.lsn,s.ss.map (·.v)) (p.lsn,p.ss.map (·.v))=sm):=⟨_,rfl⟩;have Mw:Hid (_=_):=XW.out;replace XW:Hid (yR (s.page.lsn,s.page.ss.map (·.v)) (p.lsn,p.ss.map (·.v))=sm):=XW.out;cases sm with
             | true=>
              have HK:Hid (∀ j,j<i+1→zf e.v j=true):=fun j hj=>by
               by_cases q:j=i
               ·rw [q,WR.out,decide_eq_true hx,hdr.out,Mw.out];rfl
               ·exact hall.out j (by omega)
              clear hx;refine wp_region_held_drew (S:=fun u=>(u.cell? ⟨wr.heap.size,1,none⟩=some (.int .i64 s.lsn)∧u.cell? ⟨w.heap.size,138,none⟩=some (.slice e.log.a e.log.recs.length e.log.c)∧u.cell? ⟨wr.heap.size,18,none⟩=some (.bool false)∧u.rangeAt wr.heap.size 1 s.page.cells∧u.cell? ⟨wr.heap.size,0,none⟩=some (.int .i64 (nn:Int))∧u.rangeAt w.heap.size (nn*17) p.cells)) (by kernel_rfl) (HS.out _ D0) (fun hHeld=>?_);generalize V.drew=d0 at*
              refine tr 0 (.pointer (some ⟨wr.heap.size,1,none⟩)) ?_;refine tr 1 (.pointer (some ⟨wr.heap.size,1,none⟩)) ?_;refine tk 2 (v:=.int .i64 s.lsn) rfl (Or.inl ⟨by rfl,?_⟩) hHeld ?_
              ·intro w' hSw;have hx:=hSw.1;go_simp<;>rfl
              try simp only [zz]
              refine tr 3 (.pointer (some ⟨w.heap.size,138,none⟩)) ?_;refine tr 4 (.pointer (some ⟨w.heap.size,138,none⟩)) ?_;refine tk 5 (v:=.slice e.log.a e.log.recs.length e.log.c) rfl (Or.inl ⟨by rfl,?_⟩) hHeld ?_
              ·intro w' hSw;have hx:=hSw.2.1;go_simp<;>rfl
              try simp only [zz]
              refine tr 6 (.int .i64 (e.log.recs.length:Int)) ?_;refine tr 7 (.bool false) ?_;refine tr 8 (.bool false) ?_;refine tr 9 (.pointer (some ⟨wr.heap.size,18,none⟩)) ?_;refine tk 10 (v:=.bool false) rfl (Or.inl ⟨by rfl,?_⟩) hHeld ?_
              ·intro w' hSw;have hx:=hSw.2.2.1;go_simp<;>rfl
              try simp only [zz]
              refine tr 11 (.bool true) ?_;refine tr 12 (.bool true) ?_;refine tr 13 (.pointer (some ⟨wr.heap.size,1,none⟩)) ?_;refine Go.Proofs.YtjkckhfddgeboaaGreatDoor.ts 14 rfl (yieldsIf_load_mid (by rfl) _ _ rfl _ _ rfl (s.page.cells) _ (fun _ h=>h.2.2.2.1) Tryz.underlying31 rfl (jM _ rfl)) ?_;refine tr 15 (.pointer (some ⟨wr.heap.size,0,none⟩)) ?_;refine tk 16 (v:=.int .i64 (nn:Int)) rfl (Or.inl ⟨by rfl,?_⟩) hHeld ?_
              ·intro w' hSw;have hx:=hSw.2.2.2.2.1;go_simp<;>rfl
              try simp only [zz]
              refine tr 17 (.pointer (some ⟨w.heap.size,0,none⟩)) ?_;refine tr 18 (.pointer (some ⟨w.heap.size,nn*17,none⟩)) ?_;refine Go.Proofs.YtjkckhfddgeboaaGreatDoor.ts 19 rfl (yieldsIf_load_mid (by rfl) _ _ rfl _ _ rfl (p.cells) _ (fun _ h=>h.2.2.2.2.2) Tryz.underlying31 rfl (jM _ WT)) ?_;refine wpAnyH_ready (rs:=[20]) (by kernel_rfl) (by simp) ?_;refine AllReadyH.cons rfl (fun K hK=>?_) AllReadyH.nil;go_simp;refine (Zk s.page p rfl WT _ (QA.out _ N2).1 (QA.out _ N2).2 F1 F2).mono ?_;rintro r d1 ⟨rfl,hb1⟩;have D1:Below V.heap.size V d1:=D0.trans (hb1.mono D0.size);have N3:Below W.heap.size W d1:=nV.trans (D1.mono nV.size);rw [XW.out];refine hK.out _ _ (HS.out _ D1) (fun hHeld=>?_);clear hK K hb1;try simp only [zz]
              refine tr 21 (.bool false) ?_;refine tr 22 (.bool false) ?_;refine tr 23 (.bool false) ?_;refine wpAnyH_done (by kernel_rfl) ?_ _;clear hHeld;go_wp2_with fail;go_roundw
              case rel=>exact ⟨i+1,by omega,by go_num,HK,N3⟩
              case measure=>simp [intOf];omega
             | false=>
              have YU:Hid (jQ=false):=FK.out (by rw [WR.out,decide_eq_true hx,hdr.out,Mw.out];rfl);clear hx;refine wp_region_held_drew (S:=fun u=>(u.cell? ⟨wr.heap.size,1,none⟩=some (.int .i64 s.lsn)∧u.cell? ⟨w.heap.size,138,none⟩=some (.slice e.log.a e.log.recs.length e.log.c)∧u.cell? ⟨wr.heap.size,18,none⟩=some (.bool false)∧u.rangeAt wr.heap.size 1 s.page.cells∧u.cell? ⟨wr.heap.size,0,none⟩=some (.int .i64 (nn:Int))∧u.rangeAt w.heap.size (nn*17) p.cells)) (by kernel_rfl) (HS.out _ D0) (fun hHeld=>?_);generalize V.drew=d0 at*
              refine tr 0 (.pointer (some ⟨wr.heap.size,1,none⟩)) ?_;refine tr 1 (.pointer (some ⟨wr.heap.size,1,none⟩)) ?_;refine tk 2 (v:=.int .i64 s.lsn) rfl (Or.inl ⟨by rfl,?_⟩) hHeld ?_
              ·intro w' hSw;have hx:=hSw.1;go_simp<;>rfl
              try simp only [zz]
              refine tr 3 (.pointer (some ⟨w.heap.size,138,none⟩)) ?_;refine tr 4 (.pointer (some ⟨w.heap.size,138,none⟩)) ?_;refine tk 5 (v:=.slice e.log.a e.log.recs.length e.log.c) rfl (Or.inl ⟨by rfl,?_⟩) hHeld ?_
              ·intro w' hSw;have hx:=hSw.2.1;go_simp<;>rfl
              try simp only [zz]
              refine tr 6 (.int .i64 (e.log.recs.length:Int)) ?_;refine tr 7 (.bool false) ?_;refine tr 8 (.bool false) ?_;refine tr 9 (.pointer (some ⟨wr.heap.size,18,none⟩)) ?_;refine tk 10 (v:=.bool false) rfl (Or.inl ⟨by rfl,?_⟩) hHeld ?_
              ·intro w' hSw;have hx:=hSw.2.2.1;go_simp<;>rfl
              try simp only [zz]
              refine tr 11 (.bool true) ?_;refine tr 12 (.bool true) ?_;refine tr 13 (.pointer (some ⟨wr.heap.size,1,none⟩)) ?_;refine Go.Proofs.YtjkckhfddgeboaaGreatDoor.ts 14 rfl (yieldsIf_load_mid (by rfl) _ _ rfl _ _ rfl (s.page.cells) _ (fun _ h=>h.2.2.2.1) Tryz.underlying31 rfl (jM _ rfl)) ?_;refine tr 15 (.pointer (some ⟨wr.heap.size,0,none⟩)) ?_;refine tk 16 (v:=.int .i64 (nn:Int)) rfl (Or.inl ⟨by rfl,?_⟩) hHeld ?_
              ·intro w' hSw;have hx:=hSw.2.2.2.2.1;go_simp<;>rfl
              try simp only [zz]
              refine tr 17 (.pointer (some ⟨w.heap.size,0,none⟩)) ?_;refine tr 18 (.pointer (some ⟨w.heap.size,nn*17,none⟩)) ?_;refine Go.Proofs.YtjkckhfddgeboaaGreatDoor.ts 19 rfl (yieldsIf_load_mid (by rfl) _ _ rfl _ _ rfl (p.cells) _ (fun _ h=>h.2.2.2.2.2) Tryz.underlying31 rfl (jM _ WT)) ?_;refine wpAnyH_ready (rs:=[20]) (by kernel_rfl) (by simp) ?_;refine AllReadyH.cons rfl (fun K hK=>?_) AllReadyH.nil;go_simp;refine (Zk s.page p rfl WT _ (QA.out _ N2).1 (QA.out _ N2).2 F1 F2).mono ?_;rintro r d1 ⟨rfl,hb1⟩;have D1:Below V.heap.size V d1:=D0.trans (hb1.mono D0.size);have N3:Below W.heap.size W d1:=nV.trans (D1.mono nV.size);rw [XW.out];refine hK.out _ _ (HS.out _ D1) (fun hHeld=>?_);clear hK K hb1;try simp only [zz]
              refine tr 21 (.bool true) ?_;refine tr 22 (.bool true) ?_;refine tr 23 (.bool true) ?_;refine wpAnyH_done (by kernel_rfl) ?_ _;clear hHeld;have HE:Hid (jQ=false∧Below w.heap.size w d1):=⟨YU.out,qR.out _ N3⟩;go_wp2;go_ret;exact ⟨qd HE.out.1.symm,HE.out.2⟩
           ·have Vk:(e.log.recs.length:Int)<s.lsn:=by omega
            have YU:Hid (jQ=false):=FK.out (by rw [WR.out,decide_eq_false hx];rfl);clear hx;refine wp_region_held_drew (S:=fun u=>(u.cell? ⟨wr.heap.size,1,none⟩=some (.int .i64 s.lsn)∧u.cell? ⟨w.heap.size,138,none⟩=some (.slice e.log.a e.log.recs.length e.log.c)∧u.cell? ⟨wr.heap.size,18,none⟩=some (.bool dr)∧u.rangeAt wr.heap.size 1 s.page.cells∧u.cell? ⟨wr.heap.size,0,none⟩=some (.int .i64 (nn:Int))∧u.rangeAt w.heap.size (nn*17) p.cells)) (by kernel_rfl) (HS.out _ D0) (fun hHeld=>?_);generalize V.drew=d0 at*
            refine tr 0 (.pointer (some ⟨wr.heap.size,1,none⟩)) ?_;refine tr 1 (.pointer (some ⟨wr.heap.size,1,none⟩)) ?_;refine tk 2 (v:=.int .i64 s.lsn) rfl (Or.inl ⟨by rfl,?_⟩) hHeld ?_
            ·intro w' hSw;have hx:=hSw.1;go_simp<;>rfl
            try simp only [zz]
            refine tr 3 (.pointer (some ⟨w.heap.size,138,none⟩)) ?_;refine tr 4 (.pointer (some ⟨w.heap.size,138,none⟩)) ?_;refine tk 5 (v:=.slice e.log.a e.log.recs.length e.log.c) rfl (Or.inl ⟨by rfl,?_⟩) hHeld ?_
            ·intro w' hSw;have hx:=hSw.2.1;go_simp<;>rfl
            try simp only [zz]
            refine tr 6 (.int .i64 (e.log.recs.length:Int)) ?_;refine tr 7 (.bool true) ?_;refine tr 8 (.bool true) ?_;refine Go.Proofs.YtjkckhfddgeboaaGreatDoor.tu 9 ?_;refine Go.Proofs.YtjkckhfddgeboaaGreatDoor.tu 10 ?_;refine Go.Proofs.YtjkckhfddgeboaaGreatDoor.tu 11 ?_;refine Go.Proofs.YtjkckhfddgeboaaGreatDoor.tu 12 ?_;refine Go.Proofs.YtjkckhfddgeboaaGreatDoor.tu 13 ?_;refine Go.Proofs.YtjkckhfddgeboaaGreatDoor.tu 14 ?_;refine Go.Proofs.YtjkckhfddgeboaaGreatDoor.tu 15 ?_;refine Go.Proofs.YtjkckhfddgeboaaGreatDoor.tu 16 ?_;refine Go.Proofs.YtjkckhfddgeboaaGreatDoor.tu 17 ?_;refine Go.Proofs.YtjkckhfddgeboaaGreatDoor.tu 18 ?_;refine Go.Proofs.YtjkckhfddgeboaaGreatDoor.tu 19 ?_;refine Go.Proofs.YtjkckhfddgeboaaGreatDoor.tu 20 ?_;refine Go.Proofs.YtjkckhfddgeboaaGreatDoor.tu 21 ?_;refine Go.Proofs.YtjkckhfddgeboaaGreatDoor.tu 22 ?_;refine tr 23 (.bool true) ?_;refine wpAnyH_done (by kernel_rfl) ?_ _;clear hHeld;have HE:Hid (jQ=false∧Below w.heap.size w d0):=⟨YU.out,qR.out _ N2⟩;go_wp2;go_ret;exact ⟨qd HE.out.1.symm,HE.out.2⟩
          ·have e1:i=e.seats.length:=by omega
           have HST:Hid (∀ j,j<e.seats.length→zf e.v j=true):=by rw [e1] at hall;exact hall
           have HE:Hid (jQ=(!e.down || (decide (e.seats.length=0) && (decide (e.txs.length=0) && decide (e.holds.length=0))))∧Below w.heap.size w wr):=⟨xP.out Z9.out Yz.out O3.out trivial HXT.out HDT.out HST.out,qR.out _ hbr⟩;have hge:¬ (i:Int)<(e.seats.length:Int):=by omega
           obtain ⟨p0,p1,p2,p3,p4,p5,p6⟩:=qH se (HB.out wr hbr);clear p0 p2 p5;have l0:wr.cell? ⟨w.heap.size,136,none⟩=some (.slice e.aS e.seats.length e.cS):=p1 0 _ rfl;clear p1;clear hall e1;obtain ⟨dn,hdn⟩:∃ dn,Hid (e.down=dn):=⟨_,rfl⟩;rw [hdn.out] at p6 HE;have wO:Hid (_=_):=HE.out.1;have KV:Hid (Below _ _ _):=HE.out.2;clear HE;cases dn with
           | false=> 
            by_cases h1:e.seats.length=0
            ·by_cases h2:e.txs.length=0
             ·by_cases h3:e.holds.length=0
              ·have k1:((e.seats.length:Int) == 0)=true:=by simp [h1]
               have k2:((e.txs.length:Int) == 0)=true:=by simp [h2]
               have k3:((e.holds.length:Int) == 0)=true:=by simp [h3]
               have HF:Hid (jQ=true):=wO.out.trans (by rw [decide_eq_true h1,decide_eq_true h2,decide_eq_true h3];rfl);clear wO h1 h2 h3;go_wp2;go_ret;exact ⟨qd (by rw [HF.out]),KV.out⟩
              ·have k1:((e.seats.length:Int) == 0)=true:=by simp [h1]
               have k2:((e.txs.length:Int) == 0)=true:=by simp [h2]
               have k3:((e.holds.length:Int) == 0)=false:=beq_eq_false_iff_ne.2 (by omega);have HF:Hid (jQ=true):=wO.out.trans (by rw [decide_eq_true h1,decide_eq_true h2,decide_eq_false h3];rfl);clear wO h1 h2 h3;go_wp2;go_ret;exact ⟨qd (by rw [HF.out]),KV.out⟩
             ·by_cases h3:e.holds.length=0
              ·have k1:((e.seats.length:Int) == 0)=true:=by simp [h1]
               have k2:((e.txs.length:Int) == 0)=false:=beq_eq_false_iff_ne.2 (by omega);have k3:((e.holds.length:Int) == 0)=true:=by simp [h3]
               have HF:Hid (jQ=true):=wO.out.trans (by rw [decide_eq_true h1,decide_eq_false h2,decide_eq_true h3];rfl);clear wO h1 h2 h3;go_wp2;go_ret;exact ⟨qd (by rw [HF.out]),KV.out⟩
              ·have k1:((e.seats.length:Int) == 0)=true:=by simp [h1]
               have k2:((e.txs.length:Int) == 0)=false:=beq_eq_false_iff_ne.2 (by omega);have k3:((e.holds.length:Int) == 0)=false:=beq_eq_false_iff_ne.2 (by omega);have HF:Hid (jQ=true):=wO.out.trans (by rw [decide_eq_true h1,decide_eq_false h2,decide_eq_false h3];rfl);clear wO h1 h2 h3;go_wp2;go_ret;exact ⟨qd (by rw [HF.out]),KV.out⟩
            ·by_cases h2:e.txs.length=0
             ·by_cases h3:e.holds.length=0
              ·have k1:((e.seats.length:Int) == 0)=false:=beq_eq_false_iff_ne.2 (by omega);have k2:((e.txs.length:Int) == 0)=true:=by simp [h2]
               have k3:((e.holds.length:Int) == 0)=true:=by simp [h3]
               have HF:Hid (jQ=true):=wO.out.trans (by rw [decide_eq_false h1,decide_eq_true h2,decide_eq_true h3];rfl);clear wO h1 h2 h3;go_wp2;go_ret;exact ⟨qd (by rw [HF.out]),KV.out⟩
              ·have k1:((e.seats.length:Int) == 0)=false:=beq_eq_false_iff_ne.2 (by omega);have k2:((e.txs.length:Int) == 0)=true:=by simp [h2]
               have k3:((e.holds.length:Int) == 0)=false:=beq_eq_false_iff_ne.2 (by omega);have HF:Hid (jQ=true):=wO.out.trans (by rw [decide_eq_false h1,decide_eq_true h2,decide_eq_false h3];rfl);clear wO h1 h2 h3;go_wp2;go_ret;exact ⟨qd (by rw [HF.out]),KV.out⟩
             ·by_cases h3:e.holds.length=0
              ·have k1:((e.seats.length:Int) == 0)=false:=beq_eq_false_iff_ne.2 (by omega);have k2:((e.txs.length:Int) == 0)=false:=beq_eq_false_iff_ne.2 (by omega);have k3:((e.holds.length:Int) == 0)=true:=by simp [h3]
               have HF:Hid (jQ=true):=wO.out.trans (by rw [decide_eq_false h1,decide_eq_false h2,decide_eq_true h3];rfl);clear wO h1 h2 h3;go_wp2;go_ret;exact ⟨qd (by rw [HF.out]),KV.out⟩
              ·have k1:((e.seats.length:Int) == 0)=false:=beq_eq_false_iff_ne.2 (by omega);have k2:((e.txs.length:Int) == 0)=false:=beq_eq_false_iff_ne.2 (by omega);have k3:((e.holds.length:Int) == 0)=false:=beq_eq_false_iff_ne.2 (by omega);have HF:Hid (jQ=true):=wO.out.trans (by rw [decide_eq_false h1,decide_eq_false h2,decide_eq_false h3];rfl);clear wO h1 h2 h3;go_wp2;go_ret;exact ⟨qd (by rw [HF.out]),KV.out⟩
           | true=> 
            by_cases h1:e.seats.length=0
            ·by_cases h2:e.txs.length=0
             ·by_cases h3:e.holds.length=0
              ·have k1:((e.seats.length:Int) == 0)=true:=by simp [h1]
               have k2:((e.txs.length:Int) == 0)=true:=by simp [h2]
               have k3:((e.holds.length:Int) == 0)=true:=by simp [h3]
               have HF:Hid (jQ=true):=wO.out.trans (by rw [decide_eq_true h1,decide_eq_true h2,decide_eq_true h3];rfl);clear wO h1 h2 h3;go_wp2;go_ret;exact ⟨qd (by rw [HF.out]),KV.out⟩
              ·have k1:((e.seats.length:Int) == 0)=true:=by simp [h1]
               have k2:((e.txs.length:Int) == 0)=true:=by simp [h2]
               have k3:((e.holds.length:Int) == 0)=false:=beq_eq_false_iff_ne.2 (by omega);have HF:Hid (jQ=false):=wO.out.trans (by rw [decide_eq_true h1,decide_eq_true h2,decide_eq_false h3];rfl);clear wO h1 h2 h3;go_wp2;go_ret;exact ⟨qd (by rw [HF.out]),KV.out⟩
             ·by_cases h3:e.holds.length=0
              ·have k1:((e.seats.length:Int) == 0)=true:=by simp [h1]
               have k2:((e.txs.length:Int) == 0)=false:=beq_eq_false_iff_ne.2 (by omega);have k3:((e.holds.length:Int) == 0)=true:=by simp [h3]
               have HF:Hid (jQ=false):=wO.out.trans (by rw [decide_eq_true h1,decide_eq_false h2,decide_eq_true h3];rfl);clear wO h1 h2 h3;go_wp2;go_ret;exact ⟨qd (by rw [HF.out]),KV.out⟩
              ·have k1:((e.seats.length:Int) == 0)=true:=by simp [h1]
               have k2:((e.txs.length:Int) == 0)=false:=beq_eq_false_iff_ne.2 (by omega);have k3:((e.holds.length:Int) == 0)=false:=beq_eq_false_iff_ne.2 (by omega);have HF:Hid (jQ=false):=wO.out.trans (by rw [decide_eq_true h1,decide_eq_false h2,decide_eq_false h3];rfl);clear wO h1 h2 h3;go_wp2;go_ret;exact ⟨qd (by rw [HF.out]),KV.out⟩
            ·by_cases h2:e.txs.length=0
             ·by_cases h3:e.holds.length=0
              ·have k1:((e.seats.length:Int) == 0)=false:=beq_eq_false_iff_ne.2 (by omega);have k2:((e.txs.length:Int) == 0)=true:=by simp [h2]
               have k3:((e.holds.length:Int) == 0)=true:=by simp [h3]
               have HF:Hid (jQ=false):=wO.out.trans (by rw [decide_eq_false h1,decide_eq_true h2,decide_eq_true h3];rfl);clear wO h1 h2 h3;go_wp2;go_ret;exact ⟨qd (by rw [HF.out]),KV.out⟩
              ·have k1:((e.seats.length:Int) == 0)=false:=beq_eq_false_iff_ne.2 (by omega);have k2:((e.txs.length:Int) == 0)=true:=by simp [h2]
               have k3:((e.holds.length:Int) == 0)=false:=beq_eq_false_iff_ne.2 (by omega);have HF:Hid (jQ=false):=wO.out.trans (by rw [decide_eq_false h1,decide_eq_true h2,decide_eq_false h3];rfl);clear wO h1 h2 h3;go_wp2;go_ret;exact ⟨qd (by rw [HF.out]),KV.out⟩
             ·by_cases h3:e.holds.length=0
              ·have k1:((e.seats.length:Int) == 0)=false:=beq_eq_false_iff_ne.2 (by omega);have k2:((e.txs.length:Int) == 0)=false:=beq_eq_false_iff_ne.2 (by omega);have k3:((e.holds.length:Int) == 0)=true:=by simp [h3]
               have HF:Hid (jQ=false):=wO.out.trans (by rw [decide_eq_false h1,decide_eq_false h2,decide_eq_true h3];rfl);clear wO h1 h2 h3;go_wp2;go_ret;exact ⟨qd (by rw [HF.out]),KV.out⟩
              ·have k1:((e.seats.length:Int) == 0)=false:=beq_eq_false_iff_ne.2 (by omega);have k2:((e.txs.length:Int) == 0)=false:=beq_eq_false_iff_ne.2 (by omega);have k3:((e.holds.length:Int) == 0)=false:=beq_eq_false_iff_ne.2 (by omega);have HF:Hid (jQ=false):=wO.out.trans (by rw [decide_eq_false h1,decide_eq_false h2,decide_eq_false h3];rfl);clear wO h1 h2 h3;go_wp2;go_ret;exact ⟨qd (by rw [HF.out]),KV.out⟩
end Go.Proofs.YtjkckhfddgeboaaGreatDoor