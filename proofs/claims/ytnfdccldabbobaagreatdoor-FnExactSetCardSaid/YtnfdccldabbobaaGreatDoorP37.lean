/- Texts. -/
import Derived.Test.YtnfdccldabbobaaGreatDoorP31
set_option maxHeartbeats 8000000
set_option maxRecDepth 100000
namespace Go.Proofs.YtnfdccldabbobaaGreatDoor
open Go.RowKit Go.Proofs.Tryz
theorem gm {P:Prop} (h:P:=by
 refine wU HS D0 fun qc=>?_
 generalize wr.drew=d0 at*
 iterate 3 refine jv ?_
 refine xB 3 (p.cells) (fun _ h=>h.1) underlying48 ((xe _ uz)) ?_;refine jc 4 (fun K hK=>?_);go_simp;refine (Xb p uz _ (Zp.out _ N2) F1).mono ?_;rintro r d1 ⟨rfl,hb1⟩;rw [hA.out];have D1:=qf D0 hb1;have N3:=qf hbr D1;refine qX hK (HS.out _ D1) fun qc=>?_
 clear hK K hb1;try simp only [zz]
 iterate 12 refine jv ?_
 refine qau (by kernel_rfl) ?_ _;clear qc;have HE:Hid (xR=false∧qa w d1):=⟨gp.out,jr.out _ N3⟩;go_wp2;go_ret;exact ⟨qm HE.out.1.symm,HE.out.2⟩):P:=h
theorem gq {P:Prop} (h:P:=by
 have k1:((e.seats.length:Int) == 0)=true:=by simp [h1]
 have k2:((e.txs.length:Int) == 0)=true:=by simp [h2]
 have k3:((e.holds.length:Int) == 0)=true:=by simp [h3]
 have HF:Hid (xR=true):=ug.out.trans (by rw [qaC h1,qaC h2,qaC h3];rfl);clear ug h1 h2 h3;go_wp2;go_ret;exact ⟨qm (by rw [HF.out]),YW.out⟩):P:=h
theorem gu {P:Prop} (h:P:=by
 refine qau (by kernel_rfl) ?_ _;clear qc;have HE:Hid (xR=false∧qa w d0):=⟨gp.out,jr.out _ N2⟩;go_wp2;go_ret;exact ⟨qm HE.out.1.symm,HE.out.2⟩):P:=h
theorem Gs (e:qb) (se:e.shape) (w:World) (re:e.reads w) (hl:e.short 1048576):
  Calls prog 65 #[.agg e.cells.toArray] w fun r w'=>r=.returned (.bool (jF e.v))∧qa w w':=by
 have HL0:Hid (xJ e.log.v=false→jF e.v=false):=fun h=>by (have h':xJ e.v.log=false:=h;simp [jF,h'])
 have HP0:Hid (okPool e.qQ.v=false→jF e.v=false):=fun h=>by (have h':okPool e.v.j4=false:=h;simp [jF,h'])
 have HN0:Hid (inB e.next 1 1001=false→jF e.v=false):=fun h=>by (have h':inB e.v.next 1 1001=false:=h;simp [jF,h'])
 have HT0:Hid (zQ e.v=false→jF e.v=false):=fun h=>by simp [jF,h]
 have HX0:Hid (∀ k,k<e.log.recs.length→uV e.v k=false→jF e.v=false):=fun k hk h=>Aa (by simpa [qb.v,qI.v] using hk) h
 have HD0:Hid (∀ k,k<8→wW e.v k=false→jF e.v=false):=fun k hk h=>Ab hk h
 have DC:Hid (∀ k,k<e.seats.length→wC e.v k=false→jF e.v=false):=fun k hk h=>Ac (by simpa [qb.v] using hk) h
 have zw:Hid (xJ e.log.v=true→okPool e.qQ.v=true→inB e.next 1 1001=true→zQ e.v=true→(∀ k,k<e.log.recs.length→uV e.v k=true)→(∀ k,k<8→wW e.v k=true)→(∀ k,k<e.seats.length→wC e.v k=true)→jF e.v=(!e.down || (decide (e.seats.length=0) && (decide (e.txs.length=0) && decide (e.holds.length=0))))):=fun h1 h2 h3 h4 h5 h6 h7=>by
  have:=Oo (e:=e.v) h1 h2 h3 h4 (fun k hk=>h5 k (by simpa [qb.v,qI.v] using hk)) h6 (fun k hk=>h7 k (by simpa [qb.v] using hk));rw [this];simp [Yh,qb.v]
 have HXA:Hid (∀ k,uV e.v k=decide ((e.log.recs.getD k qE).tx<e.next)):=fun k=>by (show decide (((e.log.recs.map ql.v).getD k qE.v).tx<e.next)=_;rw [Hw];rfl)
 have HDA:Hid (∀ k,k<8→wW e.v k=(xZ (e.disk.getD k jh).lsn ((e.disk.getD k jh).ss.map (·.v)) && decide ((e.disk.getD k jh).lsn≤e.log.sure))):=fun k hk=>by (rw [wW,VU se k hk];rfl)
 have HSA:Hid (∀ k (n:Nat),(e.seats.getD k qi).no=n→n<8→wC e.v k=(decide ((e.seats.getD k qi).lsn≤(e.log.recs.length:Int)) && ((e.seats.getD k qi).dirty || wD ((e.seats.getD k qi).lsn,(e.seats.getD k qi).ss.map (·.v)) ((e.disk.getD n jh).lsn,(e.disk.getD n jh).ss.map (·.v))))):=fun k n hn h8=>by
  have e1:e.v.seats.getD k qy=(e.seats.getD k qi).v:=kM e.seats k;have e2:(e.seats.getD k qi).v.no=n:=hn;rw [wC,e1,e2,qcU,VU se n h8];simp only [qb.v,qI.v,qa4];rfl
 have kI:Hid (okPool e.qQ.v=true→∀ k,k<e.seats.length→∃ n:Nat,(e.seats.getD k qi).no=n∧n<8):=fun h k hk=>by
  obtain ⟨n,h1,h2⟩:=TA (e:=e.v) h k (by simpa [qb.v] using hk);exact ⟨n,by rw [← h1];show _=(e.v.seats.getD k qy).no;rw [show e.v.seats.getD k qy=(e.seats.getD k qi).v from kM e.seats k];rfl,h2⟩
 have CT:=fun u (hu:e.reads u) h1 h2=>Sj e se u hu hl h1 h2
 obtain ⟨xR,U0⟩:=Q4 (jF e.v);rw [U0] at HL0 HP0 HN0 HT0 HX0 HD0 DC zw ⊢;clear U0;obtain ⟨OTX,qgy⟩:=Q4 (zQ e.v);rw [qgy] at HT0 zw CT;clear qgy;obtain ⟨W,hW,b0,hbW,qD⟩:=qB w e.cells 59;have HB:Hid (∀ u,qa W u→Box u w.heap.size e.cells 59):=fun u hu=>b0.below hu b0.lt
 have HR:Hid (∀ u,qa W u→e.reads u):=fun u hu=>(re.below hbW).below hu
 have jr:Hid (∀ u,qa W u→qa w u):=fun u hu=>qf hbW hu
 have hw0:w.heap.size<W.heap.size:=by omega
 have pQ:Hid (∀ p∈e.disk,Fit p.ss):=fun p hp s hs=>by have:=hl.disk p hp s hs;omega
 have aV:Hid (∀ s∈e.seats,Fit s.ss):=fun s hs x hx=>by have:=hl.pool.each s hs x hx;omega
 have UZ:Hid (e.qQ.short 1099511627776):=qo.jB hl.pool;have Il:Hid (e.log.short 1099511627776):=qI.jB hl.log;have hrl:e.log.recs.length≤1048576:=hl.log.len;have hsl:e.seats.length≤1048576:=hl.pool.len;have htl:=hl.txs;have hhl:=hl.holds;have HI:=j6 se;clear b0 qD hl re;have N:qa W W:=qab _ _;obtain ⟨p0,p1,p2,p3,p4,p5,p6⟩:=qY se (HB.out W N);have C1:=fT e.log W (HR.out _ N).log Il.out;go_enter func65,ntmps65;go_wp2_with (first | (guard_target=qp 8;refine qH 55 7 w.heap.size 138 (e.log.cells) (by rw [hW.out];exact p2) underlying55 (yT _) ?_) | fail);rw [hW.out];clear hW p0 p1 p2 p3 p4 p5 p6;refine C1.mono ?_;clear C1;rintro r w1 ⟨rfl,hb⟩;replace N:=qf N hb;clear hb;obtain ⟨p0,p1,p2,p3,p4,p5,p6⟩:=qY se (HB.out _ N);cases ZP:xJ e.log.v with
 | false=>
  have ME:=HL0.out ZP;have qme:Hid (_=_):=ME;clear ME ZP;have HE:Hid (xR=false∧qa w w1):=⟨qme.out,jr.out _ N⟩;go_wp2;go_ret;exact ⟨qm HE.out.1.symm,HE.out.2⟩
 | true=>
  have ME:Hid (_=_):=ZP;clear ZP;have C2:=Po e.qQ w1 (HR.out _ N).pool UZ.out;go_wp2_with (first | (guard_target=qp 13;refine jD (by rfl) 52 (.tmp 12) rfl w.heap.size 136 rfl (e.qQ.cells) _ p1 underlying52 rfl (xP _) ?_) | fail);refine C2.mono ?_;clear C2 p0 p1 p2 p3 p4 p5 p6;rintro r w2 ⟨rfl,hb⟩;replace N:=qf N hb;clear hb;obtain ⟨p0,p1,p2,p3,p4,p5,p6⟩:=qY se (HB.out _ N);cases sO:okPool e.qQ.v with
  | false=>
   have XJ:Hid (_=_):=HP0.out sO;clear sO;have HE:Hid (xR=false∧qa w w2):=⟨XJ.out,jr.out _ N⟩;go_wp2;go_ret;exact ⟨qm HE.out.1.symm,HE.out.2⟩
  | true=>
   have XJ:Hid (_=_):=sO;clear sO;go_wp2_with fail;refine (j5 _ _ _ _).mono ?_;rintro r w2 ⟨rfl,rfl⟩;cases hnx:inB e.next 1 1001 with
   | false=>
    have HNX:Hid (_=_):=HN0.out hnx;clear hnx;have HE:Hid (xR=false∧qa w w2):=⟨HNX.out,jr.out _ N⟩;go_wp2;go_ret;exact ⟨qm HE.out.1.symm,HE.out.2⟩
   | true=>
    have HNX:Hid (_=_):=hnx;have hn1:1≤e.next∧e.next≤1001:=by simpa [inB] using hnx
    clear hnx;have C4:=CT w2 (HR.out _ N) hn1.1 hn1.2;clear CT;have rE:w2.rangeAt w.heap.size 0 e.cells:=qN (HB.out _ N);go_wp2_with (first | (guard_target=qp 24;refine jD (by rfl) 59 (.tmp 1) rfl w.heap.size 0 rfl (e.cells) _ rE underlying59 rfl HI ?_) | fail);refine C4.mono ?_;clear C4 p0 p1 p2 p3 p4 p5 p6 rE;rintro r w4 ⟨rfl,hb⟩;replace N:=qf N hb;clear hb;obtain ⟨p0,p1,p2,p3,p4,p5,p6⟩:=qY se (HB.out _ N);cases OTX with
    | false=>
     have HE:Hid (xR=false∧qa w w4):=⟨HT0.out rfl,jr.out _ N⟩;go_wp2;go_ret;exact ⟨qm HE.out.1.symm,HE.out.2⟩
    | true=>
     have l0:=p2 0 _ rfl;go_wp2_with fail;go_loopw [3] (fun i wr=>∃ k:Nat,k≤e.log.recs.length∧i=.int .i64 (k:Int)∧Hid (∀ j,j<k→uV e.v j=true)∧qa W wr) (fun i _=>e.log.recs.length-(intOf i).toNat)
     case atStart=>exact ⟨0,qaw _,rfl,fun j hj=>by omega,N⟩
     case round=>
      obtain ⟨k,hk,rfl,hall,hbr⟩:=hrel;clear p0 p1 p2 p3 p4 p5 p6 l0;have QF:=hbr.size;by_cases hlt:k<e.log.recs.length
      ·obtain ⟨b,off,ha,hc⟩:=(HR.out _ hbr).log (by intro e0;rw [e0] at hlt;simp at hlt);have hc1:=(hc k hlt).1 1 _ rfl;have La:Hid (_=_):=HXA.out k;have HXN:Hid (_→_):=HX0.out k hlt;clear hc;generalize e.log.recs.getD k qE=z at*
       have HS:Hid (∀ u,qa wr u→(u.cell? ⟨w.heap.size,138,none⟩=some (.slice (some ⟨b,off,none⟩) e.log.recs.length e.log.c)∧u.cell? ⟨b,off+k*15+1,none⟩=some (.int .i64 z.tx)∧u.cell? ⟨w.heap.size,142,none⟩=some (.int .i64 e.next))):=fun u hu=>by
        obtain ⟨_,_,q2,_,_,q5,_⟩:=qY se (HB.out u (qf hbr hu));have q20:=q2 0 _ rfl;rw [ha] at q20;exact ⟨q20,(hu.cell (p:=⟨b,off+k*15+1,none⟩) (block_lt hc1)).trans hc1,q5⟩
       obtain ⟨s0,_,_⟩:=HS.out wr (qab _ _);have hkl:(k:Int)<(e.log.recs.length:Int):=by omega
       have hk0:(0:Int)≤(k:Int):=by omega
       clear hc1;go_upto_region 6 with fail;clear s0;have D0:qa wr wr.drew:=(qab _ _).drew;have N2:qa W wr.drew:=qf hbr D0;by_cases hx:z.tx<e.next
       ·have Wp:¬ e.next≤z.tx:=by omega
        have HK:Hid (∀ j,j<k+1→uV e.v j=true):=fun j hj=>by
         by_cases q:j=k
         ·rw [q,La.out];exact qaC hx
         ·exact hall.out j (by omega)
        clear hx;refine wU HS D0 fun qc=>?_
        generalize wr.drew=d0 at*
        iterate 10 refine jv ?_
        refine qau (by kernel_rfl) ?_ _;clear qc;go_wp2_with fail;go_roundw
        case rel=>exact ⟨k+1,by omega,by go_num,HK,N2⟩
        case measure=>simp [intOf];omega
       ·have Wp:e.next≤z.tx:=by omega
        have gp:Hid (xR=false):=HXN.out (by rw [La.out];exact qa0 hx);clear hx;refine wU HS D0 fun qc=>?_
        generalize wr.drew=d0 at*
        iterate 10 refine jv ?_
        exact gu
      ·have e1:k=e.log.recs.length:=by omega
       have HXT:Hid (∀ j,j<e.log.recs.length→uV e.v j=true):=by rw [e1] at hall;exact hall
       have p2:=(qY se (HB.out wr hbr)).2.2.1;have l0:=p2 0 _ rfl;have hge:¬ (k:Int)<(e.log.recs.length:Int):=by omega
       clear hall e1 p2;go_upto_region 9 with fail;clear l0 hge;generalize wr=wq at*
       go_loopw [4] (fun i wr=>∃ k:Nat,k≤8∧i=.int .i64 (k:Int)∧Hid (∀ j,j<k→wW e.v j=true)∧qa W wr) (fun i _=>8-(intOf i).toNat)
       case atStart=>exact ⟨0,qaw _,rfl,fun j hj=>by omega,hbr⟩
       case round=>
        clear hbr QF;obtain ⟨m,hm,rfl,hall,hbr⟩:=hrel;have QF:=hbr.size;by_cases hlt2:m<8
        ·have Vq:m<e.disk.length:=by rw [se.eight];exact hlt2
         have HDK:Hid (_=_):=HDA.out m hlt2;have O4:Hid (_→_):=HD0.out m hlt2;have uz:=se.wy.at hlt2;have F1:=pQ.out _ (xz (k:=m) Vq);have Zp:Hid (∀ u,qa W u→jS u (e.disk.getD m jh).ss):=fun u hu=>(HR.out _ hu).disk _ (xz (k:=m) Vq)
         have HS:Hid (∀ u,qa wr u→(u.rangeAt w.heap.size (m*17) (e.disk.getD m jh).cells∧u.cell? ⟨w.heap.size,m*17,none⟩=some (.int .i64 (e.disk.getD m jh).lsn)∧u.cell? ⟨w.heap.size,139,none⟩=some (.int .i64 e.log.sure))):=fun u hu=>by
          have bu:=HB.out u (qf hbr hu);obtain ⟨q0,_,q2,_,_,_,_⟩:=qY se bu;have bd:Box u w.heap.size (qx e.disk++e.tail) 59:=bu;have rp:=qb.VA se bu m Vq;rw [vz Vq] at rp;exact ⟨rp,rp 0 _ rfl,q2 1 _ rfl⟩
         generalize e.disk.getD m jh=p at*
         have hi0:(0:Int)≤(m:Int):=by omega
         have bg:(m:Int)<8:=by omega
         go_upto_region 11 with fail;have D0:qa wr wr.drew:=(qab _ _).drew;have N2:qa W wr.drew:=qf hbr D0;obtain ⟨bA,hA⟩:=qV (xZ p.lsn (p.ss.map (·.v)));cases bA with
         | false=>
          have gp:Hid (xR=false):=O4.out (by rw [HDK.out,hA.out];rfl);exact gm
         | true=>
          by_cases hx:p.lsn≤e.log.sure
          ·have Wp:¬ e.log.sure<p.lsn:=by omega
           have HK:Hid (∀ j,j<m+1→wW e.v j=true):=fun j hj=>by
            by_cases q:j=m
            ·rw [q,HDK.out,hA.out,qaC hx];rfl
            ·exact hall.out j (by omega)
           clear hx;refine wU HS D0 fun qc=>?_
           generalize wr.drew=d0 at*
           iterate 3 refine jv ?_
           refine xB 3 (p.cells) (fun _ h=>h.1) underlying48 ((xe _ uz)) ?_;refine jc 4 (fun K hK=>?_);go_simp;refine (Xb p uz _ (Zp.out _ N2) F1).mono ?_;rintro r d1 ⟨rfl,hb1⟩;rw [hA.out];have D1:=qf D0 hb1;have N3:=qf hbr D1;refine qX hK (HS.out _ D1) fun qc=>?_
           clear hK K hb1;try simp only [zz]
           iterate 12 refine jv ?_
           refine qau (by kernel_rfl) ?_ _;clear qc;go_wp2_with fail;go_roundw
           case rel=>exact ⟨m+1,by omega,by go_num,HK,N3⟩
           case measure=>simp [intOf];omega
          ·have Wp:e.log.sure<p.lsn:=by omega
           have gp:Hid (xR=false):=O4.out (by rw [HDK.out,hA.out,qa0 hx];rfl);clear hx;exact gm
        ·obtain rfl:m=8:=by omega
         have HDT:Hid (∀ j,j<8→wW e.v j=true):=hall;have hge:¬ ((8:Nat):Int)<8:=by omega
         have p1:=(qY se (HB.out wr hbr)).2.1;have l0:wr.cell? ⟨w.heap.size,136,none⟩=some (.slice e.aS e.seats.length e.cS):=p1 0 _ rfl;clear hall p1;go_upto_region 14 with fail;clear l0 hge;generalize wr=wz at*
         go_loopw [5] (fun i wr=>∃ k:Nat,k≤e.seats.length∧i=.int .i64 (k:Int)∧Hid (∀ j,j<k→wC e.v j=true)∧qa W wr) (fun i _=>e.seats.length-(intOf i).toNat)
         case atStart=>exact ⟨0,qaw _,rfl,fun j hj=>by omega,hbr⟩
         case round=>
          clear hbr QF;obtain ⟨i,hi,rfl,hall,hbr⟩:=hrel;have QF:=hbr.size;have p1:=(qY se (HB.out wr hbr)).2.1;have l0:wr.cell? ⟨w.heap.size,136,none⟩=some (.slice e.aS e.seats.length e.cS):=p1 0 _ rfl;clear p1;by_cases hlt3:i<e.seats.length
          ·obtain ⟨b,off,ha,hc⟩:=Zw (HR.out _ hbr).pool i hlt3;have hcr:wr.rangeAt b (off+i*20) (e.seats.getD i qi).cells:=(hc i hlt3).1;obtain ⟨nn,hnn,Yx⟩:=kI.out XJ.out i hlt3;have Nf:Hid (_=_):=HSA.out i nn hnn Yx;have O5:Hid (_→_):=DC.out i hlt3;have F1:=aV.out _ (xE e.seats i hlt3);have hnl:nn<e.disk.length:=by rw [se.eight];exact Yx
           have F2:=pQ.out _ (xz (k:=nn) hnl);have Ng:=se.wy.at Yx;have wK:Hid (∀ u,qa W u→jS u (e.seats.getD i qi).ss∧jS u (e.disk.getD nn jh).ss):=fun u hu=>⟨by
            obtain ⟨_,_,_,hc2⟩:=Zw (HR.out _ hu).pool i hlt3;exact (hc2 i hlt3).2,(HR.out _ hu).disk _ (xz (k:=nn) hnl)⟩
           have HDG:Hid (∀ u,qa W u→u.rangeAt w.heap.size (nn*17) (e.disk.getD nn jh).cells):=fun u hu=>by
            have rp:=qb.VA se (HB.out u hu) nn hnl;rw [vz hnl] at rp;exact rp
           have ha':e.aS=some ⟨b,off,none⟩:=ha;have l0':wr.cell? ⟨w.heap.size,136,none⟩=some (.slice (some ⟨b,off,none⟩) e.seats.length e.cS):=by rw [← ha'];exact l0
           clear hc l0 ha;generalize e.seats.getD i qi=s at*
           generalize e.disk.getD nn jh=p at*
           obtain ⟨ZV,QJ,bZ,yF,zx⟩:=qB wr [.int .i64 0,.int .i64 0,.bool false,.int .i64 0,.slice none 0 0,.slice none 0 0,.bool false,.int .i64 0,.slice none 0 0,.slice none 0 0,.bool false,.int .i64 0,.slice none 0 0,.slice none 0 0,.bool false,.int .i64 0,.slice none 0 0,.slice none 0 0,.bool false,.bool false] 121;obtain ⟨V,hV,XD,Kr,HT,_,bS⟩:=yx s _ rfl bZ;have nb:qa wr V:=yF.trans (XD.below qg (by omega));have nV:=qf hbr nb;have Ld:=bS.lt;have HS:Hid (∀ u,qa V u→(u.cell? ⟨wr.heap.size,1,none⟩=some (.int .i64 s.lsn)∧u.cell? ⟨w.heap.size,138,none⟩=some (.slice e.log.a e.log.recs.length e.log.c)∧u.cell? ⟨wr.heap.size,18,none⟩=some (.bool s.dirty)∧u.rangeAt wr.heap.size 1 s.page.cells∧u.cell? ⟨wr.heap.size,0,none⟩=some (.int .i64 (nn:Int))∧u.rangeAt w.heap.size (nn*17) p.cells)):=fun u hu=>by
            have bu:=bS.below hu bS.lt;have nu:=qf nV hu;obtain ⟨_,_,q2,_,_,_,_⟩:=qY se (HB.out u nu);have z0:=bu.cell 0 _ rfl;rw [hnn] at z0;exact ⟨bu.cell 1 _ rfl,q2 0 _ rfl,bu.cell 18 _ rfl,uX s bu,z0,HDG.out u nu⟩
           have hil:(i:Int)<(e.seats.length:Int):=by omega
           have hi0:(0:Int)≤(i:Int):=by omega
           have EV:Hid (ZV.setCells wr.heap.size 0 s.cells.toArray.toList=V):=hV.out;clear bZ yF zx XD Kr bS hV;go_upto_region 17 with (first | (guard_target=qp 80;refine qH 121 79 b (off+i*20) (s.cells) hcr underlying121 (xD _) ?_) | (guard_target=ja 6;refine jb 121 6 80 wr.heap.size 0 s.cells.toArray (by rw [QJ.out];exact HT.out) (jG (xD _)) (yh _) ?_) | fail);rw [QJ.out,EV.out];clear QJ EV HT hcr l0';have D0:qa V V.drew:=(qab _ _).drew;have N2:qa W V.drew:=qf nV D0;have qmf:(0:Int)≤(nn:Int):=by omega
           have qmg:(nn:Int)<8:=by omega
           obtain ⟨dr,hdr⟩:=qV s.dirty;rw [hdr.out] at HS;by_cases hx:s.lsn≤(e.log.recs.length:Int)
           ·have Wp:¬ (e.log.recs.length:Int)<s.lsn:=by omega
            cases dr with
            | true=>
             have HK:Hid (∀ j,j<i+1→wC e.v j=true):=fun j hj=>by
              by_cases q:j=i
              ·rw [q,Nf.out,qaC hx,hdr.out];rfl
              ·exact hall.out j (by omega)
             clear hx;refine wU HS D0 fun qc=>?_
             generalize V.drew=d0 at*
             iterate 24 refine jv ?_
             refine qau (by kernel_rfl) ?_ _;clear qc;go_wp2_with fail;go_roundw
             case rel=>exact ⟨i+1,by omega,by go_num,HK,N2⟩
             case measure=>simp [intOf];omega
            | false=>
             obtain ⟨sm,gy⟩:=qV (wD (s.lsn,s.ss.map (·.v)) (p.lsn,p.ss.map (·.v)));have FD:Hid (_=_):=gy.out;replace gy:Hid (wD (s.page.lsn,s.page.ss.map (·.v)) (p.lsn,p.ss.map (·.v))=sm):=gy.out;cases sm with
             | true=>
              have HK:Hid (∀ j,j<i+1→wC e.v j=true):=fun j hj=>by
               by_cases q:j=i
               ·rw [q,Nf.out,qaC hx,hdr.out,FD.out];rfl
               ·exact hall.out j (by omega)
              clear hx;refine wU HS D0 fun qc=>?_
              generalize V.drew=d0 at*
              iterate 14 refine jv ?_
              refine xB 14 (s.page.cells) (fun _ h=>h.2.2.2.1) underlying48 ((xe _ rfl)) ?_
              iterate 4 refine jv ?_
              refine xB 19 (p.cells) (fun _ h=>h.2.2.2.2.2) underlying48 ((xe _ Ng)) ?_;refine jc 20 (fun K hK=>?_);go_simp;refine (VB s.page p rfl Ng _ (wK.out _ N2).1 (wK.out _ N2).2 F1 F2).mono ?_;rintro r d1 ⟨rfl,hb1⟩;have D1:=qf D0 hb1;have N3:=qf nV D1;rw [gy.out];refine qX hK (HS.out _ D1) fun qc=>?_
              clear hK K hb1;try simp only [zz]
              iterate 3 refine jv ?_
              refine qau (by kernel_rfl) ?_ _;clear qc;go_wp2_with fail;go_roundw
              case rel=>exact ⟨i+1,by omega,by go_num,HK,N3⟩
              case measure=>simp [intOf];omega
             | false=>
              have gp:Hid (xR=false):=O5.out (by rw [Nf.out,qaC hx,hdr.out,FD.out];rfl);clear hx;refine wU HS D0 fun qc=>?_
              generalize V.drew=d0 at*
              iterate 14 refine jv ?_
              refine xB 14 (s.page.cells) (fun _ h=>h.2.2.2.1) underlying48 ((xe _ rfl)) ?_
              iterate 4 refine jv ?_
              refine xB 19 (p.cells) (fun _ h=>h.2.2.2.2.2) underlying48 ((xe _ Ng)) ?_;refine jc 20 (fun K hK=>?_);go_simp;refine (VB s.page p rfl Ng _ (wK.out _ N2).1 (wK.out _ N2).2 F1 F2).mono ?_;rintro r d1 ⟨rfl,hb1⟩;have D1:=qf D0 hb1;have N3:=qf nV D1;rw [gy.out];refine qX hK (HS.out _ D1) fun qc=>?_
              clear hK K hb1;try simp only [zz]
              iterate 3 refine jv ?_
              refine qau (by kernel_rfl) ?_ _;clear qc;have HE:Hid (xR=false∧qa w d1):=⟨gp.out,jr.out _ N3⟩;go_wp2;go_ret;exact ⟨qm HE.out.1.symm,HE.out.2⟩
           ·have Wp:(e.log.recs.length:Int)<s.lsn:=by omega
            have gp:Hid (xR=false):=O5.out (by rw [Nf.out,qa0 hx];rfl);clear hx;refine wU HS D0 fun qc=>?_
            generalize V.drew=d0 at*
            iterate 24 refine jv ?_
            exact gu
          ·have e1:i=e.seats.length:=by omega
           have HST:Hid (∀ j,j<e.seats.length→wC e.v j=true):=by rw [e1] at hall;exact hall
           have HE:Hid (xR=(!e.down || (decide (e.seats.length=0) && (decide (e.txs.length=0) && decide (e.holds.length=0))))∧qa w wr):=⟨zw.out ME.out XJ.out HNX.out trivial HXT.out HDT.out HST.out,jr.out _ hbr⟩;have hge:¬ (i:Int)<(e.seats.length:Int):=by omega
           obtain ⟨p0,p1,p2,p3,p4,p5,p6⟩:=qY se (HB.out wr hbr);clear p0 p2 p5;have l0:wr.cell? ⟨w.heap.size,136,none⟩=some (.slice e.aS e.seats.length e.cS):=p1 0 _ rfl;clear p1;clear hall e1;obtain ⟨dn,hdn⟩:=qV e.down;rw [hdn.out] at p6 HE;have ug:Hid (_=_):=HE.out.1;have YW:Hid (Below _ _ _):=HE.out.2;clear HE;cases dn with
           | false=> 
            by_cases h1:e.seats.length=0
            ·by_cases h2:e.txs.length=0
             ·by_cases h3:e.holds.length=0
              ·exact gq
              ·have k1:((e.seats.length:Int) == 0)=true:=by simp [h1]
               have k2:((e.txs.length:Int) == 0)=true:=by simp [h2]
               have k3:((e.holds.length:Int) == 0)=false:=qcM.2 (by omega);have HF:Hid (xR=true):=ug.out.trans (by rw [qaC h1,qaC h2,qa0 h3];rfl);clear ug h1 h2 h3;go_wp2;go_ret;exact ⟨qm (by rw [HF.out]),YW.out⟩
             ·by_cases h3:e.holds.length=0
              ·have k1:((e.seats.length:Int) == 0)=true:=by simp [h1]
               have k2:((e.txs.length:Int) == 0)=false:=qcM.2 (by omega);have k3:((e.holds.length:Int) == 0)=true:=by simp [h3]
               have HF:Hid (xR=true):=ug.out.trans (by rw [qaC h1,qa0 h2,qaC h3];rfl);clear ug h1 h2 h3;go_wp2;go_ret;exact ⟨qm (by rw [HF.out]),YW.out⟩
              ·have k1:((e.seats.length:Int) == 0)=true:=by simp [h1]
               have k2:((e.txs.length:Int) == 0)=false:=qcM.2 (by omega);have k3:((e.holds.length:Int) == 0)=false:=qcM.2 (by omega);have HF:Hid (xR=true):=ug.out.trans (by rw [qaC h1,qa0 h2,qa0 h3];rfl);clear ug h1 h2 h3;go_wp2;go_ret;exact ⟨qm (by rw [HF.out]),YW.out⟩
            ·by_cases h2:e.txs.length=0
             ·by_cases h3:e.holds.length=0
              ·have k1:((e.seats.length:Int) == 0)=false:=qcM.2 (by omega);have k2:((e.txs.length:Int) == 0)=true:=by simp [h2]
               have k3:((e.holds.length:Int) == 0)=true:=by simp [h3]
               have HF:Hid (xR=true):=ug.out.trans (by rw [qa0 h1,qaC h2,qaC h3];rfl);clear ug h1 h2 h3;go_wp2;go_ret;exact ⟨qm (by rw [HF.out]),YW.out⟩
              ·have k1:((e.seats.length:Int) == 0)=false:=qcM.2 (by omega);have k2:((e.txs.length:Int) == 0)=true:=by simp [h2]
               have k3:((e.holds.length:Int) == 0)=false:=qcM.2 (by omega);have HF:Hid (xR=true):=ug.out.trans (by rw [qa0 h1,qaC h2,qa0 h3];rfl);clear ug h1 h2 h3;go_wp2;go_ret;exact ⟨qm (by rw [HF.out]),YW.out⟩
             ·by_cases h3:e.holds.length=0
              ·have k1:((e.seats.length:Int) == 0)=false:=qcM.2 (by omega);have k2:((e.txs.length:Int) == 0)=false:=qcM.2 (by omega);have k3:((e.holds.length:Int) == 0)=true:=by simp [h3]
               have HF:Hid (xR=true):=ug.out.trans (by rw [qa0 h1,qa0 h2,qaC h3];rfl);clear ug h1 h2 h3;go_wp2;go_ret;exact ⟨qm (by rw [HF.out]),YW.out⟩
              ·have k1:((e.seats.length:Int) == 0)=false:=qcM.2 (by omega);have k2:((e.txs.length:Int) == 0)=false:=qcM.2 (by omega);have k3:((e.holds.length:Int) == 0)=false:=qcM.2 (by omega);have HF:Hid (xR=true):=ug.out.trans (by rw [qa0 h1,qa0 h2,qa0 h3];rfl);clear ug h1 h2 h3;go_wp2;go_ret;exact ⟨qm (by rw [HF.out]),YW.out⟩
           | true=> 
            by_cases h1:e.seats.length=0
            ·by_cases h2:e.txs.length=0
             ·by_cases h3:e.holds.length=0
              ·exact gq
              ·have k1:((e.seats.length:Int) == 0)=true:=by simp [h1]
               have k2:((e.txs.length:Int) == 0)=true:=by simp [h2]
               have k3:((e.holds.length:Int) == 0)=false:=qcM.2 (by omega);have HF:Hid (xR=false):=ug.out.trans (by rw [qaC h1,qaC h2,qa0 h3];rfl);clear ug h1 h2 h3;go_wp2;go_ret;exact ⟨qm (by rw [HF.out]),YW.out⟩
             ·by_cases h3:e.holds.length=0
              ·have k1:((e.seats.length:Int) == 0)=true:=by simp [h1]
               have k2:((e.txs.length:Int) == 0)=false:=qcM.2 (by omega);have k3:((e.holds.length:Int) == 0)=true:=by simp [h3]
               have HF:Hid (xR=false):=ug.out.trans (by rw [qaC h1,qa0 h2,qaC h3];rfl);clear ug h1 h2 h3;go_wp2;go_ret;exact ⟨qm (by rw [HF.out]),YW.out⟩
              ·have k1:((e.seats.length:Int) == 0)=true:=by simp [h1]
               have k2:((e.txs.length:Int) == 0)=false:=qcM.2 (by omega);have k3:((e.holds.length:Int) == 0)=false:=qcM.2 (by omega);have HF:Hid (xR=false):=ug.out.trans (by rw [qaC h1,qa0 h2,qa0 h3];rfl);clear ug h1 h2 h3;go_wp2;go_ret;exact ⟨qm (by rw [HF.out]),YW.out⟩
            ·by_cases h2:e.txs.length=0
             ·by_cases h3:e.holds.length=0
              ·have k1:((e.seats.length:Int) == 0)=false:=qcM.2 (by omega);have k2:((e.txs.length:Int) == 0)=true:=by simp [h2]
               have k3:((e.holds.length:Int) == 0)=true:=by simp [h3]
               have HF:Hid (xR=false):=ug.out.trans (by rw [qa0 h1,qaC h2,qaC h3];rfl);clear ug h1 h2 h3;go_wp2;go_ret;exact ⟨qm (by rw [HF.out]),YW.out⟩
              ·have k1:((e.seats.length:Int) == 0)=false:=qcM.2 (by omega);have k2:((e.txs.length:Int) == 0)=true:=by simp [h2]
               have k3:((e.holds.length:Int) == 0)=false:=qcM.2 (by omega);have HF:Hid (xR=false):=ug.out.trans (by rw [qa0 h1,qaC h2,qa0 h3];rfl);clear ug h1 h2 h3;go_wp2;go_ret;exact ⟨qm (by rw [HF.out]),YW.out⟩
             ·by_cases h3:e.holds.length=0
              ·have k1:((e.seats.length:Int) == 0)=false:=qcM.2 (by omega);have k2:((e.txs.length:Int) == 0)=false:=qcM.2 (by omega);have k3:((e.holds.length:Int) == 0)=true:=by simp [h3]
               have HF:Hid (xR=false):=ug.out.trans (by rw [qa0 h1,qa0 h2,qaC h3];rfl);clear ug h1 h2 h3;go_wp2;go_ret;exact ⟨qm (by rw [HF.out]),YW.out⟩
              ·have k1:((e.seats.length:Int) == 0)=false:=qcM.2 (by omega);have k2:((e.txs.length:Int) == 0)=false:=qcM.2 (by omega);have k3:((e.holds.length:Int) == 0)=false:=qcM.2 (by omega);have HF:Hid (xR=false):=ug.out.trans (by rw [qa0 h1,qa0 h2,qa0 h3];rfl);clear ug h1 h2 h3;go_wp2;go_ret;exact ⟨qm (by rw [HF.out]),YW.out⟩
end Go.Proofs.YtnfdccldabbobaaGreatDoor
