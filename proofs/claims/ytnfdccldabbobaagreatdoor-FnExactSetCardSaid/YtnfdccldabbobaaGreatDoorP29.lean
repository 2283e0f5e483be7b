/- Texts. -/
import Derived.Test.YtnfdccldabbobaaGreatDoorP25
import Derived.Test.YtnfdccldabbobaaGreatDoorP26
set_option maxHeartbeats 8000000
set_option maxRecDepth 100000
namespace Go.Proofs.YtnfdccldabbobaaGreatDoor
open Go.RowKit Go.Proofs.Tryz
structure qb.QU (e:qb):Prop where
 txs:e.aT=none→e.cT=0
 holds:e.aH=none→e.cH=0
 recs:∀ r∈e.log.recs,r.aL=none→r.cL=0
theorem Vy (e:qb) (se:e.shape) (w:World) (re:e.reads w) (hl:e.short 1048576) (hc:e.QU):
  Calls prog 37 #[.agg e.cells.toArray] w fun r w'=>∃ t:qb,r=.returned (.agg t.cells.toArray)∧t.shape∧Hid (t.v=e.v)∧t.own w' w.heap.size w'.heap.size∧qa w w':=by
 obtain ⟨Z,hZ⟩:=qV zeroE;have sZ:Z.shape:=by rw [← hZ.out];exact zT
 have HZ:=Tryz.Xh;rw [hZ.out] at HZ;obtain ⟨W,hW,b1,b2,hbW,qD⟩:=jK w e.cells Z.cells 59 59;have hs0:w.heap.size+1<W.heap.size:=by omega
 have HE:Hid (∀ u,qa w u→e.reads u):=fun u hu=>re.below hu
 have Fz:=Vz e.disk se.wy;have OZ:Hid (_):=Fz;clear Fz;have pQ:Hid (∀ p∈e.disk,Fit p.ss):=fun p hp s hs=>by have:=hl.disk p hp s hs;omega
 have hid:=um se.wy;have DZ:Hid (e.disk.length=8):=se.eight;have p0:=(qY se b1).1;go_enter func37,ntmps37;go_wp2_with (first | (guard_target=wpList _ _ _ (Oper.mk _ (Op.alloc _) _ _ _ _::_) _ _;refine Qf 59 Z.cells HZ ?_) | (guard_target=qp 6;refine qH 49 5 w.heap.size 0 (qx e.disk) (by rw [hW.out];exact p0) underlying49 hid ?_) | fail);rw [hW.out];clear hW p0 hid qD;have b1':Box W w.heap.size (qx ([]++e.disk.drop 0)++e.tail) 59:=b1;clear b1;go_loopw [7] (fun i wr=>∃ (k:Nat) (ts:List qA),k≤8∧i=.int .i64 (k:Int)∧Hid (ts.length=k∧(∀ p∈ts,p.ss.length=4)∧ts.map yO=(e.disk.take k).map yO)∧qP wr W.heap.size wr.heap.size (qZ ts)∧Box wr w.heap.size (qx (ts++e.disk.drop k)++e.tail) 59∧Box wr (w.heap.size+1) Z.cells 59∧qa w wr∧W.heap.size≤wr.heap.size) (fun i _=>8-(intOf i).toNat)
 case atStart=>exact ⟨0,[],qaw _,rfl,⟨rfl,fun p hp=>by (simp at hp),rfl⟩,qP.nil _ _ _,b1',b2,hbW,qcN _⟩
 case round=>
  obtain ⟨k,ts,hk,rfl,hts,hown,c1,c2,hnx,QF⟩:=hrel;clear b1' b2;by_cases hlt:k<8
  ·have hkl:k<e.disk.length:=by rw [DZ.out];exact hlt
   have uz:=se.wy.at hlt;have F1:=pQ.out _ (xz (k:=k) hkl);have R1:=(HE.out _ hnx).disk _ (xz (k:=k) hkl);have JC:Hid ((e.disk.take (k+1)).map yO=(e.disk.take k).map yO++[yO (e.disk.getD k jh)]):=by rw [Hid,qdb hkl,vz hkl,qdd];rfl
   have HDR:e.disk.drop k=e.disk.getD k jh::e.disk.drop (k+1):=by rw [← vz hkl];exact qcX hkl
   have hix:=OZ.out k hlt;rw [HDR] at c1;clear HDR;generalize e.disk.getD k jh=p at*
   have KX:=xe p uz;have TL:=qaf (uM p);obtain ⟨ZV,QJ,bZ,yF,zx⟩:=qB wr [.int .i64 0,.bool false,.int .i64 0,.slice none 0 0,.slice none 0 0,.bool false,.int .i64 0,.slice none 0 0,.slice none 0 0,.bool false,.int .i64 0,.slice none 0 0,.slice none 0 0,.bool false,.int .i64 0,.slice none 0 0,.slice none 0 0] 48;obtain ⟨V,hV,XD,Kr,HT,_,bS⟩:=page_out (C:=wr.heap.size) (T:=48) p uz _ rfl bZ underlying48 rfl (by kernel_rfl);have nb:qa wr V:=yF.trans (XD.below qg (by omega));have rS:V.rangeAt wr.heap.size 0 p.cells:=qN bS;have EV:Hid (ZV.setCells wr.heap.size 0 p.cells.toArray.toList=V):=hV.out;have C1:=zU p uz V (R1.below nb) F1;have Ld:=bS.lt;have sV:=nb.size;have hi0:(0:Int)≤(k:Int):=by omega
   have bg:(k:Int)<8:=by omega
   clear bZ yF zx XD Kr hV bS R1;go_wp2_with (first | (guard_target=ja 4;refine jb 48 4 10 wr.heap.size 0 p.cells.toArray (by rw [QJ.out];exact HT.out) (jG KX) TL ?_) | (guard_target=qp 12;refine qH 48 4 wr.heap.size 0 (p.cells) (by rw [QJ.out,EV.out];exact rS) underlying48 KX ?_) | fail);rw [QJ.out,EV.out];clear QJ EV HT rS hix;refine C1.mono ?_;clear C1;rintro r w1 ⟨us,rfl,hv,ho1,hb1⟩;have bq:us.length=4:=by have:=qcz List.length hv.out;simp only [qa4] at this;omega
   have s1:=hb1.size;obtain ⟨q,hq⟩:∃ q:qA,Hid ((⟨p.lsn,us⟩:qA)=q):=⟨_,rfl⟩;have hq4:q.ss.length=4:=by rw [← hq.out];exact bq
   have oq:qP w1 V.heap.size w1.heap.size q.ss:=by rw [← hq.out];exact ho1
   have KV:Hid (yO q=yO p):=by rw [Hid,← hq.out];simp only [yO];rw [hv.out]
   rw [hq.out];clear hq hv ho1 bq;have O0:=qf nb hb1;replace c1:=c1.below O0 c1.lt;replace c2:=c2.below O0 c2.lt;have hown1:=hown.below O0;replace hnx:=qf hnx O0;rw [Qb,uF,qcJ,qcJ] at c1;obtain ⟨W2,hW2,d3,hw2,hs2⟩:=jE (qx ts) p.cells q.cells (qx (e.disk.drop (k+1))++e.tail) c1 (by rw [jJ q hq4,jJ p uz]);have hl3:(qx ts).length=k*17:=by rw [kS _ hts.out.2.1,hts.out.1]
   rw [hl3] at hW2;have Y8:Hid (w1.there w.heap.size (k*17) q.cells.toArray.size):=c1.there _ _ (by rw [qcY,jJ q hq4,qai,qai,hl3,jJ p uz];omega);have s2:=hw2.size;have O1:Box W2 w.heap.size (qx ((ts++[q])++e.disk.drop (k+1))++e.tail) 59:=by
    rw [qcJ,Qb,qdr,uF,qcJ,qcJ];exact d3
   have c2':=c2.within hw2 (by omega);have HOW:Hid (qP W2 W.heap.size W2.heap.size (qZ (ts++[q]))):=by
    rw [Hid,KM,JP];have o:=((hown1.widen qg sV (by omega)).AL oq (by omega) (by omega) qg)
    simpa [qZ] using (o.within hw2 (.inr (by omega))).widen qg s2 qg
   have Jb:Hid ((ts++[q]).length=k+1∧(∀ p∈ts++[q],p.ss.length=4)∧(ts++[q]).map yO=(e.disk.take (k+1)).map yO):=by
    refine ⟨by rw [qai,hts.out.1];rfl,fun x hx=>?_,?_⟩
    ·rcases qaa.1 hx with h | h
     ·exact hts.out.2.1 x h
     ·rw [qac.1 h];exact hq4
    ·rw [JC.out,qdd,hts.out.2.2,← KV.out];rfl
   have HN:Hid (qa w W2∧W.heap.size≤W2.heap.size):=⟨hnx.trans (hw2.below qg (by omega)),by omega⟩;have Ko:Hid ((prog.info? 48).map (·.size)=some q.cells.toArray.size):=xe q hq4;have U4:=qaf (uM q);have HW2:Hid (w1.setCells w.heap.size (k*17) q.cells.toArray.toList=W2):=hW2.out;clear c1 c2 d3 hown hown1 oq hw2 hs2 hW2 hnx hts JC KV hl3 hb1 nb O0;go_wp2_with (first | (guard_target=ja 15;refine jb 48 15 13 w.heap.size (k*17) (q.cells).toArray Y8.out Ko.out U4 ?_) | fail);rw [HW2.out];go_roundw
   case rel=>exact ⟨k+1,ts++[q],by omega,by go_num,Jb,HOW.out,O1,c2',HN.out.1,HN.out.2⟩
   case measure=>simp [intOf];omega
  ·obtain rfl:k=8:=by omega
   have hkk:¬ ((8:Nat):Int)<8:=by omega
   have JD:vT ts:=⟨hts.out.1,hts.out.2.1⟩;have hvd:Hid (ts.map yO=e.disk.map yO):=by rw [Hid,hts.out.2.2,← DZ.out,qfE]
   have b1:Box wr w.heap.size (qx ts++[.slice e.aS e.seats.length e.cS,.int .i64 e.hand,.slice e.log.a e.log.recs.length e.log.c,.int .i64 e.log.sure,.slice e.aT e.txs.length e.cT,.slice e.aH e.holds.length e.cH,.int .i64 e.next,.bool e.down]) 59:=by
    have e0:e.disk.drop 8=[]:=qe5 (by rw [DZ.out];exact qcN _);rw [e0,qcZ] at c1;exact c1
   have HA:Hid ((qx ts).length=136):=by rw [Hid,kS _ JD.four,JD.eight]
   have b2:=c2;have N:=hnx;have od:=hown;clear c1 c2 hnx hown hts;have p1:wr.rangeAt w.heap.size 136 e.qQ.cells:=by
    have:=Box.range (qx ts) e.qQ.cells [.slice e.log.a e.log.recs.length e.log.c,.int .i64 e.log.sure,.slice e.aT e.txs.length e.cT,.slice e.aH e.holds.length e.cH,.int .i64 e.next,.bool e.down] b1
    rwa [HA.out] at this
   have C:=Ql e.qQ wr (HE.out _ N).pool hl.pool;go_wp2_with (first | (guard_target=qp 18;refine qH 52 17 w.heap.size 136 (e.qQ.cells) p1 underlying52 (xP _) ?_) | fail);refine C.mono ?_;clear C p1;rintro r w3 ⟨q,rfl,hvp,op,hb⟩;have s3:=hb.size;replace b1:=b1.below hb b1.lt;replace b2:=b2.below hb b2.lt;replace N:=qf N hb;replace od:=od.below hb;clear hb;obtain ⟨w4,h4,c3,hw,hs⟩:=jE (qx ts) e.qQ.cells q.cells [.slice e.log.a e.log.recs.length e.log.c,.int .i64 e.log.sure,.slice e.aT e.txs.length e.cT,.slice e.aH e.holds.length e.cH,.int .i64 e.next,.bool e.down] b1 rfl;rw [HA.out] at h4;have HT:Hid (w3.there w.heap.size 136 q.cells.toArray.size):=b1.there _ _ (by rw [qai,HA.out];show 136+2≤_;simp);have sy4:=hw.size;replace b2:=b2.within hw (by omega);replace N:=N.trans (hw.below qg (by have:=N.size;omega));replace od:=od.within hw (.inr (by omega));replace op:=op.within hw (.inr (by omega));clear hw hs b1;have E4:Hid (w3.setCells w.heap.size 136 q.cells.toArray.toList=w4):=h4.out;have b1:Box w4 w.heap.size ((qx ts++q.cells)++[.slice e.log.a e.log.recs.length e.log.c,.int .i64 e.log.sure,.slice e.aT e.txs.length e.cT,.slice e.aH e.holds.length e.cH,.int .i64 e.next,.bool e.down]) 59:=by rw [qcJ];exact c3
   clear c3 h4;have HA2:Hid ((qx ts++q.cells).length=138):=by rw [Hid,qai,HA.out];rfl
   have p2:w4.rangeAt w.heap.size 138 e.log.cells:=by
    have:=Box.range (qx ts++q.cells) e.log.cells [.slice e.aT e.txs.length e.cT,.slice e.aH e.holds.length e.cH,.int .i64 e.next,.bool e.down] b1
    rwa [HA2.out] at this
   have C:=Sc e.log w4 (HE.out _ N).log hl.log hc.recs;go_wp2_with (first | (guard_target=ja 20;refine jb 52 20 19 w.heap.size 136 (q.cells).toArray HT.out (xP _) (qaf (aJ q)) ?_) | (guard_target=qp 22;refine qH 55 21 w.heap.size 138 (e.log.cells) (by rw [E4.out];exact p2) underlying55 (yT _) ?_) | fail);rw [E4.out];refine C.mono ?_;clear C p2 E4 HT;rintro r w5 ⟨l,rfl,hvl,ol,hb⟩;have s5:=hb.size;replace b1:=b1.below hb b1.lt;replace b2:=b2.below hb b2.lt;replace N:=qf N hb;replace od:=od.below hb;replace op:=op.below hb;clear hb;obtain ⟨w6,h6,c3,hw,hs⟩:=jE (qx ts++q.cells) e.log.cells l.cells [.slice e.aT e.txs.length e.cT,.slice e.aH e.holds.length e.cH,.int .i64 e.next,.bool e.down] b1 rfl;rw [HA2.out] at h6;have HT:Hid (w5.there w.heap.size 138 l.cells.toArray.size):=b1.there _ _ (by rw [qai,HA2.out];show 138+2≤_;simp);have sy6:=hw.size;replace b2:=b2.within hw (by omega);replace N:=N.trans (hw.below qg (by have:=N.size;omega));replace od:=od.within hw (.inr (by omega));replace op:=op.within hw (.inr (by omega));replace ol:=ol.within hw (.inr (by omega));clear hw hs b1;have E6:Hid (w5.setCells w.heap.size 138 l.cells.toArray.toList=w6):=h6.out;have b1:Box w6 w.heap.size (qx ts++[.slice q.a q.seats.length q.c,.int .i64 q.hand,.slice l.a l.recs.length l.c,.int .i64 l.sure,.slice e.aT e.txs.length e.cT,.slice e.aH e.holds.length e.cH,.int .i64 e.next,.bool e.down]) 59:=by rw [qcJ] at c3;exact c3
   clear c3 h6;go_upto_region 8 with (first | (guard_target=ja 24;refine jb 55 24 23 w.heap.size 138 (l.cells).toArray HT.out (yT _) (qaf (LH l)) ?_) | fail);rw [E6.out];clear E6 HT;have HX:Hid (∀ u,qa w6 u→u.cell? ⟨w.heap.size,140,none⟩=some (.slice e.aT e.txs.length e.cT)∧u.frozen? ⟨w.heap.size,140,none⟩=false):=fun u hu=>by
    have bu:=b1.below hu b1.lt;exact ⟨bu.cell 140 (.slice e.aT e.txs.length e.cT) (by rw [qcQ (by rw [HA.out];omega),HA.out];rfl),bu.frozen 140⟩
   obtain ⟨x0,f0⟩:=HX.out _ (qab _ _);have Yc:=(HE.out _ N).txs;have XX:([]:List qM).length+e.txs.length≤1099511627776:=by have:=hl.txs;simp only [qdo];omega
   go_upto_region 9 with (first | (guard_target=qp 27;refine YJ rfl (.const (.slice none 0 0)) (.tmp 26) rfl w6.heap.size w6.heap.size none 0 [] rfl (K7 _ _ _ qg) e.aT e.cT e.txs rfl Yc hc.txs XX qg ?_;intro a7 c7 y7 w7 hy7 ot g7;have QH:qa w6 w7:=(qab _ _).grown g7 qg (fun j hj=>by cases hj);obtain ⟨x7,f7⟩:=HX.out _ QH) | fail);have UJ:y7=e.txs:=hy7.out;subst UJ;have s7:=QH.size;replace b1:=b1.below QH b1.lt;replace b2:=b2.below QH b2.lt;replace N:=qf N QH;replace od:=od.below QH;replace op:=op.below QH;replace ol:=ol.below QH;clear x0 f0 x7 f7 Yc XX g7 hy7 QH HX;obtain ⟨w8,hw8,c3,hw,hs⟩:=Jm b1 HA.out 4 (.slice a7 e.txs.length c7);rw [show w.heap.size=w.heap.size from rfl,hw8.out];have qpX:=hw.size;replace b2:=b2.within hw (by omega);replace N:=N.trans (hw.below qg (by have:=N.size;omega));replace od:=od.within hw (.inr (by omega));replace op:=op.within hw (.inr (by omega));replace ol:=ol.within hw (.inr (by omega));replace ot:=ot.within hw (.inr (by omega));clear hw hs hw8 b1;have b1:Box w8 w.heap.size (qx ts++[.slice q.a q.seats.length q.c,.int .i64 q.hand,.slice l.a l.recs.length l.c,.int .i64 l.sure,.slice a7 e.txs.length c7,.slice e.aH e.holds.length e.cH,.int .i64 e.next,.bool e.down]) 59:=c3;clear c3;have HX:Hid (∀ u,qa w8 u→u.cell? ⟨w.heap.size,141,none⟩=some (.slice e.aH e.holds.length e.cH)∧u.frozen? ⟨w.heap.size,141,none⟩=false):=fun u hu=>by
    have bu:=b1.below hu b1.lt;exact ⟨bu.cell 141 (.slice e.aH e.holds.length e.cH) (by rw [qcQ (by rw [HA.out];omega),HA.out];rfl),bu.frozen 141⟩
   obtain ⟨x0,f0⟩:=HX.out _ (qab _ _);have Yc:=(HE.out _ N).holds;have XX:([]:List qU).length+e.holds.length≤1099511627776:=by have:=hl.holds;simp only [qdo];omega
   go_upto_region 10 with (first | (guard_target=qp 31;refine UM rfl (.const (.slice none 0 0)) (.tmp 30) rfl w8.heap.size w8.heap.size none 0 [] rfl (dK _ _ _ qg) e.aH e.cH e.holds rfl Yc hc.holds XX qg ?_;intro a9 c9 y9 w9 hy9 oh g9;have Qx:qa w8 w9:=(qab _ _).grown g9 qg (fun j hj=>by cases hj);obtain ⟨x9,f9⟩:=HX.out _ Qx) | fail);have UJ:y9=e.holds:=hy9.out;subst UJ;have s9:=Qx.size;replace b1:=b1.below Qx b1.lt;replace b2:=b2.below Qx b2.lt;replace N:=qf N Qx;replace od:=od.below Qx;replace op:=op.below Qx;replace ol:=ol.below Qx;replace ot:=ot.below Qx;clear x0 f0 x9 f9 Yc XX g9 hy9 Qx HX;obtain ⟨Jl,YD,c3,hw,hs⟩:=Jm b1 HA.out 5 (.slice a9 e.holds.length c9);rw [show w.heap.size=w.heap.size from rfl,YD.out];have qoF:=hw.size;replace b2:=b2.within hw (by omega);replace N:=N.trans (hw.below qg (by have:=N.size;omega));replace od:=od.within hw (.inr (by omega));replace op:=op.within hw (.inr (by omega));replace ol:=ol.within hw (.inr (by omega));replace ot:=ot.within hw (.inr (by omega));replace oh:=oh.within hw (.inr (by omega));clear hw hs YD b1;have b1:Box Jl w.heap.size (qx ts++[.slice q.a q.seats.length q.c,.int .i64 q.hand,.slice l.a l.recs.length l.c,.int .i64 l.sure,.slice a7 e.txs.length c7,.slice a9 e.holds.length c9,.int .i64 e.next,.bool e.down]) 59:=c3;clear c3;obtain ⟨T,hT⟩:∃ T:qb,Hid ((⟨ts,q.seats,q.a,q.c,q.hand,l,e.txs,a7,c7,e.holds,a9,c9,e.next,e.down⟩:qb)=T):=⟨_,rfl⟩;have sT:T.shape:=by rw [← hT.out];exact ⟨JD.eight,JD.four⟩
   have bT:Box Jl w.heap.size T.cells 59:=by rw [← hT.out];exact b1
   have HV:Hid (T.v=e.v):=by
    rw [Hid,← hT.out];have v1:=hvd.out;have v2:=hvp.out;have v3:=hvl.out;simp only [qo.v,qb.qQ,jM.mk.injEq] at v2;simp only [qb.v,v2.1,v2.2,v3];congr 1
   have oT:T.own Jl W.heap.size Jl.heap.size:=by
    rw [← hT.out];exact Nc (a0:=W.heap.size) (a1:=wr.heap.size) (a2:=w3.heap.size) (a3:=w5.heap.size) (a4:=w7.heap.size) (a5:=Jl.heap.size) od op (je.widen ol (by omega) qg (by omega)) (ot.widen (by omega) qg (by omega)) (oh.widen (by omega) (by omega) qg) (by omega) (by omega) (by omega) (by omega) (by omega) qg
   clear od op ol ot oh b1 hT hvd hvp hvl;obtain ⟨WF,qK,hwF,q8,jI,bF⟩:=zq sT sZ b2;have FB:Hid (_=_):=Xf sT bF;have rT:Jl.rangeAt w.heap.size 0 T.cells:=qN bT;have jr:Hid (T.own WF w.heap.size WF.heap.size∧qa w WF):=⟨(oT.within hwF (.inr (by omega))).widen (by omega) (by omega) qg,N.trans (hwF.below (by omega) (by have:=N.size;omega))⟩;have HI:=j6 sT;have HO:=qaf (QD T);clear hwF q8 bF oT bT b2;go_wp2_with (first | (guard_target=qp 33;refine qH 59 1 w.heap.size 0 (T.cells) rT underlying59 HI ?_) | (guard_target=ja 2;refine jb 59 2 33 (w.heap.size+1) 0 (T.cells).toArray jI.out (jG HI) HO ?_) | fail);rw [qK.out];exact qa3 (v:=.agg T.cells.toArray) (jQ results37 rfl FB.out) rfl ⟨T,rfl,sT,HV,jr.out.1,jr.out.2⟩
theorem O3 {P:Program} {w w':World} {m:Sem Value} {v:Value} (h:m.run P w=.ok v w'):(do let r ← m;pure (Next.value r):Sem Next).run P w=.ok (.value v) w':=by simp only [qdq,h,qdf,qeJ]
theorem qef (e:qb) (se:e.shape) (w:World) (re:e.reads w) (hl:e.short 1048576) (hc:e.QU):
  Calls prog 38 #[.agg e.cells.toArray] w fun r w'=>∃ (t:qb) (M R:Nat),r=.returned (.pointer (some ⟨R,0,none⟩))∧t.shape∧Hid (t.v=e.v)∧t.own w' w.heap.size M∧M<R∧R<w'.heap.size∧w.heap.size≤M∧
   MapAt w' M (jf e.holds e.holds.length)∧Box w' R (zi t.cells M (e.holds.length:Int)) 137∧qa w w':=by
 have CE:=fun u (hr:e.reads u)=>Vy e se u hr hl hc
 have hlh:=hl.holds;have HI:=j6 se;obtain ⟨W,hW,b0,hbW,qD⟩:=qB w e.cells 59;have HB:Hid (∀ u,qa W u→Box u w.heap.size e.cells 59):=fun u hu=>b0.below hu b0.lt
 have HR:Hid (∀ u,qa W u→e.reads u):=fun u hu=>(re.below hbW).below hu
 have jr:Hid (∀ u,qa W u→qa w u):=fun u hu=>qf hbW hu
 have hw0:w.heap.size<W.heap.size:=by omega
 have N:qa W W:=qab _ _;clear b0 qD;have YB:Hid (∀ u,qa W u→Calls prog 83 #[.slice e.aH e.holds.length e.cH] u fun r w'=>r=.returned (.map (some u.heap.size))∧MapAt w' u.heap.size (jf e.holds e.holds.length)∧qa u w'):=fun u hu=>UY e.aH e.cH e.holds u (HR.out _ hu).holds (by omega)
 have HS:Hid (∀ u,qa W u→(u.rangeAt w.heap.size 0 e.cells∧u.cell? ⟨w.heap.size,141,none⟩=some (.slice e.aH e.holds.length e.cH))):=fun u hu=>⟨qN (HB.out u hu),(qY se (HB.out u hu)).2.2.2.2.1⟩
 clear re hl;go_enter func38,ntmps38;go_upto_region 1 with fail;rw [hW.out];clear hW;have D0:qa W W.drew:=N.drew;have C1:=CE W.drew (HR.out _ D0);refine wU HS D0 fun qc=>?_
 generalize W.drew=d0 at*
 refine xB 0 (e.cells) (fun _ h=>h.1) underlying59 HI ?_;refine jg 2 ?_;refine jg 3 ?_;refine jg 5 ?_;refine jg 6 ?_;refine jg 7 ?_;refine jc 1 (fun K hK=>?_);go_simp;refine C1.mono ?_;clear C1;rintro r d1 ⟨t,rfl,st,hv,ot,hb1⟩;have D1:=qf D0 hb1;have z1:=hb1.size;have zd:=D0.size;refine qX hK (HS.out _ D1) fun qc=>?_
 clear hK K hb1;try simp only [zz]
 refine jc 4 (fun K hK=>?_);go_simp;refine (YB.out _ D1).mono ?_;rintro r d2 ⟨rfl,hm2,hb2⟩;have D2:=qf D1 hb2;have z2:=hb2.size;have hmL:=hm2.lt;replace ot:=ot.below hb2;refine qX hK (HS.out _ D2) fun qc=>?_
 clear hK K hb2;try simp only [zz]
 refine tk 8 (v:=.agg (zi t.cells d1.heap.size (e.holds.length:Int)).toArray) rfl (Or.inl ⟨by rfl,?_⟩) qc ?_
 ·intro w' hSw;have e8:=AO w' t st d1.heap.size (e.holds.length:Int);refine O3 ?_;simp only [qe8,qdG,qfe];exact e8
 try simp only [zz]
 obtain ⟨d3,hd3,bR,hb3,hs3⟩:=qB d2 (zi t.cells d1.heap.size (e.holds.length:Int)) 137;have D3:=qf D2 hb3;have J8:=bR.lt;have z3:=hb3.size;replace hm2:=hm2.below hb3;replace ot:=ot.below hb3;refine jc 9 (fun K hK=>?_);go_simp;rw [hd3.out];refine qX hK (HS.out _ D3) fun qc=>?_
 clear hK K hb3 hd3 hs3;try simp only [zz]
 refine jg 10 ?_;refine qau (by kernel_rfl) ?_ _;clear qc;have HE:Hid (_∧_∧_∧_∧_∧_∧_∧_∧_):=⟨st,hv,ot.widen (show w.heap.size≤d0.heap.size by omega) qg (by omega),hmL,J8,(show w.heap.size≤d1.heap.size by omega),hm2,bR,jr.out _ D3⟩;go_wp2;go_ret;exact ⟨t,d1.heap.size,d2.heap.size,rfl,HE.out⟩
theorem qb8 {P:Prop} (h:P:=by
 rcases o3.row.2 with ⟨_,h0⟩ | ⟨g,cap',cur,hv,_⟩
 ·omega
 ·simp only [qcK] at hv;exact ⟨g,hv.1⟩):P:=h
theorem qb9 {P:Prop} (h:P:=by
 have e:=qcz (fun v=>v.seats.length) HV.out;simp only [qo.v,qa4] at e hk;omega):P:=h
theorem FC (p:qo) (n:Int) (w:World) (hr:p.reads w) (hl:p.short 1048576):
  Calls prog 162 #[.agg p.cells.toArray,.int .i64 n] w fun e w'=>∃ t:qo,e=.returned (.agg t.cells.toArray)∧Hid (t.v=yP p.v n)∧t.own w' w.heap.size w'.heap.size∧qa w w':=by
 obtain ⟨W,hW,b0,b1,hbW,qD⟩:=jK w [.slice p.a p.seats.length p.c,.int .i64 p.hand] [.slice none 0 0,.int .i64 0] 52 52;have hs0:w.heap.size+1<W.heap.size:=by omega
 have p0:=b0.cell 0 _ rfl;have p1:=b0.cell 1 _ rfl;have C:=Ql p W (qo.reads.below hr hbW) hl;simp only [qo.cells] at*
 clear qD;go_enter func162,ntmps162;go_upto_region 1 with fail;rw [hW.out];clear hW;go_wp2_with fail;refine C.mono ?_;clear C p0 p1;rintro e w1 ⟨t,rfl,hv,ho,hb1⟩;have hs1:=hb1.size;have b01:=b0.below hb1 b0.lt;have b11:=b1.below hb1 b1.lt;obtain ⟨W2,hW2,b2,hb2,hs2⟩:=qB w1 [.slice t.a t.seats.length t.c,.int .i64 t.hand] 52;have b02:=b01.below hb2 b01.lt;have b12:=b11.below hb2 b11.lt;have o2:=ho.below hb2;have n2:qa w W2:=(hbW.trans (hb1.mono (by omega))).trans (hb2.mono (by omega));have BP:=b2.lt;clear b0 b1 b01 b11 ho hb1 hb2 hs2 hbW;go_upto_region 2 with fail;rw [hW2.out];clear hW2;have p0:=b02.cell 0 _ rfl;have p1:=b02.cell 1 _ rfl;have C:=uC p n W2 (qo.reads.below hr n2) (qo.jB hl);simp only [qo.cells] at C;have HV:Hid (t.v=p.v):=hv.out;have HUS:Hid (∀ q:qo,q.v=p.v→yP q.v n=yP p.v n):=fun q h=>by rw [h]
 clear hv;go_wp2_with fail;refine C.mono ?_;clear C p0 p1;rintro e w3 ⟨rfl,hb3⟩;have hs3:=hb3.size;have b13:=b12.below hb3 b12.lt;have vS:=b2.below hb3 b2.lt;have o3:=o2.below hb3;have n3:=qf n2 hb3;clear b02 b12 b2 o2 n2 hb3;rcases Qp p.v.seats n with ⟨k,hk,_,_,hsk⟩ | ⟨_,hsk⟩
 ·have aO:Hid (yP p.v n=yj p.v k JX):=by
   rw [Hid,yP,qan (by rw [hsk];omega),hsk];rfl
  have hkt:k<t.seats.length:=by
   exact qb9
  rw [hsk];clear hsk hk HUS;obtain ⟨ts,hand,a,c⟩:=t;simp only [qo.own] at*
  obtain ⟨g,rfl⟩:∃ g,a=some ⟨g,0,none⟩:=by
   exact qb8
  have hgl:=(o3.qC g (by simp [qF,Value.ownBlock]));have hkl:(ts.take k).length=k:=by rw [qdm];omega
  have aM:=o3;rw [zu ts k hkt] at aM;obtain ⟨o4,t4⟩:=aM.Ke (z':={ ts.getD k qi with hot:=true }) 19 (.bool true) (by omega) rfl rfl;rw [hkl,← Qa ts k _ hkt] at o4;rw [hkl] at t4;have Vs:=(zm o3.row rfl k hkt).1 19 _ rfl;have f19:=o3.row.frozenAt (k*20+19);have y0:=vS.cell 0 _ rfl;have hkk:(k:Int)<(ts.length:Int):=by omega
  have hk0:(0:Int)≤(k:Int):=by omega
  obtain ⟨W4,wL⟩:=qV (w3.setCell ⟨g,k*20+19,none⟩ (.bool true));have Oq:=wL.out;rw [Oq] at o4 t4;have hs4:=t4.size;have b14:=b13.touch t4 (by simp;omega);have nE:=vS.touch t4 (by simp;omega);have n4:qa w W4:=n3.trans ((t4.within (lo:=W.heap.size) (hi:=w1.heap.size) (fun j hj=>by obtain rfl:=qac.1 hj;exact hgl)).below (by omega) (by omega));have e0:=nE.cell 0 _ rfl;have e1:=nE.cell 1 _ rfl;have m0:=b14.cell 0 _ rfl;have m1:=b14.cell 1 _ rfl;have Kl:=b14.frozen 0;have mJ:=b14.frozen 1;obtain ⟨WF,qK,bF,hwF,q8⟩:=zM b14 (.slice (some ⟨g,0,none⟩) ts.length c) (.int .i64 hand);have q0:=bF.cell 0 _ rfl;have q1:=bF.cell 1 _ rfl;have wh:=(o4.within hwF (.inr (by omega))).widen (show w.heap.size≤W.heap.size by omega) (show w1.heap.size≤WF.heap.size by omega) qg;have zN:qa w WF:=n4.trans (hwF.below (by omega) (by omega));have Qm:Hid (qo.v ⟨ts.set k { ts.getD k qi with hot:=true },hand,some ⟨g,0,none⟩,c⟩=yP p.v n):=by
   rw [Hid,aO.out,← HV.out,yj];simp only [qo.v,qeW,kM];rfl
  have XX:Hid ((ts.set k { ts.getD k qi with hot:=true }).length=ts.length):=by rw [Hid];simp
  clear hwF q8 bF o3 aM t4 b13 vS b14 nE Oq hkl aO HV o4;generalize ts.set k { ts.getD k qi with hot:=true }=us at*
  go_upto_region 5 with fail;rw [wL.out];clear wL Vs f19 y0;go_wp2_with fail;rw [qK.out];exact qa3 (v:=.agg #[.slice (some ⟨g,0,none⟩) ts.length c,.int .i64 hand]) (by simp [results,results162,go_sem,q0,q1]) rfl ⟨⟨us,hand,some ⟨g,0,none⟩,c⟩,by simp only [XX.out],Qm,wh,zN⟩
 ·have aO:Hid (t.v=yP p.v n):=by
   rw [Hid,yP,qa2 (by rw [hsk];omega)];exact HV.out
  rw [hsk];clear hsk HUS HV;have e0:=vS.cell 0 _ rfl;have e1:=vS.cell 1 _ rfl;have m0:=b13.cell 0 _ rfl;have m1:=b13.cell 1 _ rfl;have Kl:=b13.frozen 0;have mJ:=b13.frozen 1;obtain ⟨WF,qK,bF,hwF,q8⟩:=zM b13 (.slice t.a t.seats.length t.c) (.int .i64 t.hand);have q0:=bF.cell 0 _ rfl;have q1:=bF.cell 1 _ rfl;have wh:=(qo.own.within o3 hwF (.inr (by omega))).widen (show w.heap.size≤W.heap.size by omega) (show w1.heap.size≤WF.heap.size by omega) qg;have zN:qa w WF:=n3.trans (hwF.below (by omega) (by omega));clear hwF q8 bF o3 b13 vS;go_wp2_with fail;rw [qK.out];exact qa3 (v:=.agg #[.slice t.a t.seats.length t.c,.int .i64 t.hand]) (by simp [results,results162,go_sem,q0,q1]) rfl ⟨t,rfl,aO,wh,zN⟩
end Go.Proofs.YtnfdccldabbobaaGreatDoor
