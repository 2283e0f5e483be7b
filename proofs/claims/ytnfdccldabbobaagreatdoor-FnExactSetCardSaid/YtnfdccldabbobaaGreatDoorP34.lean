/- Texts. -/
import Derived.Test.YtnfdccldabbobaaGreatDoorP32
import Derived.Test.YtnfdccldabbobaaGreatDoorP33
import Derived.Test.YtnfdccldabbobaaGreatDoorP24
set_option maxHeartbeats 8000000
set_option maxRecDepth 100000
namespace Go.Proofs.YtnfdccldabbobaaGreatDoor
open Go.RowKit Go.Proofs.Tryz
def qJ (e:qR) (n:Nat):qR:=if 0≤qG e.seats n then { e with seats:=(yP e.j4 n).seats,hand:=(yP e.j4 n).hand } else Qn e n
def PN (e:qb) (n:Nat) (q:qA):Prop:=∃ k:Nat,k<e.seats.length∧Hid (qG e.v.seats n=(k:Int))∧Hid (q=(e.seats.getD k qi).page)
theorem ji.Re {f:qb→List Value} {T:TypeId} {E X:Nat} {e e':qb} {w w' w'':World} (s:ji f T E e w e' w') (hw:Within X (X+1) w' w'') (ho:Off E e' X) (hX:w.heap.size≤X):ji f T E e w e' w'':=
 ⟨s.at'.within hw (fun h=>ho.1 (by omega)) (fun k hk h=>ho.2 (by have:k=X:=(by omega);rw [← this];exact hk)),
  ⟨hw.os.trans s.touch.os,hw.tape.trans s.touch.tape,hw.output.trans s.touch.output,qcx s.size hw.size,fun k hk hn=>(hw.block k (qe2 hk s.size) (by omega)).trans (s.touch.block k hk hn)⟩,s.fresh⟩
theorem dz {P:Prop} (h:P:=by
 obtain ⟨g,k,q,H1,H2,H3,H4⟩:=END.out _ _ gK S2;clear END HKK nP;have qmx:Hid (_=_):=xP e2.qQ;have kJ:Hid (∀ u,yR M m u E e2→u.cell? ⟨E,136,none⟩=some (.slice (some ⟨g,0,none⟩) e2.seats.length e2.cS)∧u.rangeAt E 136 e2.qQ.cells∧u.rangeAt g (k*20+1) q.cells):=fun u hu=>by
  refine ⟨by rw [← H1.out];exact hu.Y7 0 _ rfl,hu.Kk,?_⟩;have ho:=hu.own.pool;rw [H1.out] at ho;have r1:=(zm ho.row rfl k H2.out).1;intro j v hv;have h1:=r1 (1+j) v (by
   rw [H4.out] at hv;have hj:=(qcL.1 hv).1;rw [qh.ui,Nat.add_comm 1 j,qdI,qdx hj];exact hv)
  rw [show k*20+1+j=k*20+(1+j) by omega];exact h1
 have CS:Hid (∀ u,yR M m u E e2→Calls prog 152 #[.agg e2.qQ.cells.toArray,.int .i64 n] u fun r u'=>r=.returned (.int .i64 (k:Int))∧qa u u'):=fun u hu=>by
  have h1:=uC e2.qQ n u hu.own.G5 (qo.jB (XH.out e2 gK.out).pool);have e1:e2.qQ.v.seats=e2.v.seats:=rfl;rw [e1,H3.out] at h1;exact h1
 have ND:qa W2 W2.drew:=(qab _ _).drew;have hkk:(k:Int)<(e2.seats.length:Int):=by have:=H2.out;omega
 have hk0:(0:Int)≤(k:Int):=by omega
 have hq4:q.ss.length=4:=by rw [H4.out];rfl
 have KY:Hid ((prog.info? 48).map (·.size)=some q.cells.length):=by rw [Hid,jJ q hq4];kernel_rfl
 refine wU kJ (S2.at'.below ND) fun qc=>?_
 iterate 10 refine jv ?_
 refine xB 10 (e2.qQ.cells) (fun _ h=>h.2.1) underlying52 qmx.out ?_;refine jg 11 ?_;refine jc 12 (fun K hK=>?_);go_simp;refine (CS.out _ (S2.at'.below ND)).mono ?_;rintro r w3 ⟨rfl,hb3⟩;have N3:=qf ND hb3;have S3:=S2.below N3;have bR3:=Mj.below N3 Mj.lt;have z3:=N3.size;refine qX hK (kJ.out _ S3.at') fun qc=>?_
 clear hK K hb3;try simp only [zz]
 iterate 2 refine jv ?_
 refine xB 15 (q.cells) (fun _ h=>h.2.2) underlying48 KY.out ?_;obtain ⟨WF,qK,hwF,q8,jI,xA⟩:=EW q hq4 bR3;have HS:Hid (ky M m E e w e2 WF):=S3.Re hwF qdB qg;refine jc 16 (fun K hK=>?_);rw [qan (by rfl)];refine qc7 48 (.tmp 4) (.tmp 42) rfl w.heap.size 0 q.cells.toArray rfl rfl jI.out (jG KY.out) (qaf (uM q)) ?_;rw [qK.out];refine qX hK (kJ.out _ HS.out.at') fun qc=>?_
 clear hK K;try simp only [Act.put,zA,zB,zC]
 refine qau (by kernel_rfl) ?_ _;clear qc;go_wp2;exact qa3 (v:=.agg q.cells.toArray) (jQ results134 rfl xA.out) rfl ⟨q,rfl,hq4,e2,gK,HL2,⟨k,H2.out,H3,H4⟩,HS.out⟩):P:=h
theorem gL (M:Nat) (m:Int) (E:Nat) (e:qb) (n:Nat) (w:World) (h:yR M m w E e) (hg:jR w) (hp:e.v.zZ) (hls:e.qQ.short 1048576) (Qi:e.log.sure≤e.log.recs.length) (h8:n<8) (HK:∃ k:Nat,k<(qJ e.v n).seats.length∧qG (qJ e.v n).seats n=k) (XH:Hid (∀ t:qb,t.v=qJ e.v n→t.short 1048576)):
  Calls prog 134 #[.pointer (some ⟨E,0,none⟩),.int .i64 n] w fun r w'=>∃ q:qA,r=.returned (.agg q.cells.toArray)∧q.ss.length=4∧∃ e':qb,Hid (e'.v=qJ e.v n)∧Hid (e'.log.recs=e.log.recs∧e'.aT=e.aT)∧PN e' n q∧ky M m E e w e' w':=by
 obtain ⟨W,hW,bR,hbW,qD⟩:=qB w uS.cells 48;have hW':Hid (w.alloc (.cells #[.int .i64 0,.bool false,.int .i64 0,.slice none 0 0,.slice none 0 0,.bool false,.int .i64 0,.slice none 0 0,.slice none 0 0,.bool false,.int .i64 0,.slice none 0 0,.slice none 0 0,.bool false,.int .i64 0,.slice none 0 0,.slice none 0 0] 48)=W):=hW.out;have a1:=h.below hbW;have hoff:Off E e w.heap.size:=h.new qg;have hws:w.heap.size<W.heap.size:=by omega
 have P8:Hid (_=_):=xP e.qQ;have r0:=a1.Kk;have C1:=uC e.qQ n W a1.own.G5 (qo.jB hls);have HKK:Hid (∃ k:Nat,k<(qJ e.v n).seats.length∧qG (qJ e.v n).seats n=k):=HK;have e00:e.qQ.v.seats=e.v.seats:=rfl;rw [e00] at C1;clear qD hW e00 HK;go_enter func134,ntmps134;go_upto_region 1 with fail;rw [hW'.out];clear hW';go_wp2_with (first | (guard_target=qp 9;refine qfZ rfl 52 (.tmp 8) rfl E 136 rfl _ _ r0 underlying52 rfl P8.out ?_) | fail);refine C1.mono ?_;clear C1 r0;rintro r w1 ⟨rfl,hb1⟩;have N1:=qf hbW hb1;have z1:=hb1.size;have a1:=h.below N1;have nP:=bR.below hb1 bR.lt;have hg1:jR w1:=hg.keep N1;have hwz:w.heap.size<w1.heap.size:=by omega
 clear hb1 bR;have END:Hid (∀ (e2:qb) (w2:World),Hid (e2.v=qJ e.v n)→ky M m E e w e2 w2→∃ (g k:Nat) (q:qA),Hid (e2.aS=some ⟨g,0,none⟩)∧Hid (k<e2.seats.length)∧Hid (qG e2.v.seats n=(k:Int))∧Hid (q=(e2.seats.getD k qi).page)):=fun e2 w2 hv2 s2=>by
  obtain ⟨k,hk,hsk⟩:=HKK.out;rw [← hv2.out] at hk hsk;have hkl:k<e2.seats.length:=by simpa [qb.v] using hk
  obtain ⟨g,hg⟩:∃ g,e2.aS=some ⟨g,0,none⟩:=by
   rcases s2.at'.own.pool.row.2 with ⟨_,h0⟩ | ⟨g,cap',cur,hv,_⟩
   ·omega
   ·simp only [qcK] at hv;exact ⟨g,hv.1⟩
  exact ⟨g,k,_,hg,hkl,hsk,rfl⟩
 have Yx:(n:Int)<8:=by omega
 have hn0:(0:Int)≤(n:Int):=by omega
 by_cases hsd:0≤qG e.v.seats n
 ·have HF:Hid (qJ e.v n={ e.v with seats:=(yP e.qQ.v n).seats,hand:=(yP e.qQ.v n).hand }):=by rw [Hid,qJ,qan hsd];rfl
  have r1:=a1.Kk;have C2:=FC e.qQ n w1 a1.own.G5 hls;go_wp2_with (first | (guard_target=qp 18;refine qfZ rfl 52 (.tmp 17) rfl E 136 rfl _ _ r1 underlying52 rfl P8.out ?_) | fail);refine C2.mono ?_;clear C2 r1;rintro r w2 ⟨t,rfl,ht,ot,hb2⟩;obtain ⟨W2,hW2,HT2,st2⟩:=a1.dO t hb2 ot;have S2:ky M m E e w (e.jk t.seats t.a t.c t.hand) W2:=ji.after N1 st2;have gK:Hid ((e.jk t.seats t.a t.c t.hand).v=qJ e.v n):=by
   have h1:t.seats.map qh.v=(yP e.qQ.v n).seats:=qcz jM.seats ht.out;have h2:t.hand=(yP e.qQ.v n).hand:=qcz jM.hand ht.out;rw [Hid,HF.out,← h1,← h2];rfl
  have HL2:Hid ((e.jk t.seats t.a t.c t.hand).log.recs=e.log.recs∧(e.jk t.seats t.a t.c t.hand).aT=e.aT):=⟨rfl,rfl⟩;have Mj:Box W2 w.heap.size uS.cells 48:=st2.boxes nP hoff;have qdB:Off E (e.jk t.seats t.a t.c t.hand) w.heap.size:=st2.off hwz hoff;have Zz:Hid (_=_):=xP t;have hz2:=st2.size;clear ot ht hb2 st2 HF hsd;go_upto_region 4 with (first | (guard_target=ja 23;refine jb 52 23 20 E 136 (t.cells).toArray HT2.out (jG Zz.out) (K6 t) ?_) | fail);rw [hW2.out];clear hW2 HT2 Zz;generalize e.jk t.seats t.a t.c t.hand=e2 at*
  exact dz
 ·have HF:Hid (qJ e.v n=Qn e.v n):=by rw [Hid,qJ,qa2 hsd]
  have C2:=Bn M m E e n w1 a1 hg1 hp hls Qi h8;go_wp2_with fail;refine C2.mono ?_;clear C2;rintro r W2 ⟨⟨v2,rfl⟩,e2,qhu,HL2,st2⟩;have S2:ky M m E e w e2 W2:=ji.after N1 st2;have gK:Hid (e2.v=qJ e.v n):=by rw [Hid,HF.out];exact qhu
  have Mj:Box W2 w.heap.size uS.cells 48:=st2.boxes nP hoff;have qdB:Off E e2 w.heap.size:=st2.off hwz hoff;have hz2:=st2.size;clear st2 HF hsd qhu;go_upto_region 4 with fail;exact dz
theorem jR.NB {M:Nat} {n:Int} {R:Nat} {e e':qb} {w w':World} (h:jR w) (s:ky M n R e w e' w') (hG:Off R e 0):jR w':=by
 have:=s.block h.lt hG;unfold jR at h ⊢;rw [World.cell?_of_block this];exact h
def uL (e:qR) (n:Nat):q9:=e.seats.getD (qG e.seats n).toNat qy
def WQ (e:qR) (n:Nat) (r:xS):qR:=
 let f:=qJ e n
 let d:=zP (uL f n).lsn (uL f n).ss r
 let p:=(yV f.j4 n d.1 d.2).1
 { f with seats:=p.seats,hand:=p.hand }
theorem Rf (M:Nat) (m:Int) (E:Nat) (e:qb) (j o:Nat) (x:ql) (w:World) (h:yR M m w E e) (hg:jR w) (hG:Off E e 0) (hp:e.v.zZ) (hls:e.qQ.short 1048576) (Qi:e.log.sure≤e.log.recs.length) (hj:j<e.log.recs.length) (hx:Hid (e.log.recs.getD j qE=x)) (hxs:x.short 1099511627776) (ho:x.oid=(o:Int)) (h32:o<32)
  (HK:∃ k:Nat,k<(qJ e.v (o / 4)).seats.length∧qG (qJ e.v (o / 4)).seats (o / 4:Nat)=k) (XH:Hid (∀ t:qb,t.v=qJ e.v (o / 4)→t.short 1048576)) (D:Int × List qO) (HD:zP (uL (qJ e.v (o / 4)) (o / 4)).lsn (uL (qJ e.v (o / 4)) (o / 4)).ss x.v=D∧redoOk (uL (qJ e.v (o / 4)) (o / 4)).lsn (uL (qJ e.v (o / 4)) (o / 4)).ss x.v=true) (HD4:Hid (D.2.length=4)) (HDF:Hid (Gq D.2)):
  Calls prog 87 #[.pointer (some ⟨E,0,none⟩),.agg x.cells.toArray] w fun r w'=>(∃ v,r=.returned v)∧∃ e':qb,Hid (e'.v=WQ e.v (o / 4) x.v)∧ky M m E e w e' w':=by
 obtain ⟨W,hW,bX,hbW,qD⟩:=qB w x.cells 124;have a1:=h.below hbW;have hoff:Off E e w.heap.size:=h.new qg;have c4:W.cell? ⟨w.heap.size,4,none⟩=some (.int .i64 (o:Int)):=by rw [← ho];exact bX.cell 4 _ rfl
 have OZ:Hid (_=_):=uE x;have ZG:Hid (qa w W):=hbW;have HN:Hid (w.heap.size<W.heap.size):=(by omega:w.heap.size<W.heap.size);have Yd:Hid (∀ u,Box u w.heap.size x.cells 124→u.rangeAt w.heap.size 0 x.cells):=fun u bu=>Box.range [] _ [] (by simpa using bu)
 have Qq:Hid (Box W w.heap.size x.cells 124):=bX;have CF:Hid (∀ u,qa W u→Calls prog 134 #[.pointer (some ⟨E,0,none⟩),.int .i64 ((o:Int) / 4)] u fun r w'=>∃ q:qA,r=.returned (.agg q.cells.toArray)∧q.ss.length=4∧∃ e':qb,Hid (e'.v=qJ e.v (o / 4))∧Hid (e'.log.recs=e.log.recs∧e'.aT=e.aT)∧PN e' (o / 4) q∧ky M m E e u e' w'):=fun u hu=>by
  rw [show (o:Int) / 4=((o / 4:Nat):Int) from by omega];exact gL M m E e (o / 4) u (a1.below hu) (hg.keep (qf hbW hu)) hp hls Qi (by omega) HK XH
 have HQ:Hid (∀ (u:World) (e1:qb) (q:qA) (k:Nat),yR M m u E e1→Hid (e1.v=qJ e.v (o / 4))→Hid (e1.log.recs=e.log.recs∧e1.aT=e.aT)→k<e1.seats.length→Hid (qG e1.v.seats (o / 4:Nat)=(k:Int))→Hid (q=(e1.seats.getD k qi).page)→(q.lsn=(uL (qJ e.v (o / 4)) (o / 4)).lsn∧q.ss.map (·.v)=(uL (qJ e.v (o / 4)) (o / 4)).ss)∧jS u q.ss∧Fit q.ss∧x.reads u):=fun u e1 q k ha hv hl hk hsk hqk=>by
  have h1:q.ss=(e1.seats.getD k qi).ss:=by rw [hqk.out];rfl
  have h2:uL (qJ e.v (o / 4)) (o / 4)=(e1.seats.getD k qi).v:=by
   unfold uL;rw [← hv.out,hsk.out,qcU];exact kM e1.seats k
  refine ⟨⟨by rw [h2,hqk.out];rfl,by rw [h2,h1];rfl⟩,?_,?_,?_⟩
  ·rw [h1];exact qP.reads (ha.own.pool.each _ (xE _ k hk))
  ·rw [h1];exact fun s hs=>by have:=(XH.out e1 hv.out).pool.each _ (xE e1.seats k hk) s hs;omega
  ·have hr:=(je.reads ha.own.log (by rw [hl.out.1];intro e0;rw [e0] at hj;simp at hj));obtain ⟨b,off,_,hc⟩:=hr;have:=(hc j (by rw [hl.out.1];exact hj)).2;rw [hl.out.1,hx.out] at this;exact this
 have HW:Hid (_=_):=hW.out;clear hW qD a1 HK hbW bX;have qmy:(o:Int)≤31:=by omega
 have ho0:(0:Int)≤(o:Int):=by omega
 go_enter func87,ntmps87;go_upto_region 1 with fail;rw [HW.out];clear HW;go_upto_region 2 with fail;clear c4
 go_cut [5,6] from 7 (fun a b wx=>∃ (A:Nat) (ts:List qj) (e1:qb),a=.pointer (some ⟨A,0,none⟩)∧b=.bool true∧Hid (e1.v=qJ e.v (o / 4))∧Hid (ts.map (·.v)=D.2)∧ts.length=4∧Box wx A (qA.cells ⟨D.1,ts⟩) 48∧jS wx ts∧Off E e1 A∧ky M m E e w e1 wx)
 case first=>
  have N0:qa W W.drew:=(qab _ _).drew;have bX0:Box W.drew w.heap.size x.cells 124:=Qq.out.below N0 Qq.out.lt;have hN:=HN.out;have zN0:=N0.size;refine qaZ (S:=fun u=>u.rangeAt w.heap.size 0 x.cells) (by kernel_rfl) (Yd.out _ bX0) (fun qc=>?_);generalize W.drew=d0 at*
  iterate 2 refine jv ?_
  refine xB 3 (x.cells) (fun _ h=>h) underlying124 OZ.out ?_;refine qde (rs:=[2,8]) (by kernel_rfl) (by simp) ?_;refine qcE rfl (fun K hK=>?_) (qcE rfl (fun K hK=>?_) qc9)
  ·go_simp;refine (CF.out d0 N0).mono ?_;rintro r u1 ⟨q,rfl,hq4,e1,hv1,hl1,⟨k,hk,hsk,hqk⟩,s1⟩;have b2:=s1.boxes bX0 hoff;have s3:ky M m E e w e1 u1:=ji.after (ZG.out.trans (N0.mono ZG.out.size)) s1;have zu1:=s1.size;have qp8:=(N0).size;have qoI:=s1.off (by omega) hoff;have gM:jR u1:=jR.NB (hg.keep (ZG.out.trans (N0.mono ZG.out.size))) s1 hG;obtain ⟨hSQ,eQ,hFQ,eT⟩:=HQ.out u1 e1 q k s1.at' hv1 hl1 hk hsk hqk;have dB:Hid (zP q.lsn (q.ss.map (·.v)) x.v=D∧redoOk q.lsn (q.ss.map (·.v)) x.v=true):=by rw [hSQ.1,hSQ.2];exact HD
   refine qX hK (Yd.out _ b2) fun qc=>?_
   clear hK K;try simp only [zz]
   refine qde (rs:=[4,8]) (by kernel_rfl) (by simp) ?_;refine qcE rfl (fun K hK=>?_) (qcE rfl (fun K hK=>?_) qc9)
   ·go_simp;refine (YY q hq4 x u1 gM eQ hFQ eT hxs).mono ?_;rintro r u4 ⟨ts,rfl,gN,hot,hb⟩;have Jb:Hid (ts.map (·.v)=D.2):=by rw [Hid,gN.out,dB.out.1]
    have QV:ts.length=4:=by have:=qcz List.length Jb.out;simp only [qa4] at this;rw [this];exact HD4.out
    rw [dB.out.1,dB.out.2];have b5:=b2.below hb b2.lt;have s6:=s3.below hb;have zu4:=hb.size;refine qX hK (Yd.out _ b5) fun qc=>?_
    clear hK K gN hb;try simp only [zz]
    refine jg 5 ?_;refine jg 6 ?_;refine jg 7 ?_;refine jc 8 (fun K hK=>?_);go_simp;obtain ⟨u7,hu7,bZ,yF,zx⟩:=qB u4 uS.cells 48;have qhv:Hid (u4.alloc (.cells #[.int .i64 0,.bool false,.int .i64 0,.slice none 0 0,.slice none 0 0,.bool false,.int .i64 0,.slice none 0 0,.slice none 0 0,.bool false,.int .i64 0,.slice none 0 0,.slice none 0 0,.bool false,.int .i64 0,.slice none 0 0,.slice none 0 0] 48)=u7):=hu7.out;rw [qhv.out];clear hu7 qhv;have b8:=b5.below yF b5.lt;have s10:=s6.below yF;have f11:Off E e1 u4.heap.size:=s6.at'.new qg;have o12:=hot.below yF;have p9:Box u7 u4.heap.size uS.cells 48:=bZ;have zu7:=yF.size;have yu7:=p9.lt;refine qX hK (Yd.out _ b8) fun qc=>?_
    clear hK K bZ yF zx;try simp only [zz]
    obtain ⟨qmz,qK,hwF,q8,jI,_,bF⟩:=page_out (C:=u4.heap.size) (T:=48) ⟨D.1,ts⟩ QV uS.cells rfl p9 underlying48 rfl (by kernel_rfl);refine jc 9 (fun K hK=>?_);rw [qan (by rfl)];refine qc7 48 (.tmp 5) (.tmp 16) rfl (u4.heap.size) 0 (qA.cells ⟨D.1,ts⟩).toArray rfl rfl jI.out (by rw [qcY,jJ _ QV];kernel_rfl) (qaf (uM _)) ?_;rw [qK.out];have bXF:=b8.within hwF (by omega);refine qX hK (Yd.out _ bXF) fun qc=>?_
    clear hK K;try simp only [Act.put,zA,zB,zC]
    refine jg 10 ?_;refine qau (by kernel_rfl) ?_ _;have stF:=s10.Re hwF (by first | exact f11) (by omega);have oF:jS qmz ts:=((o12).within hwF (by first | exact .inl (by omega) | exact .inr (by omega))).reads;clear hwF q8 jI qK qc;go_wp2_with fail
    go_meet
    case rel=>exact ⟨u4.heap.size,ts,e1,rfl,rfl,hv1,Jb,QV,bF,oF,f11,stF⟩
   ·go_simp;obtain ⟨u14,qhx,bZ,yF,zx⟩:=qB u1 uS.cells 48;have qdE:Hid (u1.alloc (.cells #[.int .i64 0,.bool false,.int .i64 0,.slice none 0 0,.slice none 0 0,.bool false,.int .i64 0,.slice none 0 0,.slice none 0 0,.bool false,.int .i64 0,.slice none 0 0,.slice none 0 0,.bool false,.int .i64 0,.slice none 0 0,.slice none 0 0] 48)=u14):=qhx.out;rw [qdE.out];clear qhx qdE;have b15:=b2.below yF b2.lt;have s17:=s3.below yF;have f18:Off E e1 u1.heap.size:=s3.at'.new qg;replace gM:=gM.keep yF;replace eQ:=eQ.below yF;replace eT:=eT.below yF;have p16:Box u14 u1.heap.size uS.cells 48:=bZ;have qp9:=yF.size;have qqa:=p16.lt;refine qX hK (Yd.out _ b15) fun qc=>?_
    clear hK K bZ yF zx;try simp only [zz]
    refine jc 4 (fun K hK=>?_);go_simp;refine (YY q hq4 x u14 gM eQ hFQ eT hxs).mono ?_;rintro r u19 ⟨ts,rfl,gN,hot,hb⟩;have Jb:Hid (ts.map (·.v)=D.2):=by rw [Hid,gN.out,dB.out.1]
    have QV:ts.length=4:=by have:=qcz List.length Jb.out;simp only [qa4] at this;rw [this];exact HD4.out
    rw [dB.out.1,dB.out.2];have b20:=b15.below hb b15.lt;have s21:=s17.below hb;have qmc:=hb.size;have p22:=p16.below hb p16.lt;refine qX hK (Yd.out _ b20) fun qc=>?_
    clear hK K gN hb;try simp only [zz]
    refine jg 5 ?_;refine jg 6 ?_;refine jg 7 ?_;obtain ⟨qmA,qK,hwF,q8,jI,_,bF⟩:=page_out (C:=u1.heap.size) (T:=48) ⟨D.1,ts⟩ QV uS.cells rfl p22 underlying48 rfl (by kernel_rfl);refine jc 9 (fun K hK=>?_);rw [qan (by rfl)];refine qc7 48 (.tmp 5) (.tmp 16) rfl (u1.heap.size) 0 (qA.cells ⟨D.1,ts⟩).toArray rfl rfl jI.out (by rw [qcY,jJ _ QV];kernel_rfl) (qaf (uM _)) ?_;rw [qK.out];have bXF:=b20.within hwF (by omega);refine qX hK (Yd.out _ bXF) fun qc=>?_
    clear hK K;try simp only [Act.put,zA,zB,zC]
    refine jg 10 ?_;refine qau (by kernel_rfl) ?_ _;have stF:=s21.Re hwF (by first | exact f18) (by omega);have oF:jS qmA ts:=((hot).within hwF (by first | exact .inl (by omega) | exact .inr (by omega))).reads;clear hwF q8 jI qK qc;go_wp2_with fail
    go_meet
    case rel=>exact ⟨u1.heap.size,ts,e1,rfl,rfl,hv1,Jb,QV,bF,oF,f18,stF⟩
  ·go_simp;obtain ⟨u24,qhy,bZ,yF,zx⟩:=qB d0 uS.cells 48;have qdF:Hid (d0.alloc (.cells #[.int .i64 0,.bool false,.int .i64 0,.slice none 0 0,.slice none 0 0,.bool false,.int .i64 0,.slice none 0 0,.slice none 0 0,.bool false,.int .i64 0,.slice none 0 0,.slice none 0 0,.bool false,.int .i64 0,.slice none 0 0,.slice none 0 0] 48)=u24):=qhy.out;rw [qdF.out];clear qhy qdF;have X8:=bX0.below yF bX0.lt;have N27:=N0.trans (yF.mono (N0).size);have a0:=(h.below (ZG.out.trans ((N0).mono ZG.out.size)));have p26:Box u24 d0.heap.size uS.cells 48:=bZ;have qqb:=yF.size;have qqc:=p26.lt;refine qX hK (Yd.out _ X8) fun qc=>?_
   clear hK K bZ yF zx;try simp only [zz]
   refine jc 2 (fun K hK=>?_);go_simp;refine (CF.out u24 N27).mono ?_;rintro r u28 ⟨q,rfl,hq4,e1,hv1,hl1,⟨k,hk,hsk,hqk⟩,s1⟩;have b29:=s1.boxes X8 hoff;have s30:ky M m E e w e1 u28:=ji.after (ZG.out.trans (N27.mono ZG.out.size)) s1;have qqd:=s1.size;have qoJ:=(N27).size;have qop:=s1.off (by omega) hoff;have p31:=s1.boxes p26 (a0.new qg);have f32:=s1.off (by have:=p26.lt;omega) (a0.new qg);have gM:jR u28:=jR.NB (hg.keep (ZG.out.trans (N27.mono ZG.out.size))) s1 hG;obtain ⟨hSQ,eQ,hFQ,eT⟩:=HQ.out u28 e1 q k s1.at' hv1 hl1 hk hsk hqk;have dB:Hid (zP q.lsn (q.ss.map (·.v)) x.v=D∧redoOk q.lsn (q.ss.map (·.v)) x.v=true):=by rw [hSQ.1,hSQ.2];exact HD
   refine qX hK (Yd.out _ b29) fun qc=>?_
   clear hK K;try simp only [zz]
   refine jc 4 (fun K hK=>?_);go_simp;refine (YY q hq4 x u28 gM eQ hFQ eT hxs).mono ?_;rintro r u33 ⟨ts,rfl,gN,hot,hb⟩;have Jb:Hid (ts.map (·.v)=D.2):=by rw [Hid,gN.out,dB.out.1]
   have QV:ts.length=4:=by have:=qcz List.length Jb.out;simp only [qa4] at this;rw [this];exact HD4.out
   rw [dB.out.1,dB.out.2];have G9:=b29.below hb b29.lt;have s35:=s30.below hb;have qqe:=hb.size;have p36:=p31.below hb p31.lt;refine qX hK (Yd.out _ G9) fun qc=>?_
   clear hK K gN hb;try simp only [zz]
   iterate 3 refine jv ?_
   obtain ⟨qmB,qK,hwF,q8,jI,_,bF⟩:=page_out (C:=d0.heap.size) (T:=48) ⟨D.1,ts⟩ QV uS.cells rfl p36 underlying48 rfl (by kernel_rfl);refine jc 9 (fun K hK=>?_);rw [qan (by rfl)];refine qc7 48 (.tmp 5) (.tmp 16) rfl (d0.heap.size) 0 (qA.cells ⟨D.1,ts⟩).toArray rfl rfl jI.out (by rw [qcY,jJ _ QV];kernel_rfl) (qaf (uM _)) ?_;rw [qK.out];have bXF:=G9.within hwF (by omega);refine qX hK (Yd.out _ bXF) fun qc=>?_
   clear hK K;try simp only [Act.put,zA,zB,zC]
   refine jg 10 ?_;refine qau (by kernel_rfl) ?_ _;have stF:=s35.Re hwF (by first | exact f32) (by omega);have oF:jS qmB ts:=((hot).within hwF (by first | exact .inl (by omega) | exact .inr (by omega))).reads;clear hwF q8 jI qK qc;go_wp2_with fail
   go_meet
   case rel=>exact ⟨d0.heap.size,ts,e1,rfl,rfl,hv1,Jb,QV,bF,oF,f32,stF⟩
 case rest=>
 obtain ⟨A,ts,e1,rfl,rfl,hv1,Jb,QV,bP,hrt,aj,st1⟩:=hcut;have P8:Hid (_=_):=xP e1.qQ;have KY:Hid ((prog.info? 48).map (·.size)=some (qA.cells ⟨D.1,ts⟩).length):=by rw [Hid,jJ _ QV];kernel_rfl
 have Zp:Hid (∀ u,Box u A (qA.cells ⟨D.1,ts⟩) 48→u.rangeAt A 0 (qA.cells ⟨D.1,ts⟩)):=fun u bu=>Box.range [] _ [] (by simpa using bu)
 have gM:jR wc:=jR.NB hg st1 hG;go_upto_region 4 with fail;have BD:qa wc wc.drew:=(qab _ _).drew;have bPd:=bP.below BD bP.lt;have std:=st1.below BD;have C:Calls prog 136 #[.agg e1.qQ.cells.toArray,.int .i64 ((o:Int) / 4),.agg (qA.cells ⟨D.1,ts⟩).toArray] wc.drew fun e w'=>Dk e1.qQ ((o / 4:Nat):Int) D.1 D.2 wc.drew e w':=by
  have:=NY e1.qQ ((o:Int) / 4) ⟨D.1,ts⟩ QV wc.drew (gM.keep BD) std.at'.own.G5 (XH.out e1 hv1.out).pool (hrt.below BD) (by
   rw [← Jb.out] at HDF;exact fun s hs=>HDF.out s.v (qdn.2 ⟨s,hs,rfl⟩))
  rw [show (o:Int) / 4=((o / 4:Nat):Int) from by omega,Jb.out] at this;rw [show (o:Int) / 4=((o / 4:Nat):Int) from by omega];exact this
 refine qaZ (S:=fun u=>u.rangeAt A 0 (qA.cells ⟨D.1,ts⟩)) (by kernel_rfl) (Zp.out _ bPd) (fun qc=>?_);generalize wc.drew=d5 at*
 iterate 5 refine jv ?_
 refine jg 6 ?_;refine xB 7 (qA.cells ⟨D.1,ts⟩) (fun _ h=>h) underlying48 KY.out ?_;refine jc 5 (fun K hK=>?_);rw [qan (by rfl)];refine wp_load_mid 52 (.tmp 24) rfl E 136 rfl (e1.qQ.cells) _ std.at'.Kk underlying52 rfl P8.out ?_;refine qX hK qc fun qc=>?_
 clear hK K ;try simp only [zz]
 refine jc 8 (fun K hK=>?_);go_simp;refine C.mono ?_;clear C;rintro r u3 ⟨t,bb,rfl,ht,ot,hb3⟩;have b3:=bPd.below hb3 bPd.lt;refine qX hK (Zp.out _ b3) fun qc=>?_
 clear hK K ;try simp only [zz]
 iterate 6 refine jv ?_
 obtain ⟨W6,KA,Co,eu⟩:=std.at'.dO t hb3 ot;have b6:=eu.boxes bPd aj;refine jc 15 (fun K hK=>?_);rw [qan (by rfl)];refine qc7 52 (.tmp 33) (.tmp 29) rfl E 136 t.cells.toArray rfl rfl Co.out (jG (xP t)) (K6 t) ?_;rw [KA.out];have HE:Hid (∃ e':qb,Hid (e'.v=WQ e.v (o / 4) x.v)∧ky M m E e w e' W6):=by
  refine ⟨_,?_,std.trans eu⟩;have h1:t.seats.map qh.v=(yV e1.qQ.v ((o / 4:Nat):Int) D.1 D.2).1.seats:=(qcz (fun z=>z.1.seats) ht.out).symm;have h2:t.hand=(yV e1.qQ.v ((o / 4:Nat):Int) D.1 D.2).1.hand:=(qcz (fun z=>z.1.hand) ht.out).symm;have h3:e1.qQ.v=(qJ e.v (o / 4)).j4:=by rw [← hv1.out];rfl
  rw [h3] at h1 h2;have h4:(e1.jk t.seats t.a t.c t.hand).v={ e1.v with seats:=t.seats.map qh.v,hand:=t.hand }:=rfl;rw [Hid,h4,h1,h2,hv1.out];unfold WQ;simp only [HD.1]
 refine qX hK (Zp.out _ b6) fun qc=>?_
 clear hK K;try simp only [Act.put,zA,zB,zC]
 refine qau (by kernel_rfl) ?_ _;clear qc;go_wp2;go_end0;exact ⟨⟨_,rfl⟩,HE.out⟩
def QE (e:qR) (o:Nat):qO:=(e.seats.getD (qG e.seats (o / 4:Nat)).toNat qy).ss.getD (o % 4) ⟨false,⟨0,[],[]⟩⟩
theorem zg (s:qj):(prog.info? 45).map (·.size)=some s.cells.length:=by show _=some 4;kernel_rfl
theorem DU {w:World} {C:Nat} (q:qj) (old:List Value) (ho:old.length=4) (bC:Box w C old 45):
  ∃ WF,Hid (w.setCells C 0 q.cells=WF)∧Within C (C+1) w WF∧WF.heap.size=w.heap.size∧Hid (w.there C 0 q.cells.toArray.size)∧Hid ((loadVar 45 ⟨C,0,none⟩).run prog WF=.ok (.agg q.cells.toArray) WF)∧Box WF C q.cells 45:=by
 obtain ⟨WF,qK,bF,hwF,q8⟩:=jE [] old q.cells [] (by simpa using bC) (by rw [ho];rfl);have Jz:Box WF C q.cells 45:=by simpa using bF
 exact ⟨WF,qK,hwF,q8,bC.there 0 _ (by rw [ho];show 0+4≤4;decide),qeI (P:=prog) WF C 0 45 q.cells _ (qN Jz) underlying45 rfl (zg q),Jz⟩
theorem DW (x:qj):x.cells.toArray.all (·.oneCell')=true:=qaf (fun v hv=>by
 simp only [qj.cells,qcv,qdu,qfL] at hv;rcases hv with rfl | rfl | rfl | rfl<;>rfl)
theorem eU (ls:List qj) (k:Nat):(ls.map (·.v)).getD k ⟨false,⟨0,[],[]⟩⟩=(ls.getD k qw).v:=by
 simp only [List.getD,qdy];cases ls[k]? <;>rfl
theorem EH (M:Nat) (m:Int) (E:Nat) (e:qb) (o:Nat) (w:World) (h:yR M m w E e) (hg:jR w) (hp:e.v.zZ) (hls:e.qQ.short 1048576) (Qi:e.log.sure≤e.log.recs.length) (h32:o<32) (HK:∃ k:Nat,k<(qJ e.v (o / 4)).seats.length∧qG (qJ e.v (o / 4)).seats (o / 4:Nat)=k) (XH:Hid (∀ t:qb,t.v=qJ e.v (o / 4)→t.short 1048576)):
  Calls prog 86 #[.pointer (some ⟨E,0,none⟩),.int .i64 o] w fun r w'=>∃ x:qj,r=.returned (.agg x.cells.toArray)∧Hid (x.v=QE (qJ e.v (o / 4)) o)∧∃ (e':qb) (b:Nat),Hid (e'.v=qJ e.v (o / 4))∧Hid (e'.log.recs=e.log.recs∧e'.aT=e.aT)∧x.own w' b w'.heap.size∧Hid (∀ k∈e'.blocks,k<b)∧w.heap.size≤b∧ky M m E e w e' w':=by
 obtain ⟨W,hW,bR,hbW,qD⟩:=qB w qw.cells 45;have hW':Hid (w.alloc (.cells #[.bool false,.int .i64 0,.slice none 0 0,.slice none 0 0] 45)=W):=hW.out;have a1:=h.below hbW;have hoff:Off E e w.heap.size:=h.new qg;have hws:w.heap.size<W.heap.size:=by omega
 have C:Calls prog 134 #[.pointer (some ⟨E,0,none⟩),.int .i64 ((o:Int) / 4)] W fun r w'=>∃ q:qA,r=.returned (.agg q.cells.toArray)∧q.ss.length=4∧∃ e':qb,Hid (e'.v=qJ e.v (o / 4))∧Hid (e'.log.recs=e.log.recs∧e'.aT=e.aT)∧PN e' (o / 4) q∧ky M m E e W e' w':=by
  rw [show (o:Int) / 4=((o / 4:Nat):Int) from by omega];exact gL M m E e (o / 4) W a1 (hg.keep hbW) hp hls Qi (by omega) HK XH
 have HN:Hid (w.heap.size<W.heap.size∧qa w W):=⟨hws,hbW⟩;clear qD hW hg HK h hbW hws;go_enter func86,ntmps86;go_upto_region 1 with fail;rw [hW'.out];clear hW';have qmy:(o:Int)≤31:=by omega
 have ho0:(0:Int)≤(o:Int):=by omega
 go_wp2_with fail;refine C.mono ?_;clear C;rintro r w1 ⟨q,rfl,hq4,e',hv,hl,⟨k,hk,hsk,hqk⟩,st⟩;have nP:=st.boxes bR hoff;have gY:=st.off HN.out.1 hoff;have z1:=st.size;obtain ⟨j,hj⟩:∃ j:Nat,Hid (o % 4=j):=⟨_,rfl⟩;have WJ:j<4:=by have:=hj.out;omega
 have HEJ:Hid ((o:Int) % 4=(j:Int)):=by have:=hj.out;rw [Hid];omega
 obtain ⟨z,hz⟩:=qV (q.ss.getD j qw);have hmz:z∈(e'.seats.getD k qi).ss:=by
  have h1:q.ss=(e'.seats.getD k qi).ss:=by rw [hqk.out];rfl
  have h2:j<q.ss.length:=by omega
  rw [← h1,← hz.out];simp [List.getD,h2]
 have hzr:z.reads w1:=(qP.reads (st.at'.own.pool.each _ (xE _ k hk))) z hmz;have hsh:=(XH.out e' hv.out).pool.each _ (xE e'.seats k hk) z hmz;have Iw:Hid (z.v=QE (qJ e.v (o / 4)) o):=by
  rw [Hid,QE,← hv.out,hsk.out,qcU];have e1:e'.v.seats=e'.seats.map qh.v:=rfl;rw [e1,kM,hj.out];have e2:(e'.seats.getD k qi).v.ss=(e'.seats.getD k qi).ss.map (·.v):=rfl;have h1:q.ss=(e'.seats.getD k qi).ss:=by rw [hqk.out];rfl
  rw [e2,eU,← h1,hz.out]
 have C:=Jf z w1 hzr (qcx hsh.1 (by decide)) (qcx hsh.2 (by decide));have HL1:Hid (∀ i∈e'.blocks,i<w1.heap.size):=fun i hi=>st.at'.lt i hi
 have ej:=HEJ.out;clear bR hmz hzr hsh hqk hsk hk XH hp hls Qi;go_wp2_with (first | (guard_target=qp 9;refine tH (.tmp 8) q hq4 rfl ?_) | (guard_target=qp 12;refine Rq (.tmp 9) (.tmp 11) q.ss hq4 j WJ z hz.out rfl (by show Value.int .i64 ((o:Int) % 4)=_;rw [ej]) ?_) | fail);refine C.mono ?_;clear C;rintro r w2 ⟨x,rfl,hx,ox,hb2⟩;have st2:=st.below hb2;have Mj:=nP.below hb2 nP.lt;have z2:=hb2.size;obtain ⟨WF,qK,hwF,q8,jI,xA,bF⟩:=DU x _ rfl Mj;have hws:w.heap.size<W.heap.size:=HN.out.1;have HX:Hid (x.own WF w1.heap.size WF.heap.size):=(OwnO.within ox hwF (.inr (by omega))).widen qg (by omega) qg;have HS:Hid (ky M m E e w e' WF):=(ji.after HN.out.2 st2).Re hwF gY qg;have HXV:Hid (x.v=QE (qJ e.v (o / 4)) o):=by rw [Hid,hx.out,Iw.out]
 have HIx:=zg x;have HOx:=DW x;clear st st2 nP Mj hwF q8 bF ox hb2 hx hz;go_wp2_with (first | (guard_target=ja 4;refine jb 45 4 13 w.heap.size 0 x.cells.toArray jI.out (jG HIx) HOx ?_) | fail);rw [qK.out];exact qa3 (v:=.agg x.cells.toArray) (jQ results86 rfl xA.out) rfl ⟨x,rfl,HXV,e',w1.heap.size,hv,hl,HX.out,HL1,by omega,HS.out⟩
theorem pM (tx:Int) (ls:List qM):∀ k j,j<ls.length→(ls.getD j qz).tx=tx→(∀ i,i<j→(ls.getD i qz).tx≠tx)→xW tx ls k=((k+j:Nat):Int):=by
 induction ls with
 | nil=>intro k j hj;simp at hj
 | cons l r ih=>
  intro k j hj h hn;cases j with
  | zero=>
   have h':l.tx=tx:=h;simp [xW,h']
  | succ j=>
   have h':l.tx≠tx:=hn 0 (by omega);have:=ih (k+1) j (by simpa using hj) h (fun i hi=>hn (i+1) (by omega));simp only [xW,qa2 h'];rw [this];congr 1;omega
theorem qcu (R:Nat) (e:qb) (se:e.shape) (M:Nat) (n tx:Int) (w:World) (b:Box w R (zi e.cells M n) 137) (hr:kQ w e.aT e.txs) (hl:e.txs.length≤1048576):
  Calls prog 84 #[.pointer (some ⟨R,0,none⟩),.int .i64 tx] w fun r w'=>w'=w∧((r=.returned (.pointer none)∧jC e.txs tx= -1)∨∃ (k g off:Nat),k<e.txs.length∧jC e.txs tx=(k:Int)∧e.aT=some ⟨g,off,none⟩∧r=.returned (.pointer (some ⟨g,off+k*3,none⟩))):=by
 have HA:Hid ((qx e.disk).length=136):=qb.yg se;have b0:Box w R (qx e.disk++[.slice e.aS e.seats.length e.cS,.int .i64 e.hand,.slice e.log.a e.log.recs.length e.log.c,.int .i64 e.log.sure,.slice e.aT e.txs.length e.cT,.slice e.aH e.holds.length e.cH,.int .i64 e.next,.bool e.down,.map (some M),.int .i64 n]) 137:=by
  unfold zi qb.cells at b;rw [qcJ] at b;exact b
 have x0:=b0.cell 140 (.slice e.aT e.txs.length e.cT) (by rw [qcQ (by rw [HA.out];omega),HA.out];rfl);have HY:Hid (∀ j,j<e.txs.length→(e.txs.getD j qz).tx=tx→(∀ i,i<j→(e.txs.getD i qz).tx≠tx)→jC e.txs tx=(j:Int)):=fun j hj h1 h2=>by
  have:=pM tx e.txs 0 j hj h1 h2;rw [qeK] at this;exact this
 have HN:Hid ((∀ k,k<e.txs.length→(e.txs.getD k qz).tx≠tx)→jC e.txs tx= -1):=fun h=>ny tx e.txs 0 h
 have HR:Hid (kQ w e.aT e.txs):=hr;clear b b0 hr;go_enter func84,ntmps84;go_wp2_with fail;go_loopw [12] (fun i wr=>∃ k:Nat,k≤e.txs.length∧i=.int .i64 (k:Int)∧Hid (∀ j,j<k→(e.txs.getD j qz).tx≠tx)∧wr=w) (fun i _=>e.txs.length-(intOf i).toNat)
 case atStart=>exact ⟨0,qaw _,rfl,fun j hj=>by omega,rfl⟩
 case round=>
  obtain ⟨k,hk,rfl,hall,rfl⟩:=hrel;by_cases hlt:k<e.txs.length
  ·obtain ⟨g,off,ha,hc⟩:=HR.out (by intro e0;rw [e0] at hlt;simp at hlt);have c0:=(hc k hlt).1;have Lb:Hid (_→_→_):=HY.out k hlt;obtain ⟨t,ht⟩:=qV (e.txs.getD k qz);rw [ht.out] at c0 Lb;have hkl:(k:Int)<(e.txs.length:Int):=by omega
   have hk0:(0:Int)≤(k:Int):=by omega
   have HAT:Hid (e.aT=some ⟨g,off,none⟩):=ha;rw [ha] at x0;clear hc;by_cases hx:t.tx=tx
   ·have hxb:(t.tx == tx)=true:=by simp [hx]
    have HE:Hid (jC e.txs tx=(k:Int)):=Lb.out hx hall.out;clear hx ha;go_wp2;go_ret;exact ⟨rfl,.inr ⟨k,g,off,hlt,HE.out,HAT.out,rfl⟩⟩
   ·have hxb:(t.tx == tx)=false:=by simpa using hx
    have HK:Hid (∀ j,j<k+1→(e.txs.getD j qz).tx≠tx):=fun j hj=>by
     by_cases q:j=k
     ·rw [q,ht.out];exact hx
     ·exact hall.out j (by omega)
    clear hx ha;go_wp2_with fail;go_roundw
    case rel=>exact ⟨k+1,by omega,by go_num,HK,trivial⟩
    case measure=>simp [intOf];omega
  ·have e1:k=e.txs.length:=by omega
   have HE:Hid (jC e.txs tx= -1):=HN.out (by rw [e1] at hall;exact hall.out);have hge:¬ (k:Int)<(e.txs.length:Int):=by omega
   clear hall e1;go_wp2;go_ret;exact ⟨rfl,.inl ⟨rfl,HE.out⟩⟩
def Va (o:Int) (x s:qj):ql:=⟨0,0,0,1,o,x,s,0,[],none,0⟩
def wX (e:qR) (k o:Nat) (x:qO):xS:=⟨0,(e.txs.getD k qz).tx,(e.txs.getD k qz).last,1,o,QE (qJ e (o / 4)) o,x,0,[]⟩
def wS (e:qR) (k o:Nat) (x:qO):qR:={ NK (qJ e (o / 4)) (wX e k o x) with txs:=e.txs.set k { (e.txs.getD k qz) with last:=(e.log.recs.length:Int)+1 } }
def setR (e:qR) (k o:Nat) (x:qO):qR:=WQ (wS e k o x) (o / 4) (vW (wX e k o x) ((e.log.recs.length:Int)+1))
structure MV (e:qR) (k o:Nat) (x:qO):Prop where
 okr:xx (vW (wX e k o x) ((e.log.recs.length:Int)+1))=true
 pool:∀ t:qb,t.v=wS e k o x→t.shape→t.v.zZ∧t.short 1048576
 seat:∃ j:Nat,j<(qJ (wS e k o x) (o / 4)).seats.length∧qG (qJ (wS e k o x) (o / 4)).seats (o / 4:Nat)=j
 fits:Hid (∀ t:qb,t.v=qJ (wS e k o x) (o / 4)→t.short 1048576)
 done:∃ D:Int × List qO,(zP (uL (qJ (wS e k o x) (o / 4)) (o / 4)).lsn (uL (qJ (wS e k o x) (o / 4)) (o / 4)).ss (vW (wX e k o x) ((e.log.recs.length:Int)+1))=D∧redoOk (uL (qJ (wS e k o x) (o / 4)) (o / 4)).lsn (uL (qJ (wS e k o x) (o / 4)) (o / 4)).ss (vW (wX e k o x) ((e.log.recs.length:Int)+1))=true)∧Hid (D.2.length=4)∧Hid (Gq D.2)
theorem Xp (e:qR) (n:Nat):(qJ e n).txs=e.txs∧(qJ e n).log.recs=e.log.recs∧(qJ e n).holds=e.holds:=by
 unfold qJ Qn;split
 ·exact ⟨rfl,rfl,rfl⟩
 ·simp only;split<;>exact ⟨rfl,rfl,rfl⟩
theorem Tp {e e1:qb} {n:Nat} (h:e1.v=qJ e.v n) (hr:e1.log.recs=e.log.recs) (hs:e.log.sure≤e.log.recs.length):e1.log.sure≤e1.log.recs.length:=by
 have h1:e1.log.sure=(qJ e.v n).log.sure:=qcz (fun z:qR=>z.log.sure) h;have h2:e.v.log.recs.length=e.log.recs.length:=by simp [qb.v,qI.v]
 have h3:e.v.log.sure=e.log.sure:=rfl;rw [h1,hr];unfold qJ Qn;split
 ·exact hs
 ·simp only;split
  ·simp only [uf,h2,h3];omega
  ·exact hs
theorem dC (w:World) (oid:Int) (b a:qj):(Instr.build 124 #[(3,Value.int .i64 1),(4,Value.int .i64 oid),(5,Value.agg b.cells.toArray),(6,Value.agg a.cells.toArray)]).run prog w=.ok (.agg (Va oid b a).cells.toArray) w:=run_build w _ _ _ (by kernel_rfl)
theorem EI (w:World) (tx p:Int):(Instr.build 141 #[(0,Value.int .i64 tx),(1,Value.int .i64 p)]).run prog w=.ok (.agg #[.int .i64 tx,.int .i64 p]) w:=run_build w _ _ _ (by kernel_rfl)
theorem Tq {w:World} {o:Oper} {a:Act} {K:Act→World→Prop} {Q:Exit→Act→World→Prop} (m x v:Operand) (hop:o.op=Op.mapUpdate 134 m x v)
  (B:Nat) (ms:List jl) (c:jl) (hm:a.eval m=.map (some B)) (hx:a.eval x=.int .i64 c.key) (hv:a.eval v=.agg #[.int .i64 c.tx,.int .i64 c.place]) (h:MapAt w B ms)
  (hK:∀ w',MapAt w' B (vZ c ms)→w.grownBy w' (some B)→K (a.put o.dst undef) w'):Oper.wp prog o a w K Q:=by
 obtain ⟨w',hrun,r1,r2⟩:=gJ h c;unfold Oper.wp;simp [execOp,hop,hm,hx,hv,hrun,Result.andThen];exact hK w' r1 r2
theorem Rh (M:Nat) (n:Int) (R:Nat) (e:qb) (tx:Int) (w:World) (h:yR M n w R e) (hlt:e.txs.length≤1000):
  Calls prog 84 #[.pointer (some ⟨R,0,none⟩),.int .i64 tx] w fun r w'=>w'=w∧((r=.returned (.pointer none)∧jC e.txs tx= -1)∨∃ (k g:Nat),k<e.txs.length∧jC e.txs tx=(k:Int)∧e.aT=some ⟨g,0,none⟩∧r=.returned (.pointer (some ⟨g,k*3,none⟩))):=by
 refine (qcu R e h.shape M n tx w h.box h.own.txs.reads (by omega)).mono ?_;rintro r w' ⟨rfl,q | ⟨k,g,off,hk,hlv,ha,rfl⟩⟩
 ·exact ⟨rfl,.inl q⟩
 ·have:off=0:=by
   rcases h.own.txs.1.2 with ⟨_,h0⟩ | ⟨g1,cap',cur,hv,_⟩
   ·omega
   ·simp only [qcK] at hv;rw [ha] at hv;simp only [qeL,Addr.mk.injEq] at hv;exact hv.1.2.1
  subst this;exact ⟨rfl,.inr ⟨k,g,hk,hlv,ha,by rw [qeK]⟩⟩
theorem j3.qa1 {M:Nat} {m:Int} {w:World} {R:Nat} {e:qb} (h:yR M m w R e) (n:Int):
  ∃ W,Hid (w.setCell ⟨R,145,none⟩ (.int .i64 n)=W)∧yR M n W R e∧Touch [R] w W∧W.heap.size=w.heap.size:=by
 obtain ⟨W,hW,b,hw,hs⟩:=jZ h.box 145 (.int .i64 n);have t:Touch [R] w W:=hw.QG;have e1:=run_set h.shape M m 9 (.int .i64 n);rw [show 136+9=145 from rfl] at e1;have e2:e.run M n=qx e.disk++(e.uN M m).set 9 (.int .i64 n):=by rw [vV];rfl
 refine ⟨W,hW,⟨by rw [e2,← e1];exact b,h.shape,?_,h.off⟩,t,hs⟩;exact (h.own.touch t (fun k hk hm=>h.off (by rw [← qac.1 hm];exact hk))).widen qg (by omega) qg
theorem runSet_calls (M:Nat) (m:Int) (R:Nat) (e:qb) (o k g:Nat) (s:qj) (w W u:World) (h:yR M m w R e) (hg:jR w) (hG:Off R e 0) (hp:e.v.zZ) (hls:e.short 1048576) (Qi:e.log.sure≤e.log.recs.length) (h32:o<32) (hl:e.log.recs.length≤3980)
  (hr:∀ u,Touch (R::e.blocks) w u→s.reads u) (hfs:s.v.o.ints.length≤1048576∧s.v.o.refs.length≤1048576) (HK:∃ k:Nat,k<(qJ e.v (o / 4)).seats.length∧qG (qJ e.v (o / 4)).seats (o / 4:Nat)=k) (XH:Hid (∀ t:qb,t.v=qJ e.v (o / 4)→t.short 1048576)) (hk:k<e.txs.length) (hga:e.aT=some ⟨g,0,none⟩) (HA:MV e.v k o s.v)
  (bS:Box W w.heap.size s.cells 45) (hbW:qa w W) (hu:qa W u):
  Calls prog 86 #[.pointer (some ⟨R,0,none⟩),.int .i64 o] u fun r u1=>∃ x:qj,r=.returned (.agg x.cells.toArray)∧u1.rangeAt w.heap.size 0 s.cells∧
   Calls prog 85 #[.pointer (some ⟨R,0,none⟩),.pointer (some ⟨g,k*3,none⟩),.agg (Va o x s).cells.toArray] u1 fun r u2=>r=.returned (.int .i64 ((e.log.recs.length:Int)+1))∧u2.rangeAt w.heap.size 0 s.cells∧
    Calls prog 88 #[.pointer (some ⟨R,0,none⟩),.int .i64 ((e.log.recs.length:Int)+1)] u2 fun r u3=>∃ y:ql,r=.returned (.agg y.cells.toArray)∧
     Calls prog 87 #[.pointer (some ⟨R,0,none⟩),.agg y.cells.toArray] u3 fun r u4=>(∃ v,r=.returned v)∧Hid (∃ e',Hid (e'.v=setR e.v k o s.v)∧ky M m R e w e' u4):=by
 have hwu:=qf hbW hu;have a0:=h.below hwu;have hoff:Off R e w.heap.size:=h.new qg;have bSu:=bS.below hu bS.lt;refine (EH M m R e o u a0 (hg.keep hwu) hp hls.pool Qi h32 HK XH).mono ?_;rintro r u1 ⟨x,rfl,hxv,e1,b,hv1,hr1,ox,hb1,hub,s1⟩;have bS1:=s1.boxes bSu hoff;refine ⟨x,rfl,qN bS1,?_⟩;have s01:ky M m R e w e1 u1:=ji.after hwu s1;obtain ⟨f1,f2,f3⟩:=Xp e.v (o / 4);have t1:e1.txs=e.txs:=by have:=qcz qR.txs hv1.out;rw [f1] at this;exact this
 have n1:e1.log.recs.length=e.log.recs.length:=by rw [hr1.out.1]
 have hxs:x.v.o.ints.length≤1048576∧x.v.o.refs.length≤1048576:=by
  rw [hxv.out];unfold QE;have hsh:=XH.out e1 hv1.out;obtain ⟨j,hj,hsj⟩:=HK;have h4:(qJ e.v (o / 4)).seats=e1.seats.map qh.v:=(qcz qR.seats hv1.out).symm;rw [hsj,qcU,h4,kM];have hj1:j<e1.seats.length:=by rw [h4] at hj;simpa using hj
  have hq:(e1.seats.getD j qi).v.ss=(e1.seats.getD j qi).ss.map (·.v):=rfl;rw [hq,eU];exact hsh.pool.each _ (xE _ j hj1) _ (by
   have:o % 4<(e1.seats.getD j qi).ss.length:=by show o % 4<4;omega
   exact (fun (ls:List qj) (i:Nat) (hi:i<ls.length)=>(by simp [List.getD,hi]:ls.getD i qw∈ls)) _ _ this)
 have QF:s.reads u1:=hr u1 s01.touch;have hrr:(Va o x s).reads u1:=⟨OwnO.reads ox,QF,kQ.nil _ _⟩;have hrs:(Va o x s).short 1099511627776:=⟨⟨qcx hxs.1 (by decide),qcx hxs.2 (by decide)⟩,⟨qcx hfs.1 (by decide),qcx hfs.2 (by decide)⟩,qaw _⟩;have hrv:((Va o x s).told (e1.txs.getD k qz).tx (e1.txs.getD k qz).last).v=wX e.v k o s.v:=by
  rw [t1];show (⟨0,_,_,1,_,x.v,s.v,0,[]⟩:xS)=_;rw [hxv.out];rfl
 have hLv:e.v.log.recs.length=e.log.recs.length:=by simp [qb.v,qI.v]
 have hG1:Off R e1 0:=s01.off hg.lt hG;have hg1:jR u1:=jR.NB hg s01 hG;refine (tJ M m R e1 k (Va o x s) u1 s1.at' hg1 (by rw [t1];exact hk) g (by rw [hr1.out.2];exact hga) (by omega) hrr hrs (fun _=>rfl) (by rw [hrv,n1,← hLv];exact HA.okr)).mono ?_;rintro r u2 ⟨rfl,e2,hv2,ha2,s2⟩;have bS2:=s2.boxes bS1 (s1.off (by have:=bSu.lt;exact this) hoff);rw [n1];refine ⟨rfl,qN bS2,?_⟩;have s02:ky M m R e w e2 u2:=s01.trans s2;have gK:e2.v=wS e.v k o s.v:=by
  rw [hv2.out,hrv,hv1.out,t1,n1,← hLv];rfl
 have hrec:e2.v.log.recs=e.v.log.recs++[vW (wX e.v k o s.v) ((e.v.log.recs.length:Int)+1)]:=by
  rw [gK];show (qJ e.v (o / 4)).log.recs++[vW _ _]=_;rw [f2]
 have n2:e2.log.recs.length=e.log.recs.length+1:=by
  have:=qcz List.length hrec
  simpa [qb.v,qI.v] using this
 refine (il M m R e2 e.log.recs.length u2 s2.at' (by omega) (by omega)).mono ?_;rintro r u3 ⟨rfl,hb3⟩;refine ⟨_,rfl,?_⟩;obtain ⟨y,hy⟩:=qV (e2.log.recs.getD e.log.recs.length qE);have hyv:y.v=vW (wX e.v k o s.v) ((e.v.log.recs.length:Int)+1):=by
  rw [← hy.out,← Hw];show e2.v.log.recs.getD e.log.recs.length _=_;rw [hrec,List.getD,qcQ (by omega),hLv,qfV];rfl
 rw [hy.out];have s23:=s2.below hb3;have s03:ky M m R e w e2 u3:=s01.trans s23;have hys:y.short 1099511627776:=by
  have e1:({ (Va o x s).told (e1.txs.getD k qz).tx (e1.txs.getD k qz).last with lsn:=(e.v.log.recs.length:Int)+1 }:ql).v=y.v:=by
   rw [hyv,← hrv];rfl
  exact Go.Proofs.YtnfdccldabbobaaGreatDoor.xq e1.symm ⟨hrs.bf,hrs.af,hrs.txs⟩
 have hyo:y.oid=(o:Int):=qcz xS.oid hyv;obtain ⟨hp2,hs2⟩:=HA.pool e2 gK s2.at'.shape;obtain ⟨D,hD,hD4,hDF⟩:=HA.done;have hsu:e2.log.sure≤e2.log.recs.length:=by
  have h1:e2.log.sure=e1.log.sure:=qcz (fun z:qR=>z.log.sure) hv2.out;have h2:e1.log.sure≤e1.log.recs.length:=Tp hv1.out hr1.out.1 Qi;omega
 refine (Rf M m R e2 e.log.recs.length o y u3 s23.at' (jR.NB hg s03 hG) (s03.off hg.lt hG) hp2 hs2.pool hsu (by omega) hy hys hyo h32 (by rw [gK];exact HA.seat) (by rw [gK];exact HA.fits) D (by rw [gK,hyv];exact hD) hD4 hDF).mono ?_;rintro r u4 ⟨hr4,e',hv4,s4⟩;refine ⟨hr4,e',?_,s03.trans s4⟩;rw [Hid,hv4.out,gK,hyv];rfl
def Vx (M:Nat) (m:Int) (R:Nat) (e:qb) (tx:Int) (o:Nat) (s:qj) (ms:List jl) (w:World) (r:Ending) (w':World):Prop:=
   (jC e.txs tx= -1∧r=.returned (.int .i64 2)∧qa w w')∨
   (jC e.txs tx≠ -1∧(xV o ms).isSome=true∧(kg o ms).tx≠tx∧r=.returned (.int .i64 3)∧qa w w')∨
   (∃ k:Nat,k<e.txs.length∧jC e.txs tx=(k:Int)∧((xV o ms).isSome=true→(kg o ms).tx=tx)∧r=.returned (.int .i64 0)∧∃ (e':qb) (n:Int),Hid (e'.v=setR e.v k o s.v)∧yR M n w' R e'∧MapAt w' M (if (xV o ms).isSome=true then ms else vZ ⟨o,tx,m⟩ ms)∧Touch (M::R::e.blocks) w w'∧(∀ k∈e'.blocks,k∈e.blocks∨w.heap.size≤k))
theorem Au (M:Nat) (m:Int) (R:Nat) (e:qb) (tx:Int) (o:Nat) (s:qj) (ms:List jl) (w:World) (h:yR M m w R e) (hg:jR w) (hG:Off R e 0) (hm:MapAt w M ms) (hM:Off R e M) (hm0:0≤m∧m≤1048576) (hp:e.v.zZ) (hls:e.short 1048576) (Qi:e.log.sure≤e.log.recs.length) (h32:o<32) (hl:e.log.recs.length≤3980) (hlt:e.txs.length≤1000)
  (hr:∀ u,Touch (R::e.blocks) w u→s.reads u) (hfs:s.v.o.ints.length≤1048576∧s.v.o.refs.length≤1048576) (HK:∃ k:Nat,k<(qJ e.v (o / 4)).seats.length∧qG (qJ e.v (o / 4)).seats (o / 4:Nat)=k) (XH:Hid (∀ t:qb,t.v=qJ e.v (o / 4)→t.short 1048576)) (HA:∀ k,k<e.txs.length→MV e.v k o s.v):
  Calls prog 39 #[.pointer (some ⟨R,0,none⟩),.int .i64 tx,.int .i64 o,.agg s.cells.toArray] w fun r w'=>Vx M m R e tx o s ms w r w':=by
 obtain ⟨W,hW,bS,hbW,qD⟩:=qB w s.cells 45;have HGO:Hid (∀ (k g:Nat),k<e.txs.length→e.aT=some ⟨g,0,none⟩→jC e.txs tx=(k:Int)→∀ u,qa W u→
   Calls prog 86 #[.pointer (some ⟨R,0,none⟩),.int .i64 o] u fun r u1=>∃ x:qj,r=.returned (.agg x.cells.toArray)∧u1.rangeAt w.heap.size 0 s.cells∧
   Calls prog 85 #[.pointer (some ⟨R,0,none⟩),.pointer (some ⟨g,k*3,none⟩),.agg (Va o x s).cells.toArray] u1 fun r u2=>r=.returned (.int .i64 ((e.log.recs.length:Int)+1))∧u2.rangeAt w.heap.size 0 s.cells∧
    Calls prog 88 #[.pointer (some ⟨R,0,none⟩),.int .i64 ((e.log.recs.length:Int)+1)] u2 fun r u3=>∃ y:ql,r=.returned (.agg y.cells.toArray)∧
     Calls prog 87 #[.pointer (some ⟨R,0,none⟩),.agg y.cells.toArray] u3 fun r u4=>(∃ v,r=.returned v)∧Hid (∃ e',Hid (e'.v=setR e.v k o s.v)∧ky M m R e w e' u4)):=fun k g hk hga _ u hu=>
  runSet_calls M m R e o k g s w W u h hg hG hp hls Qi h32 hl hr hfs HK XH hk hga (HA k hk) bS hbW hu
 have a1:=h.below hbW;have CL:=Rh M m R e tx W a1 hlt;have hmW:=hm.below hbW;have qmC:W.cell? ⟨R,144,none⟩=some (.map (some M)):=a1.Y7 8 _ rfl;have HMO:Hid (M<w.heap.size∧Off R e M):=⟨hm.lt,hM⟩;have HMW:Hid (MapAt w M ms):=hm;have ZG:Hid (qa w W):=hbW;have HN:Hid (w.heap.size<W.heap.size):=(by omega:w.heap.size<W.heap.size);obtain ⟨ac,hac⟩:=qV (kg o ms);obtain ⟨hd,hhd⟩:=qV ((xV o ms).isSome);have hlk:=Yf hmW (o:Int) true;rw [hac.out,hhd.out] at hlk;rw [qan rfl] at hlk;obtain ⟨Z,hZ,bZ,yF,zx⟩:=qB W [.int .i64 0,.int .i64 0] 141;obtain ⟨Z2,hZ2,b2,hw2,hs2⟩:=jE [] [.int .i64 0,.int .i64 0] [.int .i64 ac.tx,.int .i64 ac.place] [] (by simpa using bZ) rfl;have HT2:Hid (Z.there W.heap.size 0 2):=bZ.there 0 _ (by decide);have b2':Box Z2 W.heap.size [.int .i64 ac.tx,.int .i64 ac.place] 141:=by simpa using b2
 have y0:=b2'.cell 0 _ rfl;have Ri:Hid (qa W Z2):=yF.trans (hw2.below qg (by omega));have DC:Hid (∀ u,qa Z2 u→u.rangeAt w.heap.size 0 s.cells):=fun u hu=>Box.range [] _ [] (by simpa using bS.below (Ri.out.trans (hu.mono Ri.out.size)) bS.lt)
 have HIC:Hid ((prog.info? 141).map (·.size)=some 2):=by rw [Hid];kernel_rfl
 have qhE:Hid (Z.setCells W.heap.size 0 [.int .i64 ac.tx,.int .i64 ac.place]=Z2):=hZ2;have hZ':Hid (W.alloc (.cells #[.int .i64 0,.int .i64 0] 141)=Z):=hZ.out;have HOC:∀ a b:Int,(#[Value.int .i64 a,Value.int .i64 b]).all (·.oneCell')=true:=fun a b=>qaf (cs:=[.int .i64 a,.int .i64 b]) (fun v hv=>by
  simp only [qcv,qdu,qfL] at hv;rcases hv with rfl | rfl<;>rfl)
 clear h hg hG hp hls Qi hr HK XH HA bS hbW qD a1 hmW hm yF zx bZ b2 hw2 hs2 b2' hZ hZ2 hM;go_enter func39,ntmps39;go_upto_region 1 with fail;rw [hW.out];clear hW;go_wp2_with fail;refine CL.mono ?_;clear CL;rintro r w0 ⟨rfl,⟨rfl,hlv⟩ | ⟨k,g,hk,hlv,ha,rfl⟩⟩
 ·have Yb:Hid (_=_):=hlv;clear hlv hlk;go_wp2_with fail;go_ret;unfold Vx;exact .inl ⟨Yb.out,rfl,ZG.out⟩
 have Rj:Hid (_=_):=hlv;have HA0:Hid (_=_):=ha;clear hlv ha;go_upto_region 5 with (first | (guard_target=ja 10;refine jb 141 10 25 w0.heap.size 0 (#[.int .i64 ac.tx,.int .i64 ac.place]) (by rw [hZ'.out];exact HT2.out) HIC.out (HOC _ _) ?_) | fail);rw [hZ'.out,qhE.out];clear hlk hZ' qhE qmC HT2;have jr:Hid (∀ (u:World) (e':qb),Hid (e'.v=setR e.v k o s.v)→ky M m R e w e' u→MapAt u M ms):=fun u e' _ st=>by
  obtain ⟨es,clock,q1,q2⟩:=HMW.out;exact ⟨es,clock,by rw [st.block HMO.out.1 HMO.out.2];exact q1,q2⟩
 cases hd with
 | true=>
  by_cases hx:ac.tx=tx
  ·have hxb:(ac.tx == tx)=true:=by simp [hx]
   have HX:Hid (ac.tx=tx):=hx;have Yb:Hid (_=_):=Rj.out;clear hx;have hSd:=DC.out Z2.drew ((qab _ _).drew);have C:=HGO.out k g hk HA0.out Rj.out Z2.drew (Ri.out.trans ((qab _ _).drew.mono Ri.out.size));go_upto_region 7 with fail;refine qaZ (S:=fun u=>u.rangeAt w.heap.size 0 s.cells) (by kernel_rfl) hSd (fun qc=>?_);generalize Z2.drew=d0 at*
   refine yt 0 (.pointer (some ⟨R,0,none⟩)) ?_;refine yt 1 (.pointer (some ⟨g,k*3,none⟩)) ?_;refine yt 2 (.int .i64 (o:Int)) ?_;refine yt 3 (.pointer (some ⟨R,0,none⟩)) ?_;refine yt 4 (.int .i64 (o:Int)) ?_;refine Bo 6 rfl (qfK (by rfl) _ _ rfl _ _ rfl (s.cells) _ (fun _ h=>h) underlying45 rfl (zg s)) ?_;refine qde (rs:=[5]) (by kernel_rfl) (by simp) ?_;refine qcE rfl (fun K hK=>?_) qc9;go_simp;refine C.mono ?_;clear C;rintro r u1 ⟨x,rfl,hS1,C2⟩;refine hK.out _ _ (hS1) (fun qc=>?_);clear hK K ;try simp only [zz]
   refine tk 7 (v:=.agg (Va o x s).cells.toArray) rfl (Or.inl ⟨by rfl,?_⟩) qc ?_
   ·intro w' hSw;have hx:=dC w' (o:Int) x s;go_simp<;>rfl
   try simp only [zz]
   refine qde (rs:=[8]) (by kernel_rfl) (by simp) ?_;refine qcE rfl (fun K hK=>?_) qc9;go_simp;refine C2.mono ?_;clear C2;rintro r u2 ⟨rfl,hS2,C3⟩;refine hK.out _ _ (hS2) (fun qc=>?_);clear hK K ;try simp only [zz]
   refine yt 9 (.int .i64 ((e.log.recs.length:Int)+1)) ?_;refine qau (by kernel_rfl) ?_ _;clear qc hSd;go_wp2_with fail;refine C3.mono ?_;clear C3;rintro r u3 ⟨y,rfl,C4⟩;go_wp2_with fail;refine C4.mono ?_;clear C4;rintro r u4 ⟨⟨v4,rfl⟩,HE4⟩;obtain ⟨e',hv',s'⟩:=HE4.out;have HF:Hid (∃ (e':qb) (n:Int),Hid (e'.v=setR e.v k o s.v)∧yR M n u4 R e'∧MapAt u4 M ms∧Touch (M::R::e.blocks) w u4∧(∀ k∈e'.blocks,k∈e.blocks∨w.heap.size≤k)):=⟨e',m,hv',s'.at',jr.out u4 e' hv' s',s'.touch.mono (fun j hj=>qcO _ hj),s'.fresh⟩;clear s' hv' HE4 jr;go_wp2_with fail;go_ret;unfold Vx;rw [hac.out,hhd.out];refine .inr (.inr ⟨k,hk,Yb.out,fun _=>HX.out,rfl,?_⟩);rw [qan rfl];exact HF.out
  ·have hxb:(ac.tx == tx)=false:=by simpa using hx
   have HX:Hid (ac.tx≠tx):=hx;have Yb:Hid (jC e.txs tx≠ -1):=(by rw [Rj.out];omega:jC e.txs tx≠ -1);have HE:Hid (qa w Z2):=ZG.out.trans (Ri.out.mono ZG.out.size);clear hx;go_wp2_with fail;go_ret;unfold Vx;rw [hac.out,hhd.out];exact .inr (.inl ⟨Yb.out,rfl,HX.out,rfl,HE.out⟩)
 | false=>
   have Yb:Hid (_=_):=Rj.out;have hSd:=DC.out Z2.drew ((qab _ _).drew);have C:=HGO.out k g hk HA0.out Rj.out Z2.drew (Ri.out.trans ((qab _ _).drew.mono Ri.out.size));go_upto_region 7 with fail;refine qaZ (S:=fun u=>u.rangeAt w.heap.size 0 s.cells) (by kernel_rfl) hSd (fun qc=>?_);generalize Z2.drew=d0 at*
   refine yt 0 (.pointer (some ⟨R,0,none⟩)) ?_;refine yt 1 (.pointer (some ⟨g,k*3,none⟩)) ?_;refine yt 2 (.int .i64 (o:Int)) ?_;refine yt 3 (.pointer (some ⟨R,0,none⟩)) ?_;refine yt 4 (.int .i64 (o:Int)) ?_;refine Bo 6 rfl (qfK (by rfl) _ _ rfl _ _ rfl (s.cells) _ (fun _ h=>h) underlying45 rfl (zg s)) ?_;refine qde (rs:=[5]) (by kernel_rfl) (by simp) ?_;refine qcE rfl (fun K hK=>?_) qc9;go_simp;refine C.mono ?_;clear C;rintro r u1 ⟨x,rfl,hS1,C2⟩;refine hK.out _ _ (hS1) (fun qc=>?_);clear hK K ;try simp only [zz]
   refine tk 7 (v:=.agg (Va o x s).cells.toArray) rfl (Or.inl ⟨by rfl,?_⟩) qc ?_
   ·intro w' hSw;have hx:=dC w' (o:Int) x s;go_simp<;>rfl
   try simp only [zz]
   refine qde (rs:=[8]) (by kernel_rfl) (by simp) ?_;refine qcE rfl (fun K hK=>?_) qc9;go_simp;refine C2.mono ?_;clear C2;rintro r u2 ⟨rfl,hS2,C3⟩;refine hK.out _ _ (hS2) (fun qc=>?_);clear hK K ;try simp only [zz]
   refine yt 9 (.int .i64 ((e.log.recs.length:Int)+1)) ?_;refine qau (by kernel_rfl) ?_ _;clear qc hSd;go_wp2_with fail;refine C3.mono ?_;clear C3;rintro r u3 ⟨y,rfl,C4⟩;go_wp2_with fail;refine C4.mono ?_;clear C4;rintro r u4 ⟨⟨v4,rfl⟩,HE4⟩;obtain ⟨e',hv',s'⟩:=HE4.out;have mE:=jr.out u4 e' hv' s';have hMo:Off R e' M:=s'.off HMO.out.1 HMO.out.2;have HCR:Hid (∀ u,yR M m u R e'→u.cell? ⟨R,144,none⟩=some (.map (some M))∧u.cell? ⟨R,145,none⟩=some (.int .i64 m)):=fun u hu=>⟨hu.Y7 8 _ rfl,hu.Y7 9 _ rfl⟩
   clear HE4 jr;go_upto_region 10 with fail;have BD:qa u4 u4.drew:=(qab _ _).drew;have sD:=s'.below BD;have mD:=mE.below BD;refine qaZ (S:=fun u=>u.cell? ⟨R,144,none⟩=some (.map (some M))∧u.cell? ⟨R,145,none⟩=some (.int .i64 m)) (by kernel_rfl) (HCR.out _ sD.at') (fun qc=>?_);generalize u4.drew=d4 at*
   refine yt 0 (.pointer (some ⟨R,0,none⟩)) ?_;refine yt 1 (.pointer (some ⟨R,0,none⟩)) ?_;refine yt 2 (.pointer (some ⟨R,144,none⟩)) ?_;refine tk 3 (v:=.map (some M)) rfl (Or.inl ⟨by rfl,?_⟩) qc ?_
   ·intro w' hSw;have hx:=hSw.1;go_simp<;>rfl
   try simp only [zz]
   refine yt 4 (.int .i64 (o:Int)) ?_;refine yt 5 (.int .i64 tx) ?_;refine yt 6 (.pointer (some ⟨R,0,none⟩)) ?_;refine yt 7 (.pointer (some ⟨R,0,none⟩)) ?_;refine yt 8 (.pointer (some ⟨R,145,none⟩)) ?_;refine tk 9 (v:=.int .i64 m) rfl (Or.inl ⟨by rfl,?_⟩) qc ?_
   ·intro w' hSw;have hx:=hSw.2;go_simp<;>rfl
   try simp only [zz]
   refine tk 10 (v:=.agg #[.int .i64 tx,.int .i64 m]) rfl (Or.inl ⟨by rfl,?_⟩) qc ?_
   ·intro w' hSw;have hx:=EI w' tx m;go_simp<;>rfl
   try simp only [zz]
   refine qde (rs:=[11]) (by kernel_rfl) (by simp) ?_;refine qcE rfl (fun K hK=>?_) qc9;rw [qan (by rfl)];refine Tq _ _ _ rfl M ms ⟨o,tx,m⟩ rfl rfl rfl mD ?_;intro d5 m5 g5;have t5:Touch [M] d4 d5:=Touch.jO g5 (fun j hj=>by cases hj;simp);have a5:yR M m d5 R e':=sD.at'.touch t5 (by simpa using hMo.1.symm) (fun j hj hm=>hMo.2 (by rw [← qac.1 hm];exact hj));obtain ⟨d6,hd6,a6,t6,z6⟩:=a5.qa1 (m+1);have m6:MapAt d6 M (vZ ⟨o,tx,m⟩ ms):=m5.touch t6 (by simpa using hMo.1);have qqf:d5.cell? ⟨R,145,none⟩=some (.int .i64 m):=a5.Y7 9 _ rfl;have f145:=a5.box.frozen 145;have HF:Hid (∃ (e':qb) (n:Int),Hid (e'.v=setR e.v k o s.v)∧yR M n d6 R e'∧MapAt d6 M (vZ ⟨o,tx,m⟩ ms)∧Touch (M::R::e.blocks) w d6∧(∀ k∈e'.blocks,k∈e.blocks∨w.heap.size≤k)):=⟨e',m+1,hv',a6,m6,((sD.touch.mono (fun j hj=>qcO _ hj)).trans (t5.mono (fun j hj=>by rw [qac.1 hj];exact qfd))).trans (t6.mono (fun j hj=>by rw [qac.1 hj];exact qcO _ qfd)),sD.fresh⟩;refine hK.out _ _ (HCR.out _ a5) (fun qc=>?_);clear hK K;try simp only [Act.put,zA,zB,zC]
   refine qau (by kernel_rfl) ?_ _;clear qc sD mD s' mE hv' BD a5 a6 m5 m6 t5 t6 g5 HCR;have hm1:=hm0.1;have hm2:=hm0.2;go_wp2_with fail;rw [hd6.out];go_ret;unfold Vx;rw [hac.out,hhd.out];refine .inr (.inr ⟨k,hk,Yb.out,fun q=>by (cases q),rfl,?_⟩);rw [qa2 (by decide)];exact HF.out
end Go.Proofs.YtnfdccldabbobaaGreatDoor
