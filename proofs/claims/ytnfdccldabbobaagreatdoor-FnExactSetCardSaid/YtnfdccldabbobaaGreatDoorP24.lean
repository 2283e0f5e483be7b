/- Texts. -/
import Derived.Test.YtnfdccldabbobaaGreatDoorP21
set_option maxHeartbeats 8000000
set_option maxRecDepth 100000
namespace Go.Proofs.YtnfdccldabbobaaGreatDoor
open Go.RowKit Go.Proofs.Tryz
def Dk (p:qo) (no lsn:Int) (ss:List qO) (w:World) (e:Ending) (w':World):Prop:=
 ∃ (t:qo) (b:Bool),e=.returned (.tuple #[.agg t.cells.toArray,.bool b])∧Hid (yV p.v no lsn ss=(t.v,b))∧t.own w' w.heap.size w'.heap.size∧qa w w'
theorem Zo {p:jM} {no lsn:Int} {ss:List qO} (h:yI p no lsn ss=false):yV p no lsn ss=(p,false):=by rw [yV,qa2 (by rw [h];decide)]
theorem H9 {p:jM} {no lsn:Int} {ss:List qO} {k:Nat} (h:yI p no lsn ss=true) (hk:qG p.seats no=k):yV p no lsn ss=(yj p k (fun _=>⟨no,lsn,ss,true,true⟩),true):=by
 rw [yV,qan h,hk];rfl
theorem qbt {p:jM} {no lsn:Int} {ss:List qO} (h:okPool p=false):yI p no lsn ss=false:=by rw [yI,h];rfl
theorem qbu {p:jM} {no lsn:Int} {ss:List qO} (h:qG p.seats no= -1):yI p no lsn ss=false:=by
 rw [yI,h];simp
theorem qbv {p:jM} {no lsn:Int} {ss:List qO} (h:xZ lsn ss=false):yI p no lsn ss=false:=by
 rw [yI,h];simp
theorem qdX {p:qo} {no lsn:Int} {ss:List qO} {k:Nat} (hk:qG p.v.seats no=k) (h:lsn<(p.seats.getD k qi).lsn):yI p.v no lsn ss=false:=by
 have e:(p.v.seats.getD (qG p.v.seats no).toNat qy).lsn=(p.seats.getD k qi).lsn:=by rw [hk,qo.v,kM];rfl
 rw [yI,e,qa0 (by omega:¬ (p.seats.getD k qi).lsn≤lsn)];simp
theorem qdY {p:qo} {no lsn:Int} {ss:List qO} {k:Nat} (h1:okPool p.v=true) (hk:qG p.v.seats no=k) (h2:xZ lsn ss=true) (h:¬ lsn<(p.seats.getD k qi).lsn):yI p.v no lsn ss=true:=by
 have e:(p.v.seats.getD (qG p.v.seats no).toNat qy).lsn=(p.seats.getD k qi).lsn:=by rw [hk,qo.v,kM];rfl
 rw [yI,e,qaC (by omega:(p.seats.getD k qi).lsn≤lsn),h1,h2,hk];simp
theorem Lf {P:Program} {w w':World} {m:Sem Value} {v:Value} (h:m.run P w=.ok v w'):(do let r ← m;pure (Next.value r):Sem Next).run P w=.ok (.value v) w':=by simp only [qdq,h,qdf,qeJ]
theorem Sb (w:World) (no lsn:Int) (a b c d:qj):(Instr.build 121 #[(0,Value.int .i64 no),(1,Value.agg (qA.cells ⟨lsn,[a,b,c,d]⟩).toArray),(2,Value.bool true),(3,Value.bool true)]).run prog w=.ok (.agg (qh.cells ⟨no,lsn,a,b,c,d,true,true⟩).toArray) w:=run_build w _ _ _ (by kernel_rfl)
theorem lC {P:Prop} (h:P:=by
 rcases oU.row.2 with ⟨_,h0⟩ | ⟨g,cap',cur,hv,_⟩
 ·omega
 ·simp only [qcK] at hv;exact ⟨g,hv.1⟩):P:=h
theorem lD {P:Prop} (h:P:=by
 have e:=qcz (fun v=>v.seats.length) HV.out;simp only [qo.v,qa4] at e;rw [Hid];omega):P:=h
theorem Yl {P:Prop} (h:P:=by
 have e0:=TZ.cell 0 _ rfl;have e1:=TZ.cell 1 _ rfl;have m0:=JA.cell 0 _ rfl;have m1:=JA.cell 1 _ rfl;have Kl:=JA.frozen 0;have mJ:=JA.frozen 1;obtain ⟨WF,qK,bF,hwF,q8⟩:=zM JA (.slice t.a t.seats.length t.c) (.int .i64 t.hand);have q0:=bF.cell 0 _ rfl;have q1:=bF.cell 1 _ rfl;have wh:=(qo.own.within Lg hwF (.inr (by omega))).widen (show w.heap.size≤W.heap.size by omega) (show w1.heap.size≤WF.heap.size by omega) qg;have zN:qa w WF:=nF.trans (hwF.below (by omega) (by omega));clear hwF q8 bF Lg JA TZ kJ;go_wp2_with fail;rw [qK.out];exact qa3 (v:=.tuple #[.agg #[.slice t.a t.seats.length t.c,.int .i64 t.hand],.bool false]) (by simp [results,results136,go_sem,q0,q1]) rfl ⟨t,false,rfl,kI,wh,zN⟩):P:=h
theorem NY (p:qo) (no:Int) (pg:qA) (h4:pg.ss.length=4) (w:World) (hg:jR w) (hr:p.reads w) (hl:p.short 1048576) (Yw:jS w pg.ss) (hlp:Fit pg.ss):
  Calls prog 136 #[.agg p.cells.toArray,.int .i64 no,.agg pg.cells.toArray] w fun e w'=>Dk p no pg.lsn (pg.ss.map (·.v)) w e w':=by
 obtain ⟨W,hW,b3,b5,b6,hbW,qD⟩:=yK w [.slice p.a p.seats.length p.c,.int .i64 p.hand] pg.cells [.slice none 0 0,.int .i64 0] 52 48 52;have hs0:w.heap.size+1+1<W.heap.size:=by omega
 have p0:=b3.cell 0 _ rfl;have p1:=b3.cell 1 _ rfl;have C:=Ql p W (qo.reads.below hr hbW) hl;have HI:Hid ((prog.info? 48).map (·.size)=some pg.cells.length):=Tryz.JE pg h4;simp only [qo.cells] at*
 clear qD;go_enter func136,ntmps136;go_upto_region 1 with fail;rw [hW.out];clear hW;go_wp2_with fail;refine C.mono ?_;clear C p0 p1;rintro e w1 ⟨t,rfl,hv,ho,hb1⟩;have hs1:=hb1.size;have BM:=b3.below hb1 b3.lt;have aa:=b5.below hb1 b5.lt;have b61:=b6.below hb1 b6.lt;obtain ⟨W2,hW2,b8,hb2,hs2⟩:=qB w1 [.slice t.a t.seats.length t.c,.int .i64 t.hand] 52;have b32:=BM.below hb2 BM.lt;have b52:=aa.below hb2 aa.lt;have BN:=b61.below hb2 b61.lt;have o2:=qo.own.below ho hb2;have n2:qa w W2:=(hbW.trans (hb1.mono (by omega))).trans (hb2.mono (by omega));have BP:=b8.lt;clear b3 b5 b6 BM aa b61 ho hb1 hb2 hs2 hbW;go_upto_region 2 with fail;rw [hW2.out];clear hW2;have p0:=b32.cell 0 _ rfl;have p1:=b32.cell 1 _ rfl;have C:=uC p no W2 (qo.reads.below hr n2) (qo.jB hl);simp only [qo.cells] at C;have HV:Hid (t.v=p.v):=hv.out;clear hv;go_wp2_with fail;refine C.mono ?_;clear C p0 p1;rintro e w3 ⟨rfl,hb3⟩;have hs3:=hb3.size;have Jd:=b32.below hb3 b32.lt;have Ja:=b52.below hb3 b52.lt;have nz:=BN.below hb3 BN.lt;have nA:=b8.below hb3 b8.lt;have o3:=qo.own.below o2 hb3;have n3:=qf n2 hb3;have Zp:Hid (∀ u,qa w3 u→qo.reads u p):=fun u hu=>qo.reads.below hr (qf n3 hu)
 have jY:Hid (∀ u,qa w3 u→jS u pg.ss):=fun u hu=>Yw.below (qf n3 hu)
 have Wq:Hid (∀ u,qa w3 u→jR u):=fun u hu=>hg.keep (qf n3 hu)
 have D3:qa w3 w3.drew:=(qab _ _).drew;clear b32 b52 BN b8 o2 n2 hb3;rcases Qp p.v.seats no with ⟨k,hk,_,_,hsk⟩ | ⟨_,hsk⟩
 case inr=>
  have kI:Hid (yV p.v no pg.lsn (pg.ss.map (·.v))=(t.v,false)):=by rw [Hid,Zo (qbu hsk),HV.out]
  rw [hsk];clear hsk HV;go_upto_region 3 with fail;have kJ:Hid (∀ u,qa w3 u→((u.cell? ⟨w.heap.size,0,none⟩=some (.slice p.a p.seats.length p.c)∧u.cell? ⟨w.heap.size,1,none⟩=some (.int .i64 p.hand))∧u.rangeAt (w.heap.size+1) 0 pg.cells)∧True):=fun u hu=>⟨⟨⟨(Jd.below hu Jd.lt).cell 0 _ rfl,(Jd.below hu Jd.lt).cell 1 _ rfl⟩,qN (Ja.below hu Ja.lt)⟩,trivial⟩
  refine wU kJ D3 fun qc=>?_
  iterate 24 refine jv ?_
  refine qau (by kernel_rfl) ?_ _;obtain ⟨vv,hvv⟩:=qV w3.drew;have Lh:qa w3 vv:=by rw [← hvv.out];exact D3
  rw [hvv.out] at qc ⊢;clear hvv;clear qc;have JA:=nz.below Lh nz.lt;have TZ:=nA.below Lh nA.lt;have Lg:=qo.own.below o3 Lh;have nF:=qf n3 Lh;have sF:=Lh.size;exact Yl
 case inl=>
  have hkp:k<p.seats.length:=by simpa [qo.v] using hk
  have HKT:Hid (k<t.seats.length):=by
   exact lD
  obtain ⟨bp,op,hpa,hcell⟩:=(Zp.out w3 (qab _ _)) (by intro e;rw [e] at hkp;simp at hkp);have hsl:w3.cell? ⟨bp,op+k*20+1,none⟩=some (.int .i64 (p.seats.getD k qi).lsn):=(hcell k hkp).1 1 _ rfl;have Bb:Hid (p.a=some ⟨bp,op,none⟩):=hpa;have hkk:(k:Int)<(p.seats.length:Int):=by omega
  have hk0:(0:Int)≤(k:Int):=by omega
  have Li:Hid (pg.lsn<(p.seats.getD k qi).lsn→yI p.v no pg.lsn (pg.ss.map (·.v))=false):=fun h=>qdX hsk h
  have Lj:Hid (okPool p.v=true→xZ pg.lsn (pg.ss.map (·.v))=true→¬ pg.lsn<(p.seats.getD k qi).lsn→yV p.v no pg.lsn (pg.ss.map (·.v))=(yj p.v k (fun _=>⟨no,pg.lsn,pg.ss.map (·.v),true,true⟩),true)):=fun h1 h2 h3=>H9 (qdY h1 hsk h2 h3) hsk
  rw [hsk];clear hsk hcell hpa hk;generalize (p.seats.getD k qi).lsn=sl at*
  go_upto_region 3 with fail;cases Q9:okPool p.v with
  | false=>
   have kI:Hid (yV p.v no pg.lsn (pg.ss.map (·.v))=(t.v,false)):=by rw [Hid,Zo (qbt Q9),HV.out]
   clear HV Li Lj;have kJ:Hid (∀ u,qa w3 u→((u.cell? ⟨w.heap.size,0,none⟩=some (.slice p.a p.seats.length p.c)∧u.cell? ⟨w.heap.size,1,none⟩=some (.int .i64 p.hand))∧u.rangeAt (w.heap.size+1) 0 pg.cells)∧(u.cell? ⟨bp,op+k*20+1,none⟩=some (.int .i64 sl)∧u.cell? ⟨w.heap.size+1,0,none⟩=some (.int .i64 pg.lsn))):=fun u hu=>⟨⟨⟨(Jd.below hu Jd.lt).cell 0 _ rfl,(Jd.below hu Jd.lt).cell 1 _ rfl⟩,qN (Ja.below hu Ja.lt)⟩,(hu.cell (block_lt hsl)).trans hsl,(Ja.below hu Ja.lt).cell 0 _ rfl⟩
   refine wU kJ D3 fun qc=>?_
   iterate 4 refine jv ?_
   refine jc 4 (fun K hK=>?_);go_simp;have CP:=vg p _ (Wq.out _ D3) (Zp.out _ D3) (qo.jB hl);rw [Q9] at CP;simp only [qo.cells] at CP;refine CP.mono ?_;clear CP;rintro e u1 ⟨rfl,dZ⟩;have E1:=qf D3 dZ;refine qX hK (kJ.out _ E1) fun qc=>?_
   clear hK K;try simp only [zz]
   iterate 19 refine jv ?_
   refine qau (by kernel_rfl) ?_ _;clear qc;have JA:=nz.below E1 nz.lt;have TZ:=nA.below E1 nA.lt;have Lg:=qo.own.below o3 E1;have nF:=qf n3 E1;have sF:=E1.size;exact Yl
  | true=>
   cases YC:xZ pg.lsn (pg.ss.map (·.v)) with
   | false=>
    have kI:Hid (yV p.v no pg.lsn (pg.ss.map (·.v))=(t.v,false)):=by rw [Hid,Zo (qbv YC),HV.out]
    clear HV Li Lj;have kJ:Hid (∀ u,qa w3 u→((u.cell? ⟨w.heap.size,0,none⟩=some (.slice p.a p.seats.length p.c)∧u.cell? ⟨w.heap.size,1,none⟩=some (.int .i64 p.hand))∧u.rangeAt (w.heap.size+1) 0 pg.cells)∧(u.cell? ⟨bp,op+k*20+1,none⟩=some (.int .i64 sl)∧u.cell? ⟨w.heap.size+1,0,none⟩=some (.int .i64 pg.lsn))):=fun u hu=>⟨⟨⟨(Jd.below hu Jd.lt).cell 0 _ rfl,(Jd.below hu Jd.lt).cell 1 _ rfl⟩,qN (Ja.below hu Ja.lt)⟩,(hu.cell (block_lt hsl)).trans hsl,(Ja.below hu Ja.lt).cell 0 _ rfl⟩
    refine wU kJ D3 fun qc=>?_
    iterate 4 refine jv ?_
    refine jc 4 (fun K hK=>?_);go_simp;have CP:=vg p _ (Wq.out _ D3) (Zp.out _ D3) (qo.jB hl);rw [Q9] at CP;simp only [qo.cells] at CP;refine CP.mono ?_;clear CP;rintro e u1 ⟨rfl,dZ⟩;have E1:=qf D3 dZ;refine qX hK (kJ.out _ E1) fun qc=>?_
    clear hK K;try simp only [zz]
    iterate 3 refine jv ?_
    refine xB 8 pg.cells (fun _ h=>h.1.2) underlying48 HI.out ?_;refine jc 9 (fun K hK=>?_);go_simp;refine (vo pg h4 _ (Wq.out _ E1) (jY.out _ E1) hlp).mono ?_;rw [YC];rintro e u2 ⟨rfl,VQ⟩;have E2:=qf E1 VQ;refine qX hK (kJ.out _ E2) fun qc=>?_
    clear hK K;try simp only [zz]
    iterate 14 refine jv ?_
    refine qau (by kernel_rfl) ?_ _;clear qc;have JA:=nz.below E2 nz.lt;have TZ:=nA.below E2 nA.lt;have Lg:=qo.own.below o3 E2;have nF:=qf n3 E2;have sF:=E2.size;exact Yl
   | true=>
    by_cases hlt:pg.lsn<sl
    ·have kI:Hid (yV p.v no pg.lsn (pg.ss.map (·.v))=(t.v,false)):=by rw [Hid,Zo (Li.out hlt),HV.out]
     have K5:decide (pg.lsn<sl)=true:=qaC hlt;clear HV Li Lj;have kJ:Hid (∀ u,qa w3 u→((u.cell? ⟨w.heap.size,0,none⟩=some (.slice p.a p.seats.length p.c)∧u.cell? ⟨w.heap.size,1,none⟩=some (.int .i64 p.hand))∧u.rangeAt (w.heap.size+1) 0 pg.cells)∧(u.cell? ⟨bp,op+k*20+1,none⟩=some (.int .i64 sl)∧u.cell? ⟨w.heap.size+1,0,none⟩=some (.int .i64 pg.lsn))):=fun u hu=>⟨⟨⟨(Jd.below hu Jd.lt).cell 0 _ rfl,(Jd.below hu Jd.lt).cell 1 _ rfl⟩,qN (Ja.below hu Ja.lt)⟩,(hu.cell (block_lt hsl)).trans hsl,(Ja.below hu Ja.lt).cell 0 _ rfl⟩
     refine wU kJ D3 fun qc=>?_
     iterate 4 refine jv ?_
     refine jc 4 (fun K hK=>?_);go_simp;have CP:=vg p _ (Wq.out _ D3) (Zp.out _ D3) (qo.jB hl);rw [Q9] at CP;simp only [qo.cells] at CP;refine CP.mono ?_;clear CP;rintro e u1 ⟨rfl,dZ⟩;have E1:=qf D3 dZ;refine qX hK (kJ.out _ E1) fun qc=>?_
     clear hK K;try simp only [zz]
     iterate 3 refine jv ?_
     refine xB 8 pg.cells (fun _ h=>h.1.2) underlying48 HI.out ?_;refine jc 9 (fun K hK=>?_);go_simp;refine (vo pg h4 _ (Wq.out _ E1) (jY.out _ E1) hlp).mono ?_;rw [YC];rintro e u2 ⟨rfl,VQ⟩;have E2:=qf E1 VQ;refine qX hK (kJ.out _ E2) fun qc=>?_
     clear hK K;try simp only [zz]
     iterate 7 refine jv ?_
     rw [Bb.out] at qc ⊢
     iterate 7 refine jv ?_
     refine qau (by kernel_rfl) ?_ _;clear qc;have JA:=nz.below E2 nz.lt;have TZ:=nA.below E2 nA.lt;have Lg:=qo.own.below o3 E2;have nF:=qf n3 E2;have sF:=E2.size;exact Yl
    ·have QB:Hid (yV p.v no pg.lsn (pg.ss.map (·.v))=_):=Lj.out Q9 YC (by omega);have K5:decide (pg.lsn<sl)=false:=qa0 hlt;clear Li Lj;have kJ:Hid (∀ u,qa w3 u→((u.cell? ⟨w.heap.size,0,none⟩=some (.slice p.a p.seats.length p.c)∧u.cell? ⟨w.heap.size,1,none⟩=some (.int .i64 p.hand))∧u.rangeAt (w.heap.size+1) 0 pg.cells)∧(u.cell? ⟨bp,op+k*20+1,none⟩=some (.int .i64 sl)∧u.cell? ⟨w.heap.size+1,0,none⟩=some (.int .i64 pg.lsn))):=fun u hu=>⟨⟨⟨(Jd.below hu Jd.lt).cell 0 _ rfl,(Jd.below hu Jd.lt).cell 1 _ rfl⟩,qN (Ja.below hu Ja.lt)⟩,(hu.cell (block_lt hsl)).trans hsl,(Ja.below hu Ja.lt).cell 0 _ rfl⟩
     refine wU kJ D3 fun qc=>?_
     iterate 4 refine jv ?_
     refine jc 4 (fun K hK=>?_);go_simp;have CP:=vg p _ (Wq.out _ D3) (Zp.out _ D3) (qo.jB hl);rw [Q9] at CP;simp only [qo.cells] at CP;refine CP.mono ?_;clear CP;rintro e u1 ⟨rfl,dZ⟩;have E1:=qf D3 dZ;refine qX hK (kJ.out _ E1) fun qc=>?_
     clear hK K;try simp only [zz]
     iterate 3 refine jv ?_
     refine xB 8 pg.cells (fun _ h=>h.1.2) underlying48 HI.out ?_;refine jc 9 (fun K hK=>?_);go_simp;refine (vo pg h4 _ (Wq.out _ E1) (jY.out _ E1) hlp).mono ?_;rw [YC];rintro e u2 ⟨rfl,VQ⟩;have E2:=qf E1 VQ;refine qX hK (kJ.out _ E2) fun qc=>?_
     clear hK K;try simp only [zz]
     iterate 7 refine jv ?_
     rw [Bb.out] at qc ⊢
     iterate 7 refine jv ?_
     refine qau (by kernel_rfl) ?_ _;clear qc;have Ll:=Ja.below E2 Ja.lt;have b6U:=nz.below E2 nz.lt;have Lm:=nA.below E2 nA.lt;have oU:=qo.own.below o3 E2;have nU:=qf n3 E2;have sU:=E2.size;obtain ⟨ts,hand,a,c⟩:=t;simp only [qo.own] at oU;have hkt:k<ts.length:=HKT.out;obtain ⟨g,rfl⟩:∃ g,a=some ⟨g,0,none⟩:=by
      exact lC
     have hgl:=(oU.qC g (by simp [qF,Value.ownBlock]));have qoQ:(k:Int)<(ts.length:Int):=by omega
     clear kJ;go_upto_region 5 with fail;have D5:qa u2 u2.drew:=(qab _ _).drew;have HS5:Hid (∀ x,qa u2 x→x.cell? ⟨w1.heap.size,0,none⟩=some (.slice (some ⟨g,0,none⟩) ts.length c)∧x.rangeAt (w.heap.size+1) 0 pg.cells):=fun x hx=>⟨(Lm.below hx Lm.lt).cell 0 _ rfl,qN (Ll.below hx Ll.lt)⟩
     refine wU HS5 D5 fun qc=>?_
     iterate 4 refine jv ?_
     refine xB 4 pg.cells (fun _ h=>h.2) underlying48 HI.out ?_;refine jc 5 (fun K hK=>?_);go_simp;refine (zU pg h4 _ (jY.out _ (qf E2 D5)) hlp).mono ?_;rintro e v1 ⟨us,rfl,P7,ous,hbv⟩;have DV:=qf D5 hbv;refine qX hK (HS5.out _ DV) fun qc=>?_
     clear hK K;try simp only [zz]
     obtain ⟨y0,y1,y2,y3,rfl⟩:=QP (ts:=us) (by have:=qcz List.length P7.out;simpa [h4] using this);obtain ⟨q,hq⟩:∃ q:qh,Hid ((⟨no,pg.lsn,y0,y1,y2,y3,true,true⟩:qh)=q):=⟨_,rfl⟩;have KV:Hid (q.v=⟨no,pg.lsn,pg.ss.map (·.v),true,true⟩):=by rw [Hid,← hq.out,← P7.out];rfl
     have oq:q.own v1 u2.drew.heap.size v1.heap.size:=by rw [← hq.out];exact ous
     refine tk 6 (v:=.agg q.cells.toArray) rfl (Or.inl ⟨by rfl,?_⟩) qc ?_
     ·intro w' hSw;have e9:=Sb w' no pg.lsn y0 y1 y2 y3;rw [hq.out] at e9;refine Lf ?_;simp only [qe8,qdG,qfe];exact e9
     try simp only [zz]
     refine jg 7 ?_;have b6V:=b6U.below DV b6U.lt;have b8V:=Lm.below DV Lm.lt;have b5V:=Ll.below DV Ll.lt;have oV:=oU.below DV;have nV:=qf nU DV;have sV:=DV.size;have hkl:(ts.take k).length=k:=by rw [qdm];omega
     obtain ⟨WS,hWS,oS,tS,Kr⟩:=OwnSts.fill (A:=ts.take k) (z:=ts.getD k qi) (B:=ts.drop (k+1)) (by rw [← zu ts k hkt];exact oV) q oq (by have:=D5.size;omega) (by omega) qg;rw [hkl] at hWS;rw [← Qa ts k q hkt] at oS;have IC:Hid (v1.setCells g (k*20) q.cells.toArray.toList=WS):=hWS.out;have Jb:v1.there g (k*20) q.cells.toArray.size:=(zm oV.row rfl k hkt).2;have qlE:=qcF Kr;have qlF:=qcF Kr.symm;have mP:=b6V.touch tS (by simp;omega);have b8S:=b8V.touch tS (by simp;omega);have b5S:=b5V.touch tS (by simp;omega);have nS:qa w WS:=nV.trans ((tS.within (lo:=W.heap.size) (hi:=w1.heap.size) (fun j hj=>by obtain rfl:=qac.1 hj;exact hgl)).below (by omega) (by omega));have KS:WS.cell? ⟨w1.heap.size,0,none⟩=some (.slice (some ⟨g,0,none⟩) ts.length c)∧WS.rangeAt (w.heap.size+1) 0 pg.cells:=⟨b8S.cell 0 _ rfl,qN b5S⟩;refine jc 8 (fun K hK=>?_);rw [qan (by rfl)];refine qc7 121 (.tmp 47) (.tmp 46) rfl g (k*20) q.cells.toArray rfl rfl Jb (xD q) (yh q) ?_;rw [IC.out];refine qX hK KS fun qc=>?_
     clear hK K;try simp only [Act.put,zA,zB,zC]
     refine qau (by kernel_rfl) ?_ _;clear qc KS IC Jb hWS Kr b5S b6V b8V b5V oV Ll b6U Lm oU D5 DV HS5 nV nU;have e0:=b8S.cell 0 _ rfl;have e1:=b8S.cell 1 _ rfl;have m0:=mP.cell 0 _ rfl;have m1:=mP.cell 1 _ rfl;have Kl:=mP.frozen 0;have mJ:=mP.frozen 1;obtain ⟨WF,qK,bF,hwF,q8⟩:=zM mP (.slice (some ⟨g,0,none⟩) ts.length c) (.int .i64 hand);have q0:=bF.cell 0 _ rfl;have q1:=bF.cell 1 _ rfl;have wh:=(oS.within hwF (.inr (by omega))).widen (show w.heap.size≤W.heap.size by omega) (show max w1.heap.size v1.heap.size≤WF.heap.size by omega) qg;have zN:qa w WF:=nS.trans (hwF.below (by omega) (by omega));have Qm:Hid (yV p.v no pg.lsn (pg.ss.map (·.v))=(qo.v ⟨ts.set k q,hand,some ⟨g,0,none⟩,c⟩,true)):=by
      rw [Hid,QB.out,yj,← HV.out];simp only [qo.v,qeW,KV.out]
     have XX:Hid ((ts.set k q).length=ts.length):=by rw [Hid];simp
     clear hwF q8 bF oS tS mP b8S QB HV KV hq;generalize ts.set k q=us at*
     go_wp2_with fail;rw [qK.out];exact qa3 (v:=.tuple #[.agg #[.slice (some ⟨g,0,none⟩) ts.length c,.int .i64 hand],.bool true]) (by simp [results,results136,go_sem,q0,q1]) rfl ⟨⟨us,hand,some ⟨g,0,none⟩,c⟩,true,by simp only [qo.cells,XX.out],Qm,wh,zN⟩
end Go.Proofs.YtnfdccldabbobaaGreatDoor
