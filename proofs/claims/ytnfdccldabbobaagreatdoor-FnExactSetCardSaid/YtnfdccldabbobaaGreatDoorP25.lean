/- Texts. -/
import Derived.Test.YtnfdccldabbobaaGreatDoorP21
set_option maxHeartbeats 8000000
set_option maxRecDepth 100000
namespace Go.Proofs.YtnfdccldabbobaaGreatDoor
open Go.RowKit Go.Proofs.Tryz
theorem Qf {w:World} {ops:Array Oper} {rest:List Oper} {dst:Option Nat} {ty:TypeId} {pos:String} {XY:Array Edge} {act:Act} {Q:Exit→Act→World→Prop} (T:TypeId) (cs:List Value)
  (hz:(prog.info? T).map (·.zero)=some (some (.agg cs.toArray)))
  (h:wpList prog ops Q rest (act.put dst (.pointer (some ⟨w.heap.size,0,none⟩))) (w.alloc (.cells cs.toArray T))):
  wpList prog ops Q ({ dst:=dst,op:=.alloc T,type:=ty,pos:=pos,after:=XY,guard:=none }::rest) act w:=by
 refine qgi rfl fun K hK=>?_
 cases hi:prog.info? T with
 | none=>rw [hi] at hz;cases hz
 | some inf=>
  rw [hi] at hz;have hz':inf.zero=some (.agg cs.toArray):=by simpa using hz
  unfold Oper.wp execOp;have e1:(zeroValue T).run prog w=.ok (.agg cs.toArray) w:=by simp [zeroValue,typeInfo,hi,hz']
  have e2:(Instr.alloc T true (.tuple #[])).run prog w=.ok (.pointer (some ⟨w.heap.size,0,none⟩)) (w.alloc (.cells cs.toArray T)):=by
   unfold Instr.alloc;simp only [qdq,e1,qdf];simp [newVar,go_sem]
  simp only [qdq,e2,qdf,qeJ];exact hK _ _ h
def EJ:List qA:=List.replicate 8 jh
theorem qez:vT EJ:=⟨rfl,fun p hp=>by rw [List.eq_of_mem_replicate hp];rfl⟩
theorem Tryz.qhI:(prog.info? 49).map (·.zero)=some (some (.agg (qx EJ).toArray)):=by kernel_rfl
theorem Qb (a b:List qA):qx (a++b)=qx a++qx b:=by simp only [qx,qcy]
theorem uF (p:qA) (b:List qA):qx (p::b)=p.cells++qx b:=by simp only [qx,qaY]
theorem qdK (ps:List qA):∀ v∈qx ps,v.oneCell'=true:=fun v hv=>by
 obtain ⟨p,_,hp⟩:=qag.1 hv;exact uM p v hp
theorem NC (p:qA) (h:p.ss.length=4):(prog.info? 29).map (·.size)=some p.cells.length:=by rw [jJ _ h];kernel_rfl
theorem dD {ps:List qA} (h:vT ps):(prog.info? 30).map (·.size)=some (qx ps).length:=by rw [kS _ h.four,h.eight];kernel_rfl
theorem qP.AL {w:World} {lo mid hi:Nat} {A B:List qj} (h:qP w lo mid A) (hb:qP w mid hi B) (h1:lo≤mid) (h2:mid≤hi) (hhi:hi≤w.heap.size):qP w lo hi (A++B):=by
 have ha:=h.widen qg h2 hhi;have hb':=hb.widen h1 qg hhi;refine ⟨fun s hs=>(qaa.1 hs).elim (ha.each s) (hb'.each s),?_⟩;rw [qcy,qav];exact ⟨h.apart,hb.apart,fun x hx y hy e=>by have:=h.qC x hx;have:=hb.qC y hy;omega⟩
theorem Rk (ps:List qA) (hp:vT ps) (w:World) (hr:∀ p∈ps,jS w p.ss) (hf:∀ p∈ps,Fit p.ss):
  Calls prog 28 #[.agg (qx ps).toArray] w fun e w'=>∃ ts:List qA,e=.returned (.agg (qx ts).toArray)∧vT ts∧Hid (ts.map yO=ps.map yO)∧qP w' w.heap.size w'.heap.size (qZ ts)∧qa w w':=by
 obtain ⟨Z,hZ⟩:=qV EJ;have hz8:vT Z:=by rw [← hZ.out];exact qez
 have HZ:=Tryz.qhI;rw [hZ.out] at HZ;obtain ⟨W,hW,b1,b2,b3,hbW,qD⟩:=yK w (qx ps) (qx Z) (qx Z) 30 49 49;have hs0:w.heap.size+1+1<W.heap.size:=by omega
 go_enter func28,ntmps28;go_wp2_with (first | (guard_target=wpList _ _ _ (Oper.mk _ (Op.alloc _) _ _ _ _::_) _ _;refine Qf 49 (qx Z) HZ ?_) | fail);rw [hW.out];clear hW qD;have b3':Box W (w.heap.size+1+1) (qx ([]++List.replicate (8-0) jh)) 49:=by rw [← hZ.out] at b3;exact b3
 clear b3;go_loopw [4] (fun i wr=>∃ (k:Nat) (ts:List qA),k≤8∧i=.int .i64 (k:Int)∧Hid (ts.length=k∧(∀ p∈ts,p.ss.length=4)∧ts.map yO=(ps.take k).map yO)∧qP wr W.heap.size wr.heap.size (qZ ts)∧Box wr w.heap.size (qx ps) 30∧Box wr (w.heap.size+1) (qx Z) 49∧Box wr (w.heap.size+1+1) (qx (ts++List.replicate (8-k) jh)) 49∧qa w wr∧W.heap.size≤wr.heap.size) (fun i _=>8-(intOf i).toNat)
 case atStart=>exact ⟨0,[],qaw _,rfl,⟨rfl,fun p hp=>by (simp at hp),rfl⟩,qP.nil _ _ _,b1,b2,b3',hbW,qcN _⟩
 case round=>
  obtain ⟨k,ts,hk,rfl,hts,hown,c1,c2,c3,hnx,QF⟩:=hrel;clear b1 b2 b3';by_cases hlt:k<8
  ·have hkl:k<ps.length:=by rw [hp.eight];exact hlt
   have r1:=Yt hp c1 k hlt;have uz:=hp.at hlt;have F1:=hf _ (xz (k:=k) hkl);have R1:=(hr _ (xz (k:=k) hkl)).below hnx;have JC:Hid ((ps.take (k+1)).map yO=(ps.take k).map yO++[yO (ps.getD k jh)]):=by rw [Hid,qdb hkl,vz hkl,qdd];rfl
   have C:=Mx (ps.getD k jh) uz wr R1 F1;generalize ps.getD k jh=p at*
   have KX:=NC p uz;have hi0:(0:Int)≤(k:Int):=by omega
   have bg:(k:Int)<8:=by omega
   go_wp2_with (first | (guard_target=qp 12;refine qH 29 11 w.heap.size (k*17) (p.cells) r1 underlying29 KX ?_) | fail);refine C.mono ?_;clear C r1;rintro e w1 ⟨us,rfl,hv,ho1,hb1⟩;have bq:us.length=4:=by have:=qcz List.length hv.out;simp only [qa4] at this;omega
   have s1:=hb1.size;obtain ⟨q,hq⟩:∃ q:qA,Hid ((⟨p.lsn,us⟩:qA)=q):=⟨_,rfl⟩;have hq4:q.ss.length=4:=by rw [← hq.out];exact bq
   have oq:qP w1 wr.heap.size w1.heap.size q.ss:=by rw [← hq.out];exact ho1
   have KV:Hid (yO q=yO p):=by rw [Hid,← hq.out];simp only [yO];rw [hv.out]
   rw [hq.out];clear hq hv ho1 bq;replace c1:=c1.below hb1 c1.lt;replace c2:=c2.below hb1 c2.lt;replace c3:=c3.below hb1 c3.lt;have hown1:=hown.below hb1;replace hnx:=qf hnx hb1;have e8:8-k=(8-(k+1))+1:=by omega
   rw [Qb,e8,qfl,uF] at c3;obtain ⟨W2,hW2,d3,hw2,hs2⟩:=jE (qx ts) jh.cells q.cells (qx (List.replicate (8-(k+1)) jh)) c3 (by rw [jJ q hq4];rfl);have hl3:(qx ts).length=k*17:=by rw [kS _ hts.out.2.1,hts.out.1]
   rw [hl3] at hW2;have Y8:Hid (w1.there (w.heap.size+1+1) (k*17) q.cells.toArray.size):=c3.there _ _ (by rw [qcY,jJ q hq4,qai,qai,hl3,jJ jh rfl];omega);have s2:=hw2.size;have O1:Box W2 (w.heap.size+1+1) (qx ((ts++[q])++List.replicate (8-(k+1)) jh)) 49:=by
    rw [qcJ,Qb,qdr,uF];exact d3
   have c1':=c1.within hw2 (by omega);have c2':=c2.within hw2 (by omega);have HOW:Hid (qP W2 W.heap.size W2.heap.size (qZ (ts++[q]))):=by
    rw [Hid,KM,JP];have o:=(hown1.AL oq QF (by omega) qg)
    simpa [qZ] using (o.within hw2 (.inr (by omega))).widen qg s2 qg
   have Jb:Hid ((ts++[q]).length=k+1∧(∀ p∈ts++[q],p.ss.length=4)∧(ts++[q]).map yO=(ps.take (k+1)).map yO):=by
    refine ⟨by rw [qai,hts.out.1];rfl,fun x hx=>?_,?_⟩
    ·rcases qaa.1 hx with h | h
     ·exact hts.out.2.1 x h
     ·rw [qac.1 h];exact hq4
    ·rw [JC.out,qdd,hts.out.2.2,← KV.out];rfl
   have HN:Hid (qa w W2∧W.heap.size≤W2.heap.size):=⟨hnx.trans (hw2.below (by have:=hbW.size;omega) (by omega)),by omega⟩;have Ko:Hid ((prog.info? 48).map (·.size)=some q.cells.toArray.size):=xe q hq4;have U4:=qaf (uM q);have HW2:Hid (w1.setCells (w.heap.size+1+1) (k*17) q.cells.toArray.toList=W2):=hW2.out;clear c1 c2 c3 d3 hown hown1 oq hw2 hs2 hW2 hnx hts JC KV hl3 e8 hb1;go_wp2_with (first | (guard_target=ja 14;refine jb 48 14 13 (w.heap.size+1+1) (k*17) (q.cells).toArray Y8.out Ko.out U4 ?_) | fail);rw [HW2.out];go_roundw
   case rel=>exact ⟨k+1,ts++[q],by omega,by go_num,Jb,HOW.out,c1',c2',O1,HN.out.1,HN.out.2⟩
   case measure=>simp [intOf];omega
  ·obtain rfl:k=8:=by omega
   have hkk:¬ ((8:Nat):Int)<8:=by omega
   have e0:ts++List.replicate (8-8) jh=ts:=by simp
   rw [e0] at c3;have JD:vT ts:=⟨hts.out.1,hts.out.2.1⟩;have HV:Hid (ts.map yO=ps.map yO):=by rw [Hid,hts.out.2.2,← hp.eight,qfE]
   have r3:wr.rangeAt (w.heap.size+1+1) 0 (qx ts):=qN c3;obtain ⟨WF,qK,bF,hwF,q8⟩:=jE [] (qx Z) (qx ts) [] (by simpa using c2) (by rw [kS _ JD.four,kS _ hz8.four,JD.eight,hz8.eight]);have sF:=hwF.size;have Jz:Box WF (w.heap.size+1) (qx ts) 49:=by simpa using bF
   have Y8:Hid (wr.there (w.heap.size+1) 0 (qx ts).toArray.size):=c2.there _ _ (by rw [qcY,kS _ JD.four,kS _ hz8.four,JD.eight,hz8.eight];omega);have HL:Hid ((loadVar 49 ⟨w.heap.size+1,0,none⟩).run prog WF=.ok (.agg (qx ts).toArray) WF):=qeI (P:=prog) WF (w.heap.size+1) 0 49 (qx ts) _ (qN Jz) underlying49 rfl (um JD);have jr:Hid (qP WF w.heap.size WF.heap.size (qZ ts)∧qa w WF):=⟨(hown.within hwF (.inr (by omega))).widen (by omega) (by omega) qg,hnx.trans (hwF.below (by omega) (by have:=hnx.size;omega))⟩;have Qw:Hid (wr.setCells (w.heap.size+1) 0 (qx ts).toArray.toList=WF):=qK.out;have HI:=um JD;have HO:=qaf (qdK ts);clear c1 c2 c3 hown hwF q8 bF Jz qK hnx e0 hts;go_wp2_with (first | (guard_target=qp 15;refine qH 49 3 (w.heap.size+1+1) 0 (qx ts) r3 underlying49 HI ?_) | (guard_target=ja 2;refine jb 49 2 15 (w.heap.size+1) 0 (qx ts).toArray Y8.out (jG HI) HO ?_) | fail);rw [Qw.out];exact qa3 (v:=.agg (qx ts).toArray) (jQ results28 rfl HL.out) rfl ⟨ts,rfl,JD,HV,jr.out.1,jr.out.2⟩
theorem Rl (ps:List qA) (hp:vT ps) (left:Int) (w:World) (hn:∀ p∈ps,Small p.ss) (h0:0≤left∧left≤1048576):
  Calls prog 15 #[.agg (qx ps).toArray,.int .i64 left] w fun e w'=>∃ z:Int,e=.returned (.int .i64 z)∧(z<0∨(0≤z∧z≤left∧∀ p∈ps,∀ s∈p.ss,s.v.o.ints.length≤1048576∧s.v.o.refs.length≤1048576))∧qa w w':=by
 obtain ⟨W,hW,b0,hbW,qD⟩:=qB w (qx ps) 30;go_enter func15,ntmps15;go_wp2_with fail;rw [hW.out];clear hW qD;go_loopw [1,5] (fun kk i wr=>∃ (k:Nat) (z:Int),k≤8∧i=.int .i64 (k:Int)∧kk=.int .i64 z∧Hid (0≤z∧z≤left∧∀ p∈ps.take k,∀ s∈p.ss,s.v.o.ints.length≤1048576∧s.v.o.refs.length≤1048576)∧qa W wr) (fun _ i _=>8-(intOf i).toNat)
 case atStart=>exact ⟨0,left,qaw _,rfl,rfl,⟨h0.1,Int.le_refl _,fun p hp=>by (simp at hp)⟩,qab _ _⟩
 case round=>
  obtain ⟨k,z,TQ,rfl,rfl,hz,hbr⟩:=hrel;have hz0:=hz.out.1;have hz1:=hz.out.2.1;by_cases hlt:k<8
  ·have hkl:k<ps.length:=by rw [hp.eight];exact hlt
   have r1:=Yt hp (b0.below hbr b0.lt) k hlt;have uz:=hp.at hlt;have C:=Mc (ps.getD k jh) uz z wr (hn _ (xz (k:=k) hkl)) ⟨hz0,by omega⟩;have JC:Hid (∀ p∈ps.take (k+1),p∈ps.take k∨p=ps.getD k jh):=fun p hp=>by
    rw [qdb hkl,vz hkl] at hp;rcases qaa.1 hp with h | h
    ·exact .inl h
    ·exact .inr (qac.1 h)
   generalize ps.getD k jh=p at*
   have KX:=NC p uz;have hi0:(0:Int)≤(k:Int):=by omega
   have bg:(k:Int)<8:=by omega
   go_wp2_with (first | (guard_target=qp 12;refine qH 29 11 w.heap.size (k*17) (p.cells) r1 underlying29 KX ?_) | fail);refine C.mono ?_;clear C r1;rintro e w1 ⟨y,rfl,hy,hb1⟩;have HB:Hid (qa W w1):=qf hbr hb1;clear hbr hb1;rcases hy with hy | ⟨hy0,hyz,hys⟩
   ·have HE:Hid (qa w w1):=qf hbW HB.out;go_wp2;go_ret;exact ⟨-1,rfl,.inl (by omega),HE.out⟩
   ·have hny:¬ y<0:=by omega
    have HH:Hid (0≤y∧y≤left∧∀ p∈ps.take (k+1),∀ s∈p.ss,s.v.o.ints.length≤1048576∧s.v.o.refs.length≤1048576):=⟨hy0,by omega,fun q hq s hs=>by
     rcases JC.out q hq with h | h
     ·exact hz.out.2.2 q h s hs
     ·rw [h] at hs;exact hys s hs⟩
    clear hys hz JC;go_wp2_with fail;go_roundw
    case rel=>exact ⟨k+1,y,by omega,by go_num,rfl,HH,HB.out⟩
    case measure=>simp [intOf];omega
  ·obtain rfl:k=8:=by omega
   have hkk:¬ ((8:Nat):Int)<8:=by omega
   have e1:ps.take 8=ps:=by rw [← hp.eight,qfE]
   have HE:Hid (qa w wr∧(0≤z∧z≤left∧∀ p∈ps,∀ s∈p.ss,s.v.o.ints.length≤1048576∧s.v.o.refs.length≤1048576)):=⟨qf hbW hbr,by have:=hz.out;rw [e1] at this;exact this⟩;clear e1 hz;go_wp2;go_ret;exact ⟨z,rfl,.inr HE.out.2,HE.out.1⟩
theorem Rm {P:Prop} (h:P:=by
 go_enter func19,ntmps19;go_wp2;go_ret;exact ⟨jN HS.out.symm,rfl⟩):P:=h
theorem Tt (a:Option Addr) (c n:Nat) (left:Int) (w:World) (hn:n≤9223372036854775807) (h0:0≤left∧left≤1048576):
  Calls prog 19 #[.slice a n c,.int .i64 left] w fun e w'=>e=.returned (.int .i64 (zn n left))∧w'=w:=by
 by_cases h:left-n<0
 ·have HS:Hid (zn n left= -1):=by unfold zn;rw [Hid,qan h]
  exact Rm
 ·have HS:Hid (zn n left=left-n):=by unfold zn;rw [Hid,qa2 h]
  exact Rm
theorem OG {e:qb} (h:e.shape):(prog.info? 40).map (·.size)=some e.cells.length:=by rw [qb.yc h];kernel_rfl
theorem dE (q:qo):(prog.info? 33).map (·.size)=some q.cells.length:=by show _=some 2;kernel_rfl
theorem NG (q:qI):(prog.info? 36).map (·.size)=some q.cells.length:=by show _=some 2;kernel_rfl
theorem Jm {w:World} {B:Nat} {A R:List Value} {t:TypeId} (b:Box w B (A++R) t) (hA:A.length=136) (j:Nat) (v:Value):
  ∃ W,Hid (w.setCell ⟨B,136+j,none⟩ v=W)∧Box W B (A++R.set j v) t∧Within B (B+1) w W∧W.heap.size=w.heap.size:=by
 obtain ⟨W,hW,b',hw,hs⟩:=jZ b (136+j) v;refine ⟨W,hW,?_,hw,hs⟩;rw [qdh _ _ (by omega),hA,show 136+j-136=j by omega] at b';exact b'
theorem Nc {w:World} {e:qb} {a0 a1 a2 a3 a4 a5:Nat} (h1:qP w a0 a1 (qZ e.disk)) (h2:OwnSts w a1 a2 e.aS e.cS e.seats) (h3:je w a2 a3 e.log.a e.log.c e.log.recs) (h4:OwnL w a3 a4 e.aT e.cT e.txs) (h5:OwnH w a4 a5 e.aH e.cH e.holds)
  (l1:a0≤a1) (l2:a1≤a2) (l3:a2≤a3) (l4:a3≤a4) (l5:a4≤a5) (h:a5≤w.heap.size):e.own w a0 a5:=by
 refine ⟨h1.widen qg (by omega) h,h2.widen (by omega) (by omega) h,h3.widen (by omega) (by omega) h,h4.widen (by omega) (by omega) h,h5.widen (by omega) qg h,?_⟩;simp only [qb.blocks,qav,qaa];have b1:=h1.qC;have b2:=h2.qC;have b3:=h3.qC;have b4:∀ k∈rowOf e.aT e.txs.length e.cT,a3≤k∧k<a4:=fun k hk=>h4.lt k (qad.1 hk)
 have b5:∀ k∈rowOf e.aH e.holds.length e.cH,a4≤k∧k<a5:=fun k hk=>h5.lt k (qad.1 hk)
 have nr:∀ o:Option Nat,o.toList.Nodup:=fun o=>by cases o<;>simp
 refine ⟨h1.apart,⟨h2.apart,⟨h3.apart,⟨nr _,nr _,fun x hx y hy q=>?_⟩,fun x hx y hy q=>?_⟩,fun x hx y hy q=>?_⟩,fun x hx y hy q=>?_⟩
 ·have:=b4 x hx;have:=b5 y hy;omega
 ·have:=b3 x hx;rcases hy with hy | hy
  ·have:=b4 y hy;omega
  ·have:=b5 y hy;omega
 ·have:=b2 x hx;rcases hy with hy | hy | hy
  ·have:=b3 y hy;omega
  ·have:=b4 y hy;omega
  ·have:=b5 y hy;omega
 ·have:=b1 x hx;rcases hy with hy | hy | hy | hy
  ·have:=b2 y hy;omega
  ·have:=b3 y hy;omega
  ·have:=b4 y hy;omega
  ·have:=b5 y hy;omega
theorem Qt (e:qb) (se:e.shape) (w:World) (re:e.reads w) (hl:e.short 1048576):
  Calls prog 7 #[.agg e.cells.toArray] w fun r w'=>∃ t:qb,r=.returned (.agg t.cells.toArray)∧t.shape∧Hid (t.v=e.v)∧t.own w' w.heap.size w'.heap.size∧qa w w':=by
 obtain ⟨Z,hZ⟩:=qV zeroE;have sZ:Z.shape:=by rw [← hZ.out];exact zT
 have HZ:=Tryz.Xh;rw [hZ.out] at HZ;obtain ⟨W,hW,b1,b2,b3,hbW,qD⟩:=yK w e.cells Z.cells Z.cells 40 59 59;have hs0:w.heap.size+1+1<W.heap.size:=by omega
 have N:qa w W:=hbW;have b3':Box W (w.heap.size+1+1) (qx Z.disk++[.slice none 0 0,.int .i64 0,.slice none 0 0,.int .i64 0,.slice none 0 0,.slice none 0 0,.int .i64 0,.bool false]) 59:=by rw [← hZ.out] at b3 ⊢;exact b3
 have HE:Hid (∀ u,qa w u→e.reads u):=fun u hu=>re.below hu
 have hld:=dD se.wy;clear b3 qD hbW;go_enter func7,ntmps7;obtain ⟨p0,p1,p2,p3,p4,p5,p6⟩:=qY se b1;go_wp2_with (first | (guard_target=wpList _ _ _ (Oper.mk _ (Op.alloc _) _ _ _ _::_) _ _;refine Qf 59 Z.cells HZ ?_) | (guard_target=qp 5;refine qH 30 4 w.heap.size 0 (qx e.disk) (by rw [hW.out];exact p0) underlying30 hld ?_) | fail);rw [hW.out];clear hW p0 p1 p2 p3 p4 p5 p6;refine (Rk e.disk se.wy W (HE.out _ N).disk (fun p hp s hs=>by have:=hl.disk p hp s hs;omega)).mono ?_;rintro r w1 ⟨ts,rfl,JD,hvd,od,hb⟩;have s1:=hb.size;have sz:=hb.size;replace b1:=b1.below hb b1.lt;replace b2:=b2.below hb b2.lt;replace b3':=b3'.below hb b3'.lt;replace N:=qf N hb;clear hb;obtain ⟨w2,h2,c3,hw,hs⟩:=jE [] (qx Z.disk) (qx ts) [.slice none 0 0,.int .i64 0,.slice none 0 0,.int .i64 0,.slice none 0 0,.slice none 0 0,.int .i64 0,.bool false] b3' (by rw [kS _ JD.four,JD.eight,qb.yg sZ]);have HT:Hid (w1.there (w.heap.size+1+1) 0 (qx ts).toArray.size):=b3'.there _ _ (by rw [qcY,kS _ JD.four,JD.eight,qai,qb.yg sZ];simp);have sy:=hw.size;replace b1:=b1.within hw (by omega);replace b2:=b2.within hw (by omega);replace N:=N.trans (hw.below (by omega) (by have:=N.size;omega));replace od:=od.within hw (.inr (by omega));clear hw hs;have hA:(qx ts).length=136:=by rw [kS _ JD.four,JD.eight]
 have E2:Hid (w1.setCells (w.heap.size+1+1) 0 (qx ts).toArray.toList=w2):=h2.out;have HI:=um JD;have HO:=qaf (qdK ts);clear h2 b3';have b3':Box w2 (w.heap.size+1+1) (qx ts++[.slice none 0 0,.int .i64 0,.slice none 0 0,.int .i64 0,.slice none 0 0,.slice none 0 0,.int .i64 0,.bool false]) 59:=c3;clear c3;have HA:Hid ((qx ts).length=136):=hA;clear hA;obtain ⟨p0,p1,p2,p3,p4,p5,p6⟩:=qY se b1;go_wp2_with (first | (guard_target=ja 7;refine jb 49 7 6 (w.heap.size+1+1) 0 (qx ts).toArray HT.out (jG HI) HO ?_) | (guard_target=qp 9;refine qH 33 8 w.heap.size 136 (e.qQ.cells) (by rw [E2.out];exact p1) underlying33 (dE _) ?_) | fail);rw [E2.out];clear E2 HT HI HO p0 p1 p2 p3 p4 p5 p6;refine (oH e.qQ w2 (HE.out _ N).pool hl.pool).mono ?_;rintro r w3 ⟨q,rfl,hvp,op,hb⟩;have s3:=hb.size;have sz:=hb.size;replace b1:=b1.below hb b1.lt;replace b2:=b2.below hb b2.lt;replace b3':=b3'.below hb b3'.lt;replace N:=qf N hb;replace od:=od.below hb;clear hb;obtain ⟨w4,h4,c3,hw,hs⟩:=jE (qx ts) [.slice none 0 0,.int .i64 0] q.cells [.slice none 0 0,.int .i64 0,.slice none 0 0,.slice none 0 0,.int .i64 0,.bool false] b3' rfl;rw [HA.out] at h4;have HT:Hid (w3.there (w.heap.size+1+1) 136 q.cells.toArray.size):=b3'.there _ _ (by rw [qai,HA.out];show 136+2≤_;simp);have sy:=hw.size;replace b1:=b1.within hw (by omega);replace b2:=b2.within hw (by omega);replace N:=N.trans (hw.below (by omega) (by have:=N.size;omega));replace od:=od.within hw (.inr (by omega));replace op:=op.within hw (.inr (by omega));clear hw hs;have E4:Hid (w3.setCells (w.heap.size+1+1) 136 q.cells.toArray.toList=w4):=h4.out;clear h4 b3';have b3':Box w4 (w.heap.size+1+1) ((qx ts++q.cells)++[.slice none 0 0,.int .i64 0,.slice none 0 0,.slice none 0 0,.int .i64 0,.bool false]) 59:=by rw [qcJ];exact c3
 clear c3;have HA2:Hid ((qx ts++q.cells).length=138):=by rw [Hid,qai,HA.out];rfl
 obtain ⟨p0,p1,p2,p3,p4,p5,p6⟩:=qY se b1;go_wp2_with (first | (guard_target=ja 11;refine jb 52 11 10 (w.heap.size+1+1) 136 (q.cells).toArray HT.out (jG (xP _)) (K6 _) ?_) | (guard_target=qp 13;refine qH 36 12 w.heap.size 138 (e.log.cells) (by rw [E4.out];exact p2) underlying36 (NG _) ?_) | fail);rw [E4.out];clear E4 HT p0 p1 p2 p3 p4 p5 p6;refine (qaA e.log w4 (HE.out _ N).log hl.log).mono ?_;rintro r w5 ⟨l,rfl,hvl,ol,hb⟩;have s5:=hb.size;have sz:=hb.size;replace b1:=b1.below hb b1.lt;replace b2:=b2.below hb b2.lt;replace b3':=b3'.below hb b3'.lt;replace N:=qf N hb;replace od:=od.below hb;replace op:=op.below hb;clear hb;obtain ⟨w6,h6,c3,hw,hs⟩:=jE (qx ts++q.cells) [.slice none 0 0,.int .i64 0] l.cells [.slice none 0 0,.slice none 0 0,.int .i64 0,.bool false] b3' rfl;rw [HA2.out] at h6;have HT:Hid (w5.there (w.heap.size+1+1) 138 l.cells.toArray.size):=b3'.there _ _ (by rw [qai,HA2.out];show 138+2≤_;simp);have sy:=hw.size;replace b1:=b1.within hw (by omega);replace b2:=b2.within hw (by omega);replace N:=N.trans (hw.below (by omega) (by have:=N.size;omega));replace od:=od.within hw (.inr (by omega));replace op:=op.within hw (.inr (by omega));replace ol:=ol.within hw (.inr (by omega));clear hw hs;have E6:Hid (w5.setCells (w.heap.size+1+1) 138 l.cells.toArray.toList=w6):=h6.out;clear h6 b3';have b3':Box w6 (w.heap.size+1+1) (qx ts++[.slice q.a q.seats.length q.c,.int .i64 q.hand,.slice l.a l.recs.length l.c,.int .i64 l.sure,.slice none 0 0,.slice none 0 0,.int .i64 0,.bool false]) 59:=by rw [qcJ] at c3;exact c3
 clear c3;obtain ⟨p0,p1,p2,p3,p4,p5,p6⟩:=qY se b1;have C7:=nk e.aT e.cT e.txs w6 (HE.out _ N).txs (by have:=hl.txs;omega);go_upto_region 5 with (first | (guard_target=ja 15;refine jb 55 15 14 (w.heap.size+1+1) 138 (l.cells).toArray HT.out (jG (yT _)) (qd2 _) ?_) | fail);rw [E6.out];clear E6 HT;go_wp2_with fail;refine C7.mono ?_;clear C7 p0 p1 p2 p3 p4 p5 p6;rintro r w7 ⟨aT,cT,rfl,ot,hb⟩;have s7:=hb.size;have sz:=hb.size;replace b1:=b1.below hb b1.lt;replace b2:=b2.below hb b2.lt;replace b3':=b3'.below hb b3'.lt;replace N:=qf N hb;replace od:=od.below hb;replace op:=op.below hb;replace ol:=ol.below hb;clear hb;have x0:=b3'.cell 140 (.slice none 0 0) (by rw [qcQ (by rw [HA.out];omega),HA.out];rfl);have f0:=b3'.frozen 140;obtain ⟨w8,hw8,c3,hw,hs⟩:=Jm b3' HA.out 4 (.slice aT e.txs.length cT);have sy:=hw.size;replace b1:=b1.within hw (by omega);replace b2:=b2.within hw (by omega);replace N:=N.trans (hw.below (by omega) (by have:=N.size;omega));replace od:=od.within hw (.inr (by omega));replace op:=op.within hw (.inr (by omega));replace ol:=ol.within hw (.inr (by omega));replace ot:=ot.within hw (.inr (by omega));clear hw hs;have Ew8:Hid (w7.setCell ⟨w.heap.size+1+1,140,none⟩ (.slice aT e.txs.length cT)=w8):=hw8.out;clear hw8 b3';have b3':Box w8 (w.heap.size+1+1) (qx ts++[.slice q.a q.seats.length q.c,.int .i64 q.hand,.slice l.a l.recs.length l.c,.int .i64 l.sure,.slice aT e.txs.length cT,.slice none 0 0,.int .i64 0,.bool false]) 59:=c3;clear c3;obtain ⟨p0,p1,p2,p3,p4,p5,p6⟩:=qY se b1;have C9:=Tc e.aH e.cH e.holds w8 (HE.out _ N).holds (by have:=hl.holds;omega);go_upto_region 6 with fail;rw [Ew8.out];clear Ew8 x0 f0;go_wp2_with fail;refine C9.mono ?_;clear C9 p0 p1 p2 p3 p4 p5 p6;rintro r w9 ⟨aH,cH,rfl,oh,hb⟩;have s9:=hb.size;have sz:=hb.size;replace b1:=b1.below hb b1.lt;replace b2:=b2.below hb b2.lt;replace b3':=b3'.below hb b3'.lt;replace N:=qf N hb;replace od:=od.below hb;replace op:=op.below hb;replace ol:=ol.below hb;replace ot:=ot.below hb;clear hb;have x0:=b3'.cell 141 (.slice none 0 0) (by rw [qcQ (by rw [HA.out];omega),HA.out];rfl);have f0:=b3'.frozen 141;obtain ⟨Jl,YD,c3,hw,hs⟩:=Jm b3' HA.out 5 (.slice aH e.holds.length cH);have sy:=hw.size;replace b1:=b1.within hw (by omega);replace b2:=b2.within hw (by omega);replace N:=N.trans (hw.below (by omega) (by have:=N.size;omega));replace od:=od.within hw (.inr (by omega));replace op:=op.within hw (.inr (by omega));replace ol:=ol.within hw (.inr (by omega));replace ot:=ot.within hw (.inr (by omega));replace oh:=oh.within hw (.inr (by omega));clear hw hs;have qhJ:Hid (w9.setCell ⟨w.heap.size+1+1,141,none⟩ (.slice aH e.holds.length cH)=Jl):=YD.out;clear YD b3';have b3':Box Jl (w.heap.size+1+1) (qx ts++[.slice q.a q.seats.length q.c,.int .i64 q.hand,.slice l.a l.recs.length l.c,.int .i64 l.sure,.slice aT e.txs.length cT,.slice aH e.holds.length cH,.int .i64 0,.bool false]) 59:=c3;clear c3;obtain ⟨p0,p1,p2,p3,p4,p5,p6⟩:=qY se b1;go_upto_region 7 with fail;rw [qhJ.out];clear qhJ x0 f0;have x0:=b3'.cell 142 (.int .i64 0) (by rw [qcQ (by rw [HA.out];omega),HA.out];rfl)
 have f0:=b3'.frozen 142;obtain ⟨XA,Gu,c3,hw,hs⟩:=Jm b3' HA.out 6 (.int .i64 e.next);have sy:=hw.size;replace b1:=b1.within hw (by omega);replace b2:=b2.within hw (by omega);replace N:=N.trans (hw.below (by omega) (by have:=N.size;omega));replace od:=od.within hw (.inr (by omega));replace op:=op.within hw (.inr (by omega));replace ol:=ol.within hw (.inr (by omega));replace ot:=ot.within hw (.inr (by omega));replace oh:=oh.within hw (.inr (by omega));clear hw hs;have qhK:Hid (Jl.setCell ⟨w.heap.size+1+1,142,none⟩ (.int .i64 e.next)=XA):=Gu.out;clear Gu b3';have b3':Box XA (w.heap.size+1+1) (qx ts++[.slice q.a q.seats.length q.c,.int .i64 q.hand,.slice l.a l.recs.length l.c,.int .i64 l.sure,.slice aT e.txs.length cT,.slice aH e.holds.length cH,.int .i64 e.next,.bool false]) 59:=c3;clear c3;clear p0 p1 p2 p3 p4 p6;go_upto_region 8 with fail;rw [qhK.out];clear qhK x0 f0 p5;obtain ⟨p0,p1,p2,p3,p4,p5,p6⟩:=qY se b1;have x0:=b3'.cell 143 (.bool false) (by rw [qcQ (by rw [HA.out];omega),HA.out];rfl);have f0:=b3'.frozen 143;obtain ⟨XB,dW,c3,hw,hs⟩:=Jm b3' HA.out 7 (.bool e.down);have sy:=hw.size;replace b1:=b1.within hw (by omega);replace b2:=b2.within hw (by omega);replace N:=N.trans (hw.below (by omega) (by have:=N.size;omega));replace od:=od.within hw (.inr (by omega));replace op:=op.within hw (.inr (by omega));replace ol:=ol.within hw (.inr (by omega));replace ot:=ot.within hw (.inr (by omega));replace oh:=oh.within hw (.inr (by omega));clear hw hs;have qhL:Hid (XA.setCell ⟨w.heap.size+1+1,143,none⟩ (.bool e.down)=XB):=dW.out;clear dW b3';have b3':Box XB (w.heap.size+1+1) (qx ts++[.slice q.a q.seats.length q.c,.int .i64 q.hand,.slice l.a l.recs.length l.c,.int .i64 l.sure,.slice aT e.txs.length cT,.slice aH e.holds.length cH,.int .i64 e.next,.bool e.down]) 59:=c3;clear c3;clear p0 p1 p2 p3 p4 p5;go_upto_region 9 with fail;rw [qhL.out];clear qhL x0 f0 p6;obtain ⟨T,hT⟩:∃ T:qb,Hid ((⟨ts,q.seats,q.a,q.c,q.hand,l,e.txs,aT,cT,e.holds,aH,cH,e.next,e.down⟩:qb)=T):=⟨_,rfl⟩;have sT:T.shape:=by rw [← hT.out];exact ⟨JD.eight,JD.four⟩
 have bT:Box XB (w.heap.size+1+1) T.cells 59:=by rw [← hT.out];exact b3'
 have HV:Hid (T.v=e.v):=by
  rw [Hid,← hT.out];have v1:=hvd.out;have v2:=hvp.out;have v3:=hvl.out;simp only [qo.v,qb.qQ,jM.mk.injEq] at v2;simp only [qb.v,v2.1,v2.2,v3];congr 1
 have oT:T.own XB W.heap.size XB.heap.size:=by
  rw [← hT.out];exact Nc (a0:=W.heap.size) (a1:=w1.heap.size) (a2:=w3.heap.size) (a3:=w5.heap.size) (a4:=w7.heap.size) (a5:=XB.heap.size) od (OwnSts.widen op (by omega) qg (by omega)) (je.widen ol (by omega) qg (by omega)) (ot.widen (by omega) qg (by omega)) (oh.widen (by omega) (by omega) qg) (by omega) (by omega) (by omega) (by omega) (by omega) qg
 clear od op ol ot oh b3' hT hvd hvp hvl;obtain ⟨WF,qK,hwF,q8,jI,bF⟩:=zq sT sZ b2;have xA:=Xf sT bF;have FB:Hid (_=_):=xA;have rT:XB.rangeAt (w.heap.size+1+1) 0 T.cells:=qN bT;have jr:Hid (T.own WF w.heap.size WF.heap.size∧qa w WF):=⟨(oT.within hwF (.inr (by omega))).widen (by omega) (by omega) qg,N.trans (hwF.below (by omega) (by have:=N.size;omega))⟩;have HI:=j6 sT;have HO:=qaf (QD T);clear hwF q8 bF xA oT bT b1 b2;go_wp2_with (first | (guard_target=qp 30;refine qH 59 3 (w.heap.size+1+1) 0 (T.cells) rT underlying59 HI ?_) | (guard_target=ja 2;refine jb 59 2 30 (w.heap.size+1) 0 (T.cells).toArray jI.out (jG HI) HO ?_) | fail);rw [qK.out];exact qa3 (v:=.agg T.cells.toArray) (jQ results7 rfl FB.out) rfl ⟨T,rfl,sT,HV,jr.out.1,jr.out.2⟩
structure qb.wide (e:qb):Prop where
 disk:∀ p∈e.disk,Small p.ss
 pool:e.qQ.short 9223372036854775807
 log:e.log.short 9223372036854775807
 txs:e.txs.length≤9223372036854775807
 holds:e.holds.length≤9223372036854775807
theorem Rn {n:Nat} {left:Int} (h:0≤left∧left≤1048576):zn n left<0∨(0≤zn n left∧zn n left≤left∧n≤1048576):=by
 unfold zn;split
 ·exact .inl (by omega)
 ·exact .inr (by omega)
theorem rW (e:qb) (se:e.shape) (w:World) (re:e.reads w) (hw:e.wide):
  Calls prog 4 #[.agg e.cells.toArray,.int .i64 1048576] w fun r w'=>∃ z:Int,r=.returned (.int .i64 z)∧(z<0∨(0≤z∧z≤1048576∧e.short 1048576))∧qa w w':=by
 obtain ⟨W,hW,b0,hbW,qD⟩:=qB w e.cells 40;have HE:Hid (∀ u,qa W u→_):=fun u hu=>qY se (b0.below hu b0.lt)
 have hie:=dD se.wy;have HR:Hid (∀ u,qa W u→e.reads u):=fun u hu=>(re.below hbW).below hu
 have N:qa W W:=qab _ _;obtain ⟨p0,p1,p2,p3,p4,_,_⟩:=HE.out _ N;have C1:=Rl e.disk se.wy 1048576 W hw.disk (by omega);go_enter func4,ntmps4;go_wp2_with (first | (guard_target=qp 6;refine qH 30 5 w.heap.size 0 (qx e.disk) (by rw [hW.out];exact p0) underlying30 hie ?_) | fail);rw [hW.out];clear hW qD;refine C1.mono ?_;clear C1 p0 p1 p2 p3 p4;rintro r w1 ⟨z1,rfl,hz1,hb⟩;replace N:=qf N hb;clear hb;rcases hz1 with hz1 | ⟨qmD,qqg,qhM⟩
 ·have HB:Hid (qa w w1):=qf hbW N;go_wp2;go_ret;exact ⟨-1,rfl,.inl (by omega),HB.out⟩
 have nz1:¬ z1<0:=by omega
 obtain ⟨p0,p1,p2,p3,p4,_,_⟩:=HE.out _ N;have Hz1:Hid _:=qhM;clear qhM;have C2:=oI e.qQ z1 w1 (HR.out _ N).pool hw.pool ⟨qmD,by omega⟩;go_wp2_with (first | (guard_target=qp 12;refine qH 33 11 w.heap.size 136 (e.qQ.cells) p1 underlying33 (dE _) ?_) | fail);refine C2.mono ?_;clear C2 p0 p1 p2 p3 p4;rintro r w2 ⟨z2,rfl,hz2,hb⟩;replace N:=qf N hb;clear hb;rcases hz2 with hz2 | ⟨qbz,qqh,qhN⟩
 ·have HB:Hid (qa w w2):=qf hbW N;go_wp2;go_ret;exact ⟨-1,rfl,.inl (by omega),HB.out⟩
 have nz2:¬ z2<0:=by omega
 obtain ⟨p0,p1,p2,p3,p4,_,_⟩:=HE.out _ N;have Hz2:Hid _:=qhN;clear qhN;have C3:=qaB e.log z2 w2 (HR.out _ N).log hw.log ⟨qbz,by omega⟩;go_wp2_with (first | (guard_target=qp 18;refine qH 36 17 w.heap.size 138 (e.log.cells) p2 underlying36 (NG _) ?_) | fail);refine C3.mono ?_;clear C3 p0 p1 p2 p3 p4;rintro r w3 ⟨z3,rfl,hz3,hb⟩;replace N:=qf N hb;clear hb;rcases hz3 with hz3 | ⟨qhO,qqi,qhP⟩
 ·have HB:Hid (qa w w3):=qf hbW N;go_wp2;go_ret;exact ⟨-1,rfl,.inl (by omega),HB.out⟩
 have nz3:¬ z3<0:=by omega
 obtain ⟨p0,p1,p2,p3,p4,_,_⟩:=HE.out _ N;have Hz3:Hid _:=qhP;clear qhP;have C4:=nG e.aT e.cT e.txs.length z3 w3 hw.txs ⟨qhO,by omega⟩;have A4:=Rn (n:=e.txs.length) (left:=z3) ⟨qhO,by omega⟩;go_wp2_with fail;refine C4.mono ?_;clear C4;rintro r w4 ⟨rfl,rfl⟩;generalize zn e.txs.length z3=z4 at*
 rcases A4 with hz4 | ⟨qhQ,qqj,qhR⟩
 ·have HB:Hid (qa w w4):=qf hbW N;go_wp2;go_ret;exact ⟨-1,rfl,.inl (by omega),HB.out⟩
 have nz4:¬ z4<0:=by omega
 have C5:=Tt e.aH e.cH e.holds.length z4 w4 hw.holds ⟨qhQ,by omega⟩;have A5:=Rn (n:=e.holds.length) (left:=z4) ⟨qhQ,by omega⟩;go_wp2_with fail;refine C5.mono ?_;clear C5;rintro r w5 ⟨rfl,rfl⟩;generalize zn e.holds.length z4=z5 at*
 have HB:Hid (qa w w5):=qf hbW N;rcases A5 with hz5 | ⟨qmE,qqk,qhS⟩
 ·go_wp2;go_ret;exact ⟨-1,rfl,.inl (by omega),HB.out⟩
 have nz5:¬ z5<0:=by omega
 have HS:Hid (e.short 1048576):=⟨Hz1.out,Hz2.out,Hz3.out,qhR,qhS⟩;clear Hz1 Hz2 Hz3 qhR qhS;go_wp2;go_ret;exact ⟨z5,rfl,.inr ⟨qmE,by omega,HS.out⟩,HB.out⟩
theorem iF (e:qb) (se:e.shape) (w:World):
  Calls prog 122 #[.agg e.cells.toArray] w fun r w'=>r=.returned (.bool (Yh e.v))∧qa w w':=by
 have HBB:Hid (Yh e.v=(decide (e.seats.length=0) && (decide (e.txs.length=0) && decide (e.holds.length=0)))):=by (rw [Hid];simp [Yh,qb.v])
 obtain ⟨RB,Xy⟩:=Q4 (Yh e.v);rw [Xy] at HBB ⊢;clear Xy;obtain ⟨W,hW,b0,hbW,qD⟩:=qB w e.cells 59;obtain ⟨_,p1,_,p3,p4,_,_⟩:=qY se b0;have p10:W.cell? ⟨w.heap.size,136,none⟩=some (.slice e.aS e.seats.length e.cS):=p1 0 _ rfl;clear p1 b0 qD;go_enter func122,ntmps122;go_upto_region 1 with fail;rw [hW.out];by_cases k1:e.seats.length=0
 ·have q1:((e.seats.length:Int) == 0)=true:=by simp [k1]
  by_cases k2:e.txs.length=0
  ·have q2:((e.txs.length:Int) == 0)=true:=by simp [k2]
   by_cases k3:e.holds.length=0
   ·have q3:((e.holds.length:Int) == 0)=true:=by simp [k3]
    have HF:Hid (RB=true):=by rw [Hid,HBB.out];simp [k1,k2,k3]
    clear k1 k2 k3;go_wp2;go_ret;exact ⟨qm HF.out.symm,hbW⟩
   ·have q3:((e.holds.length:Int) == 0)=false:=qcM.2 (by omega);have HF:Hid (RB=false):=by rw [Hid,HBB.out];simp [k1,k2,k3]
    clear k1 k2 k3;go_wp2;go_ret;exact ⟨qm HF.out.symm,hbW⟩
  ·have q2:((e.txs.length:Int) == 0)=false:=qcM.2 (by omega);have HF:Hid (RB=false):=by rw [Hid,HBB.out];simp [k1,k2]
   clear k1 k2;go_wp2;go_ret;exact ⟨qm HF.out.symm,hbW⟩
 ·have q1:((e.seats.length:Int) == 0)=false:=qcM.2 (by omega);have HF:Hid (RB=false):=by rw [Hid,HBB.out];simp [k1]
  clear k1;go_wp2;go_ret;exact ⟨qm HF.out.symm,hbW⟩
theorem EK (ps:List qA) (h8:vT ps) (k:Nat) (hk:k<8):((qx ps).drop (k*17)).take 17=(ps.getD k jh).cells:=by
 have hkl:k<ps.length:=by rw [h8.eight];exact hk
 have hl:=kS (ps.take k) (fun p hp=>h8.four p (qfN hp));rw [qdm,qf1 (Nat.le_of_lt hkl)] at hl;have h4:=jJ _ (h8.four _ (qdw hkl));rw [QI ps k hkl,← hl,List.drop_left,List.take_append_of_le_length (by omega),qdD (by omega),vz hkl]
theorem Vz (ps:List qA) (h8:vT ps) (k:Nat) (hk:k<8) (w:World):
  (Instr.index 49 (.agg (qx ps).toArray) (.int .i64 (k:Int))).run prog w=.ok (.agg (ps.getD k jh).cells.toArray) w:=by
 have he:=EK ps h8 k hk;have hz:(sizeOf 48).run prog w=.ok 17 w:=by kernel_rfl
 simp [Instr.index,asIntOf,Go.part,run_underlying underlying49,hz];rw [qan hk,he];simp [List.getD]
theorem iG (e:qb) (se:e.shape) (w:World) (hg:jR w) (re:e.reads w) (hl:e.short 1048576):
  Calls prog 123 #[.agg e.cells.toArray] w fun r w'=>r=.returned (.bool (uJ e.v))∧qa w w':=by
 have kI:Hid (∀ k,k<8→wW e.v k=false→uJ e.v=false):=fun k hk h=>Q7 k hk h
 have QB:Hid ((∀ k,k<8→wW e.v k=true)→uJ e.v=true):=fun h=>uP h
 have HDA:Hid (∀ k,k<8→wW e.v k=(xZ (e.disk.getD k jh).lsn ((e.disk.getD k jh).ss.map (·.v)) && decide ((e.disk.getD k jh).lsn≤e.log.sure))):=fun k hk=>by (rw [wW,VU se k hk];rfl)
 obtain ⟨RB,Xy⟩:=Q4 (uJ e.v);rw [Xy] at kI QB ⊢;clear Xy;have pQ:Hid (∀ p∈e.disk,Fit p.ss):=fun p hp s hs=>by have:=hl.disk p hp s hs;omega
 obtain ⟨W,hW,b0,hbW,qD⟩:=qB w e.cells 59;have HB:Hid (∀ u,qa W u→Box u w.heap.size e.cells 59):=fun u hu=>b0.below hu b0.lt
 have HR:Hid (∀ u,qa W u→e.reads u):=fun u hu=>(re.below hbW).below hu
 have jr:Hid (∀ u,qa W u→qa w u):=fun u hu=>qf hbW hu
 have hw0:w.heap.size<W.heap.size:=by omega
 have N:qa W W:=qab _ _;clear b0 qD;have hgB:∀ u,qa W u→jR u:=fun u hu=>hg.keep (jr.out u hu)
 obtain ⟨p0,_,_,_,_,_,_⟩:=qY se (HB.out W N);have hid:=um se.wy;have Fz:=Vz e.disk se.wy;have OZ:Hid (_):=Fz;clear Fz;go_enter func123,ntmps123;go_wp2_with (first | (guard_target=qp 6;refine qH 49 5 w.heap.size 0 (qx e.disk) (by rw [hW.out];exact p0) underlying49 hid ?_) | fail);rw [hW.out];clear hW p0 hid;go_loopw [7] (fun i wr=>∃ k:Nat,k≤8∧i=.int .i64 (k:Int)∧Hid (∀ j,j<k→wW e.v j=true)∧qa W wr) (fun i _=>8-(intOf i).toNat)
 case atStart=>exact ⟨0,qaw _,rfl,fun j hj=>by omega,N⟩
 case round=>
  obtain ⟨k,hk,rfl,hall,hbr⟩:=hrel;clear N;have QF:=hbr.size;by_cases hlt:k<8
  ·have hkl:k<e.disk.length:=by rw [se.eight];exact hlt
   have HDK:Hid (_=_):=HDA.out k hlt;have O4:Hid (_→_):=kI.out k hlt;have uz:=se.wy.at hlt;have F1:=pQ.out _ (xz (k:=k) hkl);have Zp:Hid (∀ u,qa W u→jS u (e.disk.getD k jh).ss):=fun u hu=>(HR.out _ hu).disk _ (xz (k:=k) hkl)
   have hix:=OZ.out k hlt;generalize e.disk.getD k jh=p at*
   have KX:=xe p uz;have TL:=qaf (uM p);obtain ⟨ZV,QJ,bZ,yF,zx⟩:=qB wr [.int .i64 0,.bool false,.int .i64 0,.slice none 0 0,.slice none 0 0,.bool false,.int .i64 0,.slice none 0 0,.slice none 0 0,.bool false,.int .i64 0,.slice none 0 0,.slice none 0 0,.bool false,.int .i64 0,.slice none 0 0,.slice none 0 0] 48;obtain ⟨V,hV,XD,Kr,HT,_,bS⟩:=page_out (C:=wr.heap.size) (T:=48) p uz _ rfl bZ underlying48 rfl (by kernel_rfl);have nb:qa wr V:=yF.trans (XD.below qg (by omega));have nV:=qf hbr nb;have rS:V.rangeAt wr.heap.size 0 p.cells:=qN bS;have EV:Hid (ZV.setCells wr.heap.size 0 p.cells.toArray.toList=V):=hV.out;have C1:=vo p uz V (hgB _ nV) (Zp.out _ nV) F1;have Ld:=bS.lt;have hi0:(0:Int)≤(k:Int):=by omega
   have bg:(k:Int)<8:=by omega
   clear bZ yF zx XD Kr hV nb;go_wp2_with (first | (guard_target=ja 4;refine jb 48 4 9 wr.heap.size 0 p.cells.toArray (by rw [QJ.out];exact HT.out) (jG KX) TL ?_) | (guard_target=qp 10;refine qH 48 4 wr.heap.size 0 (p.cells) (by rw [QJ.out,EV.out];exact rS) underlying48 KX ?_) | fail);rw [QJ.out,EV.out];clear QJ EV HT rS hix;refine C1.mono ?_;clear C1;rintro r w1 ⟨rfl,hb1⟩;have n1:=qf nV hb1;have x0:=(bS.below hb1 bS.lt).cell 0 _ rfl;obtain ⟨_,_,p2,_,_,_,_⟩:=qY se (HB.out _ n1);have x1:=p2 1 _ rfl;clear p2 bS hb1 nV;obtain ⟨bA,hA⟩:=qV (xZ p.lsn (p.ss.map (·.v)));rw [hA.out];cases bA with
   | false=>
    have HE:Hid (RB=false∧qa w w1):=⟨O4.out (by rw [HDK.out,hA.out];rfl),jr.out _ n1⟩;go_wp2;go_ret;exact ⟨qm HE.out.1.symm,HE.out.2⟩
   | true=>
    by_cases hx:p.lsn≤e.log.sure
    ·have Wp:¬ e.log.sure<p.lsn:=by omega
     have HK:Hid (∀ j,j<k+1→wW e.v j=true):=fun j hj=>by
      by_cases q:j=k
      ·rw [q,HDK.out,hA.out,qaC hx];rfl
      ·exact hall.out j (by omega)
     clear hx;go_wp2_with fail;go_roundw
     case rel=>exact ⟨k+1,by omega,by go_num,HK,n1⟩
     case measure=>simp [intOf];omega
    ·have Wp:e.log.sure<p.lsn:=by omega
     have HE:Hid (RB=false∧qa w w1):=⟨O4.out (by rw [HDK.out,hA.out,qa0 hx];rfl),jr.out _ n1⟩;clear hx;go_wp2;go_ret;exact ⟨qm HE.out.1.symm,HE.out.2⟩
  ·obtain rfl:k=8:=by omega
   have hkk:¬ ((8:Nat):Int)<8:=by omega
   have HE:Hid (RB=true∧qa w wr):=⟨QB.out hall.out,jr.out _ hbr⟩;go_wp2;go_ret;exact ⟨qm HE.out.1.symm,HE.out.2⟩
theorem RI (e:qb) (se:e.shape) (w:World) (re:e.reads w) (hl:e.short 1048576) (hno:∀ k,k<e.seats.length→∃ n:Nat,(e.seats.getD k qi).no=n∧n<8):
  Calls prog 124 #[.agg e.cells.toArray] w fun r w'=>r=.returned (.bool (vI e.v))∧qa w w':=by
 have hvl:e.v.seats.length=e.seats.length:=by simp [qb.v]
 have kI:Hid (∀ k,k<e.seats.length→wC e.v k=false→vI e.v=false):=fun k hk h=>Q7 k (by omega) h
 have QB:Hid ((∀ k,k<e.seats.length→wC e.v k=true)→vI e.v=true):=fun h=>uP (fun k hk=>h k (by omega))
 have HSA:Hid (∀ k (n:Nat),(e.seats.getD k qi).no=n→n<8→wC e.v k=(decide ((e.seats.getD k qi).lsn≤(e.log.recs.length:Int)) && ((e.seats.getD k qi).dirty || wD ((e.seats.getD k qi).lsn,(e.seats.getD k qi).ss.map (·.v)) ((e.disk.getD n jh).lsn,(e.disk.getD n jh).ss.map (·.v))))):=fun k n hn h8=>by
  have e1:e.v.seats.getD k qy=(e.seats.getD k qi).v:=kM e.seats k;have e2:(e.seats.getD k qi).v.no=n:=hn;rw [wC,e1,e2,qcU,VU se n h8];simp only [qb.v,qI.v,qa4];rfl
 have HNN:Hid (_):=hno;obtain ⟨xR,Xy⟩:=Q4 (vI e.v);rw [Xy] at kI QB ⊢;clear Xy hno hvl;have pQ:Hid (∀ p∈e.disk,Fit p.ss):=fun p hp s hs=>by have:=hl.disk p hp s hs;omega
 have aV:Hid (∀ s∈e.seats,Fit s.ss):=fun s hs x hx=>by have:=hl.pool.each s hs x hx;omega
 have hrl:e.log.recs.length≤1048576:=hl.log.len;have hsl:e.seats.length≤1048576:=hl.pool.len;obtain ⟨W,hW,b0,hbW,qD⟩:=qB w e.cells 59;have HB:Hid (∀ u,qa W u→Box u w.heap.size e.cells 59):=fun u hu=>b0.below hu b0.lt
 have HR:Hid (∀ u,qa W u→e.reads u):=fun u hu=>(re.below hbW).below hu
 have jr:Hid (∀ u,qa W u→qa w u):=fun u hu=>qf hbW hu
 have hw0:w.heap.size<W.heap.size:=by omega
 have N:qa W W:=qab _ _;clear b0 qD;obtain ⟨_,p1,_,_,_,_,_⟩:=qY se (HB.out W N);have l0:W.cell? ⟨w.heap.size,136,none⟩=some (.slice e.aS e.seats.length e.cS):=p1 0 _ rfl;clear p1 hl re;go_enter func124,ntmps124;go_upto_region 1 with fail;rw [hW.out];clear hW;go_wp2_with fail;clear l0;go_loopw [9] (fun i wr=>∃ k:Nat,k≤e.seats.length∧i=.int .i64 (k:Int)∧Hid (∀ j,j<k→wC e.v j=true)∧qa W wr) (fun i _=>e.seats.length-(intOf i).toNat)
 case atStart=>exact ⟨0,qaw _,rfl,fun j hj=>by omega,N⟩
 case round=>
  clear N;obtain ⟨i,hi,rfl,hall,hbr⟩:=hrel;have QF:=hbr.size;by_cases hlt3:i<e.seats.length
  ·obtain ⟨b,off,ha,hc⟩:=Zw (HR.out _ hbr).pool i hlt3;have hcr:wr.rangeAt b (off+i*20) (e.seats.getD i qi).cells:=(hc i hlt3).1;obtain ⟨nn,hnn,Yx⟩:=HNN.out i hlt3;have Nf:Hid (_=_):=HSA.out i nn hnn Yx;have O5:Hid (_→_):=kI.out i hlt3;have F1:=aV.out _ (xE e.seats i hlt3);have hnl:nn<e.disk.length:=by rw [se.eight];exact Yx
   have F2:=pQ.out _ (xz (k:=nn) hnl);have Ng:=se.wy.at Yx;have wK:Hid (∀ u,qa W u→jS u (e.seats.getD i qi).ss∧jS u (e.disk.getD nn jh).ss):=fun u hu=>⟨by
    obtain ⟨_,_,_,hc2⟩:=Zw (HR.out _ hu).pool i hlt3;exact (hc2 i hlt3).2,(HR.out _ hu).disk _ (xz (k:=nn) hnl)⟩
   have HDG:Hid (∀ u,qa W u→u.rangeAt w.heap.size (nn*17) (e.disk.getD nn jh).cells):=fun u hu=>by
    have rp:=qb.VA se (HB.out u hu) nn hnl;rw [vz hnl] at rp;exact rp
   have ha':e.aS=some ⟨b,off,none⟩:=ha;rw [ha'];clear hc ha ha';generalize e.seats.getD i qi=s at*
   generalize e.disk.getD nn jh=p at*
   obtain ⟨ZV,QJ,bZ,yF,zx⟩:=qB wr [.int .i64 0,.int .i64 0,.bool false,.int .i64 0,.slice none 0 0,.slice none 0 0,.bool false,.int .i64 0,.slice none 0 0,.slice none 0 0,.bool false,.int .i64 0,.slice none 0 0,.slice none 0 0,.bool false,.int .i64 0,.slice none 0 0,.slice none 0 0,.bool false,.bool false] 121;obtain ⟨V,hV,XD,Kr,HT,_,bS⟩:=yx s _ rfl bZ;have nb:qa wr V:=yF.trans (XD.below qg (by omega));have nV:=qf hbr nb;have Ld:=bS.lt;have HS:Hid (∀ u,qa V u→(u.cell? ⟨wr.heap.size,1,none⟩=some (.int .i64 s.lsn)∧u.cell? ⟨w.heap.size,138,none⟩=some (.slice e.log.a e.log.recs.length e.log.c)∧u.cell? ⟨wr.heap.size,18,none⟩=some (.bool s.dirty)∧u.rangeAt wr.heap.size 1 s.page.cells∧u.cell? ⟨wr.heap.size,0,none⟩=some (.int .i64 (nn:Int))∧u.rangeAt w.heap.size (nn*17) p.cells)):=fun u hu=>by
    have bu:=bS.below hu bS.lt;have nu:=qf nV hu;obtain ⟨_,_,q2,_,_,_,_⟩:=qY se (HB.out u nu);have z0:=bu.cell 0 _ rfl;rw [hnn] at z0;exact ⟨bu.cell 1 _ rfl,q2 0 _ rfl,bu.cell 18 _ rfl,uX s bu,z0,HDG.out u nu⟩
   have hil:(i:Int)<(e.seats.length:Int):=by omega
   have hi0:(0:Int)≤(i:Int):=by omega
   have EV:Hid (ZV.setCells wr.heap.size 0 s.cells.toArray.toList=V):=hV.out;clear bZ yF zx XD Kr bS hV;go_upto_region 4 with (first | (guard_target=qp 12;refine qH 121 11 b (off+i*20) (s.cells) hcr underlying121 (xD _) ?_) | (guard_target=ja 4;refine jb 121 4 12 wr.heap.size 0 s.cells.toArray (by rw [QJ.out];exact HT.out) (jG (xD _)) (yh _) ?_) | fail);rw [QJ.out,EV.out];clear QJ EV HT hcr;have D0:qa V V.drew:=(qab _ _).drew;have N2:qa W V.drew:=qf nV D0;have qmf:(0:Int)≤(nn:Int):=by omega
   have qmg:(nn:Int)<8:=by omega
   obtain ⟨dr,hdr⟩:=qV s.dirty;rw [hdr.out] at HS;by_cases hx:s.lsn≤(e.log.recs.length:Int)
   ·have Wp:¬ (e.log.recs.length:Int)<s.lsn:=by omega
    cases dr with
    | true=>
     have HK:Hid (∀ j,j<i+1→wC e.v j=true):=fun j hj=>by
      by_cases q:j=i
      ·rw [q,Nf.out,qaC hx,hdr.out];rfl
      ·exact hall.out j (by omega)
     clear hx;refine wU HS D0 fun qc=>?_
     generalize V.drew=d0 at*
     iterate 24 refine jv ?_
     refine qau (by kernel_rfl) ?_ _;clear qc;go_wp2_with fail;go_roundw
     case rel=>exact ⟨i+1,by omega,by go_num,HK,N2⟩
     case measure=>simp [intOf];omega
    | false=>
     obtain ⟨sm,gy⟩:=qV (wD (s.lsn,s.ss.map (·.v)) (p.lsn,p.ss.map (·.v)));have FD:Hid (_=_):=gy.out;replace gy:Hid (wD (s.page.lsn,s.page.ss.map (·.v)) (p.lsn,p.ss.map (·.v))=sm):=gy.out;cases sm with
     | true=>
      have HK:Hid (∀ j,j<i+1→wC e.v j=true):=fun j hj=>by
       by_cases q:j=i
       ·rw [q,Nf.out,qaC hx,hdr.out,FD.out];rfl
       ·exact hall.out j (by omega)
      clear hx;refine wU HS D0 fun qc=>?_
      generalize V.drew=d0 at*
      iterate 14 refine jv ?_
      refine xB 14 (s.page.cells) (fun _ h=>h.2.2.2.1) underlying48 ((xe _ rfl)) ?_
      iterate 4 refine jv ?_
      refine xB 19 (p.cells) (fun _ h=>h.2.2.2.2.2) underlying48 ((xe _ Ng)) ?_;refine jc 20 (fun K hK=>?_);go_simp;refine (YZ s.page p rfl Ng _ (wK.out _ N2).1 (wK.out _ N2).2 F1 F2).mono ?_;rintro r d1 ⟨rfl,hb1⟩;have D1:=qf D0 hb1;have N3:=qf nV D1;rw [gy.out];refine qX hK (HS.out _ D1) fun qc=>?_
      clear hK K hb1;try simp only [zz]
      iterate 3 refine jv ?_
      refine qau (by kernel_rfl) ?_ _;clear qc;go_wp2_with fail;go_roundw
      case rel=>exact ⟨i+1,by omega,by go_num,HK,N3⟩
      case measure=>simp [intOf];omega
     | false=>
      have gp:Hid (xR=false):=O5.out (by rw [Nf.out,qaC hx,hdr.out,FD.out];rfl);clear hx;refine wU HS D0 fun qc=>?_
      generalize V.drew=d0 at*
      iterate 14 refine jv ?_
      refine xB 14 (s.page.cells) (fun _ h=>h.2.2.2.1) underlying48 ((xe _ rfl)) ?_
      iterate 4 refine jv ?_
      refine xB 19 (p.cells) (fun _ h=>h.2.2.2.2.2) underlying48 ((xe _ Ng)) ?_;refine jc 20 (fun K hK=>?_);go_simp;refine (YZ s.page p rfl Ng _ (wK.out _ N2).1 (wK.out _ N2).2 F1 F2).mono ?_;rintro r d1 ⟨rfl,hb1⟩;have D1:=qf D0 hb1;have N3:=qf nV D1;rw [gy.out];refine qX hK (HS.out _ D1) fun qc=>?_
      clear hK K hb1;try simp only [zz]
      iterate 3 refine jv ?_
      refine qau (by kernel_rfl) ?_ _;clear qc;have HE:Hid (xR=false∧qa w d1):=⟨gp.out,jr.out _ N3⟩;go_wp2;go_ret;exact ⟨qm HE.out.1.symm,HE.out.2⟩
   ·have Wp:(e.log.recs.length:Int)<s.lsn:=by omega
    have gp:Hid (xR=false):=O5.out (by rw [Nf.out,qa0 hx];rfl);clear hx;refine wU HS D0 fun qc=>?_
    generalize V.drew=d0 at*
    iterate 24 refine jv ?_
    refine qau (by kernel_rfl) ?_ _;clear qc;have HE:Hid (xR=false∧qa w d0):=⟨gp.out,jr.out _ N2⟩;go_wp2;go_ret;exact ⟨qm HE.out.1.symm,HE.out.2⟩
  ·have e1:i=e.seats.length:=by omega
   have HE:Hid (xR=true∧qa w wr):=⟨QB.out (by rw [e1] at hall;exact hall.out),jr.out _ hbr⟩;have hge:¬ (i:Int)<(e.seats.length:Int):=by omega
   clear hall e1;go_wp2;go_ret;exact ⟨qm HE.out.1.symm,HE.out.2⟩
end Go.Proofs.YtnfdccldabbobaaGreatDoor
