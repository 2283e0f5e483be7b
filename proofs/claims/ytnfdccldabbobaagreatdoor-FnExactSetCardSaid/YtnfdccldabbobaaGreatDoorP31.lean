/- Texts. -/
import Derived.Test.YtnfdccldabbobaaGreatDoorP21
set_option maxHeartbeats 8000000
set_option maxRecDepth 100000
namespace Go.Proofs.YtnfdccldabbobaaGreatDoor
open Go.RowKit Go.Proofs.Tryz
theorem qd3 {e:qR} {k:Nat} (hk:k<e.txs.length) (h:vJ e k=false):zQ e=false:=by
 have:Q8 e=false:=Q7 k hk h;rw [zQ,this,qgg]
theorem LW {e:qR} {k:Nat} (hk:k<e.holds.length) (h:zY e k=false):zQ e=false:=by
 have:wT e=false:=Q7 k hk h;rw [zQ,this,qgg,Bool.and_false]
theorem LX {e:qR} (h1:∀ k,k<e.txs.length→vJ e k=true) (h2:∀ k,k<e.holds.length→zY e k=true):zQ e=decide (e.txs.length≤6):=by
 have a:Q8 e=true:=uP h1;have b:wT e=true:=uP h2;rw [zQ,a,b,qfH,qfH]
theorem Ml {P:Prop} (h:P:=by
 refine wU HS D0 fun qc=>?_
 generalize V.drew=d0 at*
 iterate 5 refine jv ?_
 refine jc 5 (fun K hK=>?_);go_simp;refine (j5 _ _ _ _).mono ?_;rintro r d0 ⟨rfl,rfl⟩;rw [hA.out];refine qX hK qc fun qc=>?_
 clear hK K;try simp only [zz]
 iterate 31 refine jv ?_
 refine qau (by kernel_rfl) ?_ _;clear qc;have HE:Hid (xR=false∧qa w d0):=⟨qfo.out vK.out,hbW.trans ((qf nV D0).mono hbW.size)⟩;go_wp2;go_ret;exact ⟨qm HE.out.1.symm,HE.out.2⟩):P:=h
theorem Mm {P:Prop} (h:P:=by
 clear hK K hb1;try simp only [zz]
 iterate 18 refine jv ?_
 refine qau (by kernel_rfl) ?_ _;clear qc;have HE:Hid (xR=false∧qa w d1):=⟨qfo.out vK.out,hbW.trans ((qf nV D1).mono hbW.size)⟩;go_wp2;go_ret;exact ⟨qm HE.out.1.symm,HE.out.2⟩):P:=h
theorem Sj (e:qb) (se:e.shape) (w:World) (re:e.reads w) (hl:e.short 1048576) (hn1:1≤e.next) (hn2:e.next≤1001):
  Calls prog 110 #[.agg e.cells.toArray] w fun r w'=>r=.returned (.bool (zQ e.v))∧qa w w':=by
 have HTN:Hid (∀ k,k<e.txs.length→vJ e.v k=false→zQ e.v=false):=fun k hk h=>qd3 hk h
 have HHN:Hid (∀ k,k<e.holds.length→zY e.v k=false→zQ e.v=false):=fun k hk h=>LW hk h
 have zw:Hid ((∀ k,k<e.txs.length→vJ e.v k=true)→(∀ k,k<e.holds.length→zY e.v k=true)→zQ e.v=decide (e.txs.length≤6)):=fun h1 h2=>LX h1 h2
 have Xz:Hid (∀ k,vJ e.v k=(inB (e.txs.getD k qz).tx 1 (e.next-1) && (!(e.txs.getD k qz).aborts && (decide ((e.txs.getD k qz).last=lastOf (e.log.recs.map ql.v) (e.txs.getD k qz).tx) && (decide (k=0) || decide ((e.txs.getD (k-1) qz).tx<(e.txs.getD k qz).tx)))))):=fun k=>rfl
 have HHX:Hid (∀ k,zY e.v k=(inB (e.holds.getD k jy).oid 1 31 && (decide (0≤jC e.txs (e.holds.getD k jy).tx) && Vg e.holds k))):=fun k=>rfl
 obtain ⟨xR,U0⟩:=Q4 (zQ e.v);rw [U0] at HTN HHN zw ⊢;clear U0;obtain ⟨W,hW,b0,hbW,qD⟩:=qB w e.cells 59;have HB:Hid (∀ u,qa W u→Box u w.heap.size e.cells 59):=fun u hu=>b0.below hu b0.lt
 have HR:Hid (∀ u,qa W u→e.reads u):=fun u hu=>(re.below hbW).below hu
 have hw0:w.heap.size<W.heap.size:=by omega
 have hlt:=hl.txs;have hlh:=hl.holds;have Il:Hid (e.log.recs.length≤1099511627776):=by have:=hl.log.len;rw [Hid];omega
 clear b0 qD hl re;obtain ⟨_,_,_,p3,p4,_,_⟩:=qY se (HB.out W (qab _ _));go_enter func110,ntmps110;go_wp2_with fail;rw [hW.out];clear hW p3 p4;go_loopw [3] (fun i wr=>∃ k:Nat,k≤e.txs.length∧i=.int .i64 (k:Int)∧Hid (∀ j,j<k→vJ e.v j=true)∧qa W wr) (fun i _=>e.txs.length-(intOf i).toNat)
 case atStart=>exact ⟨0,qaw _,rfl,fun j hj=>by omega,qab _ _⟩
 case round=>
  obtain ⟨k,hk,rfl,hall,hbr⟩:=hrel;have QF:=hbr.size;by_cases hlt2:k<e.txs.length
  ·obtain ⟨b,off,ha,hc⟩:=(HR.out _ hbr).txs (by intro e0;rw [e0] at hlt2;simp at hlt2);obtain ⟨c0,c1,c2⟩:=hc k hlt2;obtain ⟨_,_,_,p3,_,p5,_⟩:=qY se (HB.out wr hbr);rw [ha] at p3;have ay:Hid (∀ j,k=j+1→∀ u,qa wr u→u.cell? ⟨b,off+j*3,none⟩=some (.int .i64 (e.txs.getD j qz).tx)):=fun j hj u hu=>(hu.cell (p:=⟨b,off+j*3,none⟩) (block_lt (hc j (by omega)).1)).trans (hc j (by omega)).1
   have JC:=Xz.out k;have Ww:Hid (_=_):=JC;clear JC hc;have KU:=HTN.out k hlt2;have qfo:Hid (_→_):=KU;clear KU;generalize e.txs.getD k qz=t at*
   obtain ⟨V,hV,bV,uo,Yy⟩:=qB wr [.int .i64 t.tx,.int .i64 t.last,.bool t.aborts] 115;have nV:=qf hbr uo;have HS:Hid (∀ u,qa V u→(u.cell? ⟨wr.heap.size,0,none⟩=some (.int .i64 t.tx)∧u.cell? ⟨wr.heap.size,1,none⟩=some (.int .i64 t.last)∧u.cell? ⟨wr.heap.size,2,none⟩=some (.bool t.aborts)∧u.cell? ⟨w.heap.size,142,none⟩=some (.int .i64 e.next)∧u.rangeAt w.heap.size 138 e.log.cells∧u.cell? ⟨w.heap.size,140,none⟩=some (.slice (some ⟨b,off,none⟩) e.txs.length e.cT))):=fun u hu=>by
    have bu:=bV.below hu bV.lt;obtain ⟨_,_,q2,q3,_,q5,_⟩:=qY se (HB.out u (qf nV hu));rw [ha] at q3;exact ⟨bu.cell 0 _ rfl,bu.cell 1 _ rfl,bu.cell 2 _ rfl,q5,q2,q3⟩
   have sV:=uo.size;have CL:=fun u (hu:qa V u)=>lZ e.log t.tx u (HR.out _ (qf nV hu)).log Il.out
   have HPW:Hid (∀ j,k=j+1→∀ u,qa V u→u.cell? ⟨b,off+j*3,none⟩=some (.int .i64 (e.txs.getD j qz).tx)):=fun j hj u hu=>ay.out j hj u (uo.trans (hu.mono sV))
   have Ld:=bV.lt;clear bV Yy ay;go_upto_region 5 with fail;rw [hV.out];clear hV c0 c1 c2 p3 p5;have D0:qa V V.drew:=(qab _ _).drew;have hwr:IntKind.i64.wrap (e.next-1)=e.next-1:=by rw [IntKind.wrap_i64];omega
   obtain ⟨bA,hA⟩:=qV (inB t.tx 1 (e.next-1));cases bA with
   | false=>
    have vK:Hid (vJ e.v k=false):=by rw [Hid,Ww.out,hA.out];rfl
    exact Ml
   | true=>
    obtain ⟨ab,hab⟩:=qV t.aborts;rw [hab.out] at HS;cases ab with
    | true=>
     have vK:Hid (vJ e.v k=false):=by rw [Hid,Ww.out,hA.out,hab.out];rfl
     exact Ml
    | false=>
     by_cases hC:t.last=lastOf (e.log.recs.map ql.v) t.tx
     ·have YB:Hid (_=_):=hC;have hCb:(t.last != lastOf (e.log.recs.map ql.v) t.tx)=false:=by simp [hC]
      clear hC;cases k with
      | zero=>
       have Hz:Hid (∀ j,j<0+1→vJ e.v j=true):=fun j hj=>by
        obtain rfl:j=0:=by omega
        rw [Ww.out,hA.out,hab.out,qaC YB.out];rfl
       have hk0:¬ (0:Int)<((0:Nat):Int):=by omega
       refine wU HS D0 fun qc=>?_
       generalize V.drew=d0 at*
       iterate 5 refine jv ?_
       refine jc 5 (fun K hK=>?_);go_simp;refine (j5 _ _ _ _).mono ?_;rintro r d0 ⟨rfl,rfl⟩;rw [hA.out];refine qX hK qc fun qc=>?_
       clear hK K ;try simp only [zz]
       iterate 9 refine jv ?_
       refine xB 15 (e.log.cells) (fun _ h=>h.2.2.2.2.1) underlying55 ((yT _)) ?_
       iterate 2 refine jv ?_
       refine jc 18 (fun K hK=>?_);go_simp;refine (CL _ D0).mono ?_;rintro r d1 ⟨rfl,hb1⟩;have D1:=qf D0 hb1;refine qX hK (HS.out _ D1) fun qc=>?_
       clear hK K hb1;try simp only [zz]
       iterate 18 refine jv ?_
       refine qau (by kernel_rfl) ?_ _;clear qc;have HN:Hid (qa W d1):=qf nV D1;go_wp2_with fail;go_roundw
       case rel=>exact ⟨0+1,by omega,by go_num,Hz,HN.out⟩
       case measure=>simp [intOf];omega
      | succ j=>
       have LY:Hid (∀ u,qa V u→u.cell? ⟨b,off+j*3,none⟩=some (.int .i64 (e.txs.getD j qz).tx)):=fun u hu=>HPW.out j rfl u hu
       rw [Nat.add_sub_cancel] at Ww;generalize e.txs.getD j qz=tj at Ww LY;clear HPW;have qoX:IntKind.i64.wrap (j:Int)=(j:Int):=by rw [IntKind.wrap_i64];omega
       have hk1:(0:Int)<((j+1:Nat):Int):=by omega
       have hj0:(0:Int)≤(j:Int):=by omega
       have hjl:(j:Int)<(e.txs.length:Int):=by omega
       have hwj:IntKind.i64.wrap (((j+1:Nat):Int)-1)=(j:Int):=by rw [IntKind.wrap_i64];omega
       by_cases hD:tj.tx<t.tx
       ·have hDD:¬ t.tx≤tj.tx:=by omega
        have Hz:Hid (∀ i,i<j+1+1→vJ e.v i=true):=fun i hi=>by
         by_cases q:i=j+1
         ·rw [q,Ww.out,hA.out,hab.out,qaC YB.out,qaC hD];simp
         ·exact hall.out i (by omega)
        clear hD;refine qaZ (S:=fun u=>(u.cell? ⟨wr.heap.size,0,none⟩=some (.int .i64 t.tx)∧u.cell? ⟨wr.heap.size,1,none⟩=some (.int .i64 t.last)∧u.cell? ⟨wr.heap.size,2,none⟩=some (.bool false)∧u.cell? ⟨w.heap.size,142,none⟩=some (.int .i64 e.next)∧u.rangeAt w.heap.size 138 e.log.cells∧u.cell? ⟨w.heap.size,140,none⟩=some (.slice (some ⟨b,off,none⟩) e.txs.length e.cT))∧u.cell? ⟨b,off+j*3,none⟩=some (.int .i64 tj.tx)) (by kernel_rfl) (⟨HS.out _ D0,LY.out _ D0⟩) (fun qc=>?_);generalize V.drew=d0 at*
        iterate 5 refine jv ?_
        refine jc 5 (fun K hK=>?_);go_simp;refine (j5 _ _ _ _).mono ?_;rintro r d0 ⟨rfl,rfl⟩;rw [hA.out];refine qX hK qc fun qc=>?_
        clear hK K ;try simp only [zz]
        iterate 9 refine jv ?_
        refine xB 15 (e.log.cells) (fun _ h=>h.1.2.2.2.2.1) underlying55 ((yT _)) ?_
        iterate 2 refine jv ?_
        refine jc 18 (fun K hK=>?_);go_simp;refine (CL _ D0).mono ?_;rintro r d1 ⟨rfl,hb1⟩;have D1:=qf D0 hb1;refine qX hK (⟨HS.out _ D1,LY.out _ D1⟩) fun qc=>?_
        clear hK K hb1;try simp only [zz]
        iterate 18 refine jv ?_
        refine qau (by kernel_rfl) ?_ _;clear qc;have HN:Hid (qa W d1):=qf nV D1;go_wp2_with fail;go_roundw
        case rel=>exact ⟨j+1+1,by omega,by go_num,Hz,HN.out⟩
        case measure=>simp [intOf];omega
       ·have hDD:t.tx≤tj.tx:=by omega
        have vK:Hid (vJ e.v (j+1)=false):=by rw [Hid,Ww.out,hA.out,hab.out,qaC YB.out,qa0 hD];simp
        clear hD;refine qaZ (S:=fun u=>(u.cell? ⟨wr.heap.size,0,none⟩=some (.int .i64 t.tx)∧u.cell? ⟨wr.heap.size,1,none⟩=some (.int .i64 t.last)∧u.cell? ⟨wr.heap.size,2,none⟩=some (.bool false)∧u.cell? ⟨w.heap.size,142,none⟩=some (.int .i64 e.next)∧u.rangeAt w.heap.size 138 e.log.cells∧u.cell? ⟨w.heap.size,140,none⟩=some (.slice (some ⟨b,off,none⟩) e.txs.length e.cT))∧u.cell? ⟨b,off+j*3,none⟩=some (.int .i64 tj.tx)) (by kernel_rfl) (⟨HS.out _ D0,LY.out _ D0⟩) (fun qc=>?_);generalize V.drew=d0 at*
        iterate 5 refine jv ?_
        refine jc 5 (fun K hK=>?_);go_simp;refine (j5 _ _ _ _).mono ?_;rintro r d0 ⟨rfl,rfl⟩;rw [hA.out];refine qX hK qc fun qc=>?_
        clear hK K ;try simp only [zz]
        iterate 9 refine jv ?_
        refine xB 15 (e.log.cells) (fun _ h=>h.1.2.2.2.2.1) underlying55 ((yT _)) ?_
        iterate 2 refine jv ?_
        refine jc 18 (fun K hK=>?_);go_simp;refine (CL _ D0).mono ?_;rintro r d1 ⟨rfl,hb1⟩;have D1:=qf D0 hb1;refine qX hK (⟨HS.out _ D1,LY.out _ D1⟩) fun qc=>?_
        exact Mm
     ·have vK:Hid (vJ e.v k=false):=by rw [Hid,Ww.out,hA.out,hab.out,qa0 hC];rfl
      have hCb:(t.last != lastOf (e.log.recs.map ql.v) t.tx)=true:=by simpa using hC
      clear hC;refine wU HS D0 fun qc=>?_
      generalize V.drew=d0 at*
      iterate 5 refine jv ?_
      refine jc 5 (fun K hK=>?_);go_simp;refine (j5 _ _ _ _).mono ?_;rintro r d0 ⟨rfl,rfl⟩;rw [hA.out];refine qX hK qc fun qc=>?_
      clear hK K ;try simp only [zz]
      iterate 9 refine jv ?_
      refine xB 15 (e.log.cells) (fun _ h=>h.2.2.2.2.1) underlying55 ((yT _)) ?_
      iterate 2 refine jv ?_
      refine jc 18 (fun K hK=>?_);go_simp;refine (CL _ D0).mono ?_;rintro r d1 ⟨rfl,hb1⟩;have D1:=qf D0 hb1;refine qX hK (HS.out _ D1) fun qc=>?_
      exact Mm
  ·have e1:k=e.txs.length:=by omega
   have HT1:Hid (∀ j,j<e.txs.length→vJ e.v j=true):=by rw [e1] at hall;exact hall
   obtain ⟨_,_,_,p3,p4,_,_⟩:=qY se (HB.out wr hbr);have hge:¬ (k:Int)<(e.txs.length:Int):=by omega
   clear hall e1;go_upto_region 8 with fail;clear p3 p4 hge;generalize wr=wq at*
   go_loopw [5,6] (fun i _ wr=>∃ k:Nat,k≤e.holds.length∧i=.int .i64 (k:Int)∧Hid (∀ j,j<k→zY e.v j=true)∧qa W wr) (fun i _ _=>e.holds.length-(intOf i).toNat)
   case atStart=>exact ⟨0,qaw _,rfl,fun j hj=>by omega,hbr⟩
   case round=>
    obtain ⟨m,hm,rfl,sK,XR⟩:=hrel;clear hbr QF;have QF:=XR.size;by_cases hlt3:m<e.holds.length
    ·obtain ⟨b,off,ha,hc⟩:=(HR.out _ XR).holds (by intro e0;rw [e0] at hlt3;simp at hlt3);have HC:Hid (∀ j,j<e.holds.length→∀ u,qa wr u→u.cell? ⟨b,off+j*2,none⟩=some (.int .i64 (e.holds.getD j jy).tx)∧u.cell? ⟨b,off+j*2+1,none⟩=some (.int .i64 (e.holds.getD j jy).oid)):=fun j hj u hu=>⟨(hu.cell (p:=⟨b,off+j*2,none⟩) (block_lt (hc j hj).1)).trans (hc j hj).1,(hu.cell (p:=⟨b,off+j*2+1,none⟩) (block_lt (hc j hj).2)).trans (hc j hj).2⟩
     have LZ:Hid (_=_):=HHX.out m;have KU:Hid (_→_):=HHN.out m hlt3;clear hc;obtain ⟨h,hh⟩:=qV (e.holds.getD m jy);rw [hh.out] at LZ;have HS:Hid (∀ u,qa wr u→(u.cell? ⟨w.heap.size,141,none⟩=some (.slice (some ⟨b,off,none⟩) e.holds.length e.cH)∧u.cell? ⟨b,off+m*2+1,none⟩=some (.int .i64 h.oid)∧u.cell? ⟨b,off+m*2,none⟩=some (.int .i64 h.tx)∧u.rangeAt w.heap.size 0 e.cells)):=fun u hu=>by
      have bu:=HB.out u (qf XR hu);obtain ⟨_,_,_,_,q4,_,_⟩:=qY se bu;rw [ha] at q4;obtain ⟨z0,z1⟩:=HC.out m hlt3 u hu;rw [hh.out] at z0 z1;exact ⟨q4,z1,z0,qN bu⟩
     obtain ⟨_,_,_,_,p4,_,_⟩:=qY se (HB.out wr XR);rw [ha] at p4;have CL:=fun u (hu:qa wr u)=>Yo e se h.tx u (HR.out _ (qf XR hu)).txs (by omega)
     have Vq:(m:Int)<(e.holds.length:Int):=by omega
     have hm0:(0:Int)≤(m:Int):=by omega
     go_upto_region 10 with fail;clear p4;have D0:qa wr wr.drew:=(qab _ _).drew;obtain ⟨bA,hA⟩:=qV (inB h.oid 1 31);obtain ⟨lv,hlv⟩:=qV (jC e.txs h.tx);have HI:=j6 se;cases bA with
     | false=>
      have vK:Hid (zY e.v m=false):=by rw [Hid,LZ.out,hA.out];rfl
      refine wU HS D0 fun qc=>?_
      generalize wr.drew=d0 at*
      iterate 6 refine jv ?_
      refine jc 6 (fun K hK=>?_);go_simp;refine (j5 _ _ _ _).mono ?_;rintro r d0 ⟨rfl,rfl⟩;rw [hA.out];refine qX hK qc fun qc=>?_
      clear hK K ;try simp only [zz]
      iterate 12 refine jv ?_
      refine qau (by kernel_rfl) ?_ _;clear qc;have HE:Hid (xR=false∧qa w d0):=⟨KU.out vK.out,hbW.trans ((qf XR D0).mono hbW.size)⟩;go_wp2;go_ret;exact ⟨qm HE.out.1.symm,HE.out.2⟩
     | true=>
      by_cases hL:lv<0
      ·have vK:Hid (zY e.v m=false):=by rw [Hid,LZ.out,hA.out,hlv.out,qa0 (by omega)];rfl
       refine wU HS D0 fun qc=>?_
       generalize wr.drew=d0 at*
       iterate 6 refine jv ?_
       refine jc 6 (fun K hK=>?_);go_simp;refine (j5 _ _ _ _).mono ?_;rintro r d0 ⟨rfl,rfl⟩;rw [hA.out];refine qX hK qc fun qc=>?_
       clear hK K ;try simp only [zz]
       iterate 2 refine jv ?_
       refine xB 9 (e.cells) (fun _ h=>h.2.2.2) underlying59 HI ?_
       iterate 6 refine jv ?_
       refine jc 16 (fun K hK=>?_);go_simp;refine (CL _ D0).mono ?_;rintro r d1 ⟨rfl,hb1⟩;rw [hlv.out];have D1:=qf D0 hb1;refine qX hK (HS.out _ D1) fun qc=>?_
       clear hK K hb1;try simp only [zz]
       iterate 2 refine jv ?_
       refine qau (by kernel_rfl) ?_ _;clear qc;have HE:Hid (xR=false∧qa w d1):=⟨KU.out vK.out,hbW.trans ((qf XR D1).mono hbW.size)⟩;go_wp2;go_ret;exact ⟨qm HE.out.1.symm,HE.out.2⟩
      ·have Yb:Hid (decide (0≤jC e.txs h.tx)=true):=by rw [Hid,hlv.out];exact qaC (by omega)
       refine wU HS D0 fun qc=>?_
       generalize wr.drew=d0 at*
       iterate 6 refine jv ?_
       refine jc 6 (fun K hK=>?_);go_simp;refine (j5 _ _ _ _).mono ?_;rintro r d0 ⟨rfl,rfl⟩;rw [hA.out];refine qX hK qc fun qc=>?_
       clear hK K ;try simp only [zz]
       iterate 2 refine jv ?_
       refine xB 9 (e.cells) (fun _ h=>h.2.2.2) underlying59 HI ?_
       iterate 6 refine jv ?_
       refine jc 16 (fun K hK=>?_);go_simp;refine (CL _ D0).mono ?_;rintro r d1 ⟨rfl,hb1⟩;rw [hlv.out];have D1:=qf D0 hb1;refine qX hK (HS.out _ D1) fun qc=>?_
       clear hK K hb1;try simp only [zz]
       iterate 2 refine jv ?_
       refine qau (by kernel_rfl) ?_ _;clear qc;have N1:=qf XR D1;clear CL;go_wp2_with fail;generalize wr=wo at*
       go_loopw [6] (fun i wr=>∃ q:Nat,q≤m∧i=.int .i64 (q:Int)∧Hid (∀ j,j<q→(e.holds.getD j jy).oid≠h.oid)∧qa wo wr) (fun i _=>m-(intOf i).toNat)
       case atStart=>exact ⟨0,qaw _,rfl,fun j hj=>by omega,D1⟩
       case round=>
        obtain ⟨q,hq,rfl,qfq,hbi⟩:=hrel;clear D1 N1;by_cases qoY:q<m
        ·obtain ⟨y0,y1⟩:=HC.out q (by omega) wr hbi;obtain ⟨s0,s1,_,_⟩:=HS.out wr hbi;obtain ⟨oq,hoq⟩:=qV ((e.holds.getD q jy).oid);rw [hoq.out] at y1;have HSI:Hid (∀ u,qa wr u→(u.cell? ⟨w.heap.size,141,none⟩=some (.slice (some ⟨b,off,none⟩) e.holds.length e.cH)∧u.cell? ⟨b,off+m*2+1,none⟩=some (.int .i64 h.oid)∧u.cell? ⟨b,off+q*2+1,none⟩=some (.int .i64 oq))):=fun u hu=>by
          have hu2:=qf hbi hu;obtain ⟨z0,z1,_,_⟩:=HS.out u hu2;obtain ⟨_,z2⟩:=HC.out q (by omega) u hu2;rw [hoq.out] at z2;exact ⟨z0,z1,z2⟩
         have hql:(q:Int)<(e.holds.length:Int):=by omega
         have hq0:(0:Int)≤(q:Int):=by omega
         have hqm:(q:Int)<(m:Int):=by omega
         clear y0 y1 s0 s1;go_wp2_with fail;have DI:qa wr wr.drew:=(qab _ _).drew;have NI:qa wo wr.drew:=qf hbi DI;by_cases heq:oq=h.oid
         ·have yJ:(oq == h.oid)=true:=by simp [heq]
          have vK:Hid (zY e.v m=false):=by
           have hf:Vg e.holds m=false:=Q7 q (by omega) (by rw [hh.out,hoq.out,heq];simp);rw [Hid,LZ.out,hf];simp
          clear heq;refine wU HSI DI fun qc=>?_
          generalize wr.drew=d2 at*
          iterate 13 refine jv ?_
          refine qau (by kernel_rfl) ?_ _;clear qc;have HE:Hid (xR=false∧qa w d2):=⟨KU.out vK.out,hbW.trans ((qf XR NI).mono hbW.size)⟩;go_wp2;go_ret;exact ⟨qm HE.out.1.symm,HE.out.2⟩
         ·have yJ:(oq == h.oid)=false:=by simpa using heq
          have qlR:Hid (∀ j,j<q+1→(e.holds.getD j jy).oid≠h.oid):=fun j hj=>by
           by_cases q2:j=q
           ·rw [q2,hoq.out];exact heq
           ·exact qfq.out j (by omega)
          clear heq;refine wU HSI DI fun qc=>?_
          generalize wr.drew=d2 at*
          iterate 13 refine jv ?_
          refine qau (by kernel_rfl) ?_ _;clear qc;go_wp2_with fail;go_roundw
          case rel=>exact ⟨q+1,by omega,by go_num,qlR,NI⟩
          case measure=>simp [intOf];omega
        ·obtain rfl:q=m:=by omega
         have hqq:¬ (q:Int)<(q:Int):=by omega
         have yD:Hid (∀ j,j<q+1→zY e.v j=true):=fun j hj=>by
          by_cases q2:j=q
          ·have hf:Vg e.holds q=true:=uP (fun i hi=>by rw [hh.out];exact qaC (qfq.out i hi));rw [q2,LZ.out,hA.out,Yb.out,hf];rfl
          ·exact sK.out j (by omega)
         have HN:Hid (qa W wr):=qf XR hbi;go_wp2_with fail;go_roundw
         case rel=>exact ⟨q+1,by omega,by go_num,yD,HN.out⟩
         case measure=>simp [intOf];omega
    ·have e1:m=e.holds.length:=by omega
     have L8:Hid (∀ j,j<e.holds.length→zY e.v j=true):=by rw [e1] at sK;exact sK
     have HE:Hid (xR=decide (e.txs.length≤6)∧qa w wr):=⟨zw.out HT1.out L8.out,qf hbW XR⟩;obtain ⟨_,_,_,p3,p4,_,_⟩:=qY se (HB.out wr XR);have hge:¬ (m:Int)<(e.holds.length:Int):=by omega
     clear e1 sK;by_cases h6:e.txs.length≤6
     ·have h6i:(e.txs.length:Int)≤6:=by omega
      go_wp2;go_ret;exact ⟨qm (by rw [HE.out.1,qaC h6]),HE.out.2⟩
     ·have h6i:¬ (e.txs.length:Int)≤6:=by omega
      go_wp2;go_ret;exact ⟨qm (by rw [HE.out.1,qa0 h6]),HE.out.2⟩
end Go.Proofs.YtnfdccldabbobaaGreatDoor
