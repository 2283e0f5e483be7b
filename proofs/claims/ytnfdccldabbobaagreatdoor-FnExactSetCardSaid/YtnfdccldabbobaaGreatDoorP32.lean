/- Texts. -/
import Derived.Test.YtnfdccldabbobaaGreatDoorP28
import Derived.Test.YtnfdccldabbobaaGreatDoorP29
import Derived.Test.YtnfdccldabbobaaGreatDoorP30
import Derived.Test.YtnfdccldabbobaaGreatDoorP23
set_option maxHeartbeats 8000000
set_option maxRecDepth 100000
namespace Go.Proofs.YtnfdccldabbobaaGreatDoor
open Go.RowKit Go.Proofs.Tryz
def partAt (e:qR) (i:Nat):Bool:=inB (e.holds.getD i jy).oid 1 31 && decide (0≤jC e.txs (e.holds.getD i jy).tx)
theorem qdO {e:qR} {k:Nat} (hk:k<e.holds.length) (h:partAt e k=false):wT e=false:=by
 refine Q7 k hk ?_;unfold partAt at h;unfold zY;rw [← Bool.and_assoc,h,qgg]
theorem qa9 {e:qR} (h:∀ k,k<e.holds.length→partAt e k=true):wT e=decide ((jf e.holds e.holds.length).length=e.holds.length):=by
 have hh:∀ k,k<e.holds.length→zY e k=Vg e.holds k:=fun k hk=>by
  have:=h k hk;unfold partAt at this;unfold zY;rw [← Bool.and_assoc,this,qfH]
 by_cases q:(jf e.holds e.holds.length).length=e.holds.length
 ·rw [qaC q];refine uP fun k hk=>?_
  rw [hh k hk];exact uP fun j hj=>qaC ((GX _ _).1 q k hk j hj)
 ·rw [qa0 q];by_cases r:wT e=true
  ·exact absurd ((GX _ _).2 fun i hi j hj=>by
    have h1:=Xx r i hi;rw [hh i hi] at h1;exact of_decide_eq_true (Xx h1 j hj)) q
  ·simpa using r
theorem RH (e:qb) (se:e.shape) (w:World) (re:e.reads w) (hl:e.short 1048576):
  Calls prog 127 #[.agg e.cells.toArray] w fun r w'=>r=.returned (.bool (wT e.v))∧qa w w':=by
 have kI:Hid (∀ k,k<e.holds.length→partAt e.v k=false→wT e.v=false):=fun k hk h=>qdO hk h
 have QB:Hid ((∀ k,k<e.holds.length→partAt e.v k=true)→wT e.v=decide ((jf e.holds e.holds.length).length=e.holds.length)):=fun h=>qa9 h
 have Bb:Hid (∀ k,partAt e.v k=(inB (e.holds.getD k jy).oid 1 31 && decide (0≤jC e.txs (e.holds.getD k jy).tx))):=fun k=>rfl
 obtain ⟨RB,Xy⟩:=Q4 (wT e.v);rw [Xy] at kI QB ⊢;clear Xy;have hlt:=hl.txs;have hlh:=hl.holds;obtain ⟨W,hW,b0,hbW,qD⟩:=qB w e.cells 59;have HB:Hid (∀ u,qa W u→Box u w.heap.size e.cells 59):=fun u hu=>b0.below hu b0.lt
 have HR:Hid (∀ u,qa W u→e.reads u):=fun u hu=>(re.below hbW).below hu
 have jr:Hid (∀ u,qa W u→qa w u):=fun u hu=>qf hbW hu
 have hw0:w.heap.size<W.heap.size:=by omega
 have N:qa W W:=qab _ _;clear b0 qD;obtain ⟨_,_,_,_,p4,_,_⟩:=qY se (HB.out W N);clear hl re;go_enter func127,ntmps127;go_upto_region 1 with fail;rw [hW.out];clear hW;go_wp2_with fail;clear p4;go_loopw [8] (fun i wr=>∃ k:Nat,k≤e.holds.length∧i=.int .i64 (k:Int)∧Hid (∀ j,j<k→partAt e.v j=true)∧qa W wr) (fun i _=>e.holds.length-(intOf i).toNat)
 case atStart=>exact ⟨0,qaw _,rfl,fun j hj=>by omega,N⟩
 case round=>
  obtain ⟨k,hk,rfl,hall,hbr⟩:=hrel;clear N;have QF:=hbr.size;by_cases hlt2:k<e.holds.length
  ·obtain ⟨b,off,ha,hc⟩:=(HR.out _ hbr).holds (by intro e0;rw [e0] at hlt2;simp at hlt2);obtain ⟨c0,c1⟩:=hc k hlt2;have HPK:Hid (_=_):=Bb.out k;have KU:Hid (_→_):=kI.out k hlt2;rw [ha];clear hc ha;generalize e.holds.getD k jy=t at*
   obtain ⟨V,hV,bV,uo,Yy⟩:=qB wr [.int .i64 t.tx,.int .i64 t.oid] 117;have nV:=qf hbr uo;have x1:=bV.cell 1 _ rfl;have x0:=bV.cell 0 _ rfl;obtain ⟨_,_,_,p3,_,_,_⟩:=qY se (HB.out _ nV);have C2:=NQ e.aT e.cT e.txs t.tx V (HR.out _ nV).txs (by omega);have hkl:(k:Int)<(e.holds.length:Int):=by omega
   have hk0:(0:Int)≤(k:Int):=by omega
   clear uo Yy bV;go_upto_region 4 with fail;rw [hV.out];clear hV c0 c1;go_wp2_with fail;refine (Zc _ _).mono ?_;rintro r w1 ⟨rfl,rfl⟩;obtain ⟨bA,hA⟩:=qV (inB t.oid 1 31);rw [hA.out];cases bA with
   | false=>
    have HE:Hid (RB=false∧qa w w1):=⟨KU.out (by rw [HPK.out,hA.out];rfl),jr.out _ nV⟩;clear C2;go_wp2;go_ret;exact ⟨qm HE.out.1.symm,HE.out.2⟩
   | true=>
    go_wp2_with fail;refine C2.mono ?_;clear C2 p3 x0 x1;rintro r w2 ⟨rfl,hb2⟩;have n2:=qf nV hb2;clear hb2 nV;obtain ⟨bB,hB⟩:=qV (decide (0≤jC e.txs t.tx));rw [hB.out];cases bB with
    | false=>
     have HE:Hid (RB=false∧qa w w2):=⟨KU.out (by rw [HPK.out,hA.out,hB.out];rfl),jr.out _ n2⟩;go_wp2;go_ret;exact ⟨qm HE.out.1.symm,HE.out.2⟩
    | true=>
     have HK:Hid (∀ j,j<k+1→partAt e.v j=true):=fun j hj=>by
      by_cases q:j=k
      ·rw [q,HPK.out,hA.out,hB.out];rfl
      ·exact hall.out j (by omega)
     go_wp2_with fail;go_roundw
     case rel=>exact ⟨k+1,by omega,by go_num,HK,n2⟩
     case measure=>simp [intOf];omega
  ·have e1:k=e.holds.length:=by omega
   have mH:Hid (RB=_):=QB.out (by rw [e1] at hall;exact hall.out);have hge:¬ (k:Int)<(e.holds.length:Int):=by omega
   clear hall e1;go_upto_region 7 with fail;have HS:Hid (∀ u,qa wr u→u.cell? ⟨w.heap.size,141,none⟩=some (.slice e.aH e.holds.length e.cH)):=fun u hu=>by
    obtain ⟨_,_,_,_,q4,_,_⟩:=qY se (HB.out u (qf hbr hu));exact q4
   have D0:qa wr wr.drew:=(qab _ _).drew;have N2:qa W wr.drew:=qf hbr D0;have hle:(jf e.holds e.holds.length).length≤e.holds.length:=Ul _ _;obtain ⟨bA,hA⟩:∃ bA,Hid ((((jf e.holds e.holds.length).length:Int) == (e.holds.length:Int))=bA):=⟨_,rfl⟩;have HRA:Hid (RB=bA):=mH.out.trans (by rw [← hA.out];exact Bool.eq_iff_iff.2 (by rw [decide_eq_true_iff,qfu];omega));have YB:Hid (∀ u,qa W u→Calls prog 83 #[.slice e.aH e.holds.length e.cH] u fun r w'=>r=.returned (.map (some u.heap.size))∧MapAt w' u.heap.size (jf e.holds e.holds.length)∧qa u w'):=fun u hu=>UY e.aH e.cH e.holds u (HR.out _ hu).holds (by omega)
   clear mH hge QB kI Bb;generalize hcl:jf e.holds e.holds.length=cl at*
   clear hcl;refine wU HS D0 fun qc=>?_
   generalize wr.drew=d0 at*
   iterate 2 refine jv ?_
   refine jg 4 ?_;refine jg 5 ?_;refine jg 6 ?_;refine jc 2 (fun K hK=>?_);go_simp;refine (YB.out _ N2).mono ?_;rintro r d1 ⟨rfl,hm1,hb1⟩;have D1:=qf D0 hb1;have N3:=qf hbr D1;refine qX hK (HS.out _ D1) fun qc=>?_
   clear hK K hb1;try simp only [zz]
   refine jc 3 (fun K hK=>?_);have hlen:=Ij hm1;go_simp;refine qX hK (HS.out _ D1) fun qc=>?_
   clear hK K ;try simp only [zz]
   refine tk 7 (v:=.bool bA) rfl (Or.inl ⟨by rfl,?_⟩) qc ?_
   ·intro w' hSw;have hx:=hA.out;go_simp<;>rfl
   try simp only [zz]
   refine yt 8 (.bool bA) ?_;refine qau (by kernel_rfl) ?_ _;clear qc;have HE:Hid (RB=bA∧qa w d1):=⟨HRA.out,jr.out _ N3⟩;go_wp2;go_ret;exact ⟨qm HE.out.1.symm,HE.out.2⟩
theorem Um {P:Prop} (h:P:=by
 go_wp2_with (first | (guard_target=qp 22;refine qH 59 1 w.heap.size 0 (e.cells) pe underlying59 HI ?_) | fail);refine C3.mono ?_;clear C3 pe;rintro r x0 ⟨rfl,hb⟩;replace N:=qf N hb;clear hb;obtain ⟨v1,hv1⟩:=qV (uJ e.v);rw [hv1.out];cases v1 with
 | false=>
  have HE:Hid (xR=false∧qa w x0):=⟨by
   rw [dM.out,Xz.out];have q:=hv1.out;generalize inB e.next 1 1001=a1 at*
   generalize uJ e.v=a2 at*
   generalize vI e.v=a3 at*
   generalize uK e.v=a4 at*
   generalize decide (e.txs.length≤6)=a5 at*
   generalize Q8 e.v=a6 at*
   generalize wT e.v=a7 at*
   revert q;cases a1<;>cases a2<;>cases a3<;>cases a4<;>cases a5<;>cases a6<;>cases a7<;>decide,jr.out _ N⟩
  go_wp2;go_ret;exact ⟨qm HE.out.1.symm,HE.out.2⟩
 | true=>
  have pe:=Tz.out _ N;have C3:=CS _ (HR.out _ N) (kI.out HP.out);go_wp2_with (first | (guard_target=qp 25;refine jD (by rfl) 59 (.tmp 1) rfl w.heap.size 0 rfl (e.cells) _ pe underlying59 rfl HI ?_) | fail);refine C3.mono ?_;clear C3 pe;rintro r x1 ⟨rfl,hb⟩;replace N:=qf N hb;clear hb;obtain ⟨v2,hv2⟩:=qV (vI e.v);rw [hv2.out];cases v2 with
  | false=>
   have HE:Hid (xR=false∧qa w x1):=⟨by
    rw [dM.out,Xz.out];have q:=hv2.out;generalize inB e.next 1 1001=a1 at*
    generalize uJ e.v=a2 at*
    generalize vI e.v=a3 at*
    generalize uK e.v=a4 at*
    generalize decide (e.txs.length≤6)=a5 at*
    generalize Q8 e.v=a6 at*
    generalize wT e.v=a7 at*
    revert q;cases a1<;>cases a2<;>cases a3<;>cases a4<;>cases a5<;>cases a6<;>cases a7<;>decide,jr.out _ N⟩
   go_wp2;go_ret;exact ⟨qm HE.out.1.symm,HE.out.2⟩
  | true=>
   have pe:=Tz.out _ N;have C3:=CN _ (HR.out _ N);go_wp2_with (first | (guard_target=qp 29;refine jD (by rfl) 59 (.tmp 1) rfl w.heap.size 0 rfl (e.cells) _ pe underlying59 rfl HI ?_) | fail);refine C3.mono ?_;clear C3 pe;rintro r x2 ⟨rfl,hb⟩;replace N:=qf N hb;clear hb;obtain ⟨v3,hv3⟩:=qV ((uK e.v && inB e.next 1 1001));rw [hv3.out];cases v3 with
   | false=>
    have HE:Hid (xR=false∧qa w x2):=⟨by
     rw [dM.out,Xz.out];have q:=hv3.out;generalize inB e.next 1 1001=a1 at*
     generalize uJ e.v=a2 at*
     generalize vI e.v=a3 at*
     generalize uK e.v=a4 at*
     generalize decide (e.txs.length≤6)=a5 at*
     generalize Q8 e.v=a6 at*
     generalize wT e.v=a7 at*
     revert q;cases a1<;>cases a2<;>cases a3<;>cases a4<;>cases a5<;>cases a6<;>cases a7<;>decide,jr.out _ N⟩
    go_wp2;go_ret;exact ⟨qm HE.out.1.symm,HE.out.2⟩
   | true=>
    have pe:=Tz.out _ N;have C3:=CT _ (HR.out _ N) HL.out;go_wp2_with (first | (guard_target=qp 33;refine jD (by rfl) 59 (.tmp 1) rfl w.heap.size 0 rfl (e.cells) _ pe underlying59 rfl HI ?_) | fail);refine C3.mono ?_;clear C3 pe;rintro r x3 ⟨rfl,hb⟩;replace N:=qf N hb;clear hb;obtain ⟨v4,hv4⟩:=qV ((decide (e.txs.length≤6) && Q8 e.v));rw [hv4.out];cases v4 with
    | false=>
     have HE:Hid (xR=false∧qa w x3):=⟨by
      rw [dM.out,Xz.out];have q:=hv4.out;generalize inB e.next 1 1001=a1 at*
      generalize uJ e.v=a2 at*
      generalize vI e.v=a3 at*
      generalize uK e.v=a4 at*
      generalize decide (e.txs.length≤6)=a5 at*
      generalize Q8 e.v=a6 at*
      generalize wT e.v=a7 at*
      revert q;cases a1<;>cases a2<;>cases a3<;>cases a4<;>cases a5<;>cases a6<;>cases a7<;>decide,jr.out _ N⟩
     go_wp2;go_ret;exact ⟨qm HE.out.1.symm,HE.out.2⟩
    | true=>
     have pe:=Tz.out _ N;have C3:=CH _ (HR.out _ N);go_wp2_with (first | (guard_target=qp 37;refine jD (by rfl) 59 (.tmp 1) rfl w.heap.size 0 rfl (e.cells) _ pe underlying59 rfl HI ?_) | fail);refine C3.mono ?_;clear C3 pe;rintro r x4 ⟨rfl,hb⟩;replace N:=qf N hb;clear hb;obtain ⟨v5,hv5⟩:=qV (wT e.v);rw [hv5.out];cases v5 with
     | false=>
      have HE:Hid (xR=false∧qa w x4):=⟨by
       rw [dM.out,Xz.out];have q:=hv5.out;generalize inB e.next 1 1001=a1 at*
       generalize uJ e.v=a2 at*
       generalize vI e.v=a3 at*
       generalize uK e.v=a4 at*
       generalize decide (e.txs.length≤6)=a5 at*
       generalize Q8 e.v=a6 at*
       generalize wT e.v=a7 at*
       revert q;cases a1<;>cases a2<;>cases a3<;>cases a4<;>cases a5<;>cases a6<;>cases a7<;>decide,jr.out _ N⟩
      go_wp2;go_ret;exact ⟨qm HE.out.1.symm,HE.out.2⟩
     | true=>
      have HE:Hid (xR=true∧qa w x4):=⟨by
       have q1:=hv1.out;have q2:=hv2.out;have q3:=hv3.out;have q4:=hv4.out;have q5:=hv5.out;rw [qam] at q3 q4;rw [dM.out,Xz.out,q1,q2,q3.1,q3.2,q4.1,q4.2,q5];rfl,jr.out _ N⟩
      go_wp2;go_ret;exact ⟨qm HE.out.1.symm,HE.out.2⟩):P:=h
theorem dN (e:qb) (se:e.shape) (w:World) (hg:jR w) (re:e.reads w) (hl:e.short 1048576):
  Calls prog 77 #[.agg e.cells.toArray] w fun r w'=>r=.returned (.bool (jF e.v))∧qa w w':=by
 have yD:Hid (jF e.v=(xJ e.log.v && (okPool e.qQ.v && (inB e.next 1 1001 && (zQ e.v && (uK e.v && (uJ e.v && (vI e.v && (!e.down || Yh e.v))))))))):=rfl;have Xz:Hid (zQ e.v=(Q8 e.v && (wT e.v && decide (e.txs.length≤6)))):=rfl;have kI:Hid (okPool e.qQ.v=true→∀ k,k<e.seats.length→∃ n:Nat,(e.seats.getD k qi).no=n∧n<8):=fun h k hk=>by
  obtain ⟨n,h1,h2⟩:=TA (e:=e.v) h k (by simpa [qb.v] using hk);exact ⟨n,by rw [← h1];show _=(e.v.seats.getD k qy).no;rw [show e.v.seats.getD k qy=(e.seats.getD k qi).v from kM e.seats k];rfl,h2⟩
 have CB:=fun u=>iF e se u
 have CD:=fun u (hu:jR u) (hr:e.reads u)=>iG e se u hu hr hl
 have CS:=fun u (hr:e.reads u) h=>RI e se u hr hl h
 have CN:=fun u (hr:e.reads u)=>iH e se u hr hl
 have CT:=fun u (hr:e.reads u) h=>Ik e se u hr hl h
 have CH:=fun u (hr:e.reads u)=>RH e se u hr hl
 have UZ:Hid (e.qQ.short 1099511627776):=qo.jB hl.pool;have Il:Hid (e.log.short 1099511627776):=qI.jB hl.log;obtain ⟨xR,U0⟩:=Q4 (jF e.v);rw [U0] at yD ⊢;clear U0;have HI:=j6 se;obtain ⟨W,hW,b0,hbW,qD⟩:=qB w e.cells 59;have HB:Hid (∀ u,qa W u→Box u w.heap.size e.cells 59):=fun u hu=>b0.below hu b0.lt
 have HR:Hid (∀ u,qa W u→e.reads u):=fun u hu=>(re.below hbW).below hu
 have jr:Hid (∀ u,qa W u→qa w u):=fun u hu=>qf hbW hu
 have hw0:w.heap.size<W.heap.size:=by omega
 have N:qa W W:=qab _ _;clear b0 qD;have HG:Hid (∀ u,qa W u→jR u):=fun u hu=>hg.keep (jr.out u hu)
 have Tz:Hid (∀ u,qa W u→u.rangeAt w.heap.size 0 e.cells):=fun u hu=>Box.range [] e.cells [] (by simpa using HB.out u hu)
 clear re hl hg;have p1:=(qY se (HB.out W N)).2.1;have C1:=vg e.qQ W (HG.out W N) (HR.out W N).pool UZ.out;go_enter func77,ntmps77;go_upto_region 1 with fail;rw [hW.out];clear hW;go_wp2_with (first | (guard_target=qp 4;refine qH 52 3 w.heap.size 136 (e.qQ.cells) p1 underlying52 (xP _) ?_) | fail);refine C1.mono ?_;clear C1 p1;rintro r w1 ⟨rfl,hb⟩;replace N:=qf N hb;clear hb;obtain ⟨vP,hP⟩:=qV (okPool e.qQ.v);rw [hP.out] at yD ⊢;cases vP with
 | false=>
  have HE:Hid (xR=false∧qa w w1):=⟨by rw [yD.out];simp,jr.out _ N⟩;go_wp2;go_ret;exact ⟨qm HE.out.1.symm,HE.out.2⟩
 | true=>
  have p2:=(qY se (HB.out _ N)).2.2.1;have C2:=fC e.log w1 (HG.out _ N) (HR.out _ N).log Il.out;go_wp2_with (first | (guard_target=qp 9;refine jD (by rfl) 55 (.tmp 8) rfl w.heap.size 138 rfl (e.log.cells) _ p2 underlying55 rfl (yT _) ?_) | fail);refine C2.mono ?_;clear C2 p2;rintro r w2 ⟨rfl,hb⟩;replace N:=qf N hb;clear hb;obtain ⟨vL,hL⟩:=qV (xJ e.log.v);rw [hL.out] at yD ⊢;cases vL with
  | false=>
   have HE:Hid (xR=false∧qa w w2):=⟨by rw [yD.out];simp,jr.out _ N⟩;go_wp2;go_ret;exact ⟨qm HE.out.1.symm,HE.out.2⟩
  | true=>
   have p6:=(qY se (HB.out _ N)).2.2.2.2.2.2;have pe:=Tz.out _ N;obtain ⟨vD,hD⟩:=qV e.down;rw [hD.out] at yD p6;have HL:Hid (xJ e.log.v=true):=hL.out;have HP:Hid (okPool e.qQ.v=true):=hP.out;clear hL hP;cases vD with
   | false=>
    have dM:Hid (xR=(inB e.next 1 1001 && (zQ e.v && (uK e.v && (uJ e.v && vI e.v))))):=by rw [Hid,yD.out];simp
    clear yD CB;have C3:=CD w2 (HG.out _ N) (HR.out _ N);go_upto_region 3 with fail;clear p6;exact Um
   | true=>
    have C0:=CB w2;go_wp2_with (first | (guard_target=qp 17;refine jD (by rfl) 59 (.tmp 1) rfl w.heap.size 0 rfl (e.cells) _ pe underlying59 rfl HI ?_) | fail);refine C0.mono ?_;clear C0 CB p6 pe;rintro r w3 ⟨rfl,hb⟩;replace N:=qf N hb;clear hb;obtain ⟨vB,hB⟩:=qV (Yh e.v);rw [hB.out] at yD ⊢;cases vB with
    | false=>
     have HE:Hid (xR=false∧qa w w3):=⟨by rw [yD.out];simp,jr.out _ N⟩;go_wp2;go_ret;exact ⟨qm HE.out.1.symm,HE.out.2⟩
    | true=>
     have dM:Hid (xR=(inB e.next 1 1001 && (zQ e.v && (uK e.v && (uJ e.v && vI e.v))))):=by rw [Hid,yD.out];simp
     clear yD;have pe:=Tz.out _ N;have C3:=CD w3 (HG.out _ N) (HR.out _ N);go_upto_region 3 with fail;exact Um
def kz (e:qR) (asked:Bool):Int:=if jF e && (!e.down && asked) then (if 3800<e.log.recs.length then 4 else 0) else 1
theorem VI {P:Prop} (h:P:=by
 have HF:Hid (RV=1):=HV.out.trans rfl;go_wp2;go_ret;exact ⟨jN HF.out.symm,HE.out⟩):P:=h
theorem RJ (e:qb) (asked:Bool) (se:e.shape) (w:World) (hg:jR w) (re:e.reads w) (hl:e.short 1048576):
  Calls prog 34 #[.agg e.cells.toArray,.bool asked] w fun r w'=>r=.returned (.int .i64 (kz e.v asked))∧qa w w':=by
 have HV:Hid (kz e.v asked=if jF e.v && (!e.down && asked) then (if 3800<e.log.recs.length then 4 else 0) else 1):=by
  rw [Hid];unfold kz;rw [show e.v.log.recs.length=e.log.recs.length by simp [qb.v,qI.v]];rfl
 generalize kz e.v asked=RV at*
 have CE:=fun u (hu:jR u) (hr:e.reads u)=>dN e se u hu hr hl
 have hrl:e.log.recs.length≤1048576:=hl.log.len;have HI:=j6 se;obtain ⟨W,hW,b0,hbW,qD⟩:=qB w e.cells 59;have HB:Hid (∀ u,qa W u→Box u w.heap.size e.cells 59):=fun u hu=>b0.below hu b0.lt
 have HR:Hid (∀ u,qa W u→e.reads u):=fun u hu=>(re.below hbW).below hu
 have jr:Hid (∀ u,qa W u→qa w u):=fun u hu=>qf hbW hu
 have hw0:w.heap.size<W.heap.size:=by omega
 have N:qa W W:=qab _ _;clear b0 qD;have HG:Hid (∀ u,qa W u→jR u):=fun u hu=>hg.keep (jr.out u hu)
 have pe:W.rangeAt w.heap.size 0 e.cells:=qN (HB.out W N);clear re hl hg;have C1:=CE W (HG.out W N) (HR.out W N);clear CE;go_enter func34,ntmps34;go_wp2_with (first | (guard_target=qp 6;refine qH 59 2 w.heap.size 0 (e.cells) (by rw [hW.out];exact pe) underlying59 HI ?_) | fail);rw [hW.out];clear hW pe;refine C1.mono ?_;clear C1;rintro r w1 ⟨rfl,hb⟩;replace N:=qf N hb;clear hb;have p2:=(qY se (HB.out _ N)).2.2.1;have l0:w1.cell? ⟨w.heap.size,138,none⟩=some (.slice e.log.a e.log.recs.length e.log.c):=p2 0 _ rfl;have p6:=(qY se (HB.out _ N)).2.2.2.2.2.2;have HE:Hid (qa w w1):=jr.out _ N;obtain ⟨vO,hO⟩:=qV (jF e.v);obtain ⟨vD,hD⟩:=qV e.down;rw [hO.out,hD.out] at HV;rw [hD.out] at p6;rw [hO.out];clear p2 hO hD;cases vO with
 | false=>
  exact VI
 | true=>
  cases vD with
  | true=>
   exact VI
  | false=>
   cases asked with
   | false=>
    exact VI
   | true=>
    by_cases hx:3800<e.log.recs.length
    ·have hxi:(3800:Int)<(e.log.recs.length:Int):=by omega
     have HF:Hid (RV=4):=HV.out.trans (qan hx);clear hx;go_wp2;go_ret;exact ⟨jN HF.out.symm,HE.out⟩
    ·have hxi:¬ (3800:Int)<(e.log.recs.length:Int):=by omega
     have HF:Hid (RV=0):=HV.out.trans (qa2 hx);clear hx;go_wp2;go_ret;exact ⟨jN HF.out.symm,HE.out⟩
theorem ZM {e:qR} (h:jF e=true):ve (jf e.holds e.holds.length) e.holds:=by
 have h1:wT e=true:=by
  unfold jF zQ at h;simp only [qam] at h;exact h.2.2.2.1.2.1
 have hat:∀ i,i<e.holds.length→zY e i=true:=fun i hi=>qdt.1 h1 i (qds.2 hi)
 refine Rp (fun i hi j hj=>?_) (fun x hx=>?_)
 ·have:=hat i hi;unfold zY Vg at this;simp only [qam] at this;have:=qdt.1 this.2.2 j (qds.2 hj)
  simpa using this
 ·obtain ⟨i,hi,rfl⟩:=qfO.1 hx;have:=hat i hi;unfold zY at this;simp only [qam] at this;have h2:=this.1;have e1:e.holds.getD i jy=e.holds[i]:=by simp [List.getD,hi]
  rw [e1] at h2
  simpa [inB] using h2
theorem RL {e:qR} (h:jF e=true):1≤e.next∧e.next≤1001:=by
 unfold jF at h;simp only [qam] at h
 simpa [inB] using h.2.2.1
theorem Im {e:qR} (h:jF e=true):xJ e.log=true:=by
 unfold jF at h;simp only [qam] at h;exact h.1
theorem GY {e:qR} (h:jF e=true):e.log.sure≤e.log.recs.length:=by
 have h1:=Im h;unfold xJ at h1;simp only [qam] at h1;have:=h1.2.1;simp only [inB,qcB] at this;exact this.2
theorem VJ {e:qR} {a:Bool} (h:kz e a=0):e.log.recs.length≤3800:=by
 unfold kz at h;split at h
 ·split at h
  ·cases h
  ·omega
 ·cases h
theorem VK {e:qR} {a:Bool} (h:kz e a=0):jF e=true:=by
 unfold kz at h;cases ho:jF e with
 | true=>rfl
 | false=>rw [ho] at h;simp at h
theorem Bc {e:qR} (h:jF e=true) (i:Nat) (hi:i<e.txs.length):vJ e i=true:=by
 unfold jF zQ at h;simp only [qam] at h;exact Xx h.2.2.2.1.1 i hi
theorem Io {e:qR} (h:jF e=true):e.txs.length≤6:=by
 unfold jF zQ at h;simp only [qam,qcB] at h;exact h.2.2.2.1.2.2
theorem RN (tx:Int) (rs:List xS):∀ k,0≤vk tx rs k∧vk tx rs k≤k:=by
 intro k
 induction k with
 | zero=>exact ⟨Int.le_refl _,Int.le_refl _⟩
 | succ k ih=>
  rw [vk];split
  ·omega
  ·omega
theorem GZ {e:qR} (h:jF e=true):∀ t∈e.txs,1≤t.tx∧t.tx≤1000∧t.aborts=false∧t.last=lastOf e.log.recs t.tx∧0≤t.last∧t.last≤e.log.recs.length:=by
 intro t ht;obtain ⟨i,hi,rfl⟩:=qfO.1 ht;have h1:=Bc h i hi;have h2:=RL h;have e1:e.txs.getD i qz=e.txs[i]:=by simp [List.getD,hi]
 unfold vJ at h1;rw [e1] at h1;simp only [qam,inB,qcB,Bool.not_eq_true'] at h1;obtain ⟨⟨a1,a2⟩,a3,a4,_⟩:=h1;have a5:=RN e.txs[i].tx e.log.recs e.log.recs.length;have a6:lastOf e.log.recs e.txs[i].tx=vk e.txs[i].tx e.log.recs e.log.recs.length:=rfl;exact ⟨a1,by omega,a3,a4,by omega,by omega⟩
theorem Be {e:qR} (h:jF e=true):e.txs.Pairwise (fun a b=>a.tx<b.tx):=by
 have step:∀ i,i+1<e.txs.length→(e.txs.getD i qz).tx<(e.txs.getD (i+1) qz).tx:=fun i hi=>by
  have h1:=Bc h (i+1) hi;unfold vJ at h1;simp only [qam,Bool.or_eq_true,qcB,Nat.add_sub_cancel] at h1;rcases h1.2.2.2 with q | q
  ·omega
  ·exact q
 have far:∀ j i,i<j→j<e.txs.length→(e.txs.getD i qz).tx<(e.txs.getD j qz).tx:=by
  intro j
  induction j with
  | zero=>intro i hi;omega
  | succ j ih=>
   intro i hi hj;have h1:=step j hj;by_cases q:i=j
   ·rw [q];exact h1
   ·have:=ih i (by omega) (by omega);omega
 rw [qfY];intro i j hi hj hij;have:=far j i hij hj
 simpa [List.getD,hi,hj] using this
theorem Yi {e:qb} (se:e.shape) (h:jF e.v=true) (hl:e.short 1048576):e.v.zZ:=by
 have h1:okPool e.v.j4=true:=by
  unfold jF at h;simp only [qam] at h;exact h.2.1
 unfold okPool at h1;simp only [qam,qcB] at h1;obtain ⟨g1,g2,g3⟩:=h1;refine ⟨g1,?_,fun s hs=>?_,fun s hs=>?_,?_,fun p hp=>?_⟩
 ·have g4:0≤e.v.hand∧e.v.hand≤2:=dL g2;exact ⟨e.v.hand.toNat,by omega,by omega⟩
 ·obtain ⟨i,hi,rfl⟩:=qfO.1 hs;have g5:=Xx g3 i hi;unfold yH yM at g5;simp only [qam] at g5;have e1:e.v.j4.seats.getD i qy=e.v.seats[i]:=by simp [qR.j4,List.getD,hi]
  rw [e1] at g5;have g6:0≤e.v.seats[i].no∧e.v.seats[i].no≤7:=dL g5.1.1;exact ⟨e.v.seats[i].no.toNat,by omega,by omega⟩
 ·obtain ⟨x,hx,rfl⟩:=qdn.1 hs;intro y hy;obtain ⟨z,hz,rfl⟩:=qdn.1 hy;have:=hl.pool.each x hx z hz;omega
 ·show (e.disk.map _).length=8;rw [qa4];exact se.eight
 ·obtain ⟨q,hq,rfl⟩:=qdn.1 hp;intro y hy;obtain ⟨z,hz,rfl⟩:=qdn.1 hy;have:=hl.disk q hq z hz;omega
theorem j3.Kk {M:Nat} {n:Int} {w:World} {E:Nat} {e:qb} (h:yR M n w E e):w.rangeAt E 136 e.qQ.cells:=fun j v hv=>by
 match j,hv with
 | 0,hv=>cases hv;exact h.Y7 0 _ rfl
 | 1,hv=>cases hv;exact h.Y7 1 _ rfl
theorem j3.dO {M:Nat} {n:Int} {w w1:World} {E:Nat} {e:qb} (h:yR M n w E e) (t:qo) (hb:qa w w1) (ot:t.own w1 w.heap.size w1.heap.size):
  ∃ W,Hid (w1.setCells E 136 t.cells.toArray.toList=W)∧Hid (w1.there E 136 t.cells.toArray.size)∧ky M n E e w (e.jk t.seats t.a t.c t.hand) W:=by
 have hE:=h.box.lt;have b1:=h.box.below hb h.box.lt;have hl:=qb.yg h.shape;have e1:e.run M n=qx e.disk++(e.qQ.cells++[.slice e.log.a e.log.recs.length e.log.c,.int .i64 e.log.sure,.slice e.aT e.txs.length e.cT,.slice e.aH e.holds.length e.cH,.int .i64 e.next,.bool e.down,.map (some M),.int .i64 n]):=by rw [vV];rfl
 have b2:=b1;rw [e1] at b2;obtain ⟨W,hW,b3,hw,hs⟩:=jE _ _ t.cells _ b2 rfl;rw [hl] at hW;have htc:Touch [E] w1 W:=hw.QG;have hz:=hb.size;have hnew:∀ k∈qF t.a t.c t.seats,w.heap.size≤k:=fun k hk=>(OwnSts.qC ot k hk).1
 refine ⟨W,hW,b1.there 136 _ (by rw [vV,qai,hl];simp [qb.uN,qo.cells]),h.pool t.seats t.a t.c t.hand ?_ ?_ ?_ (fun k hk=>.inr (hnew k hk))⟩
 ·rw [vV];exact b3
 ·exact (OwnSts.touch ot htc (fun k hk hm=>by have:=hnew k hk;have:=qac.1 hm;omega)).widen (qaw _) (by omega) qg
 ·exact (Touch.of_below hb).trans (htc.mono (fun k hk=>by rw [qac.1 hk];exact qfd))
theorem qb.own.G5 {w:World} {lo hi:Nat} {e:qb} (h:e.own w lo hi):e.qQ.reads w:=OwnSts.reads h.pool
section
attribute [local go_sem ↓] Go.wp_at_zero Go.wp_at_succ
def PW (p:qo) (no lsn:Int) (ss:List qO) (w:World) (e:Ending) (w':World):Prop:=
 ∃ (t:qo) (s:qh) (b:Bool),e=.returned (.tuple #[.agg t.cells.toArray,.agg s.cells.toArray,.bool b])∧Hid (zb p.v no lsn ss=(t.v,s.v,b))∧t.own w' w.heap.size w'.heap.size∧s.own w' w.heap.size w'.heap.size∧qa w w'
theorem XN {P:Program} {fn:Func} {s t u:Nat} {ty tz:TypeId} {tmps:Array Value} {w:World} {v x:Value} {b:Bool} {ad ae:Addr} (hf:fn.results=#[.cell s ty,.cell t tz,.tmp u]) (ht:tmps[s]?.getD undef=.pointer (some ad)) (hu:tmps[t]?.getD undef=.pointer (some ae)) (hl:(loadVar ty ad).run P w=.ok v w) (hm:(loadVar tz ae).run P w=.ok x w) (hb:tmps[u]?.getD undef=.bool b):(results fn tmps).run P w=.ok (.tuple #[v,x,.bool b]) w:=by
 unfold results;rw [hf];simp [ht,hu,hb,asAddr,hl,hm]
theorem iI {p:jM} {no lsn:Int} {ss:List qO} (h:xC p no lsn ss=false):zb p no lsn ss=(p,qy,false):=by rw [zb,qa2 (by rw [h];decide)]
theorem Ip {p:jM} {no lsn:Int} {ss:List qO} (h:okPool p=false):xC p no lsn ss=false:=by rw [xC,h];rfl
theorem qdP {p:jM} {no lsn:Int} {ss:List qO} (h:inB no 0 7=false):xC p no lsn ss=false:=by rw [xC,h];simp
theorem Iq {p:jM} {no lsn:Int} {ss:List qO} (h:xZ lsn ss=false):xC p no lsn ss=false:=by rw [xC,h];simp
theorem iJ {p:jM} {no lsn:Int} {ss:List qO} (h:0≤qG p.seats no):xC p no lsn ss=false:=by
 rw [xC,qa0 (by omega:¬ qG p.seats no<0)];simp
theorem dP {p:jM} {no lsn:Int} {ss:List qO} (h1:okPool p=true) (h2:inB no 0 7=true) (h3:xZ lsn ss=true) (h4:qG p.seats no<0):xC p no lsn ss=true:=by
 rw [xC,h1,h2,h3,qaC h4];rfl
end
section
attribute [local go_sem ↓] Go.wp_at_zero Go.wp_at_succ
theorem Zf {P:Prop} (h:P:=by
 have b3N:=b3.below bN b3.lt;have b6N:=b6.below bN b6.lt;have b7N:=b7.below bN b7.lt;have nN:=qf hbW bN;have sN:=bN.size;have C:=Ql p wN (qo.reads.below hr nN) hl;simp only [qo.cells] at C;have p0:=b3N.cell 0 _ rfl;have p1:=b3N.cell 1 _ rfl;go_wp2_with fail;refine C.mono ?_;clear C p0 p1;rintro e wc ⟨t,rfl,hv,ho,hbc⟩;have sc:=hbc.size;have JA:=b6N.below hbc b6N.lt;have Ir:=b7N.below hbc b7N.lt;have nF:=qf nN hbc;have m0:=JA.cell 0 _ rfl;have m1:=JA.cell 1 _ rfl;have Kl:=JA.frozen 0;have mJ:=JA.frozen 1;obtain ⟨WP,TB,bP,Km,hsP⟩:=zM JA (.slice t.a t.seats.length t.c) (.int .i64 t.hand);have PX:=Ir.within Km (by omega);obtain ⟨WF,qK,hwF,q8,jI,xA,bF⟩:=yx qi _ rfl PX;have PY:=bP.within hwF (by omega);have UZ:Hid ((loadVar 52 ⟨w.heap.size+1+1,0,none⟩).run prog WF=.ok (.agg t.cells.toArray) WF):=Zg t PY;have wh:=((qo.own.within ho Km (.inr (by omega))).within hwF (.inr (by omega))).widen (show w.heap.size≤wN.heap.size by omega) (show wc.heap.size≤WF.heap.size by omega) qg;have zN:qa w WF:=(nF.trans (Km.below (by omega) (by omega))).trans (hwF.below (by omega) (by omega));have Qw:Hid (WP.setCells (w.heap.size+1+1+1) 0 qi.cells.toArray.toList=WF):=qK.out;have VL:WP.there (w.heap.size+1+1+1) 0 qi.cells.toArray.size:=jI.out;have PZ:=xD qi;have mM:=yh qi;have Iu:=ZN WF w.heap.size WF.heap.size qg;have HV:Hid (t.v=p.v):=hv.out;clear Km hsP bP hwF q8 bF PY PX JA Ir b6N b7N b3N nF qK jI ho hv;obtain ⟨Zs,hZs⟩:=qV qi;have Iw:Hid (qy=Zs.v):=by rw [Hid,← hZs.out];rfl
 rw [hZs.out] at Qw VL PZ mM xA Iu;go_wp2_with (first | (guard_target=qp 35;refine Kn ?_;rw [hZs.out]) | (guard_target=ja 7;rw [TB.out];refine jb 121 7 35 (w.heap.size+1+1+1) 0 Zs.cells.toArray VL PZ mM ?_;rw [Qw.out]) | fail);exact qa3 (v:=.tuple #[.agg t.cells.toArray,.agg Zs.cells.toArray,.bool false]) (XN results183 rfl rfl UZ.out xA.out rfl) rfl ⟨t,Zs,false,rfl,by rw [Hid,iI VM.out,HV.out,Iw.out],wh,Iu,zN⟩):P:=h
theorem fD (p:qo) (no:Int) (pg:qA) (h4:pg.ss.length=4) (w:World) (hg:jR w) (hr:p.reads w) (hl:p.short 1048576) (Yw:jS w pg.ss) (hlp:Fit pg.ss):
  Calls prog 183 #[.agg p.cells.toArray,.int .i64 no,.agg pg.cells.toArray] w fun e w'=>PW p no pg.lsn (pg.ss.map (·.v)) w e w':=by
 obtain ⟨V,hV,a3,a5,uo,Yy⟩:=jK w [.slice p.a p.seats.length p.c,.int .i64 p.hand] pg.cells 52 48;obtain ⟨W,hW,a6,a7,iK,qD⟩:=jK V [.slice none 0 0,.int .i64 0] [.int .i64 0,.int .i64 0,.bool false,.int .i64 0,.slice none 0 0,.slice none 0 0,.bool false,.int .i64 0,.slice none 0 0,.slice none 0 0,.bool false,.int .i64 0,.slice none 0 0,.slice none 0 0,.bool false,.int .i64 0,.slice none 0 0,.slice none 0 0,.bool false,.bool false] 52 121;have b3:=a3.below iK a3.lt;have b5:=a5.below iK a5.lt;have b6:Box W (w.heap.size+1+1) [.slice none 0 0,.int .i64 0] 52:=by rw [show w.heap.size+1+1=V.heap.size by omega];exact a6
 have b7:Box W (w.heap.size+1+1+1) qi.cells 121:=by rw [show w.heap.size+1+1+1=V.heap.size+1 by omega];exact a7
 have hbW:qa w W:=qf uo iK;have hs0:w.heap.size+1+1+1<W.heap.size:=by omega
 have HWW:Hid ((((w.alloc (.cells #[.slice p.a p.seats.length p.c,.int .i64 p.hand] 52)).alloc (.cells pg.cells.toArray 48)).alloc (.cells #[.slice none 0 0,.int .i64 0] 52)).alloc (.cells #[.int .i64 0,.int .i64 0,.bool false,.int .i64 0,.slice none 0 0,.slice none 0 0,.bool false,.int .i64 0,.slice none 0 0,.slice none 0 0,.bool false,.int .i64 0,.slice none 0 0,.slice none 0 0,.bool false,.int .i64 0,.slice none 0 0,.slice none 0 0,.bool false,.bool false] 121)=W):=by
  rw [Hid,← hW.out,← hV.out]
 clear hV hW Yy qD uo iK a3 a5 a6 a7;have p0:=b3.cell 0 _ rfl;have p1:=b3.cell 1 _ rfl;have C:=vg p W (hg.keep hbW) (qo.reads.below hr hbW) (qo.jB hl);have HI:Hid ((prog.info? 48).map (·.size)=some pg.cells.length):=Tryz.JE pg h4;simp only [qo.cells] at*
 go_enter func183,ntmps183;go_upto_region 1 with fail;rw [HWW.out];clear HWW;go_wp2_with fail;refine C.mono ?_;clear C p0 p1;rintro e w3 ⟨rfl,hb3⟩;have hs3:=hb3.size;have n3:=qf hbW hb3;cases Q9:okPool p.v with
 | false=>
  have VM:Hid (xC p.v no pg.lsn (pg.ss.map (·.v))=false):=Ip Q9;obtain ⟨wN,U1⟩:=qV w3;have bN:=hb3;rw [U1.out] at bN ⊢;clear Q9 U1 hb3 hs3 n3;exact Zf
 | true=>
  have C:=U2 no w3;cases U3:inB no 0 7 with
  | false=>
   have VM:Hid (xC p.v no pg.lsn (pg.ss.map (·.v))=false):=qdP U3;rw [U3] at C;go_wp2_with fail;refine C.mono ?_;clear C;rintro e u ⟨rfl,hu⟩;rw [hu];clear hu u;obtain ⟨wN,U1⟩:=qV w3;have bN:=hb3;rw [U1.out] at bN ⊢;clear Q9 U3 U1 hb3 hs3 n3;exact Zf
  | true=>
   rw [U3] at C;go_wp2_with fail;refine C.mono ?_;clear C;rintro e u ⟨rfl,hu⟩;rw [hu];clear hu u;have Ja:=b5.below hb3 b5.lt;have C:=vo pg h4 w3 (hg.keep n3) (Yw.below n3) hlp;have rP:w3.rangeAt (w.heap.size+1) 0 pg.cells:=qN Ja;go_wp2_with (first | (guard_target=qp 23;refine jD (by rfl) 48 (.tmp 5) rfl (w.heap.size+1) 0 rfl pg.cells _ rP underlying48 rfl HI.out ?_) | fail);refine C.mono ?_;clear C rP Ja;rintro e w4 ⟨rfl,hb4⟩;have hs4:=hb4.size;have N4:=qf hb3 hb4;have n4:=qf n3 hb4;cases YC:xZ pg.lsn (pg.ss.map (·.v)) with
   | false=>
    have VM:Hid (xC p.v no pg.lsn (pg.ss.map (·.v))=false):=Iq YC;obtain ⟨wN,U1⟩:=qV w4;have bN:=N4;rw [U1.out] at bN ⊢;clear Q9 U3 YC U1 hb3 hs3 n3 hb4 hs4 N4 n4;exact Zf
   | true=>
    have G9:=b3.below N4 b3.lt;have p0:=G9.cell 0 _ rfl;have p1:=G9.cell 1 _ rfl;have C:=uC p no w4 (qo.reads.below hr n4) (qo.jB hl);simp only [qo.cells] at C;go_wp2_with fail;refine C.mono ?_;clear C p0 p1 G9;rintro e w5 ⟨rfl,hb5⟩;have hs5:=hb5.size;have N5:=qf N4 hb5;by_cases hsd:0≤qG p.v.seats no
    ·have VM:Hid (xC p.v no pg.lsn (pg.ss.map (·.v))=false):=iJ hsd;obtain ⟨wN,U1⟩:=qV w5;have bN:=N5;rw [U1.out] at bN ⊢;clear Q9 U3 YC U1 hb3 hs3 n3 hb4 hs4 N4 n4 hb5 hs5 N5;generalize qG p.v.seats no=sd at*
     exact Zf
    ·have VM:Hid (xC p.v no pg.lsn (pg.ss.map (·.v))=true):=dP Q9 U3 YC (by omega);obtain ⟨h,hh,h3⟩:=Vh Q9;have hlen3:p.seats.length≤3:=by have:=(uj Q9).1;simpa [qo.v] using this
     have b35:=b3.below N5 b3.lt;have TC:=b5.below N5 b5.lt;have X0:=b6.below N5 b6.lt;have TD:=b7.below N5 b7.lt;have n5:=qf hbW N5;have sW5:=N5.size;have rP:w5.rangeAt (w.heap.size+1) 0 pg.cells:=qN TC;have qoL:¬ qG p.v.seats no≥0:=hsd;have C:=zU pg h4 w5 (Yw.below n5) hlp;have qcw:Hid (okPool p.v=true):=Q9;clear U3 YC hlen3 N4 n3 n4 hb3 hb4 hb5 N5 Q9;go_upto_region 3 with fail;generalize qG p.v.seats no=sd at*
     go_wp2_with (first | (guard_target=qp 37;refine qH 48 5 (w.heap.size+1) 0 pg.cells rP underlying48 HI.out ?_) | fail);refine C.mono ?_;clear C rP;rintro e w6 ⟨xs,rfl,hxs,oxs,hb6⟩;obtain ⟨x0,x1,x2,x3,rfl⟩:=QP (ts:=xs) (by have:=qcz List.length hxs.out;simpa [h4] using this);obtain ⟨q,hq⟩:∃ q:qh,Hid ((⟨no,pg.lsn,x0,x1,x2,x3,false,true⟩:qh)=q):=⟨_,rfl⟩;have KV:Hid (q.v=⟨no,pg.lsn,pg.ss.map (·.v),false,true⟩):=by rw [Hid,← hq.out,← hxs.out];rfl
     have oq6:q.own w6 w5.heap.size w6.heap.size:=by rw [← hq.out];exact oxs
     have s6:=hb6.size;obtain ⟨V7,hV7,a9,QH,hs7⟩:=qB w6 [.int .i64 0,.int .i64 0,.bool false,.int .i64 0,.slice none 0 0,.slice none 0 0,.bool false,.int .i64 0,.slice none 0 0,.slice none 0 0,.bool false,.int .i64 0,.slice none 0 0,.slice none 0 0,.bool false,.int .i64 0,.slice none 0 0,.slice none 0 0,.bool false,.bool false] 121;obtain ⟨W7,J9,hw7,qlD,P5,_,b9⟩:=yx q _ rfl a9;have Bf:qa w6 W7:=QH.trans (hw7.below qg (by omega));have HW7:Hid (V7.setCells w6.heap.size 0 q.cells.toArray.toList=W7):=J9.out;have Ko:=xD q;have U4:=yh q;have KW:=qf hb6 Bf;have Bg:=b35.below KW b35.lt;have mO:=X0.below KW X0.lt;have TH:=TD.below KW TD.lt;have Bh:=oq6.below Bf;have n7:=qf n5 KW;have s7:=b9.lt;have p0:=Bg.cell 0 _ rfl;have p1:=Bg.cell 1 _ rfl;clear J9 hs7 qlD hw7 QH a9 Bf hb6 KW b35 TC X0 TD n5 oq6 oxs hxs;go_upto_region 4 with (first | (guard_target=qp 39;refine Ha (.tmp 36) (.tmp 38) no pg.lsn x0 x1 x2 x3 rfl rfl ?_;rw [hq.out]) | (guard_target=ja 9;rw [hV7.out];refine jb 121 9 39 w6.heap.size 0 q.cells.toArray P5.out Ko U4 ?_;rw [HW7.out]) | fail);clear hq hV7 HW7 P5;by_cases hlt:p.seats.length<3
     ·have K5:(p.seats.length:Int)<3:=by omega
      have C:=Ql p W7 (qo.reads.below hr n7) hl;simp only [qo.cells] at C;go_wp2_with fail;refine C.mono ?_;clear C p0 p1;rintro e w8 ⟨t,rfl,hv,ho,uu⟩;have s8:=uu.size;obtain ⟨ts,hand,a,c⟩:=t;simp only [qo.own] at ho;have htl:Hid (ts.length=p.seats.length):=by
       have e:=qcz (fun v=>v.seats.length) hv.out;simp only [qo.v,qa4] at e;exact e
      obtain ⟨W9,U5,b10,Qx,Un⟩:=qB w8 [.slice a ts.length c,.int .i64 hand] 52;have Vi:=qf uu Qx;have Hd:=mO.below Vi mO.lt;have Bi:=TH.below Vi TH.lt;have He:=b9.below Vi b9.lt;have Iy:=Bh.below Vi;have o9:=ho.below Qx;have n9:=qf n7 Vi;have s9:=b10.lt;obtain ⟨Uo,dQ,bs,vw,iL⟩:=qB W9 q.cells 121;have Iz:=Hd.below vw Hd.lt;have IA:=Bi.below vw Bi.lt;have qeN:=b10.below vw b10.lt;have IB:=Iy.below vw;have oa:=o9.below vw;have na:=qf n9 vw;have rq:W9.rangeAt w6.heap.size 0 q.cells:=qN He;have rs:Uo.rangeAt W9.heap.size 0 q.cells:=qN bs;have sa:=vw.size;have hll:ts.length+1≤68719476736:=by rw [htl.out];omega
      have m10:=b10.cell 0 _ rfl;have HV:Hid (qo.v ⟨ts,hand,a,c⟩=p.v):=hv.out;clear Un iL Qx vw Vi uu ho o9 Iy Hd Bi He n9 bs hv Bg mO TH b9 Bh n7 htl;go_upto_region 6 with fail;rw [U5.out];clear U5;go_wp2_with (first | (guard_target=qp 48;refine qH 121 9 w6.heap.size 0 q.cells rq underlying121 Ko ?_) | (guard_target=qp 49;refine U6 (.tmp 48) q rfl ?_;rw [dQ.out]) | (guard_target=qp 50;refine NR rfl _ _ rfl W7.heap.size w8.heap.size a c ts rfl oa W9.heap.size 0 1 q rfl rs w5.heap.size w6.heap.size IB (by omega) s6 hll s8 ?_) | fail);intro a' c' XA o11 g11;obtain ⟨ys,hys⟩:=qV (ts++[q]);have hyl:ts.length+1=ys.length:=by rw [← hys.out];simp
      rw [hys.out] at o11;rw [hyl];clear hyl m10 rq rs;have t11:Touch (Value.slice a ts.length c).ownBlock.toList Uo XA:=Touch.jO g11 (fun k hk=>qad.2 hk);have hbl:∀ k∈(Value.slice a ts.length c).ownBlock.toList,W7.heap.size≤k∧k<w8.heap.size:=fun k hk=>oa.qC k (qaa.2 (.inl hk))
      have s11:=t11.size;have b6b:=Iz.touch t11 (fun hk=>by have:=hbl _ hk;omega);have b7b:=IA.touch t11 (fun hk=>by have:=hbl _ hk;omega);have NS:=qeN.touch t11 (fun hk=>by have:=hbl _ hk;omega);have nb:qa w XA:=na.trans ((t11.within hbl).below (by omega) (by omega));have k0:=NS.cell 0 _ rfl;have kf0:=NS.frozen 0;obtain ⟨Wc,hWc,iM,hwc,hsc⟩:=jZ NS 0 (.slice a' ys.length c');simp only [List.set] at iM;have TI:=b6b.within hwc (by omega);have b7c:=b7b.within hwc (by omega);have Yx:∀ k∈qF a' c' ys,k≠w8.heap.size:=fun k hk e=>by
       rw [← hys.out] at hk;simp only [qF,qaa,qad,qcy,qaY,qdH,qcZ] at hk;rcases hk with hk | hk | hk
       ·subst e;obtain ⟨cur,qba⟩:=Jo o11.row (by rw [← hys.out];exact hk);unfold Box at NS;rw [NS] at qba;simp only [qeL,Obj.cells.injEq] at qba;have:=qba.2.1;cases this
       ·have:=(oa.qC k (qaa.2 (.inr hk))).2;omega
       ·have:=(IB.qC k hk).2;omega
      have tc:Touch [w8.heap.size] XA Wc:=⟨hwc.os,hwc.tape,hwc.output,hwc.size,fun j hj hn=>hwc.block j hj (fun hh=>hn (by simp;omega))⟩;have oc:=(o11.touch tc (fun k hk hk'=>Yx k hk (qac.1 hk'))).widen qg (qcF hsc.symm) qg;have nc:qa w Wc:=nb.trans (hwc.below (by omega) (by omega));have qoM:=qcF hsc;have qoN:=qcF hsc.symm;have e0:=iM.cell 0 _ rfl;have e1:=iM.cell 1 _ rfl;have m0:=TI.cell 0 _ rfl;have m1:=TI.cell 1 _ rfl;have Kl:=TI.frozen 0;have mJ:=TI.frozen 1;obtain ⟨WP,TB,bP,Km,hsP⟩:=zM TI (.slice a' ys.length c') (.int .i64 hand);have PX:=b7c.within Km (by omega);obtain ⟨WF,qK,hwF,q8,jI,xA,bF⟩:=yx qi _ rfl PX;have PY:=bP.within hwF (by omega);have UZ:Hid ((loadVar 52 ⟨w.heap.size+1+1,0,none⟩).run prog WF=.ok (.agg (qo.cells ⟨ys,hand,a',c'⟩).toArray) WF):=Zg _ PY;have wh:=((oc.within Km (.inr (by omega))).within hwF (.inr (by omega))).widen (show w.heap.size≤w5.heap.size by omega) (show Wc.heap.size≤WF.heap.size by omega) qg;have zN:qa w WF:=(nc.trans (Km.below (by omega) (by omega))).trans (hwF.below (by omega) (by omega));have Qw:Hid (WP.setCells (w.heap.size+1+1+1) 0 qi.cells.toArray.toList=WF):=qK.out;have VL:WP.there (w.heap.size+1+1+1) 0 qi.cells.toArray.size:=jI.out;have PZ:=xD qi;have mM:=yh qi;have Iu:=ZN WF w.heap.size WF.heap.size qg;have Qm:Hid (zb p.v no pg.lsn (pg.ss.map (·.v))=(qo.v ⟨ys,hand,a',c'⟩,qy,false)):=by
       have e2:p.v.hand=hand:=by rw [← HV.out];rfl
       have e3:p.v.seats=ts.map qh.v:=by rw [← HV.out];rfl
       have e4:p.v.hand.toNat=h:=by rw [hh];rfl
       have e5:hand=(h:Int):=by rw [← e2,hh]
       rw [Hid,zb,qan VM.out,e4,kY,qan (by simpa [qo.v] using hlt),e3,← hys.out,e5];simp only [qo.v,qdd,qdG,qfe,KV.out]
      simp only [qo.cells] at UZ;clear Km hsP bP hwF q8 bF PY PX TI b7c iM nc qK jI oc tc Yx Iz IA qeN IB oa na t11 hbl b6b b7b NS nb hwc hsc HV VM hh o11 g11;obtain ⟨Zs,hZs⟩:=qV qi;have Iw:Hid (qy=Zs.v):=by rw [Hid,← hZs.out];rfl
      rw [Iw.out] at Qm;rw [hZs.out] at Qw VL PZ mM xA Iu;go_upto_region 7 with fail;rw [hWc.out];clear hWc k0 kf0;go_wp2_with (first | (guard_target=qp 53;refine Kn ?_;rw [hZs.out]) | (guard_target=ja 7;rw [TB.out];refine jb 121 7 53 (w.heap.size+1+1+1) 0 Zs.cells.toArray VL PZ mM ?_;rw [Qw.out]) | fail);exact qa3 (v:=.tuple #[.agg #[.slice a' ys.length c',.int .i64 hand],.agg Zs.cells.toArray,.bool false]) (XN results183 rfl rfl UZ.out xA.out rfl) rfl ⟨⟨ys,hand,a',c'⟩,Zs,false,rfl,Qm,wh,Iu,zN⟩
     ·have hge:¬ (p.seats.length:Int)<3:=by omega
      have hlen3:p.seats.length=3:=by have:=(uj qcw.out).1;simp only [qo.v,qa4] at this;omega
      have TJ:=U7 (h:=h) qcw.out (by simpa [qo.v] using hlen3) hh;have HVH:=(JF 4 p.v.seats h h3).2;have HVL:(qW 4 p.v.seats h).1.length=3:=by rw [Yj];simpa [qo.v] using hlen3
      have C:=NT p W7 (hg.keep n7) (qo.reads.below hr n7) hl;simp only [qo.cells,P6] at C;have HP3:Hid (p.seats.length=3):=hlen3;clear hlen3;go_wp2_with fail;refine C.mono ?_;clear C p0 p1;rintro e w8 ⟨t,kv,rfl,Kq,ho,uu⟩;rw [TJ] at Kq;obtain ⟨k,hk⟩:∃ k:Nat,Hid ((qW 4 p.v.seats h).2.2=k):=⟨_,rfl⟩;have hkv:kv=(k:Int):=by have e:=qcz Prod.snd Kq.out;rw [← hk.out];exact e.symm
      have htv:t.v=jM.mk (qW 4 p.v.seats h).1 ((qW 4 p.v.seats h).2.1:Int):=(qcz Prod.fst Kq.out).symm;have hk3:k<3:=by rw [← hk.out];exact HVH
      obtain ⟨ts,hand,a,c⟩:=t;simp only [qo.own] at ho;have TK:ts.map qh.v=(qW 4 p.v.seats h).1:=qcz jM.seats htv;have hth:hand=((qW 4 p.v.seats h).2.1:Int):=qcz jM.hand htv;have htl:ts.length=3:=by have e:=qcz List.length TK;rw [HVL] at e;simpa using e
      subst hkv;have Zh:Hid (zb p.v no pg.lsn (pg.ss.map (·.v))=(qo.v ⟨ts.set k q,hand,a,c⟩,(ts.getD k qi).v,true)):=by
       have e4:p.v.hand.toNat=h:=by rw [hh];rfl
       rw [Hid,zb,qan VM.out,e4,kY,qa2 (by simpa [qo.v] using hlt)];rw [← TK,hk.out,← hth];simp only [qo.v,qeW,KV.out,kM]
      obtain ⟨g,rfl⟩:∃ g,a=some ⟨g,0,none⟩:=by
       rcases ho.row.2 with ⟨_,h0⟩ | ⟨g,cap',cur,hv,_⟩
       ·omega
       ·simp only [qcK] at hv;exact ⟨g,hv.1⟩
      have s8:=uu.size;have hgl:=ho.qC g (by simp [qF,Value.ownBlock]);have hkt:k<ts.length:=by omega
      obtain ⟨W9,U5,b11,Qx,Un⟩:=qB w8 [.slice (some ⟨g,0,none⟩) ts.length c,.int .i64 hand] 52;have Vi:=qf uu Qx;have Hd:=mO.below Vi mO.lt;have Bi:=TH.below Vi TH.lt;have He:=b9.below Vi b9.lt;have Iy:=Bh.below Vi;have o9:=ho.below Qx;have n9:=qf n7 Vi;have s9:=b11.lt;obtain ⟨old,hold⟩:=qV (ts.getD k qi);have r9:=(zm o9.row rfl k hkt).1;have dS:=o9.each _ (xE ts k hkt);rw [hold.out] at r9 dS Zh;obtain ⟨V10,qeP,a13,vw,iL⟩:=qB W9 [.int .i64 0,.int .i64 0,.bool false,.int .i64 0,.slice none 0 0,.slice none 0 0,.bool false,.int .i64 0,.slice none 0 0,.slice none 0 0,.bool false,.int .i64 0,.slice none 0 0,.slice none 0 0,.bool false,.int .i64 0,.slice none 0 0,.slice none 0 0,.bool false,.bool false] 121;obtain ⟨Uo,dQ,YD,qhU,Bj,_,b13⟩:=yx old _ rfl a13;have ZO:qa W9 Uo:=vw.trans (YD.below qg (by omega));have qeQ:Hid (V10.setCells W9.heap.size 0 old.cells.toArray.toList=Uo):=dQ.out;have Iz:=Hd.below ZO Hd.lt;have IA:=Bi.below ZO Bi.lt;have b9a:=He.below ZO He.lt;have qbb:=b11.below ZO b11.lt;have IB:=Iy.below ZO;have oa:=o9.below ZO;have iN:=dS.below ZO;have na:=qf n9 ZO;have sa:=ZO.size;have l13:=b13.lt;have U8:g∉old.blocks:=fun hk=>uw oa.row iN g rfl hk
      obtain ⟨WS,hWS,oS,tS,Kr⟩:=OwnSts.qdQ (A:=ts.take k) (z:=ts.getD k qi) (B:=ts.drop (k+1)) (by rw [← zu ts k hkt];exact oa) q IB (by omega) s8 s6;have hkl:(ts.take k).length=k:=by rw [qdm];omega
      rw [hkl] at hWS;rw [← Qa ts k q hkt] at oS;have IC:Hid (Uo.setCells g (k*20) q.cells.toArray.toList=WS):=hWS.out;have Jb:Uo.there g (k*20) q.cells.toArray.size:=(zm oa.row rfl k hkt).2;have mP:=Iz.touch tS (by simp;omega);have b7S:=IA.touch tS (by simp;omega);have qbc:=qbb.touch tS (by simp;omega);have qbd:=b13.touch tS (by simp;omega);have ooS:=iN.touch tS (fun j hj hk=>U8 (by rw [← qac.1 hk];exact hj));have nS:qa w WS:=na.trans ((tS.within (lo:=W7.heap.size) (hi:=w8.heap.size) (fun j hj=>by obtain rfl:=qac.1 hj;exact hgl)).below (by omega) (by omega));have qlE:=qcF Kr;have qlF:=qcF Kr.symm;have HIo:=xD old;have HOo:=yh old;have rq:Uo.rangeAt w6.heap.size 0 q.cells:=qN b9a;have m11:=b11.cell 0 _ rfl;have qlG:=qbb.cell 0 _ rfl;have hkb:(k:Int)<(ts.length:Int):=by omega
      have hk0:(0:Int)≤(k:Int):=by omega
      have XX:Hid ((ts.set k q).length=ts.length):=by rw [Hid];simp
      clear Un iL qhU YD Qx vw Vi ZO uu ho o9 Iy Hd Bi He n9 Bg mO TH b9 Bh n7 Kq htv TK hth htl TJ HVH HVL dQ hWS dS Kr hkl Iz IA b9a qbb oa iN na U8 a13 b11 hk hold VM KV hh;go_upto_region 9 with fail;rw [U5.out];clear U5;go_upto_region 10 with (first | (guard_target=qp 63;refine qH 121 62 g (k*20) old.cells r9 underlying121 HIo ?_) | (guard_target=ja 13;rw [qeP.out];refine jb 121 13 63 W9.heap.size 0 old.cells.toArray Bj.out HIo HOo ?_;rw [qeQ.out]) | fail);clear m11 r9 qeP Bj qeQ;go_upto_region 11 with (first | (guard_target=qp 67;refine qH 121 9 w6.heap.size 0 q.cells rq underlying121 Ko ?_) | (guard_target=ja 68;refine jb 121 68 67 g (k*20) q.cells.toArray Jb Ko U4 ?_;rw [IC.out]) | fail);clear qlG rq Jb IC;have ND:qa WS WS.drew:=(qab _ _).drew;obtain ⟨XB,dW⟩:=qV WS.drew;rw [dW.out] at ND;have sd:=ND.size;have b6d:=mP.below ND mP.lt;have b7d:=b7S.below ND b7S.lt;have qeS:=qbc.below ND qbc.lt;have iO:=qbd.below ND qbd.lt;have od:=oS.below ND;have ood:=ooS.below ND;have nd:=qf nS ND;obtain ⟨us,P7⟩:=qV (ts.set k q);rw [P7.out] at od Zh XX;have iP:Box XB w8.heap.size [.slice (some ⟨g,0,none⟩) us.length c,.int .i64 hand] 52:=by rw [XX.out];exact qeS
      obtain ⟨WP,TB,Km,hsP,HTP,_,bP⟩:=qbe ⟨us,hand,some ⟨g,0,none⟩,c⟩ _ rfl b6d;have PX:=b7d.within Km (by omega);obtain ⟨WF,qK,hwF,q8,jI,xA,bF⟩:=yx old _ rfl PX;have PY:=bP.within hwF (by omega);have UZ:Hid ((loadVar 52 ⟨w.heap.size+1+1,0,none⟩).run prog WF=.ok (.agg (qo.cells ⟨us,hand,some ⟨g,0,none⟩,c⟩).toArray) WF):=Zg _ PY;have wh:=((od.within Km (.inr (by omega))).within hwF (.inr (by omega))).widen (show w.heap.size≤w5.heap.size by omega) (show w8.heap.size≤WF.heap.size by omega) qg;have hgF:=((ood.within Km (.inr (by omega))).within hwF (.inr (by omega))).widen (show w.heap.size≤W7.heap.size by omega) (show w8.heap.size≤WF.heap.size by omega) qg;have zN:qa w WF:=(nd.trans (Km.below (by omega) (by omega))).trans (hwF.below (by omega) (by omega));have kJ:Hid (∀ u,Box u w8.heap.size [.slice (some ⟨g,0,none⟩) us.length c,.int .i64 hand] 52→Box u W9.heap.size old.cells 121→(u.cell? ⟨w8.heap.size,0,none⟩=some (.slice (some ⟨g,0,none⟩) us.length c)∧u.cell? ⟨w8.heap.size,1,none⟩=some (.int .i64 hand))∧u.rangeAt W9.heap.size 0 old.cells):=fun u h1 h2=>⟨⟨h1.cell 0 _ rfl,h1.cell 1 _ rfl⟩,qN h2⟩
      have K8:=kJ.out XB iP iO;have KP:=kJ.out WP (iP.within Km (by omega)) (iO.within Km (by omega));have KF:=kJ.out WF ((iP.within Km (by omega)).within hwF (by omega)) ((iO.within Km (by omega)).within hwF (by omega));have EP:Hid (XB.setCells (w.heap.size+1+1) 0 (qo.cells ⟨us,hand,some ⟨g,0,none⟩,c⟩).toArray.toList=WP):=TB.out;have EF:Hid (WP.setCells (w.heap.size+1+1+1) 0 old.cells.toArray.toList=WF):=qK.out;have TP:XB.there (w.heap.size+1+1) 0 (qo.cells ⟨us,hand,some ⟨g,0,none⟩,c⟩).toArray.size:=HTP.out;have TF:WP.there (w.heap.size+1+1+1) 0 old.cells.toArray.size:=jI.out;have KX:=xP ⟨us,hand,some ⟨g,0,none⟩,c⟩;have TL:=K6 ⟨us,hand,some ⟨g,0,none⟩,c⟩;simp only [qo.cells] at EP TP KX TL UZ;clear mP b7S qbc qbd oS ooS nS b6d b7d qeS iO od ood nd iP Km hsP bP PX hwF q8 bF PY TB qK HTP jI kJ ND tS P7;refine qaZ (S:=fun u=>(u.cell? ⟨w8.heap.size,0,none⟩=some (.slice (some ⟨g,0,none⟩) us.length c)∧u.cell? ⟨w8.heap.size,1,none⟩=some (.int .i64 hand))∧u.rangeAt W9.heap.size 0 old.cells) (by kernel_rfl) ?_ (fun qc=>?_)
      ·rw [dW.out];exact K8
      rw [dW.out] at qc ⊢;clear dW;refine jg 0 ?_;refine xB 1 old.cells (fun _ h=>h.2) underlying121 HIo ?_;refine jc 2 (fun K hK=>?_);rw [qan (by rfl)];refine qc7 52 (.tmp 6) (.tmp 69) rfl (w.heap.size+1+1) 0 #[.slice (some ⟨g,0,none⟩) us.length c,.int .i64 hand] rfl rfl TP KX TL ?_;rw [EP.out];refine qX hK KP fun qc=>?_
      clear hK K;try simp only [Act.put,zA,zB,zC]
      refine jc 3 (fun K hK=>?_);rw [qan (by rfl)];refine qc7 121 (.tmp 7) (.tmp 70) rfl (w.heap.size+1+1+1) 0 old.cells.toArray rfl rfl TF HIo HOo ?_;rw [EF.out];refine qX hK KF fun qc=>?_
      clear hK K;try simp only [Act.put,zA,zB,zC]
      refine jg 4 ?_;refine qau (by kernel_rfl) ?_ _;clear qc K8 KP KF;go_wp2_with fail;exact qa3 (v:=.tuple #[.agg #[.slice (some ⟨g,0,none⟩) us.length c,.int .i64 hand],.agg old.cells.toArray,.bool true]) (XN results183 rfl rfl UZ.out xA.out rfl) rfl ⟨⟨us,hand,some ⟨g,0,none⟩,c⟩,old,true,rfl,Zh,wh,hgF,zN⟩
end
section
attribute [local go_sem ↓] Go.wp_at_zero Go.wp_at_succ
theorem later {T G:Prop} (k:T→G) (t:T):G:=k t
def Qn (e:qR) (n:Nat):qR:=
 let b:=zb e.j4 n (e.disk.getD n (0,[])).1 (e.disk.getD n (0,[])).2
 let e1:qR:={ e with seats:=b.1.seats,hand:=b.1.hand }
 if b.2.1.dirty=true then uf e1 b.2.1 else e1
structure mQ (d u:World) (c18 c19:Bool) (X4 X5:Value) (A4 A5:Nat):Prop where
 below:qa d u
 a4:c18=true→X4=.pointer (some ⟨A4,0,none⟩)∧Box u A4 [.slice none 0 0,.int .i64 0] 52∧d.heap.size≤A4
 a5:c19=true→X5=.pointer (some ⟨A5,0,none⟩)∧Box u A5 qi.cells 121∧d.heap.size≤A5
 ne:c18=true→c19=true→A4≠A5
theorem mQ.on {d u u':World} {c18 c19:Bool} {X4 X5:Value} {A4 A5:Nat} (h:mQ d u c18 c19 X4 X5 A4 A5) (hb:qa u u'):mQ d u' c18 c19 X4 X5 A4 A5:=
 ⟨h.below.trans (hb.mono h.below.size),fun c=>⟨(h.a4 c).1,(h.a4 c).2.1.below hb (h.a4 c).2.1.lt,(h.a4 c).2.2⟩,fun c=>⟨(h.a5 c).1,(h.a5 c).2.1.below hb (h.a5 c).2.1.lt,(h.a5 c).2.2⟩,h.ne⟩
theorem mQ.four {d u u':World} {c19:Bool} {X4 X5:Value} {A4 A5:Nat} (h:mQ d u false c19 X4 X5 A4 A5) (hb:qa u u') (b:Box u' u.heap.size [.slice none 0 0,.int .i64 0] 52):mQ d u' true c19 (.pointer (some ⟨u.heap.size,0,none⟩)) X5 u.heap.size A5:=
 ⟨h.below.trans (hb.mono h.below.size),fun _=>⟨rfl,b,h.below.size⟩,fun c=>⟨(h.a5 c).1,(h.a5 c).2.1.below hb (h.a5 c).2.1.lt,(h.a5 c).2.2⟩,fun _ c=>by have:=(h.a5 c).2.1.lt;omega⟩
theorem mQ.five {d u u':World} {c18:Bool} {X4 X5:Value} {A4 A5:Nat} (h:mQ d u c18 false X4 X5 A4 A5) (hb:qa u u') (b:Box u' u.heap.size qi.cells 121):mQ d u' c18 true X4 (.pointer (some ⟨u.heap.size,0,none⟩)) A4 u.heap.size:=
 ⟨h.below.trans (hb.mono h.below.size),fun c=>⟨(h.a4 c).1,(h.a4 c).2.1.below hb (h.a4 c).2.1.lt,(h.a4 c).2.2⟩,fun _=>⟨rfl,b,h.below.size⟩,fun c _=>by have:=(h.a4 c).2.1.lt;omega⟩
structure Bl (d u:World) (t:qo) (s:qh) (c18 c19:Bool) (A4 A5:Nat):Prop where
 ot:t.own u d.heap.size u.heap.size
 os:s.own u d.heap.size u.heap.size
 n4:c18=true→A4∉qF t.a t.c t.seats∧A4∉s.blocks
 n5:c19=true→A5∉qF t.a t.c t.seats∧A5∉s.blocks
theorem Bl.four {d u u':World} {t:qo} {s:qh} {c19:Bool} {A4 A5:Nat} (h:Bl d u t s false c19 A4 A5) (hb:qa u u'):Bl d u' t s true c19 u.heap.size A5:=
 ⟨(OwnSts.below h.ot hb).widen qg hb.size qg,(qP.below h.os hb).widen qg hb.size qg,fun _=>⟨fun hk=>by have:=(OwnSts.qC h.ot _ hk).2;omega,fun hk=>by have:=(qP.qC h.os _ hk).2;omega⟩,h.n5⟩
theorem Bl.five {d u u':World} {t:qo} {s:qh} {c18:Bool} {A4 A5:Nat} (h:Bl d u t s c18 false A4 A5) (hb:qa u u'):Bl d u' t s c18 true A4 u.heap.size:=
 ⟨(OwnSts.below h.ot hb).widen qg hb.size qg,(qP.below h.os hb).widen qg hb.size qg,h.n4,fun _=>⟨fun hk=>by have:=(OwnSts.qC h.ot _ hk).2;omega,fun hk=>by have:=(qP.qC h.os _ hk).2;omega⟩⟩
theorem Zi {w:World} {lo hi:Nat} {s:qh} (h:s.own w lo hi):∀ k∈s.blocks,lo≤k∧k<hi:=qP.qC h
theorem mU {P:Prop} (h:P:=by
 have:s.v.dirty=qy.dirty:=(qcz q9.dirty g1).symm;have h3:s.v.dirty=s.dirty:=rfl;rw [h3,hdi] at this;cases this):P:=h
theorem Bn (M:Nat) (m:Int) (E:Nat) (e:qb) (n:Nat) (w:World) (h:yR M m w E e) (hg:jR w) (hp:e.v.zZ) (hls:e.qQ.short 1048576) (Qi:e.log.sure≤e.log.recs.length) (h8:n<8):
  Calls prog 163 #[.pointer (some ⟨E,0,none⟩),.int .i64 n] w fun r w'=>(∃ v,r=.returned v)∧∃ e',Hid (e'.v=Qn e.v n)∧Hid (e'.log.recs=e.log.recs∧e'.aT=e.aT)∧ky M m E e w e' w':=by
 have P8:Hid (_=_):=xP e.qQ;have hdk:n<e.disk.length:=by rw [h.shape.eight];exact h8
 obtain ⟨pg,XC⟩:∃ pg:qA,Hid (e.disk[n]=pg):=⟨e.disk[n],rfl⟩;have mV:Hid (e.v.disk.getD n (0,[])=(pg.lsn,pg.ss.map (·.v))):=by
  rw [Hid,← XC.out];simp [qb.v,List.getD,hdk]
 have h4:pg.ss.length=4:=by rw [← XC.out];exact h.shape.four _ (qdw hdk)
 have hfit:Fit pg.ss:=Hf (by
  have:=hp.fitD (e.v.disk.getD n (0,[])) (by
   simp only [List.getD,qb.v,qdy,qcG hdk,qfS,qe7];exact qgn (qdw hdk))
  rw [mV.out] at this;exact this)
 have KY:Hid ((prog.info? 48).map (·.size)=some pg.cells.length):=by rw [Hid,jJ pg h4];kernel_rfl
 have kJ:Hid (∀ u,qa w u→u.rangeAt E 136 e.qQ.cells∧u.rangeAt E (n*17) pg.cells):=fun u hu=>by
  have a:=h.below hu;refine ⟨a.Kk,?_⟩;have hb:=a.box;have e3:e.run M m=qx (e.disk.take n)++(pg.cells++(qx (e.disk.drop (n+1))++e.uN M m)):=by
   rw [vV,QI e.disk n hdk,XC.out];simp
  rw [e3] at hb;have:=Box.range _ _ _ hb;rw [kS _ (fun p hp=>a.shape.four p (qfN hp)),qdm,qf1 (by omega)] at this;exact this
 have qcA:Hid (∀ u,qa w u→Calls prog 183 #[.agg e.qQ.cells.toArray,.int .i64 n,.agg pg.cells.toArray] u fun x u'=>PW e.qQ n pg.lsn (pg.ss.map (·.v)) u x u'):=fun u hu=>by
  have a:=h.below hu;exact fD e.qQ n pg h4 u (hg.keep hu) a.own.G5 hls (fun s hs=>a.own.disk.reads s (qag.2 ⟨e.disk[n],qdw hdk,by rw [XC.out];exact hs⟩)) hfit
 have Yx:(n:Int)<8:=by omega
 have hn0:(0:Int)≤(n:Int):=by omega
 have D0:qa w w.drew:=(qab _ _).drew;clear XC hdk;go_enter func163,ntmps163;go_upto_region 0 with fail;refine qaZ (S:=fun u=>u.rangeAt E 136 e.qQ.cells∧u.rangeAt E (n*17) pg.cells) (by kernel_rfl) (kJ.out _ D0) (fun qc=>?_);have hds:w.drew.heap.size=w.heap.size:=rfl;obtain ⟨d0,hd0⟩:=qV w.drew;rw [hd0.out] at D0 qc hds ⊢;refine yt 0 (.pointer (some ⟨E,0,none⟩)) ?_ (h7:=qc);refine yt 1 (.pointer (some ⟨E,0,none⟩)) ?_ (h7:=qc);refine yt 2 (.pointer (some ⟨E,0,none⟩)) ?_ (h7:=qc);refine yt 3 (.pointer (some ⟨E,136,none⟩)) ?_ (h7:=qc);refine Bo 4 rfl (qfK (by rfl) _ _ rfl _ _ rfl (e.qQ.cells) _ (fun _ h=>h.1) underlying52 rfl P8.out) ?_ (h7:=qc);refine yt 5 (.int .i64 (n:Int)) ?_ (h7:=qc);refine yt 6 (.pointer (some ⟨E,0,none⟩)) ?_ (h7:=qc);refine yt 7 (.int .i64 (n:Int)) ?_ (h7:=qc);refine yt 8 (.pointer (some ⟨E,0,none⟩)) ?_ (h7:=qc);refine yt 9 (.pointer (some ⟨E,0,none⟩)) ?_ (h7:=qc);refine yt 10 (.pointer (some ⟨E,0,none⟩)) ?_ (h7:=qc);refine yt 11 (.pointer (some ⟨E,n*17,none⟩)) ?_ (h7:=qc);refine Bo 12 rfl (qfK (by rfl) _ _ rfl _ _ rfl (pg.cells) _ (fun _ h=>h.2) underlying48 rfl KY.out) ?_ (h7:=qc);clear qc;refine Hg (I:=fun l a u=>∃ (c13 c14 c15 c16 c17 c18 c19:Bool) (X4 X5 X7 TM mW JB mX:Value) (A4 A5:Nat) (t:qo) (s:qh) (b:Bool),
  l=#[true,true,true,true,true,true,true,true,true,true,true,true,true,c13,c14,c15,c16,c17,c18,c19,false,false,false]∧a=⟨([.pointer (some ⟨E,0,none⟩),.int .i64 (n:Int),undef,undef,X4,X5,undef,X7,.pointer (some ⟨E,0,none⟩),.pointer (some ⟨E,0,none⟩),.pointer (some ⟨E,0,none⟩),.pointer (some ⟨E,136,none⟩),.agg (e.qQ.cells).toArray,.int .i64 (n:Int),.pointer (some ⟨E,0,none⟩),.int .i64 (n:Int),.pointer (some ⟨E,0,none⟩),.pointer (some ⟨E,0,none⟩),.pointer (some ⟨E,0,none⟩),.pointer (some ⟨E,n*17,none⟩),.agg (pg.cells).toArray,TM,mW,JB,mX,undef,undef,undef,undef,undef,undef,undef,undef,undef,undef]:List Value).toArray,[]⟩∧mQ d0 u c18 c19 X4 X5 A4 A5∧
  (c13=true→TM=.tuple #[.agg t.cells.toArray,.agg s.cells.toArray,.bool b]∧Hid (zb e.qQ.v n pg.lsn (pg.ss.map (·.v))=(t.v,s.v,b))∧Bl d0 u t s c18 c19 A4 A5)∧(c14=true→c13=true∧X7=.tuple #[.agg t.cells.toArray,.agg s.cells.toArray,.bool b])∧(c15=true→c14=true∧mW=.agg t.cells.toArray)∧(c16=true→c14=true∧JB=.agg s.cells.toArray)∧(c17=true→c14=true∧mX=.bool b))
  (stop:=fun l=>l.getD 15 false && (l.getD 18 false && l.getD 19 false)) ?_ ?_ _ _ _ _ (by kernel_rfl) ?_
 rotate_right
 ·exact ⟨false,false,false,false,false,false,false,undef,undef,undef,undef,undef,undef,undef,0,0,e.qQ,qi,false,by kernel_rfl,rfl,⟨qab _ _,nofun,nofun,nofun⟩,nofun,nofun,nofun,nofun,nofun⟩
 ·rintro l a u ⟨c13,c14,c15,c16,c17,c18,c19,X4,X5,X7,TM,mW,JB,mX,A4,A5,t,s,b,rfl,rfl,hI,QW,Zj,U9,h16,Uq⟩ hst;have hN:qa w u:=D0.trans (hI.below.mono (by omega));refine Bp (fun j=>(j == 18 && !c18) || ((j == 19 && !c19) || ((j == 13 && !c13) || ((j == 14 && (!c14 && c13)) || ((j == 15 && (!c15 && c14)) || ((j == 16 && (!c16 && c14)) || (j == 17 && (!c17 && c14)))))))) ?_ ?_
  ·have g14:=fun q=>(Zj q).1
   have g15:=fun q=>(U9 q).1
   have g16:=fun q=>(h16 q).1
   have g17:=fun q=>(Uq q).1
   clear hI hN QW Zj U9 h16 Uq;revert hst g14 g15 g16 g17;cases c13<;>cases c14<;>cases c15<;>cases c16<;>cases c17<;>cases c18<;>cases c19<;>first | exact (fun h _ _ _ _=>absurd h (by decide)) | exact (fun _ h _ _ _=>absurd h (by decide)) | exact (fun _ _ h _ _=>absurd h (by decide)) | exact (fun _ _ _ h _=>absurd h (by decide)) | exact (fun _ _ _ _ h=>absurd h (by decide)) | exact (fun _ _ _ _ _=>by (show _=true;kernel_rfl))
  ·clear hst;intro j hj;simp only [Bool.or_eq_true,qam,qfu,Bool.not_eq_true'] at hj;rcases hj with (⟨rfl,rfl⟩ | ⟨rfl,rfl⟩ | ⟨rfl,rfl⟩ | ⟨rfl,rfl,rfl⟩ | ⟨rfl,rfl,rfl⟩ | ⟨rfl,rfl,rfl⟩ | ⟨rfl,rfl,rfl⟩)
   ·refine zJ rfl (fun K hK=>?_);obtain ⟨u',hu',bu,hb,_⟩:=qB u [.slice none 0 0,.int .i64 0] 52;have hN':qa w u':=qf hN hb;go_simp;rw [hu'.out];exact hK.out _ _ ⟨kJ.out _ hN',c13,c14,c15,c16,c17,true,c19,_,X5,X7,TM,mW,JB,mX,_,A5,t,s,b,by kernel_rfl,rfl,hI.four hb bu,fun q=>⟨(QW q).1,(QW q).2.1,(QW q).2.2.four hb⟩,Zj,U9,h16,Uq⟩
   ·refine zJ rfl (fun K hK=>?_);obtain ⟨u',hu',bu,hb,_⟩:=qB u qi.cells 121;have hu2:Hid (u.alloc (.cells #[.int .i64 0,.int .i64 0,.bool false,.int .i64 0,.slice none 0 0,.slice none 0 0,.bool false,.int .i64 0,.slice none 0 0,.slice none 0 0,.bool false,.int .i64 0,.slice none 0 0,.slice none 0 0,.bool false,.int .i64 0,.slice none 0 0,.slice none 0 0,.bool false,.bool false] 121)=u'):=hu'.out;have hN':qa w u':=qf hN hb;go_simp;rw [hu2.out];exact hK.out _ _ ⟨kJ.out _ hN',c13,c14,c15,c16,c17,c18,true,X4,_,X7,TM,mW,JB,mX,A4,_,t,s,b,by kernel_rfl,rfl,hI.five hb bu,fun q=>⟨(QW q).1,(QW q).2.1,(QW q).2.2.five hb⟩,Zj,U9,h16,Uq⟩
   ·refine zJ rfl (fun K hK=>?_);go_simp;refine (qcA.out u hN).mono ?_;rintro r u' ⟨t,s,b,rfl,hv,ot,os,hb⟩;have hN':qa w u':=qf hN hb;have hz:=hI.below.size;refine hK.out _ _ ⟨kJ.out _ hN',true,c14,c15,c16,c17,c18,c19,X4,X5,X7,_,mW,JB,mX,A4,A5,t,s,b,by kernel_rfl,rfl,hI.on hb,fun _=>⟨rfl,hv,?_⟩,fun q=>absurd (Zj q).1 (by simp),fun q=>absurd (Zj (U9 q).1).1 (by simp),fun q=>absurd (Zj (h16 q).1).1 (by simp),fun q=>absurd (Zj (Uq q).1).1 (by simp)⟩;exact ⟨OwnSts.widen ot hz qg qg,qP.widen os hz qg qg,fun c=>⟨fun hk=>by have:=(OwnSts.qC ot _ hk).1;have:=(hI.a4 c).2.1.lt;omega,fun hk=>by have:=(Zi os _ hk).1;have:=(hI.a4 c).2.1.lt;omega⟩,fun c=>⟨fun hk=>by have:=(OwnSts.qC ot _ hk).1;have:=(hI.a5 c).2.1.lt;omega,fun hk=>by have:=(Zi os _ hk).1;have:=(hI.a5 c).2.1.lt;omega⟩⟩
   ·refine zJ rfl (fun K hK=>?_);obtain ⟨rfl,hv,hT⟩:=QW rfl;go_simp;exact hK.out _ _ ⟨kJ.out _ hN,true,true,c15,c16,c17,c18,c19,X4,X5,_,_,mW,JB,mX,A4,A5,t,s,b,by kernel_rfl,rfl,hI,fun _=>⟨rfl,hv,hT⟩,fun _=>⟨rfl,rfl⟩,fun q=>absurd (U9 q).1 (by simp),fun q=>absurd (h16 q).1 (by simp),fun q=>absurd (Uq q).1 (by simp)⟩
   ·refine zJ rfl (fun K hK=>?_);obtain ⟨rfl,rfl⟩:=Zj rfl;obtain ⟨rfl,hv,hT⟩:=QW rfl;go_simp;exact hK.out _ _ ⟨kJ.out _ hN,true,true,true,c16,c17,c18,c19,X4,X5,_,_,_,JB,mX,A4,A5,t,s,b,by kernel_rfl,rfl,hI,fun _=>⟨rfl,hv,hT⟩,fun _=>⟨rfl,rfl⟩,fun _=>⟨rfl,rfl⟩,h16,Uq⟩
   ·refine zJ rfl (fun K hK=>?_);obtain ⟨rfl,rfl⟩:=Zj rfl;obtain ⟨rfl,hv,hT⟩:=QW rfl;go_simp;exact hK.out _ _ ⟨kJ.out _ hN,true,true,c15,true,c17,c18,c19,X4,X5,_,_,mW,_,mX,A4,A5,t,s,b,by kernel_rfl,rfl,hI,fun _=>⟨rfl,hv,hT⟩,fun _=>⟨rfl,rfl⟩,U9,fun _=>⟨rfl,rfl⟩,Uq⟩
   ·refine zJ rfl (fun K hK=>?_);obtain ⟨rfl,rfl⟩:=Zj rfl;obtain ⟨rfl,hv,hT⟩:=QW rfl;go_simp;exact hK.out _ _ ⟨kJ.out _ hN,true,true,c15,c16,true,c18,c19,X4,X5,_,_,mW,JB,_,A4,A5,t,s,b,by kernel_rfl,rfl,hI,fun _=>⟨rfl,hv,hT⟩,fun _=>⟨rfl,rfl⟩,U9,h16,fun _=>⟨rfl,rfl⟩⟩
 rintro l a u ⟨c13,c14,c15,c16,c17,c18,c19,X4,X5,X7,TM,mW,JB,mX,A4,A5,t,s,b,rfl,rfl,hI,QW,Zj,U9,h16,Uq⟩ hst;obtain ⟨rfl,rfl,rfl⟩:c15=true∧c18=true∧c19=true:=by simpa using hst
 obtain ⟨rfl,rfl⟩:=U9 rfl;obtain ⟨rfl,rfl⟩:=Zj rfl;obtain ⟨rfl,hv,hT⟩:=QW rfl;obtain ⟨rfl,b4,hA4⟩:=hI.a4 rfl;obtain ⟨rfl,b5,hA5⟩:=hI.a5 rfl;have hne:=hI.ne rfl rfl;have n4:=hT.n4 rfl;have n5:=hT.n5 rfl;have hN0:=hI.below;have hN:qa w u:=D0.trans (hN0.mono (by omega));have ot:=hT.ot;have os:=hT.os;have qc:=kJ.out u hN;have hzd:=hN0.size;have hl4:=b4.lt;have hl5:=b5.lt;clear hst QW Zj U9 qcA hT hI hN0;obtain ⟨w1,hw1,TN,Bq,hs1⟩:=zM b4 (.slice t.a t.seats.length t.c) (.int .i64 t.hand);have hp1:Hid (w1.rangeAt A4 0 t.cells):=Box.range [] t.cells [] (by simpa [qo.cells] using TN);have Zk:=b5.within Bq (by omega);have ot1:=OwnSts.touch ot Bq.QG (fun k hk hm=>n4.1 (by rw [← qac.1 hm];exact hk));have os1:=qP.touch os Bq.QG (fun k hk hm=>n4.2 (by rw [← qac.1 hm];exact hk));have hN1:qa w w1:=hN.trans (Bq.below (by omega) (by omega));obtain ⟨w2,hw2,Br,hs2,HT2,HL2,qbf⟩:=yx s qi.cells rfl Zk;have hp2:Hid (w2.rangeAt A4 0 t.cells):=Box.range [] t.cells [] (by simpa [qo.cells] using TN.within Br (by omega));have IE:=OwnSts.touch ot1 Br.QG (fun k hk hm=>n5.1 (by rw [← qac.1 hm];exact hk));have os2:=qP.touch os1 Br.QG (fun k hk hm=>n5.2 (by rw [← qac.1 hm];exact hk));have hN2:qa w w2:=hN1.trans (Br.below (by omega) (by omega));have P9:t.own w2 w.heap.size w2.heap.size:=OwnSts.widen IE (by omega) (by omega) qg;have os3:s.own w2 w.heap.size w2.heap.size:=qP.widen os2 (by omega) (by omega) qg;have IG:=kJ.out _ hN1;have HS2:=kJ.out _ hN2;have HPT:Hid (u.there A4 0 t.cells.toArray.size):=b4.there 0 _ (by rw [qcY];show 0+2≤2;decide);have HW1:Hid (u.setCells A4 0 t.cells.toArray.toList=w1):=hw1.out;have HW2:Hid (w1.setCells A5 0 s.cells.toArray.toList=w2):=hw2.out;have HIT:Hid (_=_):=xP t;have HIS:Hid (_=_):=xD s;have qeT:Hid (w2.cell? ⟨A5,18,none⟩=some (.bool s.dirty)):=qbf.cell 18 _ (show s.cells[18]? =some (.bool s.dirty) from rfl);have qeU:Hid (w2.rangeAt A5 0 s.cells):=qN qbf;clear b4 b5 TN Zk qbf Bq Br hs1 hs2 hw1 hw2 ot ot1 IE os os1 os2 hN hN1 n4 n5 HL2;apply later
 case k=>
  intro TAIL;cases c16
  ·cases c17
   ·show wpAnyH _ _ _ _ _ 5 _ _ _;refine yt 16 (.agg s.cells.toArray) ?_ (h7:=qc);refine yt 17 (.bool b) ?_ (h7:=qc);exact TAIL
   ·obtain ⟨_,rfl⟩:=Uq rfl;show wpAnyH _ _ _ _ _ 4 _ _ _;refine yt 16 (.agg s.cells.toArray) ?_ (h7:=qc);exact TAIL
  ·obtain ⟨_,rfl⟩:=h16 rfl;cases c17
   ·show wpAnyH _ _ _ _ _ 4 _ _ _;refine yt 17 (.bool b) ?_ (h7:=qc);exact TAIL
   ·obtain ⟨_,rfl⟩:=Uq rfl;show wpAnyH _ _ _ _ _ 3 _ _ _;exact TAIL
 clear h16 Uq qc;refine qde (rs:=[20]) (by kernel_rfl) (by simp) ?_;refine qcE rfl (fun K hK=>?_) qc9;rw [qan (by rfl)];refine qc7 52 (.tmp 4) (.tmp 22) rfl A4 0 t.cells.toArray rfl rfl HPT.out (jG HIT.out) (K6 t) ?_;rw [HW1.out];refine hK.out _ _ IG (fun qc=>?_);clear hK K;try simp only [Act.put,zA,zB,zC]
 refine qde (rs:=[21]) (by kernel_rfl) (by simp) ?_;refine qcE rfl (fun K hK=>?_) qc9;rw [qan (by rfl)];refine qc7 121 (.tmp 5) (.tmp 23) rfl A5 0 s.cells.toArray rfl rfl HT2.out (jG HIS.out) (yh s) ?_;rw [HW2.out];refine hK.out _ _ HS2 (fun qc=>?_);clear hK K;try simp only [Act.put,zA,zB,zC]
 refine yt 22 (.bool b) ?_ (h7:=qc);refine qau (by kernel_rfl) ?_ _;clear qc IG HS2 HPT HT2 HW1 HW2;obtain ⟨W3,hW3,HT3,st3⟩:=h.dO t hN2 P9;have Bt:Within E (E+1) w2 W3:=by rw [← hW3.out];exact QX _ _ _ _
 have hE:=h.box.lt;have qoO:A5≠E:=by omega
 have HL3:Hid (W3.cell? ⟨A5,18,none⟩=some (.bool s.dirty)):=by
  have h1:=qeT.out;have h2:W3.heap[A5]? =w2.heap[A5]? :=Bt.block A5 (block_lt h1) (by omega);unfold Hid World.cell? at*
  rw [h2];exact h1
 have HR3:Hid (W3.rangeAt A5 0 s.cells):=fun j v hv=>by
  have h1:=qeU.out j v hv;have h2:W3.heap[A5]? =w2.heap[A5]? :=Bt.block A5 (block_lt h1) (by omega);unfold World.cell? at*
  rw [h2];exact h1
 have os4:s.own W3 w.heap.size W3.heap.size:=qP.widen (qP.touch os3 Bt.QG (fun k hk hm=>by have:=(qP.qC os3 k hk).1;have:=qac.1 hm;omega)) qg Bt.size qg;have HDI:Hid (s.dirty=true→∃ k:Nat,s.no=(k:Int)∧k<8∧Fit s.ss):=fun hdi=>by
  have h1:=hv.out;unfold zb at h1;by_cases hm:xC e.qQ.v n pg.lsn (pg.ss.map (·.v))=true
  ·rw [qan hm] at h1;obtain ⟨hd,hhd,Bu⟩:=hp.hand;have iQ:e.qQ.v.hand.toNat=hd:=by show e.v.hand.toNat=hd;rw [hhd];rfl
   rw [iQ] at h1;have g1:=qcz (fun x=>x.2.1) h1;have g2:=qcz (fun x=>x.2.2) h1;simp only at g1 g2;by_cases hb:b=true
   ·obtain ⟨s0,hs0,e1,e2⟩:=Zl e.qQ.v.seats hd ⟨n,pg.lsn,pg.ss.map (·.v),false,true⟩ (by rw [g2];exact hb) Bu;rw [g1] at e1 e2;obtain ⟨k,hk,TQ⟩:=hp.nos s0 hs0;exact ⟨k,by rw [← hk,← e1];rfl,TQ,Hf (by have:=hp.fitS s0 hs0;rw [← e2] at this;exact this)⟩
   ·exfalso;have hlt:e.qQ.v.seats.length<3:=by
     by_cases q:e.qQ.v.seats.length<3
     ·exact q
     ·exfalso;rw [kY,qa2 q] at g2;exact hb g2.symm
    rw [kY,qan hlt] at g1;exact mU
  ·exfalso;rw [qa2 hm] at h1;have g1:=qcz (fun x=>x.2.1) h1;exact mU
 have Ur:Hid (Qn e.v n=if s.dirty=true then uf (e.jk t.seats t.a t.c t.hand).v s.v else (e.jk t.seats t.a t.c t.hand).v):=by
  rw [Hid,Qn,mV.out];have h1:zb e.v.j4 n pg.lsn (pg.ss.map (·.v))=(t.v,s.v,b):=hv.out;simp only [h1];rfl
 have qbg:Hid ((e.jk t.seats t.a t.c t.hand).log.recs=e.log.recs∧(e.jk t.seats t.a t.c t.hand).aT=e.aT):=⟨rfl,rfl⟩;clear qeT qeU os3 P9 Bt hv mV hp hne hfit;go_upto_region 2 with (first | (guard_target=qp 26;refine qH 52 4 A4 0 t.cells hp2.out underlying52 HIT.out ?_) | (guard_target=ja 29;refine jb 52 29 26 E 136 (t.cells).toArray HT3.out (jG HIT.out) (K6 t) ?_) | fail);rw [hW3.out];clear hW3 hp2 HT3;have c18:=HL3.out;have r5:=HR3.out;cases hdi:s.dirty with
 | false=>
  rw [hdi] at c18 Ur;have HF:Hid (Qn e.v n=(e.jk t.seats t.a t.c t.hand).v):=by rw [Hid,Ur.out,qa2 (by decide)]
  clear Ur HL3 hdi r5;go_wp2;go_end0;exact ⟨⟨_,rfl⟩,_,HF.out.symm,qbg,st3⟩
 | true=>
  rw [hdi] at c18 Ur;have HF:Hid (Qn e.v n=uf (e.jk t.seats t.a t.c t.hand).v s.v):=by rw [Hid,Ur.out,qan rfl]
  obtain ⟨k,hk,TQ,hft⟩:=HDI.out hdi;have C:=sW M m E (e.jk t.seats t.a t.c t.hand) s W3 st3.at' Qi k hk TQ (fun u hu=>(qP.touch os4 hu (fun j hj hm=>by have:=(qP.qC os4 j hj).1;have:=qac.1 hm;omega)).reads) hft;clear Ur HL3 HDI hk hft os4;go_wp2_with (first | (guard_target=qp 33;refine qH 121 5 A5 0 s.cells r5 underlying121 HIS.out ?_) | fail);refine C.mono ?_;clear C r5 c18;rintro r w4 ⟨⟨v4,rfl⟩,e4,he4,qbh,s4⟩;have jr:Hid (∃ e',Hid (e'.v=Qn e.v n)∧Hid (e'.log.recs=e.log.recs∧e'.aT=e.aT)∧ky M m E e w e' w4):=⟨e4,by rw [Hid,he4.out,HF.out],⟨qbh.out.1.trans qbg.out.1,qbh.out.2.trans qbg.out.2⟩,st3.trans s4⟩;clear he4 qbh s4 st3 HF;go_wp2;go_end0;exact ⟨⟨_,rfl⟩,jr.out⟩
end
end Go.Proofs.YtnfdccldabbobaaGreatDoor
