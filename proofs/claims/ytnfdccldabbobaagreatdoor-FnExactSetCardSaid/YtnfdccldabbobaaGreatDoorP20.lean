/- Texts. -/
import Derived.Test.YtnfdccldabbobaaGreatDoorP16
import Derived.Test.YtnfdccldabbobaaGreatDoorP15
import Derived.Test.YtnfdccldabbobaaGreatDoorP17
set_option maxHeartbeats 8000000
set_option maxRecDepth 100000
namespace Go.Proofs.YtnfdccldabbobaaGreatDoor
open Go.RowKit Go.Proofs.Tryz
theorem qfr (rs:List ql) (k:Nat):(rs.map ql.v).getD k UX=(rs.getD k qE).v:=by
 simp only [List.getD,qdy];cases rs[k]? <;>rfl
def Wx (rs:List xS) (k:Nat):Bool:=((rs.getD k UX).lsn == (k+1:Int)) && xx (rs.getD k UX)
def xJ (l:Xd):Bool:=decide (l.recs.length≤4000) && (inB l.sure 0 l.recs.length && (List.range l.recs.length).all (Wx l.recs))
theorem Dr {l:Xd} (h:¬ l.recs.length≤4000):xJ l=false:=by simp [xJ,h]
theorem Mo {l:Xd} (h:inB l.sure 0 l.recs.length=false):xJ l=false:=by simp [xJ,h]
theorem Ct {l:Xd} (k:Nat) (hk:k<l.recs.length) (h:Wx l.recs k=false):xJ l=false:=by
 have:(List.range l.recs.length).all (Wx l.recs)=false:=by
  rw [qfw];exact ⟨k,qds.2 hk,by rw [h];decide⟩
 simp [xJ,this]
theorem Dt {l:Xd} (h0:l.recs.length≤4000) (h1:inB l.sure 0 l.recs.length=true) (h:∀ k,k<l.recs.length→Wx l.recs k=true):xJ l=true:=by
 have:(List.range l.recs.length).all (Wx l.recs)=true:=by
  rw [qdt];exact fun k hk=>h k (qds.1 hk)
 simp [xJ,this,h0,h1]
theorem L9 {l:Xd} (h:xJ l=true):l.recs.length≤4000∧0≤l.sure∧l.sure≤l.recs.length∧∀ k,k<l.recs.length→(l.recs.getD k UX).lsn=(k+1:Int)∧xx (l.recs.getD k UX)=true:=by
 simp only [xJ,qam,qcB,qdt,qds,Wx,qfu,inB] at h;exact ⟨h.1,h.2.1.1,h.2.1.2,h.2.2⟩
theorem qI.JU (l:qI):l.v.recs.length=l.recs.length:=by simp [qI.v]
theorem qI.qlS (l:qI) (k:Nat):l.v.recs.getD k UX=(l.recs.getD k qE).v:=qfr l.recs k
theorem Mq (l:qI) (k:Nat):Wx l.v.recs k=(((l.recs.getD k qE).lsn == (k+1:Int)) && xx (l.recs.getD k qE).v):=by
 unfold Wx;rw [l.qlS];rfl
def vW (r:xS) (n:Int):xS:={ r with lsn:=n }
theorem Du (p:Int) (w:World) (h:0≤p∧p≤1099511627776):
  Calls prog 153 #[.int .i64 p] w fun e w'=>e=.returned (.int .i64 (p+1))∧w'=w:=by
 go_enter func153,ntmps153;go_wp2;go_ret;exact ⟨rfl,rfl⟩
theorem Gf {P:Prop} (h:P:=by
 clear HLEN Xm kI zw;go_enter func121,ntmps121;go_wp2_with fail;rw [hW.out];go_ret;exact ⟨qm HR.out.symm,hbW⟩):P:=h
theorem fC (l:qI) (w:World) (hg:jR w) (hr:l.reads w) (hl:l.short 1099511627776):
  Calls prog 121 #[.agg l.cells.toArray] w fun e w'=>e=.returned (.bool (xJ l.v))∧qa w w':=by
 have HLEN:Hid (¬ l.recs.length≤4000→xJ l.v=false):=fun h=>Dr (by rw [l.JU];exact h)
 have Xm:Hid (¬ (0≤l.sure∧l.sure≤l.recs.length)→xJ l.v=false):=fun h=>Mo (by rw [l.JU];unfold inB;exact qa0 h)
 have kI:Hid (∀ k,k<l.recs.length→(((l.recs.getD k qE).lsn == (k+1:Int)) && xx (l.recs.getD k qE).v)=false→xJ l.v=false):=fun k hk h=>Ct k (by rw [l.JU];exact hk) (by rw [Mq];exact h)
 have zw:Hid (l.recs.length≤4000→0≤l.sure∧l.sure≤l.recs.length→(∀ k,k<l.recs.length→(((l.recs.getD k qE).lsn == (k+1:Int)) && xx (l.recs.getD k qE).v)=true)→xJ l.v=true):=fun h0 h1 h=>Dt (by rw [l.JU];exact h0) (by rw [l.JU];unfold inB;exact qaC h1) (fun k hk=>by rw [Mq];exact h k (by rw [l.JU] at hk;exact hk))
 generalize xJ l.v=R at*
 have HS:Hid (∀ k,k<l.recs.length→(l.recs.getD k qE).short 1099511627776):=fun k hk=>hl.at k hk
 have hlen:=hl.len;obtain ⟨rs,s,a,c⟩:=l;simp only [qI.reads,qI.cells] at*
 obtain ⟨W,hW,b0,hbW,qD⟩:=qB w [.slice a rs.length c,.int .i64 s] 55;have c0:=b0.cell 0 _ rfl;have c1:=b0.cell 1 _ rfl;clear hl qD;have HC:Hid (∀ k,k<rs.length→∃ b off,a=some ⟨b,off,none⟩∧W.rangeAt b (off+k*15) (rs.getD k qE).cells∧(rs.getD k qE).reads W):=fun k hk=>by
  obtain ⟨b,off,ha,hc⟩:=(yl.below hr hbW) (by intro e;rw [e] at hk;simp at hk);exact ⟨b,off,ha,hc k hk⟩
 have HI:Hid ((prog.info? 124).map (·.size)=some 15):=by rw [Hid];kernel_rfl
 have HG:Hid (∀ u,qa W u→jR u):=fun u hu=>hg.keep (qf hbW hu)
 clear hr hg;by_cases h4:rs.length≤4000
 case neg=>
  have HR:Hid (R=false):=HLEN.out h4;exact Gf
 case pos=>
  by_cases h5:0≤s
  case neg=>
   have HR:Hid (R=false):=Xm.out (fun h=>h5 h.1);exact Gf
  by_cases h6:s≤rs.length
  case neg=>
   have HR:Hid (R=false):=Xm.out (fun h=>h6 h.2);exact Gf
  have qbL:Hid ((∀ k,k<rs.length→(((rs.getD k qE).lsn == (k+1:Int)) && xx (rs.getD k qE).v)=true)→R=true):=zw.out h4 ⟨h5,h6⟩;clear zw HLEN Xm;go_enter func121,ntmps121;go_wp2_with fail;rw [hW.out];clear hW;go_loopw [25] (fun i wr=>∃ k:Nat,k≤rs.length∧i=.int .i64 k∧Hid (∀ j,j<k→(((rs.getD j qE).lsn == (j+1:Int)) && xx (rs.getD j qE).v)=true)∧qa W wr) (fun i _=>rs.length-(intOf i).toNat)
  case atStart=>exact ⟨0,qaw _,rfl,fun j hj=>by omega,qab _ _⟩
  case round=>
   obtain ⟨k,hk,rfl,hall,hbl⟩:=hrel;have Kv:=qf hbW hbl;clear c0 c1;by_cases hlt:k<rs.length
   ·obtain ⟨b,off,rfl,hcell,hrd⟩:=HC.out k hlt;have HR:Hid (wr.rangeAt b (off+k*15) (rs.getD k qE).cells):=JJ hcell hbl;have qfs:=hrd.below hbl;have hsh:=HS.out k hlt;have HN:Hid ((((rs.getD k qE).lsn == (k+1:Int)) && xx (rs.getD k qE).v)=false→R=false):=kI.out k hlt;have HY:Hid ((((rs.getD k qE).lsn == (k+1:Int)) && xx (rs.getD k qE).v)=true→∀ j,j<k+1→(((rs.getD j qE).lsn == (j+1:Int)) && xx (rs.getD j qE).v)=true):=fun h j hj=>by
     by_cases e:j=k
     ·rw [e];exact h
     ·exact hall.out j (by omega)
    clear hcell HC kI hall HS hrd qbL;generalize rs.getD k qE=y at*
    obtain ⟨W1,hW1,b1,hb1,hs1⟩:=qB wr [.int .i64 0,.int .i64 0,.int .i64 0,.int .i64 0,.int .i64 0,.bool false,.int .i64 0,.slice none 0 0,.slice none 0 0,.bool false,.int .i64 0,.slice none 0 0,.slice none 0 0,.int .i64 0,.slice none 0 0] 124;obtain ⟨W2,hW2,hw2,hs2,HT2,_,b2⟩:=K4 y _ rfl b1;have B2:qa wr W2:=hb1.trans (hw2.below qg (by omega));have jY:Hid (∀ u,qa W2 u→u.rangeAt wr.heap.size 0 y.cells):=fun u hu=>Box.range [] y.cells [] (by simpa using b2.below hu b2.lt)
    have C2:=qf hbl B2;have qlT:=qfs.below B2;have hO:=Jq y;have D2:=qf Kv B2;clear b1 b2 hw2 hs2 hs1 hb1 B2 qfs hbl Kv;go_wp2_with (first | (guard_target=qp 29;refine qH 124 28 b (off+k*15) y.cells HR.out underlying124 HI.out ?_) | (guard_target=ja 4;refine jb 124 4 29 wr.heap.size 0 y.cells.toArray (by rw [hW1.out];exact HT2.out) HI.out hO ?_) | fail);rw [hW1.out,hW2.out];clear hW1 hW2 HT2 HR;refine qaZ (S:=fun w'=>w'.rangeAt wr.heap.size 0 y.cells) (by kernel_rfl) ?_ (fun qc=>?_)
    ·exact jY.out _ (qab _ _).drew
    refine jg 0 ?_;refine tk 1 (v:=.int .i64 y.lsn) rfl (Or.inl ⟨by rfl,?_⟩) qc ?_
    ·intro w' hSw;have hx:w'.cell? ⟨wr.heap.size,0,none⟩=some (.int .i64 y.lsn):=hSw 0 _ rfl;go_simp<;>rfl
    try simp only [zz]
    refine jg 2 ?_;refine jc 3 (fun K hK=>?_);go_simp;refine (Du k _ (by omega)).mono ?_;rintro e w3 ⟨rfl,rfl⟩;refine qX hK (jY.out _ (qab _ _).drew) fun qc=>?_
    clear hK K;try simp only [zz]
    refine jg 4 ?_;cases h6:(y.lsn == (k+1:Int)) with
    | false=>
     have HR2:Hid (R=false):=HN.out (by rw [h6];rfl);have Wy:(y.lsn != (k:Int)+1)=true:=by simp only [bne,h6,Bool.not_false]
     rw [Wy];clear h6 HN HY Wy
     iterate 5 refine jv ?_
     refine qau (by kernel_rfl) ?_ _;go_wp2_with fail;go_ret;exact ⟨qm HR2.out.symm,D2.drew⟩
    | true=>
     rw [h6,qfH] at HN HY;have Wy:(y.lsn != (k:Int)+1)=false:=by simp only [bne,h6,Bool.not_true]
     rw [Wy];clear h6 Wy;refine jg 5 ?_;refine xB 6 y.cells (fun _ h=>h) underlying124 HI.out ?_;refine jc 7 (fun K hK=>?_);go_simp;refine (XT y _ (HG.out _ C2.drew) (qlT.below (qab _ _).drew) hsh).mono ?_;rintro e w4 ⟨rfl,hb4⟩;have Gg:qa W2 w4:=(qab _ _).drew.trans hb4;have D4:qa w w4:=qf D2 Gg;have C4:qa W w4:=qf C2 Gg;refine qX hK (jY.out _ Gg) fun qc=>?_
     clear hK K;try simp only [zz]
     cases h7:xx y.v with
     | false=>
      have HR2:Hid (R=false):=HN.out h7;clear HN HY
      iterate 2 refine jv ?_
      refine qau (by kernel_rfl) ?_ _;go_wp2_with fail;go_ret;exact ⟨qm HR2.out.symm,D4⟩
     | true=>
      have Dj:=HY.out h7;clear HN HY
      iterate 2 refine jv ?_
      refine qau (by kernel_rfl) ?_ _;go_wp2_with fail;go_roundw
      case rel=>exact ⟨k+1,by omega,by go_num,Dj,C4⟩
      case measure=>simp [intOf];omega
   ·have HR:Hid (R=true):=qbL.out (fun j hj=>hall.out j (by omega));clear kI qbL;go_wp2;go_ret;exact ⟨qm HR.out.symm,Kv⟩
theorem aA {ops:Array Oper} {rest:List Oper} {op:Oper} {a:Act} {w:World} {Q:Exit→Act→World→Prop} {P:Program} (hw:Region.wanted op (yielded ops a.tmps)=true) (ty:TypeId) (x:Operand) (ho:op.op=.load ty x)
  (b o:Nat) (hx:a.eval x=.pointer (some ⟨b,o,none⟩)) (cs:List Value) (d:TypeDesc) (hc:w.rangeAt b o cs)
  (hu:P.underlying ty=some d) (hd:d.isRow=true) (hi:(P.info? ty).map (·.size)=some cs.length)
  (h:wpList P ops Q rest (a.put op.dst (.agg cs.toArray)) w):wpList P ops Q (op::rest) a w:=
 wpList_step fun _ hK=>by
  simp only [hw,if_true];exact wp_load_mid ty x ho b o hx cs d hc hu hd hi (hK _ _ h)
theorem fT (l:qI) (w:World) (hr:l.reads w) (hl:l.short 1099511627776):
  Calls prog 108 #[.agg l.cells.toArray] w fun e w'=>e=.returned (.bool (xJ l.v))∧qa w w':=by
 have HLEN:Hid (¬ l.recs.length≤4000→xJ l.v=false):=fun h=>Dr (by rw [l.JU];exact h)
 have Xm:Hid (inB l.sure 0 l.recs.length=false→xJ l.v=false):=fun h=>Mo (by rw [l.JU];exact h)
 have kI:Hid (∀ k,k<l.recs.length→(((l.recs.getD k qE).lsn == (k+1:Int)) && xx (l.recs.getD k qE).v)=false→xJ l.v=false):=fun k hk h=>Ct k (by rw [l.JU];exact hk) (by rw [Mq];exact h)
 have zw:Hid (l.recs.length≤4000→inB l.sure 0 l.recs.length=true→(∀ k,k<l.recs.length→(((l.recs.getD k qE).lsn == (k+1:Int)) && xx (l.recs.getD k qE).v)=true)→xJ l.v=true):=fun h0 h1 h=>Dt (by rw [l.JU];exact h0) (by rw [l.JU];exact h1) (fun k hk=>by rw [Mq];exact h k (by rw [l.JU] at hk;exact hk))
 generalize xJ l.v=R at*
 have HS:Hid (∀ k,k<l.recs.length→(l.recs.getD k qE).short 1099511627776):=fun k hk=>hl.at k hk
 have hlen:=hl.len;obtain ⟨rs,s,a,c⟩:=l;simp only [qI.reads,qI.cells] at*
 obtain ⟨W,hW,b0,hbW,qD⟩:=qB w [.slice a rs.length c,.int .i64 s] 55;have c0:=b0.cell 0 _ rfl;have c1:=b0.cell 1 _ rfl;clear hl qD;have HC:Hid (∀ k,k<rs.length→∃ b off,a=some ⟨b,off,none⟩∧W.rangeAt b (off+k*15) (rs.getD k qE).cells∧(rs.getD k qE).reads W):=fun k hk=>by
  obtain ⟨b,off,ha,hc⟩:=(yl.below hr hbW) (by intro e;rw [e] at hk;simp at hk);exact ⟨b,off,ha,hc k hk⟩
 have HI:Hid ((prog.info? 124).map (·.size)=some 15):=by rw [Hid];kernel_rfl
 clear hr;by_cases h4:rs.length≤4000
 case neg=>
  have HR:Hid (R=false):=HLEN.out h4;clear HLEN Xm kI zw;go_enter func108,ntmps108;go_wp2_with fail;rw [hW.out];go_ret;exact ⟨qm HR.out.symm,hbW⟩
 case pos=>
  cases h5:inB s 0 rs.length with
  | false=>
   have HR:Hid (R=false):=Xm.out h5;clear HLEN Xm kI zw;go_enter func108,ntmps108;go_wp2_with fail;rw [hW.out];refine (j5 _ _ _ W).mono ?_;rintro e u ⟨rfl,hu⟩;rw [hu];clear hu u;go_wp2;go_ret;exact ⟨qm HR.out.symm,hbW⟩
  | true=>
   go_enter func108,ntmps108;go_wp2_with fail;rw [hW.out];refine (j5 _ _ _ W).mono ?_;rintro e u ⟨rfl,hu⟩;rw [hu];clear hu u hW;go_wp2_with fail;go_loopw [3] (fun i wr=>∃ k:Nat,k≤rs.length∧i=.int .i64 k∧Hid (∀ j,j<k→(((rs.getD j qE).lsn == (j+1:Int)) && xx (rs.getD j qE).v)=true)∧qa W wr) (fun i _=>rs.length-(intOf i).toNat)
   case atStart=>exact ⟨0,qaw _,rfl,fun j hj=>by omega,qab _ _⟩
   case round=>
    obtain ⟨k,hk,rfl,hall,hbl⟩:=hrel;have Kv:=qf hbW hbl;have r0:=(hbl.cell (block_lt c0)).trans c0;clear c0 c1;by_cases hlt:k<rs.length
    ·obtain ⟨b,off,rfl,hcell,hrd⟩:=HC.out k hlt;have HR:Hid (wr.rangeAt b (off+k*15) (rs.getD k qE).cells):=JJ hcell hbl;have x0:wr.cell? ⟨b,off+k*15,none⟩=some (.int .i64 (rs.getD k qE).lsn):=HR.out 0 _ rfl;have C:=fB (rs.getD k qE) wr (hrd.below hbl) (HS.out k hlt);have HN:Hid ((((rs.getD k qE).lsn == (k+1:Int)) && xx (rs.getD k qE).v)=false→R=false):=kI.out k hlt;have HY:Hid ((((rs.getD k qE).lsn == (k+1:Int)) && xx (rs.getD k qE).v)=true→∀ j,j<k+1→(((rs.getD j qE).lsn == (j+1:Int)) && xx (rs.getD j qE).v)=true):=fun h j hj=>by
      by_cases e:j=k
      ·rw [e];exact h
      ·exact hall.out j (by omega)
     clear hcell HC HLEN Xm kI zw hall HS hrd;generalize rs.getD k qE=y at*
     cases h6:(y.lsn == (k+1:Int)) with
     | false=>
      have HR2:Hid (R=false):=HN.out (by rw [h6];rfl);have Wy:(y.lsn != (k:Int)+1)=true:=by simp only [bne,h6,Bool.not_false]
      clear h6;clear HN HY C;go_wp2_with fail;go_ret;exact ⟨qm HR2.out.symm,Kv⟩
     | true=>
      rw [h6,qfH] at HN HY;have Wy:(y.lsn != (k:Int)+1)=false:=by simp only [bne,h6,Bool.not_true]
      clear h6;cases h7:xx y.v with
      | false=>
       have HR2:Hid (R=false):=HN.out h7;clear HN HY;rw [h7] at C;go_wp2_with (first | (guard_target=qp 38;refine aA (by rfl) 124 (.tmp 37) rfl b (off+k*15) rfl y.cells _ HR.out underlying124 rfl HI.out ?_) | fail);refine C.mono ?_;rintro e w1 ⟨rfl,hb1⟩;go_wp2_with fail;go_ret;exact ⟨qm HR2.out.symm,qf Kv hb1⟩
      | true=>
       have Dj:=HY.out h7;clear HN HY;rw [h7] at C;go_wp2_with (first | (guard_target=qp 38;refine aA (by rfl) 124 (.tmp 37) rfl b (off+k*15) rfl y.cells _ HR.out underlying124 rfl HI.out ?_) | fail);refine C.mono ?_;rintro e w1 ⟨rfl,hb1⟩;clear C;have hb2:=qf hbl hb1;go_wp2_with fail;go_roundw
       case rel=>exact ⟨k+1,by omega,by go_num,Dj,hb2⟩
       case measure=>simp [intOf];omega
    ·have HR:Hid (R=true):=zw.out h4 h5 (fun j hj=>hall.out j (by omega));clear HLEN Xm kI zw;go_wp2;go_ret;exact ⟨qm HR.out.symm,Kv⟩
theorem Jv {P:Prop} (h:P:=by
 have jr:Hid (∃ ts':List qj,Ending.returned (.tuple #[.agg q.cells.toArray,.bool false])=.returned (.tuple #[.agg (qA.cells ⟨SO.1,ts'⟩).toArray,.bool OK])∧Hid (ts'.map (·.v)=SO.2)∧qP WF w.heap.size WF.heap.size ts'∧qa w WF):=by
  obtain ⟨qn,qs⟩:=q;obtain ⟨e1,e2⟩:=HQ.out;simp only at e1 e2;subst e2;refine ⟨qs,?_,?_,Y6.out,KT.out⟩
  ·rw [kI.out yD.out,yD.out,e1]
  ·rw [Hid,kI.out yD.out];exact HV.out
 clear UA hwF q8 Y6 KT kI Mr ho3;go_wp2_with (first | (guard_target=qp 39;refine qH 48 10 w1.heap.size 0 q.cells (aB) underlying48 Ko.out ?_) | (guard_target=ja 8;refine jb 48 8 39 (w.heap.size+1+1) 0 q.cells.toArray (jI.out) (jG Ko.out) U4.out ?_) | fail);rw [qK.out];exact qa3 (v:=.tuple #[.agg q.cells.toArray,.bool false]) (wH results166 rfl xA.out rfl) rfl jr.out):P:=h
theorem Ms (p:qA) (h4:p.ss.length=4) (slot:Int) (s:qj) (lsn:Int) (w:World) (hg:jR w) (hr:jS w p.ss) (hl:Fit p.ss) (hrs:s.reads w) (hls:Fit [s]):
  Calls prog 166 #[.agg p.cells.toArray,.int .i64 slot,.agg s.cells.toArray,.int .i64 lsn] w fun e w'=>∃ ts:List qj,e=.returned (.tuple #[.agg (qA.cells ⟨(setOf p.lsn (p.ss.map (·.v)) slot s.v lsn).1,ts⟩).toArray,.bool (zo p.lsn (p.ss.map (·.v)) slot s.v lsn)])∧Hid (ts.map (·.v)=(setOf p.lsn (p.ss.map (·.v)) slot s.v lsn).2)∧qP w' w.heap.size w'.heap.size ts∧qa w w':=by
 have kI:Hid (zo p.lsn (p.ss.map (·.v)) slot s.v lsn=false→setOf p.lsn (p.ss.map (·.v)) slot s.v lsn=(p.lsn,p.ss.map (·.v))):=fun h=>qbM h
 have Mr:Hid (zo p.lsn (p.ss.map (·.v)) slot s.v lsn=true→setOf p.lsn (p.ss.map (·.v)) slot s.v lsn=(lsn,(p.ss.map (·.v)).set slot.toNat s.v)):=fun h=>qbN h
 have H1:Hid (xZ p.lsn (p.ss.map (·.v))=false→zo p.lsn (p.ss.map (·.v)) slot s.v lsn=false):=fun h=>qd4 h
 have H2:Hid (inB slot 0 3=false→zo p.lsn (p.ss.map (·.v)) slot s.v lsn=false):=fun h=>l9 h
 have H3:Hid (qL s.v=false→zo p.lsn (p.ss.map (·.v)) slot s.v lsn=false):=fun h=>qd5 h
 have H5:Hid (inB lsn p.lsn 1000000=false→zo p.lsn (p.ss.map (·.v)) slot s.v lsn=false):=fun h=>Oa h
 have H6:Hid (xZ p.lsn (p.ss.map (·.v))=true→inB slot 0 3=true→qL s.v=true→inB lsn p.lsn 1000000=true→zo p.lsn (p.ss.map (·.v)) slot s.v lsn=true):=fun a b c d=>Ob a b c d
 generalize zo p.lsn (p.ss.map (·.v)) slot s.v lsn=OK at*
 generalize setOf p.lsn (p.ss.map (·.v)) slot s.v lsn=SO at*
 obtain ⟨qlU,qlV⟩:=hls s (qac.2 rfl);have HI:Hid ((prog.info? 48).map (·.size)=some p.cells.length):=by rw [Hid,jJ p h4];kernel_rfl
 obtain ⟨W,hW,b0,b1,b2,hbW,qD⟩:=yK w p.cells s.cells [.int .i64 0,.bool false,.int .i64 0,.slice none 0 0,.slice none 0 0,.bool false,.int .i64 0,.slice none 0 0,.slice none 0 0,.bool false,.int .i64 0,.slice none 0 0,.slice none 0 0,.bool false,.int .i64 0,.slice none 0 0,.slice none 0 0] 48 45 48;have sP:w.heap.size+1+1<W.heap.size:=by omega
 have jY:Hid (∀ w',qa W w'→w'.rangeAt w.heap.size 0 p.cells):=fun w' hh=>Box.range [] p.cells [] (by simpa using b0.below hh b0.lt)
 have b0':∀ w',qa W w'→w'.cell? ⟨w.heap.size,0,none⟩=some (.int .i64 p.lsn):=fun w' hh=>(b0.below hh b0.lt).cell 0 _ rfl
 have HB2:Hid (∀ w',qa W w'→Box w' (w.heap.size+1+1) QL 48):=fun w' hh=>b2.below hh b2.lt
 have HB1:Hid (∀ w',qa W w'→Box w' (w.heap.size+1) s.cells 45):=fun w' hh=>b1.below hh b1.lt
 have HL0:Hid _:=b0';clear qD b0' b2 b1 b0;simp only [qj.cells] at HB1 hW;simp only [qj.cells];go_enter func166,ntmps166;go_wp2_with (first | (guard_target=qp 11;refine qH 48 4 w.heap.size 0 p.cells (by rw [hW.out];exact jY.out _ (qab _ _)) underlying48 HI.out ?_) | fail);rw [hW.out];clear hW;refine (zU p h4 W (hr.below hbW) hl).mono ?_;rintro e w1 ⟨ts,rfl,hv,ho1,hb1⟩;have QV:ts.length=4:=by have:=qcz List.length hv.out;simp only [qa4] at this;omega
 have HV:Hid (ts.map (·.v)=p.ss.map (·.v)):=hv;generalize hq:(⟨p.lsn,ts⟩:qA)=q at*
 have hq4:q.ss.length=4:=by rw [← hq];exact QV
 have HQ:Hid (q.lsn=p.lsn∧q.ss=ts):=by rw [← hq];exact ⟨rfl,rfl⟩
 clear hq hv;have hs1:=hb1.size;have Ko:Hid ((prog.info? 48).map (·.size)=some q.cells.length):=by rw [Hid,jJ q hq4];kernel_rfl
 have U4:Hid (_):=qaf (uM q);obtain ⟨W2,hW2,b3,hb2,hs2⟩:=qB w1 [.int .i64 0,.bool false,.int .i64 0,.slice none 0 0,.slice none 0 0,.bool false,.int .i64 0,.slice none 0 0,.slice none 0 0,.bool false,.int .i64 0,.slice none 0 0,.slice none 0 0,.bool false,.int .i64 0,.slice none 0 0,.slice none 0 0] 48;obtain ⟨W3,hW3,hw3,hs3,HT3,_,bQ⟩:=page_out (C:=w1.heap.size) (T:=48) q hq4 [.int .i64 0,.bool false,.int .i64 0,.slice none 0 0,.slice none 0 0,.bool false,.int .i64 0,.slice none 0 0,.slice none 0 0,.bool false,.int .i64 0,.slice none 0 0,.slice none 0 0,.bool false,.int .i64 0,.slice none 0 0,.slice none 0 0] rfl b3 underlying48 rfl (by kernel_rfl);have B3:qa W W3:=(hb1.trans (hb2.mono hs1)).trans (hw3.below (by omega) (by omega));have ho3:qP W3 W.heap.size w1.heap.size ts:=(ho1.below hb2).within hw3 (.inl qg);have Gh:w1.heap.size<W3.heap.size:=bQ.lt;have C1:=vo p h4 W3 (hg.keep (qf hbW B3)) (hr.below (qf hbW B3)) hl;clear b3 hw3 hs3 ho1 hb1 hb2 hs2;go_wp2_with (first | (guard_target=ja 10;refine jb 48 10 12 w1.heap.size 0 q.cells.toArray (by rw [hW2.out];exact HT3.out) (jG Ko.out) U4.out ?_) | (guard_target=qp 13;refine qH 48 4 w.heap.size 0 p.cells (by rw [hW2.out,hW3.out];exact jY.out _ B3) underlying48 HI.out ?_) | fail);rw [hW2.out,hW3.out];clear hW2 hW3 HT3;refine C1.mono ?_;clear C1;rintro e w4 ⟨rfl,hb4⟩;have N4:=hb4;have B4:=qf B3 hb4;have hs4:=hb4.size;cases hok:xZ p.lsn (p.ss.map (·.v)) with
 | false=>
  have yD:Hid (OK=false):=H1.out hok;clear hok H1 H2 H3 H5 H6;have UA:=bQ.below N4 Gh;have aB:=Box.range [] q.cells [] (by simpa using UA:Box w4 w1.heap.size ([]++(q.cells++[])) 48);obtain ⟨WF,qK,hwF,q8,jI,xA,_⟩:=page_out (C:=w.heap.size+1+1) (T:=48) q hq4 QL rfl (HB2.out _ B4) underlying48 rfl (by kernel_rfl);have Y6:Hid (qP WF w.heap.size WF.heap.size ts):=((ho3.below N4).within hwF (.inr (by omega))).widen (by omega) (by omega) qg;have KT:Hid (qa w WF):=(hbW.trans (B4.mono (by omega))).trans (hwF.below (by omega) (by have:=B4.size;omega));exact Jv
 | true=>
 have HP:Hid (_=_):=hok;clear hok H1;cases hin:inB slot 0 3 with
 | false=>
  have yD:Hid (OK=false):=H2.out hin;have hz:=XI hin;clear hin H2 H3 H5 H6;rcases hz with hz1 | ⟨hz1,hz2⟩
  ·have hd1:slot<0:=hz1;have UA:=bQ.below N4 Gh;have aB:=Box.range [] q.cells [] (by simpa using UA:Box w4 w1.heap.size ([]++(q.cells++[])) 48);obtain ⟨WF,qK,hwF,q8,jI,xA,_⟩:=page_out (C:=w.heap.size+1+1) (T:=48) q hq4 QL rfl (HB2.out _ B4) underlying48 rfl (by kernel_rfl);have Y6:Hid (qP WF w.heap.size WF.heap.size ts):=((ho3.below N4).within hwF (.inr (by omega))).widen (by omega) (by omega) qg;have KT:Hid (qa w WF):=(hbW.trans (B4.mono (by omega))).trans (hwF.below (by omega) (by have:=B4.size;omega));exact Jv
  ·have hd1:¬ slot<0:=hz1;have hd2:4≤slot:=by omega
   clear hz1 hz2;have UA:=bQ.below N4 Gh;have aB:=Box.range [] q.cells [] (by simpa using UA:Box w4 w1.heap.size ([]++(q.cells++[])) 48);obtain ⟨WF,qK,hwF,q8,jI,xA,_⟩:=page_out (C:=w.heap.size+1+1) (T:=48) q hq4 QL rfl (HB2.out _ B4) underlying48 rfl (by kernel_rfl);have Y6:Hid (qP WF w.heap.size WF.heap.size ts):=((ho3.below N4).within hwF (.inr (by omega))).widen (by omega) (by omega) qg;have KT:Hid (qa w WF):=(hbW.trans (B4.mono (by omega))).trans (hwF.below (by omega) (by have:=B4.size;omega));exact Jv
 | true=>
 have BK:Hid (_=_):=hin;obtain ⟨hz1,hz2⟩:=YO hin;clear hin H2;have hd2:¬ 4≤slot:=by omega
 have bs4:=HB1.out _ B4;obtain ⟨x0,x1,x2,x3,_⟩:=bs4.four;have C2:=Jr s w4 (hg.keep (qf hbW B4)) (jd.below hrs (qf hbW B4)) hls;simp only [qj.cells] at C2;go_wp2_with fail;refine C2.mono ?_;clear C2 x0 x1 x2 x3;rintro e w5 ⟨rfl,hb5⟩;have N5:=qf N4 hb5;have B5:=qf B4 hb5;have hs5:=hb5.size;cases hsb:qL s.v with
 | false=>
  have yD:Hid (OK=false):=H3.out hsb;clear hsb H3 H5 H6;have UA:=bQ.below N5 Gh;have aB:=Box.range [] q.cells [] (by simpa using UA:Box w5 w1.heap.size ([]++(q.cells++[])) 48);obtain ⟨WF,qK,hwF,q8,jI,xA,_⟩:=page_out (C:=w.heap.size+1+1) (T:=48) q hq4 QL rfl (HB2.out _ B5) underlying48 rfl (by kernel_rfl);have Y6:Hid (qP WF w.heap.size WF.heap.size ts):=((ho3.below N5).within hwF (.inr (by omega))).widen (by omega) (by omega) qg;have KT:Hid (qa w WF):=(hbW.trans (B5.mono (by omega))).trans (hwF.below (by omega) (by have:=B5.size;omega));exact Jv
 | true=>
 have Cu:Hid (_=_):=hsb;clear hsb H3;have y0:=HL0.out _ B5;cases hln:inB lsn p.lsn 1000000 with
 | false=>
  have yD:Hid (OK=false):=H5.out hln;have hz:=XI hln;clear hln H5 H6;rcases hz with hl1 | ⟨hl1,hl2⟩
  ·have hd5:lsn<p.lsn:=hl1;generalize p.lsn=pn at*
   have UA:=bQ.below N5 Gh;have aB:=Box.range [] q.cells [] (by simpa using UA:Box w5 w1.heap.size ([]++(q.cells++[])) 48);obtain ⟨WF,qK,hwF,q8,jI,xA,_⟩:=page_out (C:=w.heap.size+1+1) (T:=48) q hq4 QL rfl (HB2.out _ B5) underlying48 rfl (by kernel_rfl);have Y6:Hid (qP WF w.heap.size WF.heap.size ts):=((ho3.below N5).within hwF (.inr (by omega))).widen (by omega) (by omega) qg;have KT:Hid (qa w WF):=(hbW.trans (B5.mono (by omega))).trans (hwF.below (by omega) (by have:=B5.size;omega));exact Jv
  ·generalize p.lsn=pn at*
   have UA:=bQ.below N5 Gh;have aB:=Box.range [] q.cells [] (by simpa using UA:Box w5 w1.heap.size ([]++(q.cells++[])) 48);obtain ⟨WF,qK,hwF,q8,jI,xA,_⟩:=page_out (C:=w.heap.size+1+1) (T:=48) q hq4 QL rfl (HB2.out _ B5) underlying48 rfl (by kernel_rfl);have Y6:Hid (qP WF w.heap.size WF.heap.size ts):=((ho3.below N5).within hwF (.inr (by omega))).widen (by omega) (by omega) qg;have KT:Hid (qa w WF):=(hbW.trans (B5.mono (by omega))).trans (hwF.below (by omega) (by have:=B5.size;omega));exact Jv
 | true=>
 have XX:Hid (_=_):=hln;obtain ⟨hl1,hl2⟩:=YO hln;clear hln H5;have yD:Hid (OK=true):=H6.out HP.out BK.out Cu.out XX.out;have HSO:Hid (SO=(lsn,(p.ss.map (·.v)).set slot.toNat s.v)):=Mr.out yD.out;clear H6 kI Mr;obtain ⟨k,rfl⟩:∃ k:Nat,slot=(k:Int):=⟨slot.toNat,by omega⟩;have hk4:k<4:=by omega
 have bs5:=HB1.out _ B5;obtain ⟨x0,x1,x2,x3,_⟩:=bs5.four;have C3:=Jf s w5 (jd.below hrs (qf hbW B5)) qlU qlV;simp only [qj.cells] at C3;go_wp2_with fail;refine C3.mono ?_;clear C3 x0 x1 x2 x3 y0;rintro e w7 ⟨t,rfl,Kq,hot,QH⟩;have N7:=qf N5 QH;have B7:=qf B5 QH;have hs7:=QH.size;obtain ⟨qn,qs⟩:=q;simp only [qA.cells] at bQ;obtain ⟨hqn,hqs⟩:=HQ.out;simp only at hqn hqs;subst hqs;have qoZ:=N5.size;have bQ7:=bQ.below N7 Gh;have hkl:k<qs.length:=by rw [QV];exact hk4
 obtain ⟨W8,Dv,b8,hw8,Oc⟩:=VG bQ7 k hkl t;obtain ⟨z0,z1,z2,z3,hfz⟩:=bQ7.GG k hkl;have f0:=hfz (1+k*4);have f1:=hfz (1+k*4+1);have f2:=hfz (1+k*4+2);have f3:=hfz (1+k*4+3);obtain ⟨W9,U5,b9,QZ,Un⟩:=jZ b8 0 (.int .i64 lsn);simp only [qdL] at b9;have g0:=b8.cell 0 _ rfl;have g1:=b8.frozen 0;have B9:qa W W9:=(B7.trans (hw8.below hs1 (by omega))).trans (QZ.below hs1 (by omega));have hr4:(⟨lsn,qs.set k t⟩:qA).ss.length=4:=by simp only [qcP];exact QV
 have hap:qP W9 W.heap.size w7.heap.size (qs.set k t):=by
  have o1:qP W9 W.heap.size w1.heap.size qs:=((ho3.below N7).within hw8 (.inl qg)).within QZ (.inl qg);have o2:t.own W9 w5.heap.size w7.heap.size:=OwnO.within (OwnO.within hot hw8 (.inr (by omega))) QZ (.inr (by omega));exact o1.set k o2 (by omega) (by omega) (by omega)
 have Tu:Hid ((qs.set k t).map (·.v)=SO.2):=by rw [Hid,HSO.out,qeW,HV.out,Kq.out,qcU]
 have IG:Hid (SO.1=lsn):=by rw [Hid,HSO.out]
 generalize hrr:(⟨lsn,qs.set k t⟩:qA)=r at*
 have b9':Box W9 w1.heap.size r.cells 48:=by rw [← hrr];exact b9
 have Mt:Hid (r=⟨lsn,qs.set k t⟩):=hrr.symm;clear hrr b9;have rR:=Box.range [] r.cells [] (by simpa using b9':Box W9 w1.heap.size ([]++(r.cells++[])) 48);have HIr:Hid ((prog.info? 48).map (·.size)=some r.cells.length):=by rw [Hid,jJ r hr4];kernel_rfl
 have HOr:Hid (_):=qaf (uM r);obtain ⟨WF,qK,hwF,q8,jI,xA,_⟩:=page_out (C:=w.heap.size+1+1) (T:=48) r hr4 QL rfl (HB2.out _ B9) underlying48 rfl (by kernel_rfl);have Y6:Hid (qP WF w.heap.size WF.heap.size (qs.set k t)):=(hap.within hwF (.inr (by omega))).widen (by omega) (by omega) qg;have KT:Hid (qa w WF):=(hbW.trans (B9.mono (by omega))).trans (hwF.below (by omega) (by have:=B9.size;omega));have jr:Hid (∃ ts':List qj,Ending.returned (.tuple #[.agg r.cells.toArray,.bool true])=.returned (.tuple #[.agg (qA.cells ⟨SO.1,ts'⟩).toArray,.bool OK])∧Hid (ts'.map (·.v)=SO.2)∧qP WF w.heap.size WF.heap.size ts'∧qa w WF):=
  ⟨qs.set k t,by rw [IG.out,yD.out,Mt.out],Tu,Y6.out,KT.out⟩
 have hi0:(0:Int)≤(k:Int):=by omega
 have hi4:(k:Int)<4:=by omega
 generalize qs.getD k qw=old at*
 have W9e:=U5.out;have W8e:=Dv.out;clear hfz hw8 QZ hwF q8 Y6 KT hap ho3 hot Kq bQ7 b8 b9' Oc Un Mt IG Tu;rw [← W9e,← W8e] at rR jI;rw [← W8e] at g0 g1;rw [← W9e,← W8e] at qK;clear W9e W8e Dv U5;go_wp2_with (first | (guard_target=qp 47;refine qH 48 10 w1.heap.size 0 r.cells (rR) underlying48 HIr.out ?_) | (guard_target=ja 8;refine jb 48 8 47 (w.heap.size+1+1) 0 r.cells.toArray (jI.out) (jG HIr.out) HOr.out ?_) | fail);rw [qK.out];exact qa3 (v:=.tuple #[.agg r.cells.toArray,.bool true]) (wH results166 rfl xA.out rfl) rfl jr.out
end Go.Proofs.YtnfdccldabbobaaGreatDoor
