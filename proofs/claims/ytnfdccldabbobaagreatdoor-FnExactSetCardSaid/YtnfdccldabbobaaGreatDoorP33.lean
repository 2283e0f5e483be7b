/- Texts. -/
import Derived.Test.YtnfdccldabbobaaGreatDoorP30
import Derived.Test.YtnfdccldabbobaaGreatDoorP29
set_option maxHeartbeats 8000000
set_option maxRecDepth 100000
namespace Go.Proofs.YtnfdccldabbobaaGreatDoor
open Go.RowKit Go.Proofs.Tryz
def uS:qA:=⟨0,[qw,qw,qw,qw]⟩
theorem ic (p:qA) (h:p.ss.length=4):(prog.info? 48).map (·.size)=some p.cells.length:=by rw [jJ _ h];kernel_rfl
theorem EW {w:World} {C:Nat} (q:qA) (hq:q.ss.length=4) (bC:Box w C uS.cells 48):
  ∃ WF,Hid (w.setCells C 0 q.cells.toArray.toList=WF)∧Within C (C+1) w WF∧WF.heap.size=w.heap.size∧Hid (w.there C 0 q.cells.toArray.size)∧Hid ((loadVar 48 ⟨C,0,none⟩).run prog WF=.ok (.agg q.cells.toArray) WF):=by
 have hl:=jJ q hq;obtain ⟨WF,qK,bF,hwF,q8⟩:=jE [] uS.cells q.cells [] (by simpa using bC) (by rw [hl];rfl);have Jz:Box WF C q.cells 48:=by simpa using bF
 exact ⟨WF,qK,hwF,q8,bC.there 0 _ (by rw [qcY,hl];show 0+17≤17;decide),qeI (P:=prog) WF C 0 48 q.cells _ (qN Jz) underlying48 rfl (ic q hq)⟩
theorem ig (p:qA) (h4:p.ss.length=4):p.cells.toArray.extract 1 17=(cellsS p.ss).toArray:=by
 have hl:=jW p.ss;rw [h4] at hl;have e1:p.cells=[.int .i64 p.lsn]++cellsS p.ss:=rfl;rw [List.extract_toArray,List.extract_eq_take_drop,e1,List.drop_append,show List.drop 1 [Value.int .i64 p.lsn]=[] from rfl,qfU,qfD,qfV,List.drop_zero,qdD (by rw [hl];decide)]
theorem ik (p:qA) (h4:p.ss.length=4) (w:World):(Instr.field 48 (.agg p.cells.toArray) 1).run prog w=.ok (.agg (cellsS p.ss).toArray) w:=by
 have hp:=ig p h4;generalize p.cells.toArray=cs at*
 have e2:(Instr.field 48 (.agg cs) 1).run prog w=.ok (.agg (cs.extract 1 17)) w:=by kernel_rfl
 rw [e2,hp]
theorem tH {w:World} {ops:Array Oper} {rest:List Oper} {dst:Option Nat} {ty:TypeId} {pos:String} {XY:Array Edge} {act:Act} {Q:Exit→Act→World→Prop} (t:Operand) (p:qA) (h4:p.ss.length=4) (ht:act.eval t=.agg p.cells.toArray)
  (h:wpList prog ops Q rest (act.put dst (.agg (cellsS p.ss).toArray)) w):
  wpList prog ops Q ({ dst:=dst,op:=.field 48 t 1,type:=ty,pos:=pos,after:=XY,guard:=none }::rest) act w:=by
 refine qgi rfl fun K hK=>?_
 unfold Oper.wp execOp;simp only [ht,qdq,ik p h4 w,qdf,qeJ];exact hK _ _ h
theorem Rq {w:World} {ops:Array Oper} {rest:List Oper} {dst:Option Nat} {ty:TypeId} {pos:String} {XY:Array Edge} {act:Act} {Q:Exit→Act→World→Prop} (t i:Operand) (ss:List qj) (h4:ss.length=4) (j:Nat) (hj:j<4) (z:qj) (hz:ss.getD j qw=z) (ht:act.eval t=.agg (cellsS ss).toArray) (hi:act.eval i=.int .i64 (j:Int))
  (h:wpList prog ops Q rest (act.put dst (.agg z.cells.toArray)) w):
  wpList prog ops Q ({ dst:=dst,op:=.index 46 t i,type:=ty,pos:=pos,after:=XY,guard:=none }::rest) act w:=by
 refine qgi rfl fun K hK=>?_
 unfold Oper.wp execOp;simp only [ht,hi,qdq,Jp ss h4 j hj w,hz,qdf,qeJ];exact hK _ _ h
theorem j3.qa5 {M:Nat} {m:Int} {w:World} {E:Nat} {e:qb} (h:yR M m w E e) (k:Nat) (hk:k<e.txs.length) (n:Int):
  ∃ g W,e.aT=some ⟨g,0,none⟩∧g≠E∧g<w.heap.size∧Hid (w.setCell ⟨g,k*3+1,none⟩ (.int .i64 n)=W)∧(∀ j,w.frozen? ⟨g,j,none⟩=false)∧(∃ v,w.cell? ⟨g,k*3+1,none⟩=some v)∧ky M m E e w (e.wG (e.txs.set k { (e.txs.getD k qz) with last:=n }) e.aT e.cT) W∧W.heap.size=w.heap.size:=by
 obtain ⟨g,hg⟩:∃ g,e.aT=some ⟨g,0,none⟩:=by
  rcases h.own.txs.1.2 with ⟨_,h0⟩ | ⟨g,cap',cur,hv,_⟩
  ·omega
  ·simp only [qcK] at hv;exact ⟨g,hv.1⟩
 have hmem:g∈rowOf e.aT e.txs.length e.cT:=by rw [hg];simp [rowOf,Value.ownBlock]
 have Za:g≠E:=fun e1=>h.off (by rw [← e1];exact qb.zL hmem)
 have ho:=h.own.txs;rw [hg] at ho;obtain ⟨h1,h2⟩:=ho.1.stored (k*3+1) (.int .i64 n);rw [mr _ _ hk] at h1;have ht:Touch [g] w (w.setCell ⟨g,k*3+1,none⟩ (.int .i64 n)):=Touch.jO h2 (fun j hj=>by cases hj;simp);have hsz:(w.setCell ⟨g,k*3+1,none⟩ (.int .i64 n)).heap.size=w.heap.size:=by simp
 have hc:w.cell? ⟨g,k*3+1,none⟩=some (.int .i64 (e.txs.getD k qz).last):=by
  rw [ho.1.cellAt (k*3+1) (by omega),uT e.txs k 1 hk (by omega)];rfl
 refine ⟨g,_,hg,Za,h.lt g (qb.zL hmem),rfl,fun j=>ho.1.frozenAt j,⟨_,hc⟩,?_,hsz⟩;refine h.lives _ _ _ ?_ ?_ (ht.mono (fun j hj=>qcO _ (by rw [qac.1 hj];exact hmem))) (fun j hj=>.inl ?_)
 ·have e1:(e.wG (e.txs.set k { (e.txs.getD k qz) with last:=n }) e.aT e.cT).run M m=e.run M m:=by
   rw [vV,vV];simp only [qb.uN,qb.wG,qcP]
  rw [e1];exact h.box.touch ht (by simpa using fun e1=>Za e1.symm)
 ·rw [hg];refine ⟨?_,qcN _,fun j hj=>?_⟩
  ·rw [qcP];exact h1
  ·cases hj;rw [hsz];exact h.lt g (qb.zL hmem)
 ·rw [qcP] at hj;exact hj
theorem Rs (M:Nat) (n:Int) (R:Nat) (e:qb) (r:ql) (w:World) (h:yR M n w R e) (hg:jR w) (hll:e.log.recs.length≤3990) (hrr:r.reads w) (hrs:r.short 1099511627776) (hrc:r.aL=none→r.cL=0)
  (hok:xx (vW r.v ((e.log.recs.length:Int)+1))=true):
  Calls prog 133 #[.pointer (some ⟨R,138,none⟩),.agg r.cells.toArray] w fun x w'=>x=.returned (.int .i64 ((e.log.recs.length:Int)+1))∧∃ l:qI,Hid ((e.jP l).v=NK e.v r.v)∧ky M n R e w (e.jP l) w':=by
 have h0:(e.run M n)[138]? =some (.slice e.log.a e.log.recs.length e.log.c):=(GH h.shape M n 2).trans rfl;refine (Rt R 138 (e.run M n) NJ e.log.a e.log.c e.log.recs 0 w.heap.size r w hg h.box h0 h.own.log (qaw _) (fun _ _ _ _ _ _ _ b o=>ES b o) (by omega) hrr hrs hrc).mono ?_;rintro x w' (⟨_,hno,_⟩ | ⟨y,a',c',rfl,_,_,hy,bx,oR,ht,hf⟩)
 ·rcases hno with q | q
  ·omega
  ·rw [hok] at q;cases q
 refine ⟨rfl,⟨e.log.recs++[y],e.log.sure,a',c'⟩,?_,h.logs ⟨e.log.recs++[y],e.log.sure,a',c'⟩ ?_ oR ht hf⟩
 ·simp only [Hid,qb.v,qb.jP,NK,qI.v,qdd,qdG,qfe,hy,qa4]
 ·have e1:=run_set h.shape M n 2 (.slice a' (e.log.recs.length+1) c');rw [show 136+2=138 from rfl] at e1;rw [e1] at bx;have e2:(e.jP ⟨e.log.recs++[y],e.log.sure,a',c'⟩).run M n=qx e.disk++(e.uN M n).set 2 (.slice a' (e.log.recs.length+1) c'):=by
   rw [vV];simp only [qb.jP,qb.uN,qai,qfD];rfl
  rw [e2];exact bx
def ql.told (r:ql) (tx prev:Int):ql:={ r with tx:=tx,prev:=prev }
theorem EX (q:ql):(prog.info? 124).map (·.size)=some q.cells.length:=by show _=some 15;kernel_rfl
theorem tJ (M:Nat) (n:Int) (R:Nat) (e:qb) (k:Nat) (rc:ql) (w:World) (h:yR M n w R e) (hg:jR w) (hk:k<e.txs.length) (g:Nat) (hga:e.aT=some ⟨g,0,none⟩) (hl:e.log.recs.length≤3990) (hrr:rc.reads w) (hrs:rc.short 1099511627776) (hrc:rc.aL=none→rc.cL=0)
  (hok:xx (vW (rc.told (e.txs.getD k qz).tx (e.txs.getD k qz).last).v ((e.log.recs.length:Int)+1))=true):
  Calls prog 85 #[.pointer (some ⟨R,0,none⟩),.pointer (some ⟨g,k*3,none⟩),.agg rc.cells.toArray] w fun r w'=>r=.returned (.int .i64 ((e.log.recs.length:Int)+1))∧∃ e',Hid (e'.v={ NK e.v (rc.told (e.txs.getD k qz).tx (e.txs.getD k qz).last).v with txs:=e.txs.set k { (e.txs.getD k qz) with last:=(e.log.recs.length:Int)+1 } })∧e'.aT=e.aT∧ky M n R e w e' w':=by
 obtain ⟨z,hz⟩:=qV (e.txs.getD k qz);obtain ⟨W,hW,b0,hbW,qD⟩:=qB w rc.cells 124;have a1:=h.below hbW;have HC:Hid (∀ u,j3 (qb.run M n) NJ u R e→u.cell? ⟨g,k*3,none⟩=some (.int .i64 z.tx)∧u.cell? ⟨g,k*3+1,none⟩=some (.int .i64 z.last)):=fun u hu=>by
  obtain ⟨b,off,ha,hc⟩:=hu.own.txs.reads (by intro e1;rw [e1] at hk;simp at hk);rw [hga] at ha;cases ha;have:=hc k hk;rw [hz.out,qeK] at this;exact ⟨this.1,this.2.1⟩
 have ND:qa W W.drew:=(qab _ _).drew;have c0:=HC.out _ (a1.below ND);go_enter func85,ntmps85;go_upto_region 1 with fail;rw [hW.out];have EY:w.heap.size≠R:=by have:=h.box.lt;omega
 have hBb:w.heap.size∉e.blocks:=fun hm=>by have:=h.lt _ hm;omega
 have hgb:g∈e.blocks:=qb.zL (by rw [hga];simp [rowOf,Value.ownBlock]);have hgB:g≠w.heap.size:=fun q=>hBb (q▸hgb)
 have D0:qa w W.drew:=qf hbW ND;have hB:=b0.below ND b0.lt;have aD:=a1.below ND;refine qaZ (S:=fun u=>u.cell? ⟨g,k*3,none⟩=some (.int .i64 z.tx)∧u.cell? ⟨g,k*3+1,none⟩=some (.int .i64 z.last)) (by kernel_rfl) c0 (fun qc=>?_);generalize W.drew=d0 at*
 obtain ⟨W1,hW1,b1,hw1,hs1⟩:=jZ hB 1 (.int .i64 z.tx);obtain ⟨W2,hW2,b2,hw2,hs2⟩:=jZ b1 2 (.int .i64 z.last);have aW1:=aD.touch hw1.QG (by simp;exact fun q=>EY q.symm) (fun j hj hm=>hBb (by rw [← qac.1 hm];exact hj));have aW2:=aW1.touch hw2.QG (by simp;exact fun q=>EY q.symm) (fun j hj hm=>hBb (by rw [← qac.1 hm];exact hj));have x1:=hB.cell 1 _ rfl;have f1:=hB.frozen 1;have x2:=b1.cell 2 _ rfl;have f2:=b1.frozen 2;have S1:=HC.out _ aW1;have S2:=HC.out _ aW2
 iterate 9 refine jv ?_
 refine jc 9 (fun K hK=>?_);go_simp;rw [hW1.out];refine qX hK S1 fun qc=>?_
 clear hK K ;try simp only [zz]
 refine jg 10 ?_;refine jc 11 (fun K hK=>?_);go_simp;rw [hW2.out];refine qX hK S2 fun qc=>?_
 clear hK K ;try simp only [zz]
 refine qau (by kernel_rfl) ?_ _;clear qc x1 f1 x2 f2 S1 S2 hW1 hW2;obtain ⟨q,hq⟩:=qV (rc.told z.tx z.last);have bR:Box W2 w.heap.size q.cells 124:=by rw [← hq.out];exact b2
 have D2:qa w W2:=(D0.trans (hw1.below qg (by have:=D0.size;omega))).trans (hw2.below qg (by have:=D0.size;omega));have ND2:qa W2 W2.drew:=(qab _ _).drew;have aE:=aW2.below ND2;have bE:=bR.below ND2 bR.lt;have DE:qa w W2.drew:=qf D2 ND2;have rE:q.reads W2.drew:=by rw [← hq.out];have t:=hrr.below DE;exact ⟨t.bf,t.af,t.txs⟩
 have CA:=Rs M n R e q W2.drew aE (hg.keep DE) hl rE (by rw [← hq.out];exact ⟨hrs.bf,hrs.af,hrs.txs⟩) (by rw [← hq.out];exact hrc) (by rw [← hq.out,← hz.out];exact hok);have HI:Hid (_=_):=EX q;have wK:Hid (∀ u,Box u w.heap.size q.cells 124→u.rangeAt w.heap.size 0 q.cells):=fun u bu=>Box.range [] _ [] (by simpa using bu)
 clear aW1 aW2 aD hB b1 b2 bR rE;go_upto_region 2 with fail;refine qaZ (S:=fun u=>u.rangeAt w.heap.size 0 q.cells) (by kernel_rfl) (wK.out _ bE) (fun qc=>?_);generalize W2.drew=d2 at*
 iterate 5 refine jv ?_
 refine xB 5 (q.cells) (fun _ h=>h) underlying124 HI.out ?_;refine jc 6 (fun K hK=>?_);go_simp;refine CA.mono ?_;clear CA;rintro r d3 ⟨rfl,l,hv1,s1⟩;have b3:=s1.boxes bE ⟨EY,hBb⟩;have hk3:k<(e.jP l).txs.length:=hk;obtain ⟨g3,W4,hg3,qlA,qoK,wL,hf4,⟨v4,hc4⟩,s4,hs4⟩:=s1.at'.qa5 k hk3 ((e.log.recs.length:Int)+1);have hg4:g3=g:=by
  have e1:(e.jP l).aT=e.aT:=rfl;rw [e1,hga] at hg3;cases hg3;rfl
 subst hg4;have ff:=hf4 (k*3+1);have b4:=b3.touch s4.touch (fun hm=>by
  rcases qcv.1 hm with q | q
  ·exact EY q
  ·exact (s1.off (by have:=DE.size;have:=bE.lt;omega) ⟨EY,hBb⟩).2 q)
 have y4:W4.cell? ⟨g3,k*3+1,none⟩=some (.int .i64 ((e.log.recs.length:Int)+1)):=by
  obtain ⟨b,off,ha,hc⟩:=s4.at'.own.txs.reads (by
   intro e1;have:=qcz List.length e1;simp only [qb.wG,qcP,qdo] at this;omega)
  have ha':(e.jP l).aT=some ⟨b,off,none⟩:=ha;rw [hg3] at ha';cases ha';have:=(hc k (by show k<(List.set _ _ _).length;rw [qcP];exact hk3)).2.1;rw [qeK] at this;rw [this];simp only [qb.wG];rw [List.getD,qfi hk3];rfl
 have HE:Hid (∃ e',Hid (e'.v={ NK e.v (rc.told (e.txs.getD k qz).tx (e.txs.getD k qz).last).v with txs:=e.txs.set k { (e.txs.getD k qz) with last:=(e.log.recs.length:Int)+1 } })∧e'.aT=e.aT∧ky M n R e w e' W4):=by
  refine ⟨_,?_,?_,ji.after DE (s1.trans s4)⟩;rotate_left
  ·rfl
  have e1:((e.jP l).wG ((e.jP l).txs.set k { ((e.jP l).txs.getD k qz) with last:=(e.log.recs.length:Int)+1 }) (e.jP l).aT (e.jP l).cT).v={ (e.jP l).v with txs:=e.txs.set k { (e.txs.getD k qz) with last:=(e.log.recs.length:Int)+1 } }:=rfl;rw [Hid,e1,hv1.out,← hq.out,hz.out]
 clear s4 hs4 hf4;refine qX hK (wK.out _ b3) fun qc=>?_
 clear hK K ;try simp only [zz]
 iterate 2 refine jv ?_
 refine jc 9 (fun K hK=>?_);go_simp;rw [wL.out];refine qX hK (wK.out _ b4) fun qc=>?_
 clear hK K ;try simp only [zz]
 refine qau (by kernel_rfl) ?_ _;clear qc;go_wp2;go_ret;have q:=HE.out;have qd:e.txs.getD k qz=e.txs[k]:=by
  rw [List.getD,qcG hk];rfl
 rw [qd] at q
 first | exact ⟨rfl,q⟩ | (rw [hga] at q;exact ⟨rfl,q⟩)
theorem il (M:Nat) (m:Int) (R:Nat) (e:qb) (j:Nat) (w:World) (h:yR M m w R e) (hj:j<e.log.recs.length) (hl:e.log.recs.length≤1000000):
  Calls prog 88 #[.pointer (some ⟨R,0,none⟩),.int .i64 ((j:Int)+1)] w fun r w'=>r=.returned (.agg (e.log.recs.getD j qE).cells.toArray)∧qa w w':=by
 obtain ⟨W,hW,bR,hbW,qD⟩:=qB w qE.cells 124;have hW':Hid (w.alloc (.cells #[.int .i64 0,.int .i64 0,.int .i64 0,.int .i64 0,.int .i64 0,.bool false,.int .i64 0,.slice none 0 0,.slice none 0 0,.bool false,.int .i64 0,.slice none 0 0,.slice none 0 0,.int .i64 0,.slice none 0 0] 124)=W):=hW.out;have a1:=h.below hbW;obtain ⟨b,off,ha,hc⟩:=a1.own.log.reads (by intro e1;rw [e1] at hj;simp at hj);obtain ⟨x,hx⟩:=qV (e.log.recs.getD j qE);have hc1:=(hc j hj).1;rw [hx.out] at hc1 ⊢;have c0:W.cell? ⟨R,138,none⟩=some (.slice (some ⟨b,off,none⟩) e.log.recs.length e.log.c):=by rw [← ha];exact a1.Y7 2 _ rfl
 obtain ⟨WF,qK,hwF,q8,jI,xA,bF⟩:=K4 x qE.cells rfl bR;have HE:Hid (qa w WF):=hbW.trans (hwF.below (by omega) (by omega));have HI:=uE x;have HO:=Jq x;have hjl:(j:Int)<(e.log.recs.length:Int):=by omega
 have hj0:(0:Int)≤(j:Int):=by omega
 have hw1:IntKind.i64.wrap ((j:Int)+1-1)=(j:Int):=by rw [IntKind.wrap_i64]<;>omega
 clear qD hW bR a1 ha hc hwF q8 bF hbW h;go_enter func88,ntmps88;go_upto_region 1 with fail;rw [hW'.out];clear hW';go_wp2_with (first | (guard_target=qp 14;refine qfZ rfl 124 (.tmp 13) rfl b (off+j*15) rfl _ _ hc1 underlying124 rfl HI ?_) | (guard_target=ja 4;refine jb 124 4 14 w.heap.size 0 x.cells.toArray jI.out (jG HI) HO ?_) | fail);rw [qK.out];exact qa3 (v:=.agg x.cells.toArray) (jQ results88 rfl xA.out) rfl ⟨rfl,HE.out⟩
end Go.Proofs.YtnfdccldabbobaaGreatDoor
