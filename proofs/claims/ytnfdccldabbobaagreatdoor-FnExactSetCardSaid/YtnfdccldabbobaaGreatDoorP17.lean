/- Texts. -/
import Derived.Test.YtnfdccldabbobaaGreatDoorP9
import Derived.Test.YtnfdccldabbobaaGreatDoorP8
import Derived.Test.YtnfdccldabbobaaGreatDoorP6
set_option maxHeartbeats 8000000
set_option maxRecDepth 100000
namespace Go.Proofs.YtnfdccldabbobaaGreatDoor
open Go.RowKit Go.Proofs.Tryz
def MQ (bs:List Bool):List Value:=bs.map Value.bool++List.replicate (4-bs.length) (.bool false)
theorem qd7 (bs:List Bool) (b:Bool) (h:bs.length<4):(MQ bs).set bs.length (.bool b)=MQ (bs++[b]):=by
 unfold MQ;rw [qdh _ _ (by simp)];have e:4-bs.length=(4-(bs++[b]).length)+1:=by simp;omega
 rw [e,qfl];simp
theorem qd8 (bs:List Bool) (h:bs.length≤4):(MQ bs).length=4:=by simp [MQ];omega
theorem qbX (bs:List Bool) (h:bs.length≤4) (k:Nat) (hk:k<4):∃ v,(MQ bs)[k]? =some v:=⟨_,qcG (by rw [qd8 bs h];exact hk)⟩
def qd9 (bs:List Bool) (e:Ending):Prop:=∃ c0 c1 c2 c3:Bool,e=.returned (.agg #[.bool c0,.bool c1,.bool c2,.bool c3])∧bs=[c0,c1,c2,c3]
theorem Ou (ss:List qj) (q:qO→Bool) (k:Nat) (h:k<ss.length):(ss.take (k+1)).map (fun s=>q s.v)=(ss.take k).map (fun s=>q s.v)++[q (ss.getD k qw).v]:=by
 rw [qf9,qdd];simp [List.getD,h]
theorem CW {P:Prop} (h:P:=by
 obtain ⟨c0,c1,c2,c3,rfl⟩:∃ c0 c1 c2 c3,bs=[c0,c1,c2,c3]:=by
  match bs,hbs.out.1 with
  | [c0,c1,c2,c3],_=>exact ⟨c0,c1,c2,c3,rfl⟩
 have hbx:Box wr (w.heap.size+1+1) [.bool c0,.bool c1,.bool c2,.bool c3] 218:=uh;obtain ⟨x0,x1,x2,x3,_⟩:=hbx.four;obtain ⟨y0,y1,y2,y3,f0,f1,f2,f3⟩:=UK.four;obtain ⟨WF,qK,bF,hwF,q8⟩:=Y5 UK (.bool c0) (.bool c1) (.bool c2) (.bool c3);have zN:qa w WF:=(hbW.trans (hbl.mono (by omega))).trans (hwF.below (by omega) (by omega));clear uh hbs;go_wp2;rw [qK.out];obtain ⟨q0,q1,q2,q3,_⟩:=bF.four;exact qa3 (v:=.agg #[.bool c0,.bool c1,.bool c2,.bool c3]) (by simp [results,results173,go_sem,q0,q1,q2,q3]) rfl ⟨⟨c0,c1,c2,c3,rfl,HQ.out.symm⟩,zN⟩):P:=h
theorem CX (p:qA) (h4:p.ss.length=4) (w:World) (hg:jR w) (hr:jS w p.ss) (hl:Fit p.ss):
  Calls prog 173 #[.agg p.cells.toArray,.func (.func 36) #[] #[]] w fun e w'=>qd9 (p.ss.map (fun s=>qL s.v)) e∧qa w w':=by
 obtain ⟨n,ss⟩:=p;simp only [qA.cells] at*
 obtain ⟨W,hW,b0,b1,b2,hbW,qD⟩:=yK w (.int .i64 n::cellsS ss) [.bool false,.bool false,.bool false,.bool false] [.bool false,.bool false,.bool false,.bool false] 48 218 218;have b2':Box W (w.heap.size+1+1) (MQ []) 218:=b2;have sP:w.heap.size+1+1<W.heap.size:=by omega
 have hrg0:W.rangeAt w.heap.size 1 (cellsS ss):=Box.range [.int .i64 n] (cellsS ss) [] (by simpa using b0);have hi0:(prog.info? 46).map (·.size)=some (cellsS ss).length:=by rw [jW,h4];kernel_rfl
 have HX:=Jp ss h4;have H4:Hid (ss.length=4):=h4;clear b2 qD h4;go_enter func173,ntmps173;go_wp2_with (first | (guard_target=qp 9;refine qH 46 8 w.heap.size 1 (cellsS ss) (by rw [hW.out];exact hrg0) underlying46 hi0 ?_) | fail);rw [hW.out];clear hW hrg0 hi0;go_loopw [10] (fun i wr=>∃ (k:Nat) (bs:List Bool),i=.int .i64 k∧k≤4∧Hid (bs.length=k∧bs=(ss.take k).map (fun s=>qL s.v))∧Box wr (w.heap.size+1+1) (MQ bs) 218∧Below (w.heap.size+1+1) W wr)
  (fun i _=>4-(intOf i).toNat)
 case atStart=>exact ⟨0,[],rfl,by omega,⟨rfl,rfl⟩,b2',qab _ _⟩
 case round=>
  obtain ⟨k,bs,rfl,hk,hbs,uh,hbl⟩:=hrel;clear b2';have UK:=b1.below hbl (by omega);have QF:=hbl.size;by_cases hlt:k<4
  ·have hkl:k<ss.length:=by rw [H4.out];exact hlt
   have hx:=HX k hlt;clear HX;have ql5:bs.length≤4:=by have:=hbs.out.1;omega
   have HV:Hid (_=_):=Ou ss (fun s=>qL s) k hkl;have hgr:=hg.keep (hbW.trans (hbl.mono (by omega)));have Vb:=(hr _ (xh hkl)).below (hbW.trans (hbl.mono (by omega)));have hlk:Fit [ss.getD k qw]:=fun s hs=>by obtain rfl:=qac.1 hs;exact hl _ (xh hkl)
   generalize ss.getD k qw=s at*
   simp only [qj.cells] at hx;obtain ⟨W1,hW1,bx,WL,ql6⟩:=qB wr [.bool s.v.has,.int .i64 s.v.o.kind,.slice s.aI s.v.o.ints.length s.cI,.slice s.aR s.v.o.refs.length s.cR] 45;have hsz:=uh.lt;have B1:Below (w.heap.size+1+1) W W1:=hbl.trans (WL.mono (by omega));go_wp2_with fail;rw [hW1.out];clear hx;refine (Jr s W1 (hgr.keep WL) (Vb.below WL) hlk).mono ?_;rintro e w2 ⟨rfl,hb2⟩;have hs2:=hb2.size;have bm2:=(uh.below WL hsz).below hb2 (by omega);obtain ⟨u,hu⟩:=qbX bs ql5 k hlt;have hc:=bm2.cell k u hu;have hf:=bm2.frozen k;obtain ⟨W3,hW3,b3,hw3,hs3⟩:=jZ bm2 k (.bool (qL s.v));have b3':Box W3 (w.heap.size+1+1) (MQ (bs++[qL s.v])) 218:=by
    have e:=qd7 bs (qL s.v) (by have:=hbs.out.1;omega);rw [hbs.out.1] at e;rw [← e];exact b3
   have HB:Hid ((bs++[qL s.v]).length=k+1∧bs++[qL s.v]=(ss.take (k+1)).map (fun s=>qL s.v)):=⟨by have:=hbs.out.1;simp;omega,by rw [HV.out,← hbs.out.2]⟩;have B3:Below (w.heap.size+1+1) W W3:=(B1.trans (hb2.mono (by omega))).trans (hw3.below qg (by omega));clear b3 bm2 hu HV;go_wp2_with fail;rw [hW3.out];go_roundw
   case rel=>exact ⟨k+1,bs++[qL s.v],by go_num,by omega,HB,b3',B3⟩
   case measure=>simp [intOf];omega
  ·obtain rfl:k=4:=by omega
   have hkk:¬ ((4:Nat):Int)<4:=by omega
   have HQ:Hid (bs=ss.map (fun s=>qL s.v)):=by rw [Hid,hbs.out.2,qdD (by rw [H4.out];omega)]
   exact CW
theorem qea {n:Int} {vs:List qO} (h:inB n 0 1000000=false):xZ n vs=false:=by simp [xZ,h]
theorem qbY {n:Int} {ss:List qj} {c0 c1 c2 c3:Bool} (h:inB n 0 1000000=true) (hb:ss.map (fun s=>qL s.v)=[c0,c1,c2,c3]):xZ n (ss.map (·.v))=(c0 && (c1 && (c2 && c3))):=by
 have e:(ss.map (·.v)).map qL=[c0,c1,c2,c3]:=by rw [List.map_map];exact hb
 have e2:∀ vs:List qO,vs.all qL=(vs.map qL).all id:=fun vs=>by induction vs with
  | nil=>rfl
  | cons v r ih=>rw [List.all_cons,qdG,List.all_cons,← ih];rfl
 rw [xZ,h,Bool.and_true,e2,e];simp
theorem qeb (c0 c1 c2 c3:Bool) (w:World):(Op.equalIn 10000 218 (.agg #[.bool c0,.bool c1,.bool c2,.bool c3]) (.agg #[.bool true,.bool true,.bool true,.bool true])).run prog w=.ok (c0 && (c1 && (c2 && c3))) w:=by
 cases c0<;>cases c1<;>cases c2<;>cases c3<;>kernel_rfl
theorem DJ {P:Prop} (h:P:=by
 go_enter func151,ntmps151;go_wp2_with fail;rw [hW.out]
 go_quiet (fail)
 go_wp2;go_ret;exact ⟨qm HF.out.symm,qfI hbW _⟩):P:=h
theorem vo (p:qA) (h4:p.ss.length=4) (w:World) (hg:jR w) (hr:jS w p.ss) (hl:Fit p.ss):
  Calls prog 151 #[.agg p.cells.toArray] w fun e w'=>e=.returned (.bool (xZ p.lsn (p.ss.map (·.v))))∧qa w w':=by
 obtain ⟨W,hW,b0,b1,hbW,qD⟩:=jK w p.cells [.bool true,.bool true,.bool true,.bool true] 48 218;have hc0:∀ w',qa W w'→w'.cell? ⟨w.heap.size,0,none⟩=some (.int .i64 p.lsn):=fun w' hh=>(b0.below hh b0.lt).cell 0 _ rfl
 have hw0:=hc0 W (qab _ _);cases hin:inB p.lsn 0 1000000 with
 | false=>
  have HF:Hid (xZ p.lsn (p.ss.map (·.v))=false):=qea hin;have hz:=XI hin;clear hin hc0;generalize xZ p.lsn (p.ss.map (·.v))=R at*
  generalize p.lsn=n at*
  rcases hz with h1 | ⟨h1,h2⟩
  ·have h1':decide ((0:Int)≤n)=false:=qa0 (by omega);clear h1;exact DJ
  ·have h1':decide ((0:Int)≤n)=true:=qaC (by omega);have h2':decide (n≤1000000)=false:=qa0 (by omega);clear h1 h2;exact DJ
 | true=>
  obtain ⟨h1,h2⟩:=YO hin;have h1':(0:Int)≤p.lsn:=by omega
  have h2':p.lsn≤1000000:=by omega
  have BK:Hid (_=_):=hin;have jY:Hid (∀ w',qa W w'→w'.rangeAt w.heap.size 0 p.cells):=fun w' hh=>Box.range [] p.cells [] (by simpa using b0.below hh b0.lt)
  have HRA:Hid (∀ w',qa W w'→w'.rangeAt (w.heap.size+1) 0 [.bool true,.bool true,.bool true,.bool true]):=fun w' hh=>Box.range [] [.bool true,.bool true,.bool true,.bool true] [] (by simpa using b1.below hh b1.lt)
  have HI:Hid ((prog.info? 48).map (·.size)=some p.cells.length):=by rw [Hid,jJ p h4];kernel_rfl
  clear hin h1 h2;go_enter func151,ntmps151;go_wp2_with fail;rw [hW.out];refine qaZ (S:=fun w'=>w'.cell? ⟨w.heap.size,0,none⟩=some (.int .i64 p.lsn)∧w'.rangeAt w.heap.size 0 p.cells∧w'.rangeAt (w.heap.size+1) 0 [.bool true,.bool true,.bool true,.bool true]) (by kernel_rfl) ?_ (fun qc=>?_)
  ·exact ⟨hc0 _ (qab _ _).drew,jY.out _ (qab _ _).drew,HRA.out _ (qab _ _).drew⟩
  have hd1:decide ((0:Int)≤p.lsn)=true:=qaC h1';have hd2:decide (p.lsn≤1000000)=true:=qaC h2';refine tk 0 (v:=.pointer (some ⟨w.heap.size,0,none⟩)) rfl (Or.inl ⟨by rfl,fun w' hw'=>?_⟩) qc ?_
  ·go_simp
  go_simp;refine tk 1 (v:=.int .i64 p.lsn) rfl (Or.inl ⟨by rfl,fun w' hw'=>?_⟩) qc ?_
  ·have q:=hw'.1;go_simp
  go_simp;refine tk 2 (v:=.bool true) rfl (Or.inl ⟨by rfl,fun w' hw'=>?_⟩) qc ?_
  ·go_simp
  go_simp;refine tk 3 (v:=.bool true) rfl (Or.inl ⟨by rfl,fun w' hw'=>?_⟩) qc ?_
  ·go_simp
  go_simp;refine tk 4 (v:=.pointer (some ⟨w.heap.size,0,none⟩)) rfl (Or.inl ⟨by rfl,fun w' hw'=>?_⟩) qc ?_
  ·go_simp
  go_simp;refine tk 5 (v:=.int .i64 p.lsn) rfl (Or.inl ⟨by rfl,fun w' hw'=>?_⟩) qc ?_
  ·have q:=hw'.1;go_simp
  go_simp;refine tk 6 (v:=.bool true) rfl (Or.inl ⟨by rfl,fun w' hw'=>?_⟩) qc ?_
  ·go_simp
  go_simp;refine tk 7 (v:=.bool true) rfl (Or.inl ⟨by rfl,fun w' hw'=>?_⟩) qc ?_
  ·go_simp
  go_simp;refine tk 8 (v:=.bool true) rfl (Or.inl ⟨by rfl,fun w' hw'=>?_⟩) qc ?_
  ·go_simp
  go_simp;refine xB 9 p.cells (fun _ h=>h.2.1) underlying48 HI.out ?_;refine xB 11 [.bool true,.bool true,.bool true,.bool true] (fun _ h=>h.2.2) underlying218 ((by kernel_rfl)) ?_;refine jc 10 (fun K hK=>?_);go_simp;refine (CX p h4 _ (hg.keep hbW.drew) (hr.below hbW.drew) hl).mono ?_;rintro e w2 ⟨⟨c0,c1,c2,c3,rfl,hcs⟩,hb2⟩;have B2:qa W w2:=((qab _ _).drew).trans hb2;have HR:Hid (_=_):=qbY BK.out hcs;clear hcs;refine hK.out _ _ ⟨hc0 _ B2,jY.out _ B2,HRA.out _ B2⟩ (fun qc=>?_);clear hK K;refine tk 12 (v:=.bool (c0 && (c1 && (c2 && c3)))) rfl (Or.inl ⟨by rfl,fun w' hw'=>?_⟩) qc ?_
  ·have q:=qeb c0 c1 c2 c3 w';go_simp
  go_simp;generalize (c0 && (c1 && (c2 && c3)))=D at*
  refine tk 13 (v:=.bool D) rfl (Or.inl ⟨by rfl,fun w' hw'=>?_⟩) qc ?_
  ·go_simp
  go_simp;refine tk 14 (v:=.bool D) rfl (Or.inl ⟨by rfl,fun w' hw'=>?_⟩) qc ?_
  ·go_simp
  go_simp;refine qau (by kernel_rfl) ?_ _;go_wp2;go_ret;exact ⟨qm HR.out.symm,qf hbW B2⟩
theorem zU (p:qA) (h4:p.ss.length=4) (w:World) (hr:jS w p.ss) (hl:Fit p.ss):
  Calls prog 80 #[.agg p.cells.toArray] w fun e w'=>∃ ts:List qj,e=.returned (.agg (qA.cells ⟨p.lsn,ts⟩).toArray)∧Hid (ts.map (·.v)=p.ss.map (·.v))∧qP w' w.heap.size w'.heap.size ts∧qa w w':=by
 obtain ⟨n,ss⟩:=p;simp only [qA.cells] at*
 obtain ⟨W,hW,b0,b1,b2,hbW,qD⟩:=yK w (.int .i64 n::cellsS ss) [.int .i64 0,.bool false,.int .i64 0,.slice none 0 0,.slice none 0 0,.bool false,.int .i64 0,.slice none 0 0,.slice none 0 0,.bool false,.int .i64 0,.slice none 0 0,.slice none 0 0,.bool false,.int .i64 0,.slice none 0 0,.slice none 0 0] [.int .i64 n,.bool false,.int .i64 0,.slice none 0 0,.slice none 0 0,.bool false,.int .i64 0,.slice none 0 0,.slice none 0 0,.bool false,.int .i64 0,.slice none 0 0,.slice none 0 0,.bool false,.int .i64 0,.slice none 0 0,.slice none 0 0] 48 48 48;have b1':Box W (w.heap.size+1) ([]++((.int .i64 0::cellsS Kh)++[])) 48:=b1;have b2':Box W (w.heap.size+1+1) (.int .i64 n::cellsS ([]++List.replicate (4-0) qw)) 48:=b2;have sP:w.heap.size+1+1<W.heap.size:=by omega
 have hc0:(((w.alloc (.cells (.int .i64 n::cellsS ss).toArray 48)).alloc (.cells #[.int .i64 0,.bool false,.int .i64 0,.slice none 0 0,.slice none 0 0,.bool false,.int .i64 0,.slice none 0 0,.slice none 0 0,.bool false,.int .i64 0,.slice none 0 0,.slice none 0 0,.bool false,.int .i64 0,.slice none 0 0,.slice none 0 0] 48))).cell? ⟨w.heap.size,0,none⟩=some (.int .i64 n):=((wF w (.int .i64 n::cellsS ss) 48).alloc _).cell 0 _ rfl;have hrg0:W.rangeAt w.heap.size 1 (cellsS ss):=Box.range [.int .i64 n] (cellsS ss) [] (by simpa using b0);have hi0:(prog.info? 46).map (·.size)=some (cellsS ss).length:=by rw [jW,h4];kernel_rfl
 have HX:=Jp ss h4;have H4:Hid (ss.length=4):=h4;clear b1 b2 qD h4;go_enter func80,ntmps80;go_wp2_with (first | (guard_target=qp 10;refine qH 46 9 w.heap.size 1 (cellsS ss) (by rw [hW.out];exact hrg0) underlying46 hi0 ?_) | fail);rw [hW.out];clear hW hrg0 hi0 hc0;go_loopw [11] (fun i wr=>∃ (k:Nat) (ts:List qj),i=.int .i64 k∧k≤4∧Hid (ts.length=k∧ts.map (·.v)=(ss.take k).map (·.v))∧qP wr W.heap.size wr.heap.size ts∧Box wr (w.heap.size+1+1) (.int .i64 n::cellsS (ts++List.replicate (4-k) qw)) 48∧Below (w.heap.size+1+1) W wr)
  (fun i _=>4-(intOf i).toNat)
 case atStart=>exact ⟨0,[],rfl,by omega,⟨rfl,rfl⟩,qP.nil _ _ _,b2',qab _ _⟩
 case round=>
  obtain ⟨k,ts,rfl,hk,hts,hown,uh,hbl⟩:=hrel;clear b2';have UK:=b1'.below hbl (by omega);have QF:=hbl.size;have hsz:=uh.lt;by_cases hlt:k<4
  ·have hkl:k<ss.length:=by rw [H4.out];exact hlt
   have hx:=HX k hlt;clear HX;have Vb:=(hr _ (xh hkl)).below (hbW.trans (hbl.mono (by omega)));have hlk:=hl _ (xh hkl);have HV:Hid ((ss.take (k+1)).map (·.v)=(ss.take k).map (·.v)++[(ss.getD k qw).v]):=by
    rw [Hid,qf9,qdd];simp [List.getD,hkl]
   generalize ss.getD k qw=s at*
   simp only [qj.cells] at hx;obtain ⟨W1,hW1,bx,WL,ql6⟩:=qB wr [.bool s.v.has,.int .i64 s.v.o.kind,.slice s.aI s.v.o.ints.length s.cI,.slice s.aR s.v.o.refs.length s.cR] 45;have C:=Jf s W1 (jd.below Vb WL) hlk.1 hlk.2;simp only [qj.cells] at C;go_wp2_with fail;rw [hW1.out];refine C.mono ?_;clear C hx Vb hlk;rintro e w1 ⟨t,rfl,hv,ho,hb1⟩;have hs1:=hb1.size;have N1:qa wr w1:=WL.trans (hb1.mono (by omega));have hbx:=uh.below N1 hsz;have hkt:k<(ts++List.replicate (4-k) qw).length:=by have:=hts.out.1;simp;omega
   obtain ⟨W2,hW2,b2,hw2,hs2⟩:=VG hbx k hkt t;obtain ⟨x0,x1,x2,x3,hfz⟩:=hbx.GG k hkt;have f0:=hfz (1+k*4);have f1:=hfz (1+k*4+1);have f2:=hfz (1+k*4+2);have f3:=hfz (1+k*4+3);generalize (ts++List.replicate (4-k) qw).getD k qw=old at*
   have b2':Box W2 (w.heap.size+1+1) (.int .i64 n::cellsS ((ts++[t])++List.replicate (4-(k+1)) qw)) 48:=by
    rw [show 4-k=(4-(k+1))+1 by omega] at b2;have e:=dF ts (4-(k+1)) t;rw [hts.out.1] at e;rw [e] at b2;exact b2
   have hown1:qP w1 W.heap.size W1.heap.size ts:=(hown.below N1).widen qg (by omega) (by omega);have Yv:qP w1 W.heap.size w1.heap.size (ts++[t]):=hown1.snoc ho (by omega) hs1 qg;have hO2:qP W2 W.heap.size W2.heap.size (ts++[t]):=(Yv.within hw2 (.inr (by omega))).widen qg (by omega) qg;have hB2:Below (w.heap.size+1+1) W W2:=(hbl.trans (N1.mono (by omega))).trans (hw2.below qg (by omega));have HT:Hid ((ts++[t]).length=k+1∧(ts++[t]).map (·.v)=(ss.take (k+1)).map (·.v)):=by
    refine ⟨by have:=hts.out.1;simp;omega,?_⟩;rw [HV.out,qdd,hts.out.2,← hv.out];rfl
   have hi0:(0:Int)≤(k:Int):=by omega
   have hi4:(k:Int)<4:=by omega
   clear hfz hs2 hw2 b2 Yv hown hown1 uh hbx hts HV hkt hb1 ho N1 WL;go_wp2_with fail;rw [hW2.out];go_roundw
   case rel=>exact ⟨k+1,ts++[t],by go_num,by omega,HT,hO2,b2',hB2⟩
   case measure=>simp [intOf];omega
  ·obtain rfl:k=4:=by omega
   have hkk:¬ ((4:Nat):Int)<4:=by omega
   have Yw:ts++List.replicate (4-4) qw=ts:=by simp
   rw [Yw] at uh;have htl:ts.length=4:=hts.out.1;have Tu:Hid (ts.map (·.v)=ss.map (·.v)):=by rw [Hid,hts.out.2,qdD (by rw [H4.out];omega)]
   obtain ⟨WF,qK,bF,hwF,q8⟩:=jE [] (.int .i64 0::cellsS Kh) (.int .i64 n::cellsS ts) [] UK (by simp only [qcS,jW,htl];rfl);have Qw:Hid (wr.setCells (w.heap.size+1) 0 (.int .i64 n::cellsS ts)=WF):=qK.out;have HR2:Hid (wr.rangeAt (w.heap.size+1+1) 0 (.int .i64 n::cellsS ts)):=qN uh;have jI:Hid (wr.there (w.heap.size+1) 0 (.int .i64 n::cellsS ts).toArray.size):=UK.there 0 _ (by simp only [qcY,jW,htl,qai,qcS,qdo];decide);have Vd:WF.rangeAt (w.heap.size+1) 0 (.int .i64 n::cellsS ts):=qN bF;have HI:Hid ((prog.info? 48).map (·.size)=some (.int .i64 n::cellsS ts).length):=by rw [Hid,qcS,jW,htl];kernel_rfl
   have HO:Hid (_):=qaf (uM ⟨n,ts⟩);have xA:Hid (_):=qeI (P:=prog) _ (w.heap.size+1) 0 48 (.int .i64 n::cellsS ts) _ Vd underlying48 rfl HI.out;have Y6:Hid (qP WF w.heap.size WF.heap.size ts):=(hown.within hwF (.inr (by omega))).widen (by omega) (by omega) qg;have KT:Hid (qa w WF):=(hbW.trans (hbl.mono (by omega))).trans (hwF.below (by omega) (by omega));simp only [qA.cells] at HO;clear qK bF hwF q8 Vd Yw htl uh hown HX hts;go_wp2_with (first | (guard_target=qp 21;refine qH 48 3 (w.heap.size+1+1) 0 (.int .i64 n::cellsS ts) HR2.out underlying48 HI.out ?_) | (guard_target=ja 2;refine jb 48 2 21 (w.heap.size+1) 0 (.int .i64 n::cellsS ts).toArray jI.out (jG HI.out) HO.out ?_) | fail);rw [Qw.out];exact qa3 (v:=.agg (.int .i64 n::cellsS ts).toArray) (jQ results80 rfl xA.out) rfl ⟨ts,rfl,Tu,Y6.out,KT.out⟩
end Go.Proofs.YtnfdccldabbobaaGreatDoor
