/- Texts. -/
import Derived.Test.YtnfdccldabbobaaGreatDoorP1
set_option maxHeartbeats 8000000
set_option maxRecDepth 100000
namespace Go.Proofs.YtnfdccldabbobaaGreatDoor
open Go.RowKit Go.Proofs.Tryz
def sI (zs:List Int):yo × Bool:=
 (⟨(yL zs (0,false)).1,(Wm zs 5 (yL zs (0,false)).2).1,(Wm zs 5 (Wm zs 5 (yL zs (0,false)).2).2).1⟩,(Wm zs 5 (Wm zs 5 (yL zs (0,false)).2).2).2.2)
def qlJ (b:List Int):Option yo:=if (sI b).2=false∧okB (sI b).1=true∧qbn (sI b).1=b then some (sI b).1 else none
def nC:yo:=⟨0,[],[]⟩
def ag (b:List Int):yo × Bool:=match qlJ b with
 | some o=>(o,true)
 | none=>(nC,false)
def Fit (ss:List qj):Prop:=∀ s∈ss,s.v.o.ints.length≤1099511627776∧s.v.o.refs.length≤1099511627776
def XZ:qO:=⟨false,nC⟩
def qL (s:qO):Bool:=if s.has then okB s.o else (decide (s.o.kind=0) && (decide (s.o.ints.length=0) && decide (s.o.refs.length=0)))
def xZ (n:Int) (vs:List qO):Bool:=vs.all qL && inB n 0 1000000
theorem Dl {s:qO} (h:s.has=true):qL s=okB s.o:=by unfold qL;rw [qan h]
def GV (zs:List Int) (s:Int × Bool):qO × (Int × Bool):=
 if (yL zs s).2.2=true∨(yL zs s).1=0 then (XZ,(yL zs s).2) else
 if (yL zs s).1<0∨(zs.length:Int)-(yL zs s).2.1<(yL zs s).1 then (XZ,((yL zs s).2.1,true)) else
 (⟨true,(ag ((zs.drop (yL zs s).2.1.toNat).take (yL zs s).1.toNat)).1⟩,((yL zs s).2.1+(yL zs s).1,!(ag ((zs.drop (yL zs s).2.1.toNat).take (yL zs s).1.toNat)).2))
theorem Xk (s t:qj) (he:t.v=s.v) (w:World) (hs:s.reads w) (ht:t.reads w) (KR:s.v.o.ints.length≤1099511627776) (J8:s.v.o.refs.length≤1099511627776):
  Calls prog 11 #[.agg s.cells.toArray,.agg t.cells.toArray] w fun e w'=>e=.returned (.bool true)∧qa w w':=by
 obtain ⟨v,aI,cI,aR,cR⟩:=s;obtain ⟨v',bI,dI,bR,dR⟩:=t;simp only at he;subst he;obtain ⟨h,⟨k,ints,refs⟩⟩:=v';simp only [qj.cells,qj.reads] at*
 obtain ⟨W,hW,b0,b1,hbW,qD⟩:=jK w [.bool h,.int .i64 k,.slice aI ints.length cI,.slice aR refs.length cR] [.bool h,.int .i64 k,.slice bI ints.length dI,.slice bR refs.length dR] 45 45;go_enter func11,ntmps11;go_wp2_with fail;rw [hW.out];clear hW;refine (iV ⟨k,ints,refs⟩ aI cI aR cR bI dI bR dR W (hs.below hbW) (ht.below hbW) KR J8).mono ?_;rintro e w1 ⟨rfl,hb1⟩;go_wp2;go_ret;exact ⟨rfl,qf hbW hb1⟩
theorem qdZ {ss ts:List qj} (h:ts.map (·.v)=ss.map (·.v)) (k:Nat):(ts.getD k qw).v=(ss.getD k qw).v:=by
 have:=qcz (fun l=>l[k]?) h;simp only [qdy] at this;simp only [List.getD];cases h1:ts[k]? <;>cases h2:ss[k]? <;>simp_all
theorem fK (ss ts:List qj) (h4:ss.length=4) (he:ts.map (·.v)=ss.map (·.v)) (w:World) (hs:jS w ss) (ht:jS w ts) (hl:∀ s∈ss,s.v.o.ints.length≤1099511627776∧s.v.o.refs.length≤1099511627776):
  Calls prog 139 #[.agg (cellsS ss).toArray,.agg (cellsS ts).toArray] w fun e w'=>e=.returned (.bool true)∧qa w w':=by
 have htl:ts.length=4:=by have:=qcz List.length he;simp only [qa4] at this;omega
 obtain ⟨W,hW,b0,b1,hbW,qD⟩:=jK w (cellsS ss) (cellsS ts) 46 46;have H4:Hid (ss.length=4∧ts.length=4):=⟨h4,htl⟩;have HE:Hid _:=he;clear qD h4 htl he;go_enter func139,ntmps139;go_wp2_with fail;rw [hW.out];clear hW;go_loopw [5] (fun i wr=>∃ (k:Nat),i=.int .i64 k∧k≤4∧qa W wr)
  (fun i _=>4-(RowKit.intOf i).toNat)
 case atStart=>exact ⟨0,rfl,by omega,qab _ _⟩
 case round=>
  obtain ⟨k,rfl,hk,hbl⟩:=hrel;by_cases hlt:k<4
  ·have hkl:k<ss.length:=by rw [H4.out.1];exact hlt
   have hkt:k<ts.length:=by rw [H4.out.2];exact hlt
   have hi0:(0:Int)≤(k:Int):=by omega
   have hi4:(k:Int)<4:=by omega
   have HC:Hid (∀ w'',qa W w''→_∧_):=fun w'' hh=>⟨(b0.below hh b0.lt).slot k hkl,(b1.below hh b1.lt).slot k hkt⟩
   have hsk:=fun w'' (hh:qa W w'')=>(hs _ (xh hkl)).below (qf hbW hh)
   have htk:=fun w'' (hh:qa W w'')=>(ht _ (xh hkt)).below (qf hbW hh)
   have hlk:=hl _ (xh hkl);have hv:=qdZ HE.out k;generalize ss.getD k qw=s at*
   generalize ts.getD k qw=t at*
   have HS:Hid (∀ w1,qa W w1→(w1.cell? ⟨w.heap.size,k*4,none⟩=some (.bool s.v.has)∧w1.cell? ⟨w.heap.size,k*4+1,none⟩=some (.int .i64 s.v.o.kind)∧w1.cell? ⟨w.heap.size,k*4+2,none⟩=some (.slice s.aI s.v.o.ints.length s.cI)∧w1.cell? ⟨w.heap.size,k*4+3,none⟩=some (.slice s.aR s.v.o.refs.length s.cR))∧(w1.cell? ⟨(w.heap.size+1),k*4,none⟩=some (.bool t.v.has)∧w1.cell? ⟨(w.heap.size+1),k*4+1,none⟩=some (.int .i64 t.v.o.kind)∧w1.cell? ⟨(w.heap.size+1),k*4+2,none⟩=some (.slice t.aI t.v.o.ints.length t.cI)∧w1.cell? ⟨(w.heap.size+1),k*4+3,none⟩=some (.slice t.aR t.v.o.refs.length t.cR))):=fun w1 hh=>by
    obtain ⟨⟨c0,c1,c2,c3,_⟩,⟨d0,d1,d2,d3,_⟩⟩:=HC.out w1 hh;exact ⟨⟨c0,c1,c2,c3⟩,d0,d1,d2,d3⟩
   have HR:Hid (_∧_∧_):=⟨hsk,htk,hlk⟩;have hh:=HS.out wr hbl;have HV:Hid (t.v=s.v):=hv;clear HC hsk htk hlk hv;go_wp2_with fail
   go_region_held3 (fun w1=>(w1.cell? ⟨w.heap.size,k*4,none⟩=some (.bool s.v.has)∧w1.cell? ⟨w.heap.size,k*4+1,none⟩=some (.int .i64 s.v.o.kind)∧w1.cell? ⟨w.heap.size,k*4+2,none⟩=some (.slice s.aI s.v.o.ints.length s.cI)∧w1.cell? ⟨w.heap.size,k*4+3,none⟩=some (.slice s.aR s.v.o.refs.length s.cR))∧(w1.cell? ⟨(w.heap.size+1),k*4,none⟩=some (.bool t.v.has)∧w1.cell? ⟨(w.heap.size+1),k*4+1,none⟩=some (.int .i64 t.v.o.kind)∧w1.cell? ⟨(w.heap.size+1),k*4+2,none⟩=some (.slice t.aI t.v.o.ints.length t.cI)∧w1.cell? ⟨(w.heap.size+1),k*4+3,none⟩=some (.slice t.aR t.v.o.refs.length t.cR)))
    (first | exact HS.out _ hw2 | go_keep | fail)
    ((first | (go_at_call 11;refine (Xk s t HV.out _ (HR.out.1 _ hbl.drew) (HR.out.2.1 _ hbl.drew) HR.out.2.2.1 HR.out.2.2.2).mono ?_;rintro e w2 ⟨rfl,hb2⟩;have hw2:qa W w2:=(hbl.drew).trans (hb2.mono hbl.size)) | fail))
   all_goals
    go_wp2_with fail;go_roundw
    case rel=>exact ⟨k+1,by go_num,by omega,hw2⟩
    case measure=>simp [RowKit.intOf];omega
  ·have hkk:¬ (k:Int)<4:=by omega
   go_wp2;go_ret;exact ⟨rfl,qf hbW hbl⟩
theorem nD (n:Int) (ss ts:List qj) (h4:ss.length=4) (he:ts.map (·.v)=ss.map (·.v)) (w:World) (hs:jS w ss) (ht:jS w ts) (hl:∀ s∈ss,s.v.o.ints.length≤1099511627776∧s.v.o.refs.length≤1099511627776):
  Calls prog 90 #[.agg (qA.cells ⟨n,ss⟩).toArray,.agg (qA.cells ⟨n,ts⟩).toArray] w fun e w'=>e=.returned (.bool true)∧qa w w':=by
 have htl:ts.length=4:=by have:=qcz List.length he;simp only [qa4] at this;omega
 simp only [qA.cells];obtain ⟨W,hW,b0,b1,hbW,qD⟩:=jK w (.int .i64 n::cellsS ss) (.int .i64 n::cellsS ts) 48 48;have hrg0:W.rangeAt w.heap.size 1 (cellsS ss):=Box.range [.int .i64 n] (cellsS ss) [] (by simpa using b0);have hrg1:W.rangeAt (w.heap.size+1) 1 (cellsS ts):=Box.range [.int .i64 n] (cellsS ts) [] (by simpa using b1);have hi0:(prog.info? 46).map (·.size)=some (cellsS ss).length:=by rw [jW,h4];kernel_rfl
 have hi1:(prog.info? 46).map (·.size)=some (cellsS ts).length:=by rw [jW,htl];kernel_rfl
 have HI:Hid (_∧_):=⟨hi0,hi1⟩;have HR:Hid (_∧_):=⟨hrg0,hrg1⟩;clear hi0 hi1 hrg0 hrg1 qD htl;go_enter func90,ntmps90;go_wp2_with (first | (guard_target=qp 11;refine qH 46 10 w.heap.size 1 (cellsS ss) (by rw [hW.out];exact HR.out.1) underlying46 HI.out.1 ?_) | (guard_target=qp 13;refine qH 46 12 (w.heap.size+1) 1 (cellsS ts) (by rw [hW.out];exact HR.out.2) underlying46 HI.out.2 ?_) | fail);rw [hW.out];clear hW;refine (fK ss ts h4 he W (hs.below hbW) (ht.below hbW) hl).mono ?_;rintro e w1 ⟨rfl,hb1⟩;go_wp2;go_ret;exact ⟨rfl,qf hbW hb1⟩
structure xS where
 lsn:Int
 tx:Int
 prev:Int
 kind:Int
 oid:Int
 bf:qO
 af:qO
 next:Int
 txs:List qM
structure ql where
 lsn:Int
 tx:Int
 prev:Int
 kind:Int
 oid:Int
 bf:qj
 af:qj
 next:Int
 txs:List qM
 aL:Option Addr
 cL:Nat
def ql.v (r:ql):xS:=⟨r.lsn,r.tx,r.prev,r.kind,r.oid,r.bf.v,r.af.v,r.next,r.txs⟩
def ql.cells (r:ql):List Value:=[.int .i64 r.lsn,.int .i64 r.tx,.int .i64 r.prev,.int .i64 r.kind,.int .i64 r.oid,.bool r.bf.v.has,.int .i64 r.bf.v.o.kind,.slice r.bf.aI r.bf.v.o.ints.length r.bf.cI,.slice r.bf.aR r.bf.v.o.refs.length r.bf.cR,.bool r.af.v.has,.int .i64 r.af.v.o.kind,.slice r.af.aI r.af.v.o.ints.length r.af.cI,.slice r.af.aR r.af.v.o.refs.length r.af.cR,.int .i64 r.next,.slice r.aL r.txs.length r.cL]
structure ql.reads (w:World) (r:ql):Prop where
 bf:r.bf.reads w
 af:r.af.reads w
 txs:kQ w r.aL r.txs
theorem ql.reads.below {w w':World} {r:ql} (h:r.reads w) (hb:qa w w'):r.reads w':=⟨jd.below h.bf hb,jd.below h.af hb,h.txs.below hb⟩
def ql.blocks (r:ql):List Nat:=r.bf.blocks++(r.af.blocks++(Value.slice r.aL r.txs.length r.cL).ownBlock.toList)
structure ql.own (w:World) (lo hi:Nat) (r:ql):Prop where
 bf:r.bf.own w lo hi
 af:r.af.own w lo hi
 txs:OwnL w lo hi r.aL r.cL r.txs
 apart:r.blocks.Nodup
theorem ql.own.reads {w:World} {lo hi:Nat} {r:ql} (h:r.own w lo hi):r.reads w:=⟨OwnO.reads h.bf,OwnO.reads h.af,h.txs.reads⟩
theorem ql.own.below {w w':World} {lo hi:Nat} {r:ql} (h:r.own w lo hi) (hb:qa w w'):r.own w' lo hi:=⟨OwnO.below h.bf hb,OwnO.below h.af hb,h.txs.below hb,h.apart⟩
theorem ql.own.within {w w':World} {lo hi l u:Nat} {r:ql} (h:r.own w lo hi) (hw:Within l u w w') (hd:hi≤l∨u≤lo):r.own w' lo hi:=⟨OwnO.within h.bf hw hd,OwnO.within h.af hw hd,h.txs.within hw hd,h.apart⟩
theorem ql.own.widen {w:World} {lo hi lo' hi':Nat} {r:ql} (h:r.own w lo hi) (h1:lo'≤lo) (h2:hi≤hi') (h3:hi'≤w.heap.size):r.own w lo' hi':=⟨OwnO.widen h.bf h1 h2 h3,OwnO.widen h.af h1 h2 h3,h.txs.widen h1 h2 h3,h.apart⟩
theorem XE {w:World} {a b c d:Nat} {s t:qj} {aL:Option Addr} {cL:Nat} {ls:List qM} (hs:s.own w a b) (ht:t.own w b c) (hl:OwnL w c d aL cL ls) (hbc:b≤c):
  (s.blocks++(t.blocks++(Value.slice aL ls.length cL).ownBlock.toList)).Nodup:=by
 rw [qav,qav];refine ⟨qj.Q3 hs,⟨qj.Q3 ht,by cases (Value.slice aL ls.length cL).ownBlock<;>simp,?_⟩,?_⟩
 ·intro x hx y hy e;have h1:=(qj.qC ht x hx);have h2:=(hl.lt y (qad.1 hy));omega
 ·intro x hx y hy e;have h1:=(qj.qC hs x hx);rcases qaa.1 hy with h | h
  ·have h2:=(qj.qC ht y h);omega
  ·have h2:=(hl.lt y (qad.1 h));omega
theorem ZL (r:ql):∀ v∈r.cells,v.oneCell'=true:=by
 intro v hv;simp only [ql.cells,qcv,qdu,qfL] at hv;rcases hv with rfl | rfl | rfl | rfl | rfl | rfl | rfl | rfl | rfl | rfl | rfl | rfl | rfl | rfl | rfl<;>rfl
theorem K9 {w:World} {B:Nat} {l:List Value} {t:TypeId} (b:Box w B l t) (i0 i1 i2 i3:Nat) (v0 v1 v2 v3:Value):
  ∃ W,Hid ((((w.setCell ⟨B,i0,none⟩ v0).setCell ⟨B,i1,none⟩ v1).setCell ⟨B,i2,none⟩ v2).setCell ⟨B,i3,none⟩ v3=W)∧Box W B ((((l.set i0 v0).set i1 v1).set i2 v2).set i3 v3) t∧Within B (B+1) w W∧W.heap.size=w.heap.size:=by
 refine ⟨_,rfl,(((b.set i0 v0).set i1 v1).set i2 v2).set i3 v3,?_,?_⟩
 ·exact (((jL w B i0 v0 (by omega)).trans (jL _ B i1 v1 (by omega))).trans (jL _ B i2 v2 (by omega))).trans (jL _ B i3 v3 (by omega))
 ·simp
theorem toRec_own (r:ql) (w:World) (hr:r.reads w) (hlb:r.bf.v.o.ints.length≤1099511627776∧r.bf.v.o.refs.length≤1099511627776) (hla:r.af.v.o.ints.length≤1099511627776∧r.af.v.o.refs.length≤1099511627776) (hlt:r.txs.length≤1099511627776):
  Calls prog 119 #[.agg r.cells.toArray] w fun e w'=>∃ t:ql,e=.returned (.agg t.cells.toArray)∧Hid (t.v=r.v)∧t.own w' w.heap.size w'.heap.size∧qa w w':=by
 obtain ⟨W,hW,b0,b1,b2,hbW,qD⟩:=yK w [.int .i64 r.lsn,.int .i64 r.tx,.int .i64 r.prev,.int .i64 r.kind,.int .i64 r.oid,.bool r.bf.v.has,.int .i64 r.bf.v.o.kind,.slice r.bf.aI r.bf.v.o.ints.length r.bf.cI,.slice r.bf.aR r.bf.v.o.refs.length r.bf.cR,.bool r.af.v.has,.int .i64 r.af.v.o.kind,.slice r.af.aI r.af.v.o.ints.length r.af.cI,.slice r.af.aR r.af.v.o.refs.length r.af.cR,.int .i64 r.next,.slice r.aL r.txs.length r.cL] [.int .i64 0,.int .i64 0,.int .i64 0,.int .i64 0,.int .i64 0,.bool false,.int .i64 0,.slice none 0 0,.slice none 0 0,.bool false,.int .i64 0,.slice none 0 0,.slice none 0 0,.int .i64 0,.slice none 0 0] [.int .i64 r.lsn,.int .i64 r.tx,.int .i64 r.prev,.int .i64 r.kind,.int .i64 r.oid,.bool false,.int .i64 0,.slice none 0 0,.slice none 0 0,.bool false,.int .i64 0,.slice none 0 0,.slice none 0 0,.int .i64 0,.slice none 0 0] 163 124 124;have hs0:w.heap.size+1+1<W.heap.size:=by omega
 clear qD;have C1:=wm r.bf W (jd.below hr.bf hbW) hlb.1 hlb.2;simp only [ql.cells];simp only [qj.cells] at C1;go_enter func119,ntmps119;go_wp2_with fail;rw [hW.out];clear hW;refine C1.mono ?_;clear C1;rintro e w1 ⟨t1,rfl,hv1,ho1,hb1⟩;have b01:=b0.below hb1 b0.lt;have b11:=b1.below hb1 b1.lt;have wP:=b2.below hb1 b2.lt;have hs1:=hb1.size;clear b0 b1 b2;have x5:=wP.cell 5 _ rfl;have xf5:=wP.frozen 5;have x6:=wP.cell 6 _ rfl;have xf6:=wP.frozen 6;have x7:=wP.cell 7 _ rfl;have xf7:=wP.frozen 7;have x8:=wP.cell 8 _ rfl;have xf8:=wP.frozen 8;obtain ⟨W2,hW2,JG,hw2,hs2⟩:=K9 wP 5 6 7 8 (.bool t1.v.has) (.int .i64 t1.v.o.kind) (.slice t1.aI t1.v.o.ints.length t1.cI) (.slice t1.aR t1.v.o.refs.length t1.cR);simp only [List.set] at JG;have b02:=b01.within hw2 (by omega);have b12:=b11.within hw2 (by omega);have y9:=b01.cell 9 _ rfl;have We:=b01.cell 10 _ rfl;have Vj:=b01.cell 11 _ rfl;have Vk:=b01.cell 12 _ rfl;have hB2:qa w W2:=(hbW.trans (hb1.mono (by omega))).trans (hw2.below (by omega) (by omega));have ho2:=OwnO.within ho1 hw2 (.inr (by omega));have C2:=wm r.af W2 (jd.below hr.af hB2) hla.1 hla.2;simp only [qj.cells] at C2;clear wP b01 b11 hw2 ho1;go_wp2_with fail;rw [hW2.out];refine C2.mono ?_;clear C2 x5 x6 x7 x8 xf5 xf6 xf7 xf8 y9 We Vj Vk hW2;rintro e w3 ⟨t2,rfl,hv2,ho3,hb3⟩;have K3:=b02.below hb3 b02.lt;have b13:=b12.below hb3 b12.lt;have vS:=JG.below hb3 JG.lt;have hs3:=hb3.size;have BQ:=OwnO.below ho2 hb3;clear b02 b12 JG ho2;have x9:=vS.cell 9 _ rfl;have xf9:=vS.frozen 9;have xO:=vS.cell 10 _ rfl;have qbw:=vS.frozen 10;have yA:=vS.cell 11 _ rfl;have qbx:=vS.frozen 11;have yE:=vS.cell 12 _ rfl;have qby:=vS.frozen 12;have yQ:=vS.cell 13 _ rfl;have qlK:=vS.frozen 13;have y13:=K3.cell 13 _ rfl;have Ho:=K3.cell 14 _ rfl;obtain ⟨W4,wL,nE,hw4,hs4⟩:=K9 vS 9 10 11 12 (.bool t2.v.has) (.int .i64 t2.v.o.kind) (.slice t2.aI t2.v.o.ints.length t2.cI) (.slice t2.aR t2.v.o.refs.length t2.cR);simp only [List.set] at nE;obtain ⟨W5,zS,X8,Ya,hs5⟩:=jZ nE 13 (.int .i64 r.next);simp only [List.set] at X8;have b15:=(b13.within hw4 (by omega)).within Ya (by omega);have Ut:qa w W5:=((hB2.trans (hb3.mono (by omega))).trans (hw4.below (by omega) (by omega))).trans (Ya.below (by omega) (by omega));have BR:=OwnO.within (OwnO.within BQ hw4 (.inr (by omega))) Ya (.inr (by omega));have BS:=OwnO.within (OwnO.within ho3 hw4 (.inr (by omega))) Ya (.inr (by omega));have C3:=nk r.aL r.cL r.txs W5 (hr.txs.below Ut) hlt;clear vS K3 b13 hw4 Ya nE ho3 BQ hb3;go_wp2_with fail;rw [wL.out,zS.out];refine C3.mono ?_;clear C3 x9 xO yA yE yQ xf9 qbw qbx qby qlK y13 Ho wL zS;rintro e w6 ⟨aL,cL,rfl,ho6,hb6⟩;have b16:=b15.below hb6 b15.lt;have b26:=X8.below hb6 X8.lt;have hs6:=hb6.size;have YG:=OwnO.below BR hb6;have YH:=OwnO.below BS hb6;have vU:Hid ((t1.blocks++(t2.blocks++(Value.slice aL r.txs.length cL).ownBlock.toList)).Nodup):=XE (c:=W5.heap.size) (OwnO.widen YG qg (show _≤W2.heap.size by omega) (by omega)) (OwnO.widen YH qg (show _≤W5.heap.size by omega) (by omega)) ho6 (by omega);clear b15 X8 BR BS
 obtain ⟨W7,J9,Lp,hw7,hs7⟩:=jZ b26 14 (.slice aL r.txs.length cL);simp only [List.set] at Lp;have b17:=b16.within hw7 (by omega)
 let t:ql:=⟨r.lsn,r.tx,r.prev,r.kind,r.oid,t1,t2,r.next,r.txs,aL,cL⟩
 have qff:Box W7 (w.heap.size+1+1) ([]++(t.cells++[])) 124:=by simpa [t,ql.cells] using Lp
 have htl:t.cells.length=15:=rfl;obtain ⟨WF,qK,bF,hwF,q8⟩:=jE [] [.int .i64 0,.int .i64 0,.int .i64 0,.int .i64 0,.int .i64 0,.bool false,.int .i64 0,.slice none 0 0,.slice none 0 0,.bool false,.int .i64 0,.slice none 0 0,.slice none 0 0,.int .i64 0,.slice none 0 0] t.cells [] (by simpa using b17) (by rw [htl];rfl);have Lr:W7.rangeAt (w.heap.size+1+1) 0 t.cells:=Box.range [] t.cells [] qff;have Ls:W7.there (w.heap.size+1) 0 t.cells.toArray.size:=b17.there 0 _ (by simp [htl]);have Vd:WF.rangeAt (w.heap.size+1) 0 t.cells:=Box.range [] t.cells [] bF;have BX:(prog.info? 124).map (·.size)=some t.cells.length:=by rw [htl];kernel_rfl
 have BB:=qeI (P:=prog) WF (w.heap.size+1) 0 124 t.cells _ Vd underlying124 rfl BX;have ai:=qaf (ZL t);have zN:qa w WF:=((Ut.trans (hb6.mono (by omega))).trans (hw7.below (by omega) (by omega))).trans (hwF.below (by omega) (by omega));have wh:t.own WF w.heap.size WF.heap.size:=⟨OwnO.widen (OwnO.within (OwnO.within YG hw7 (.inr (by omega))) hwF (.inr (by omega))) (by omega) (by omega) qg,OwnO.widen (OwnO.within (OwnO.within YH hw7 (.inr (by omega))) hwF (.inr (by omega))) (by omega) (by omega) qg,((ho6.within hw7 (.inr (by omega))).within hwF (.inr (by omega))).widen (by omega) (by omega) qg,vU.out⟩;have hvF:t.v=r.v:=by simp only [t,ql.v,hv1.out,hv2.out]
 have HF:Hid (_∧_∧_∧_):=⟨BB,zN,wh,hvF⟩;have HA:Hid (_∧_):=⟨Lr,Ls⟩;have HI:Hid (_∧_):=⟨BX,ai⟩;have Qw:Hid (W7.setCells (w.heap.size+1) 0 t.cells=WF):=qK;have yC:=b26.cell 14 _ rfl;have f14:=b26.frozen 14;clear BB zN wh hvF Lr Ls Vd BX ai qK bF hwF q8 Lp qff b17 hw7 hs7 b16 b26 YG YH ho6 hb6 Ut htl vU
 clear_value t
 go_wp2_with (first | (guard_target=qp 34;refine qH 124 3 (w.heap.size+1+1) 0 t.cells (by rw [J9.out];exact HA.out.1) underlying124 HI.out.1 ?_) | (guard_target=ja 2;refine jb 124 2 34 (w.heap.size+1) 0 t.cells.toArray (by rw [J9.out];exact HA.out.2) (jG HI.out.1) HI.out.2 ?_) | fail);rw [J9.out,Qw.out];exact qa3 (v:=.agg t.cells.toArray) (jQ results119 rfl HF.out.1) rfl ⟨t,rfl,HF.out.2.2.2,HF.out.2.2.1,HF.out.2.1⟩
def Ma (ss:List qj) (left z:Int):Prop:=z<0∨(0≤z∧z≤left∧∀ s∈ss,s.v.o.ints.length≤1048576∧s.v.o.refs.length≤1048576)
theorem Lt (s:qj) (left:Int) (h:0≤left∧left≤1048576):Ma [s] left (QR s.v.o left):=by
 unfold Ma QR;split
 ·exact .inl (by omega)
 ·split
  ·exact .inl (by omega)
  ·exact .inr ⟨by omega,by omega,by intro t ht;obtain rfl:=qac.1 ht;omega⟩
def Small (ss:List qj):Prop:=∀ s∈ss,s.v.o.ints.length≤9223372036854775807∧s.v.o.refs.length≤9223372036854775807
theorem Ym (s:qj) (left:Int) (w:World) (hn:Small [s]) (h0:0≤left∧left≤1048576):
  Calls prog 5 #[.agg s.cells.toArray,.int .i64 left] w fun e w'=>∃ z,e=.returned (.int .i64 z)∧Ma [s] left z∧qa w w':=by
 have HA:Hid _:=Lt s left h0;obtain ⟨h1,h2⟩:=hn s (qac.2 rfl);obtain ⟨W,hW,b0,hbW,qD⟩:=qB w s.cells 26;simp only [qj.cells] at*
 go_enter func5,ntmps5;go_wp2_with fail;rw [hW.out];refine (I6 s.v.o s.aI s.cI s.aR s.cR left W h1 h2 h0).mono ?_;rintro e w1 ⟨rfl,hb1⟩;generalize QR s.v.o left=z at*
 clear qD;by_cases hz:z<0
 ·go_wp2;go_ret;exact ⟨-1,rfl,.inl (by omega),qf hbW hb1⟩
 ·go_wp2;go_ret;exact ⟨z,rfl,HA.out,qf hbW hb1⟩
theorem BZ (ss:List qj) (h4:ss.length=4) (left:Int) (w:World) (hn:Small ss) (h0:0≤left∧left≤1048576):
  Calls prog 103 #[.agg (cellsS ss).toArray,.int .i64 left] w fun e w'=>∃ z,e=.returned (.int .i64 z)∧Ma ss left z∧qa w w':=by
 obtain ⟨W,hW,b0,hbW,qD⟩:=qB w (cellsS ss) 27;have H4:Hid (ss.length=4):=h4;clear qD h4;go_enter func103,ntmps103;go_wp2_with fail;rw [hW.out];clear hW;go_loopw [1,5] (fun l i wr=>∃ (k:Nat) (z:Int),i=.int .i64 k∧l=.int .i64 z∧k≤4∧(0≤z∧z≤left)∧Hid (∀ s∈ss.take k,s.v.o.ints.length≤1048576∧s.v.o.refs.length≤1048576)∧qa W wr)
  (fun _ i _=>4-(RowKit.intOf i).toNat)
 case atStart=>exact ⟨0,left,rfl,rfl,by omega,by omega,by intro s hs;simp at hs,qab _ _⟩
 case round=>
  obtain ⟨k,z,rfl,rfl,hk,hz,hsm,hbl⟩:=hrel;have Uf:=b0.below hbl b0.lt;by_cases hlt:k<4
  ·have hkl:k<ss.length:=by rw [H4.out];exact hlt
   obtain ⟨c0,c1,c2,c3,_⟩:=Uf.slot k hkl;have hnk:Small [ss.getD k qw]:=fun s hs=>by obtain rfl:=qac.1 hs;exact hn _ (xh hkl)
   have HV:Hid (∀ s∈ss.take (k+1),s∈ss.take k∨s=ss.getD k qw):=by
    intro s hs;rw [qf9,qaa] at hs;rcases hs with hs | hs
    ·exact .inl hs
    ·right;simp only [List.getD,hkl,qcG,Option.toList_some,qac] at hs ⊢
     simpa using hs
   generalize ss.getD k qw=s at*
   go_wp2_with fail;refine (Ym s z wr hnk (by omega)).mono ?_;clear c0 c1 c2 c3;rintro e w1 ⟨z1,rfl,hz1,hb1⟩;rcases hz1 with hneg | ⟨hp,hle,hs1⟩
   ·go_wp2;go_ret;exact ⟨-1,rfl,.inl (by omega),(qf hbW hbl).trans (hb1.mono (qcx hbW.size hbl.size))⟩
   ·have qoR:¬ z1<0:=by omega
    have HS:Hid (∀ s∈ss.take (k+1),s.v.o.ints.length≤1048576∧s.v.o.refs.length≤1048576):=by
     intro t ht;rcases HV.out t ht with h | rfl
     ·exact hsm.out t h
     ·exact hs1 _ (qac.2 rfl)
    clear hs1 HV;go_wp2_with fail;go_roundw
    case rel=>exact ⟨k+1,z1,by go_num,rfl,by omega,by omega,HS,qf hbl hb1⟩
    case measure=>simp [RowKit.intOf];omega
  ·have hkk:¬ (k:Int)<4:=by omega
   have HS:Hid (∀ s∈ss,s.v.o.ints.length≤1048576∧s.v.o.refs.length≤1048576):=by
    have h:=hsm.out;rw [qdD (by rw [H4.out];omega)] at h;exact h
   go_wp2;go_ret;exact ⟨z,rfl,.inr ⟨hz.1,hz.2,HS.out⟩,qf hbW hbl⟩
theorem Mc (p:qA) (h4:p.ss.length=4) (left:Int) (w:World) (hn:Small p.ss) (h0:0≤left∧left≤1048576):
  Calls prog 58 #[.agg p.cells.toArray,.int .i64 left] w fun e w'=>∃ z,e=.returned (.int .i64 z)∧Ma p.ss left z∧qa w w':=by
 obtain ⟨n,ss⟩:=p;simp only [qA.cells] at*
 obtain ⟨W,hW,b0,hbW,qD⟩:=qB w (.int .i64 n::cellsS ss) 29;have hrg0:W.rangeAt w.heap.size 1 (cellsS ss):=Box.range [.int .i64 n] (cellsS ss) [] (by simpa using b0);have hi0:(prog.info? 27).map (·.size)=some (cellsS ss).length:=by rw [jW,h4];kernel_rfl
 go_enter func58,ntmps58;go_wp2_with (first | (guard_target=qp 6;refine qH 27 5 w.heap.size 1 (cellsS ss) (by rw [hW.out];exact hrg0) underlying27 hi0 ?_) | fail);rw [hW.out];clear hW hrg0 hi0 qD;refine (BZ ss h4 left W hn h0).mono ?_;rintro e w1 ⟨z,rfl,hz,hb1⟩;have HZ:Hid _:=hz;clear hz;by_cases hneg:z<0
 ·go_wp2;go_ret;exact ⟨-1,rfl,.inl (by omega),qf hbW hb1⟩
 ·go_wp2;go_ret;exact ⟨z,rfl,HZ.out,qf hbW hb1⟩
theorem Md {P:Prop} (h:P:=by
 go_enter func18,ntmps18;go_wp2;go_ret;exact ⟨jN HS.out.symm,rfl⟩):P:=h
theorem nG (a:Option Addr) (c n:Nat) (left:Int) (w:World) (hn:n≤9223372036854775807) (h0:0≤left∧left≤1048576):
  Calls prog 18 #[.slice a n c,.int .i64 left] w fun e w'=>e=.returned (.int .i64 (zn n left))∧w'=w:=by
 by_cases h:left-n<0
 ·have HS:Hid (zn n left= -1):=by unfold zn;rw [Hid,qan h]
  exact Md
 ·have HS:Hid (zn n left=left-n):=by unfold zn;rw [Hid,qa2 h]
  exact Md
structure ql.short (r:ql) (m:Nat):Prop where
 bf:r.bf.v.o.ints.length≤m∧r.bf.v.o.refs.length≤m
 af:r.af.v.o.ints.length≤m∧r.af.v.o.refs.length≤m
 txs:r.txs.length≤m
theorem Lu (r:ql) (left:Int) (w:World) (hn:r.short 9223372036854775807) (h0:0≤left∧left≤1048576):
  Calls prog 105 #[.agg r.cells.toArray,.int .i64 left] w fun e w'=>∃ z,e=.returned (.int .i64 z)∧(z<0∨(0≤z∧z≤left∧r.short 1048576))∧qa w w':=by
 obtain ⟨W,hW,b0,hbW,qD⟩:=qB w r.cells 163;have hb0:qa w W:=hbW;have C1:=Ym r.bf left W (by intro s hs;obtain rfl:=qac.1 hs;exact hn.bf) h0;have hnl:=hn.txs;have hna:Small [r.af]:=by intro s hs;obtain rfl:=qac.1 hs;exact hn.af
 clear qD hn;simp only [ql.cells] at*
 simp only [qj.cells] at C1;go_enter func105,ntmps105;go_wp2_with fail;rw [hW.out];clear hW;refine C1.mono ?_;clear C1;rintro e w1 ⟨z1,rfl,hz1,hb1⟩;have b01:=b0.below hb1 b0.lt;have B1:=qf hbW hb1;clear b0 hb1 hbW;rcases hz1 with hz | ⟨hz0,hzl,hs1⟩
 ·go_wp2;go_ret;exact ⟨-1,rfl,.inl (by omega),B1⟩
 have hzn:¬ z1<0:=by omega
 have c9:=b01.cell 9 _ rfl;have c10:=b01.cell 10 _ rfl;have c11:=b01.cell 11 _ rfl;have c12:=b01.cell 12 _ rfl;have C2:=Ym r.af z1 w1 hna (by omega);simp only [qj.cells] at C2;go_wp2_with fail;refine C2.mono ?_;clear C2 c9 c10 c11 c12;rintro e w2 ⟨z2,rfl,hz2,hb2⟩;have b02:=b01.below hb2 b01.lt;have B2:=qf B1 hb2;clear b01 hb2 B1;rcases hz2 with hz | ⟨qbz,qoS,hs2⟩
 ·go_wp2;go_ret;exact ⟨-1,rfl,.inl (by omega),B2⟩
 have qlL:¬ z2<0:=by omega
 have c14:=b02.cell 14 _ rfl;have C3:=nG r.aL r.cL r.txs.length z2 w2 hnl (by omega);go_wp2_with fail;refine C3.mono ?_;clear C3 c14;rintro e w3 ⟨rfl,rfl⟩;by_cases h:z2-r.txs.length<0
 ·have HS:Hid (zn r.txs.length z2= -1):=by unfold zn;rw [Hid,qan h]
  rw [HS.out];go_wp2;go_ret;exact ⟨-1,rfl,.inl (by omega),B2⟩
 ·have HS:Hid (zn r.txs.length z2=z2-r.txs.length):=by unfold zn;rw [Hid,qa2 h]
  have HR:Hid (r.short 1048576):=⟨hs1 _ (qac.2 rfl),hs2 _ (qac.2 rfl),by omega⟩;rw [HS.out];go_wp2;go_ret;exact ⟨z2-r.txs.length,rfl,.inr ⟨by omega,by omega,HR.out⟩,B2⟩
theorem lF (r t:ql) (he:t.v=r.v) (w:World) (hr:r.reads w) (ht:t.reads w) (hl:r.short 1099511627776):
  Calls prog 141 #[.agg r.cells.toArray,.agg t.cells.toArray] w fun e w'=>e=.returned (.bool true)∧qa w w':=by
 obtain ⟨W,hW,b0,b1,hbW,qD⟩:=jK w r.cells t.cells 124 124;simp only [ql.v,xS.mk.injEq] at he;obtain ⟨e1,e2,e3,e4,e5,e6,e7,e8,e9⟩:=he;have C1:=Xk r.bf t.bf e6 W (jd.below hr.bf hbW) (jd.below ht.bf hbW) hl.bf.1 hl.bf.2;have HL:Hid (_∧_):=⟨hl.af,hl.txs⟩;have HR:Hid (_∧_):=⟨hr,ht⟩;have HE:Hid (_∧_):=⟨e7,e9⟩;clear qD hl hr ht e6 e7 e9;simp only [ql.cells] at*
 simp only [qj.cells] at C1;simp only [e1,e2,e3,e4,e5,e8] at b1 hW ⊢;clear e1 e2 e3 e4 e5 e8;go_enter func141,ntmps141;go_wp2_with fail;rw [hW.out];clear hW;refine C1.mono ?_;clear C1;rintro e w1 ⟨rfl,hb1⟩;have b01:=b0.below hb1 b0.lt;have b11:=b1.below hb1 b1.lt;have B1:=qf hbW hb1;clear b0 b1 hb1 hbW;have c9:=b01.cell 9 _ rfl;have d9:=b11.cell 9 _ rfl;have c10:=b01.cell 10 _ rfl;have d10:=b11.cell 10 _ rfl;have c11:=b01.cell 11 _ rfl;have d11:=b11.cell 11 _ rfl;have c12:=b01.cell 12 _ rfl;have d12:=b11.cell 12 _ rfl;have C2:=Xk r.af t.af HE.out.1 w1 (jd.below HR.out.1.af B1) (jd.below HR.out.2.af B1) HL.out.1.1 HL.out.1.2;simp only [qj.cells] at C2;go_wp2_with fail;refine C2.mono ?_;clear C2;rintro e w2 ⟨rfl,hb2⟩;have b02:=b01.below hb2 b01.lt;have b12:=b11.below hb2 b11.lt;have B2:=qf B1 hb2;clear b01 b11 hb2 B1 c9 d9 c10 d10 c11 d11 c12 d12;have c13:=b02.cell 13 _ rfl;have d13:=b12.cell 13 _ rfl;have c14:=b02.cell 14 _ rfl;have d14:=b12.cell 14 _ rfl;have C3:=Wn r.aL t.aL r.cL t.cL r.txs w2 (HR.out.1.txs.below B2) (by have:=HR.out.2.txs.below B2;rw [HE.out.2] at this;exact this) HL.out.2;have hte:t.txs.length=r.txs.length:=by rw [HE.out.2]
 rw [hte] at d14;go_wp2_with fail;refine C3.mono ?_;clear C3;rintro e w3 ⟨rfl,hb3⟩;go_wp2;go_ret;exact ⟨rfl,qf B2 hb3⟩
def xu (v:qO):Bool:=if v.has then false else zR v.o ⟨0,[],[]⟩
theorem qbA {v:qO} (h:v.has=true):xu v=false:=by unfold xu;rw [qan h]
theorem qbB {v:qO} (h:v.has=false):xu v=zR v.o ⟨0,[],[]⟩:=by unfold xu;rw [qa2 (by rw [h];decide)]
theorem zO (s:qj) (w:World) (hr:s.reads w) (hl:Fit [s]):
  Calls prog 147 #[.agg s.cells.toArray,.agg #[.bool false,.int .i64 0,.slice none 0 0,.slice none 0 0]] w fun e w'=>e=.returned (.bool (xu s.v))∧qa w w':=by
 obtain ⟨h1,h2⟩:=hl s (qac.2 rfl);obtain ⟨W,hW,b0,b1,hbW,qD⟩:=jK w s.cells [.bool false,.int .i64 0,.slice none 0 0,.slice none 0 0] 45 45;have hr':s.reads W:=jd.below hr hbW;obtain ⟨⟨h,o⟩,aI,cI,aR,cR⟩:=s;simp only [qj.cells,qj.reads] at*
 clear qD;cases h with
 | true=>
  have HE:Hid (xu ⟨true,o⟩=false):=qbA rfl;generalize xu ⟨true,o⟩=R at*
  go_enter func147,ntmps147;go_wp2;go_ret;exact ⟨qm HE.out.symm,by rw [hW.out];exact hbW⟩
 | false=>
  have C1:=Zn o ⟨0,[],[]⟩ aI cI aR cR none 0 none 0 W hr' ⟨xH.nil _ _,xH.nil _ _,fun _=>rfl,fun _=>rfl⟩ h1 h2 (by simp) (by simp);simp only [qdo] at C1;have HE:Hid (xu ⟨false,o⟩=zR o ⟨0,[],[]⟩):=qbB rfl;generalize xu ⟨false,o⟩=R at*
  generalize zR o ⟨0,[],[]⟩=R2 at*
  go_enter func147,ntmps147;go_wp2_with fail;rw [hW.out];refine C1.mono ?_;rintro e w1 ⟨rfl,hb1⟩;go_wp2;go_ret;exact ⟨qm HE.out.symm,qf hbW hb1⟩
def kX (r:xS) (tx oid bf next txs:Bool):Bool:=(tx || (decide (r.tx=0) && decide (r.prev=0))) && (oid || (decide (r.oid=0) && xu r.af)) && (bf || xu r.bf) && (next || decide (r.next=0)) && (txs || decide (r.txs.length=0))
theorem JH {P:Prop} (h:P:=by
 go_enter func170,ntmps170;go_wp2_with fail;rw [hW.out];clear hW;refine (CA W hbW).mono ?_;rintro e ZQ ⟨rfl,hb_af⟩;rw [J4];have YI:qa w ZQ:=(hbW).trans (hb_af.mono (hbW).size);have b0_af:=b0.below hb_af (b0).lt;have b1_af:=b1.below hb_af (b1).lt;have lG:=b0_af.cell 5 _ rfl;have lJ:=b0_af.cell 6 _ rfl;have lK:=b0_af.cell 7 _ rfl;have lM:=b0_af.cell 8 _ rfl;have Cb:=b0_af.cell 13 _ rfl;have Cc:=b0_af.cell 14 _ rfl;have lN:=b1_af.cell 0 _ rfl;have lQ:=b1_af.cell 1 _ rfl;have lS:=b1_af.cell 2 _ rfl;have lU:=b1_af.cell 3 _ rfl;go_wp2_with fail;refine (CB ZQ YI).mono ?_;rintro e ZR ⟨rfl,hb_bf⟩;rw [QT];have Ga:qa w ZR:=(YI).trans (hb_bf.mono (YI).size);have Xl:=b0_af.below hb_bf (b0_af).lt;have sJ:=b1_af.below hb_bf (b1_af).lt;have Lv:=Xl.cell 13 _ rfl;have Lx:=Xl.cell 14 _ rfl;go_wp2;go_ret;exact ⟨qm HR.out.symm,Ga⟩):P:=h
theorem nJ {P:Prop} (h:P:=by
 have Ga:qa w ZR:=(YI).trans (hb_bf.mono (YI).size);have Xl:=b0_af.below hb_bf (b0_af).lt;have sJ:=b1_af.below hb_bf (b1_af).lt;have Lv:=Xl.cell 13 _ rfl;have Lx:=Xl.cell 14 _ rfl;go_wp2;go_ret;exact ⟨qm HR.out.symm,Ga⟩):P:=h
theorem nK {P:Prop} (h:P:=by
 go_enter func170,ntmps170;go_wp2_with fail;rw [hW.out];clear hW;refine (CA W hbW).mono ?_;rintro e ZQ ⟨rfl,hb_af⟩;rw [qcH];have YI:qa w ZQ:=(hbW).trans (hb_af.mono (hbW).size);have b0_af:=b0.below hb_af (b0).lt;have b1_af:=b1.below hb_af (b1).lt;have lG:=b0_af.cell 5 _ rfl;have lJ:=b0_af.cell 6 _ rfl;have lK:=b0_af.cell 7 _ rfl;have lM:=b0_af.cell 8 _ rfl;have Cb:=b0_af.cell 13 _ rfl;have Cc:=b0_af.cell 14 _ rfl;have lN:=b1_af.cell 0 _ rfl;have lQ:=b1_af.cell 1 _ rfl;have lS:=b1_af.cell 2 _ rfl;have lU:=b1_af.cell 3 _ rfl;go_wp2;go_ret;exact ⟨qm HR.out.symm,YI⟩):P:=h
theorem Qc {P:Prop} (h:P:=by
 go_enter func170,ntmps170;go_wp2;rw [hW.out];go_ret;exact ⟨qm HR.out.symm,hbW⟩):P:=h
theorem Ba (r:ql) (w:World) (hr:r.reads w) (hl:r.short 1099511627776):
  Calls prog 170 #[.agg r.cells.toArray,.bool false,.bool false,.bool false,.bool false,.bool true] w fun e w'=>e=.returned (.bool (kX r.v false false false false true))∧qa w w':=by
 obtain ⟨W,hW,b0,b1,hbW,qD⟩:=jK w r.cells [.bool false,.int .i64 0,.slice none 0 0,.slice none 0 0] 124 45;have CB:∀ u,qa w u→_:=fun u hu=>zO r.bf u (jd.below hr.bf hu) (fun s hs=>by obtain rfl:=qac.1 hs;exact hl.bf)
 have CA:∀ u,qa w u→_:=fun u hu=>zO r.af u (jd.below hr.af hu) (fun s hs=>by obtain rfl:=qac.1 hs;exact hl.af)
 have HZ:Hid (kX r.v false false false false true=((false || (decide (r.tx=0) && decide (r.prev=0))) && (false || (decide (r.oid=0) && xu r.af.v)) && (false || xu r.bf.v) && (false || decide (r.next=0)) && (true || decide (r.txs.length=0)))):=rfl;generalize kX r.v false false false false true=R at*
 simp only [ql.cells] at*
 simp only [qj.cells] at CA CB;clear qD hr hl;by_cases Qd:r.tx=0
 case neg=>
  have HR:Hid (R=false):=by rw [Hid,HZ.out];simp [Qd]
  have gQ:(r.tx == 0)=false:=by simp;exact Qd
  clear HZ Qd;exact Qc
 case pos=>
 by_cases wV:r.prev=0
 case neg=>
  have HR:Hid (R=false):=by rw [Hid,HZ.out];simp [Qd,wV]
  have gQ:(r.tx == 0)=true:=by simp;exact Qd
  have Vn:(r.prev == 0)=false:=by simp;exact wV
  clear HZ Qd wV;exact Qc
 case pos=>
 by_cases xX:r.oid=0
 case neg=>
  have HR:Hid (R=false):=by rw [Hid,HZ.out];simp [Qd,wV,xX]
  have gQ:(r.tx == 0)=true:=by simp;exact Qd
  have Vn:(r.prev == 0)=true:=by simp;exact wV
  have JI:(r.oid == 0)=false:=by simp;exact xX
  clear HZ Qd wV xX;exact Qc
 case pos=>
 by_cases J4:xu r.af.v=true
 case neg=>
  have HR:Hid (R=false):=by rw [Hid,HZ.out];simp [Qd,wV,xX,J4]
  have gQ:(r.tx == 0)=true:=by simp;exact Qd
  have Vn:(r.prev == 0)=true:=by simp;exact wV
  have JI:(r.oid == 0)=true:=by simp;exact xX
  have qcH:xu r.af.v=false:=by simpa using J4
  clear HZ Qd wV xX;exact nK
 case pos=>
 by_cases QT:xu r.bf.v=true
 case neg=>
  have HR:Hid (R=false):=by rw [Hid,HZ.out];simp [Qd,wV,xX,J4,QT]
  have gQ:(r.tx == 0)=true:=by simp;exact Qd
  have Vn:(r.prev == 0)=true:=by simp;exact wV
  have JI:(r.oid == 0)=true:=by simp;exact xX
  have Me:xu r.bf.v=false:=by simpa using QT
  clear HZ Qd wV xX;go_enter func170,ntmps170;go_wp2_with fail;rw [hW.out];clear hW;refine (CA W hbW).mono ?_;rintro e ZQ ⟨rfl,hb_af⟩;rw [J4];have YI:qa w ZQ:=(hbW).trans (hb_af.mono (hbW).size);have b0_af:=b0.below hb_af (b0).lt;have b1_af:=b1.below hb_af (b1).lt;have lG:=b0_af.cell 5 _ rfl;have lJ:=b0_af.cell 6 _ rfl;have lK:=b0_af.cell 7 _ rfl;have lM:=b0_af.cell 8 _ rfl;have Cb:=b0_af.cell 13 _ rfl;have Cc:=b0_af.cell 14 _ rfl;have lN:=b1_af.cell 0 _ rfl;have lQ:=b1_af.cell 1 _ rfl;have lS:=b1_af.cell 2 _ rfl;have lU:=b1_af.cell 3 _ rfl;go_wp2_with fail;refine (CB ZQ YI).mono ?_;rintro e ZR ⟨rfl,hb_bf⟩;rw [Me];exact nJ
 case pos=>
 by_cases yu:r.next=0
 case neg=>
  have HR:Hid (R=false):=by rw [Hid,HZ.out];simp [Qd,wV,xX,J4,QT,yu]
  have gQ:(r.tx == 0)=true:=by simp;exact Qd
  have Vn:(r.prev == 0)=true:=by simp;exact wV
  have JI:(r.oid == 0)=true:=by simp;exact xX
  have Xa:(r.next == 0)=false:=by simp;exact yu
  clear HZ Qd wV xX yu;exact JH
 case pos=>
 have HR:Hid (R=true):=by rw [Hid,HZ.out];simp [Qd,wV,xX,J4,QT,yu]
 have gQ:(r.tx == 0)=true:=by simp;exact Qd
 have Vn:(r.prev == 0)=true:=by simp;exact wV
 have JI:(r.oid == 0)=true:=by simp;exact xX
 have Xa:(r.next == 0)=true:=by simp;exact yu
 clear HZ Qd wV xX yu;exact JH
theorem iD (r:ql) (w:World) (hr:r.reads w) (hl:r.short 1099511627776):
  Calls prog 170 #[.agg r.cells.toArray,.bool true,.bool true,.bool true,.bool false,.bool false] w fun e w'=>e=.returned (.bool (kX r.v true true true false false))∧qa w w':=by
 obtain ⟨W,hW,b0,b1,hbW,qD⟩:=jK w r.cells [.bool false,.int .i64 0,.slice none 0 0,.slice none 0 0] 124 45;have CB:∀ u,qa w u→_:=fun u hu=>zO r.bf u (jd.below hr.bf hu) (fun s hs=>by obtain rfl:=qac.1 hs;exact hl.bf)
 have CA:∀ u,qa w u→_:=fun u hu=>zO r.af u (jd.below hr.af hu) (fun s hs=>by obtain rfl:=qac.1 hs;exact hl.af)
 have HZ:Hid (kX r.v true true true false false=((true || (decide (r.tx=0) && decide (r.prev=0))) && (true || (decide (r.oid=0) && xu r.af.v)) && (true || xu r.bf.v) && (false || decide (r.next=0)) && (false || decide (r.txs.length=0)))):=rfl;generalize kX r.v true true true false false=R at*
 simp only [ql.cells] at*
 simp only [qj.cells] at CA CB;clear qD hr hl;by_cases yu:r.next=0
 case neg=>
  have HR:Hid (R=false):=by rw [Hid,HZ.out];simp [yu]
  have Xa:(r.next == 0)=false:=by simp;exact yu
  clear HZ yu;exact Qc
 case pos=>
 by_cases h_txs:r.txs.length=0
 case neg=>
  have HR:Hid (R=false):=by rw [Hid,HZ.out];simp [yu,h_txs]
  have Xa:(r.next == 0)=true:=by simp;exact yu
  have Ws:((r.txs.length:Int) == 0)=false:=by simp;exact fun e=>h_txs (by rw [e];rfl)
  clear HZ yu h_txs;exact Qc
 case pos=>
 have HR:Hid (R=true):=by rw [Hid,HZ.out];simp [yu,h_txs]
 have Xa:(r.next == 0)=true:=by simp;exact yu
 have Ws:((r.txs.length:Int) == 0)=true:=by simp;exact qcI.1 h_txs
 clear HZ yu h_txs;exact Qc
theorem ZT {P:Prop} (h:P:=by
 have Lv:=Xl.cell 13 _ rfl;have Lx:=Xl.cell 14 _ rfl;go_wp2;go_ret;exact ⟨qm HR.out.symm,Ga⟩):P:=h
theorem RA (r:ql) (w:World) (hr:r.reads w) (hl:r.short 1099511627776):
  Calls prog 170 #[.agg r.cells.toArray,.bool true,.bool true,.bool false,.bool true,.bool false] w fun e w'=>e=.returned (.bool (kX r.v true true false true false))∧qa w w':=by
 obtain ⟨W,hW,b0,b1,hbW,qD⟩:=jK w r.cells [.bool false,.int .i64 0,.slice none 0 0,.slice none 0 0] 124 45;have CB:∀ u,qa w u→_:=fun u hu=>zO r.bf u (jd.below hr.bf hu) (fun s hs=>by obtain rfl:=qac.1 hs;exact hl.bf)
 have CA:∀ u,qa w u→_:=fun u hu=>zO r.af u (jd.below hr.af hu) (fun s hs=>by obtain rfl:=qac.1 hs;exact hl.af)
 have HZ:Hid (kX r.v true true false true false=((true || (decide (r.tx=0) && decide (r.prev=0))) && (true || (decide (r.oid=0) && xu r.af.v)) && (false || xu r.bf.v) && (true || decide (r.next=0)) && (false || decide (r.txs.length=0)))):=rfl;generalize kX r.v true true false true false=R at*
 simp only [ql.cells] at*
 simp only [qj.cells] at CA CB;clear qD hr hl;by_cases QT:xu r.bf.v=true
 case neg=>
  have HR:Hid (R=false):=by rw [Hid,HZ.out];simp [QT]
  have Me:xu r.bf.v=false:=by simpa using QT
  clear HZ ;go_enter func170,ntmps170;go_wp2_with fail;rw [hW.out];clear hW;refine (CB W hbW).mono ?_;rintro e ZR ⟨rfl,hb_bf⟩;rw [Me];have Ga:qa w ZR:=(hbW).trans (hb_bf.mono (hbW).size);have Xl:=b0.below hb_bf (b0).lt;have sJ:=b1.below hb_bf (b1).lt;exact ZT
 case pos=>
 by_cases h_txs:r.txs.length=0
 case neg=>
  have HR:Hid (R=false):=by rw [Hid,HZ.out];simp [QT,h_txs]
  have Ws:((r.txs.length:Int) == 0)=false:=by simp;exact fun e=>h_txs (by rw [e];rfl)
  clear HZ h_txs;go_enter func170,ntmps170;go_wp2_with fail;rw [hW.out];clear hW;refine (CB W hbW).mono ?_;rintro e ZR ⟨rfl,hb_bf⟩;rw [QT];have Ga:qa w ZR:=(hbW).trans (hb_bf.mono (hbW).size);have Xl:=b0.below hb_bf (b0).lt;have sJ:=b1.below hb_bf (b1).lt;exact ZT
 case pos=>
 have HR:Hid (R=true):=by rw [Hid,HZ.out];simp [QT,h_txs]
 have Ws:((r.txs.length:Int) == 0)=true:=by simp;exact qcI.1 h_txs
 clear HZ h_txs;go_enter func170,ntmps170;go_wp2_with fail;rw [hW.out];clear hW;refine (CB W hbW).mono ?_;rintro e ZR ⟨rfl,hb_bf⟩;rw [QT];have Ga:qa w ZR:=(hbW).trans (hb_bf.mono (hbW).size);have Xl:=b0.below hb_bf (b0).lt;have sJ:=b1.below hb_bf (b1).lt;exact ZT
theorem iE (r:ql) (w:World) (hr:r.reads w) (hl:r.short 1099511627776):
  Calls prog 170 #[.agg r.cells.toArray,.bool true,.bool false,.bool false,.bool false,.bool false] w fun e w'=>e=.returned (.bool (kX r.v true false false false false))∧qa w w':=by
 obtain ⟨W,hW,b0,b1,hbW,qD⟩:=jK w r.cells [.bool false,.int .i64 0,.slice none 0 0,.slice none 0 0] 124 45;have CB:∀ u,qa w u→_:=fun u hu=>zO r.bf u (jd.below hr.bf hu) (fun s hs=>by obtain rfl:=qac.1 hs;exact hl.bf)
 have CA:∀ u,qa w u→_:=fun u hu=>zO r.af u (jd.below hr.af hu) (fun s hs=>by obtain rfl:=qac.1 hs;exact hl.af)
 have HZ:Hid (kX r.v true false false false false=((true || (decide (r.tx=0) && decide (r.prev=0))) && (false || (decide (r.oid=0) && xu r.af.v)) && (false || xu r.bf.v) && (false || decide (r.next=0)) && (false || decide (r.txs.length=0)))):=rfl;generalize kX r.v true false false false false=R at*
 simp only [ql.cells] at*
 simp only [qj.cells] at CA CB;clear qD hr hl;by_cases xX:r.oid=0
 case neg=>
  have HR:Hid (R=false):=by rw [Hid,HZ.out];simp [xX]
  have JI:(r.oid == 0)=false:=by simp;exact xX
  clear HZ xX;exact Qc
 case pos=>
 by_cases J4:xu r.af.v=true
 case neg=>
  have HR:Hid (R=false):=by rw [Hid,HZ.out];simp [xX,J4]
  have JI:(r.oid == 0)=true:=by simp;exact xX
  have qcH:xu r.af.v=false:=by simpa using J4
  clear HZ xX;exact nK
 case pos=>
 by_cases QT:xu r.bf.v=true
 case neg=>
  have HR:Hid (R=false):=by rw [Hid,HZ.out];simp [xX,J4,QT]
  have JI:(r.oid == 0)=true:=by simp;exact xX
  have Me:xu r.bf.v=false:=by simpa using QT
  clear HZ xX;go_enter func170,ntmps170;go_wp2_with fail;rw [hW.out];clear hW;refine (CA W hbW).mono ?_;rintro e ZQ ⟨rfl,hb_af⟩;rw [J4];have YI:qa w ZQ:=(hbW).trans (hb_af.mono (hbW).size);have b0_af:=b0.below hb_af (b0).lt;have b1_af:=b1.below hb_af (b1).lt;have lG:=b0_af.cell 5 _ rfl;have lJ:=b0_af.cell 6 _ rfl;have lK:=b0_af.cell 7 _ rfl;have lM:=b0_af.cell 8 _ rfl;have Cb:=b0_af.cell 13 _ rfl;have Cc:=b0_af.cell 14 _ rfl;have lN:=b1_af.cell 0 _ rfl;have lQ:=b1_af.cell 1 _ rfl;have lS:=b1_af.cell 2 _ rfl;have lU:=b1_af.cell 3 _ rfl;go_wp2_with fail;refine (CB ZQ YI).mono ?_;rintro e ZR ⟨rfl,hb_bf⟩;rw [Me];exact nJ
 case pos=>
 by_cases yu:r.next=0
 case neg=>
  have HR:Hid (R=false):=by rw [Hid,HZ.out];simp [xX,J4,QT,yu]
  have JI:(r.oid == 0)=true:=by simp;exact xX
  have Xa:(r.next == 0)=false:=by simp;exact yu
  clear HZ xX yu;exact JH
 case pos=>
 by_cases h_txs:r.txs.length=0
 case neg=>
  have HR:Hid (R=false):=by rw [Hid,HZ.out];simp [xX,J4,QT,yu,h_txs]
  have JI:(r.oid == 0)=true:=by simp;exact xX
  have Xa:(r.next == 0)=true:=by simp;exact yu
  have Ws:((r.txs.length:Int) == 0)=false:=by simp;exact fun e=>h_txs (by rw [e];rfl)
  clear HZ xX yu h_txs;exact JH
 case pos=>
 have HR:Hid (R=true):=by rw [Hid,HZ.out];simp [xX,J4,QT,yu,h_txs]
 have JI:(r.oid == 0)=true:=by simp;exact xX
 have Xa:(r.next == 0)=true:=by simp;exact yu
 have Ws:((r.txs.length:Int) == 0)=true:=by simp;exact qcI.1 h_txs
 clear HZ xX yu h_txs;exact JH
def yS (lsn:Int) (ls:List qM):Nat→Bool
 | 0=>inB (ls.getD 0 qz).tx 1 1000 && inB (ls.getD 0 qz).last 1 (lsn-1)
 | k+1=>inB (ls.getD (k+1) qz).tx 1 1000 && inB (ls.getD (k+1) qz).last 1 (lsn-1) && decide ((ls.getD k qz).tx<(ls.getD (k+1) qz).tx)
def xI (lsn:Int) (ls:List qM):Bool:=(List.range ls.length).all (yS lsn ls) && decide (ls.length≤20)
theorem PS {lsn:Int} {ls:List qM} (k:Nat) (hk:k<ls.length) (h:yS lsn ls k=false):xI lsn ls=false:=by
 have:(List.range ls.length).all (yS lsn ls)=false:=by
  rw [qfw];exact ⟨k,qds.2 hk,by rw [h];decide⟩
 simp [xI,this]
theorem GN {lsn:Int} {ls:List qM} (h:∀ k,k<ls.length→yS lsn ls k=true):xI lsn ls=decide (ls.length≤20):=by
 have:(List.range ls.length).all (yS lsn ls)=true:=by
  rw [qdt];exact fun k hk=>h k (qds.1 hk)
 simp [xI,this]
theorem Je {P:Prop} (h:P:=by
 clear HL kI Ze;go_wp2
 go_quiet ((go_at_call 23;exact Calls.quiet_of_same (j5 _ _ _ _)))
 go_wp2;go_ret;exact ⟨qm HR.out.symm,by first | exact qfI Kv _ | exact Kv⟩):P:=h
theorem RD (r:ql) (w:World) (hr:kQ w r.aL r.txs) (hl:r.txs.length≤1099511627776) (hn:1≤r.lsn∧r.lsn≤1000000):
  Calls prog 171 #[.agg r.cells.toArray] w fun e w'=>e=.returned (.bool (xI r.lsn r.txs))∧qa w w':=by
 obtain ⟨W,hW,b0,hbW,qD⟩:=qB w r.cells 124;have kI:Hid (∀ k,k<r.txs.length→yS r.lsn r.txs k=false→xI r.lsn r.txs=false):=fun k hk h=>PS k hk h
 have Ze:Hid ((∀ k,k<r.txs.length→yS r.lsn r.txs k=true)→xI r.lsn r.txs=decide (r.txs.length≤20)):=fun h=>GN h
 generalize xI r.lsn r.txs=R at*
 have hc0:=b0.cell 0 _ rfl;have qbC:=b0.cell 14 _ rfl;simp only [ql.cells] at hW ⊢;clear qD b0;generalize r.lsn=lsn at*
 generalize r.txs=ls at*
 generalize r.aL=aL at*
 have hr':=hr.below hbW;clear hr;go_enter func171,ntmps171;go_wp2_with fail;rw [hW.out];clear hW;go_loopw [3] (fun i wr=>∃ k:Nat,k≤ls.length∧i=.int .i64 k∧Hid (∀ j,j<k→yS lsn ls j=true)∧qa W wr) (fun i _=>ls.length-(intOf i).toNat)
 case atStart=>exact ⟨0,qaw _,rfl,fun j hj=>by omega,qab _ _⟩
 case round=>
  obtain ⟨k,hk,rfl,hall,hbl⟩:=hrel;have Kv:=qf hbW hbl;have r0:=(hbl.cell (block_lt hc0)).trans hc0;have r14:=(hbl.cell (block_lt qbC)).trans qbC;have hrr:=hr'.below hbl;clear hc0 qbC hr';by_cases hlt:k<ls.length
  ·obtain ⟨b,off,rfl,hcell⟩:=hrr (by intro e;rw [e] at hlt;simp at hlt);obtain ⟨c0,c1,_⟩:=hcell k hlt;cases k with
   | zero=>
    clear hcell;simp only [Nat.zero_mul,Nat.add_zero] at c0 c1;have HL:Hid (yS lsn ls 0=(inB (ls.getD 0 qz).tx 1 1000 && inB (ls.getD 0 qz).last 1 (lsn-1))):=rfl;generalize ls.getD 0 qz=z at*
    cases h1:inB z.tx 1 1000 with
    | false=>
     have HR:Hid (R=false):=kI.out 0 hlt (by rw [HL.out,h1];rfl);exact Je
    | true=>
     cases h2:inB z.last 1 (lsn-1) with
     | false=>
      have HR:Hid (R=false):=kI.out 0 hlt (by rw [HL.out,h1,h2];rfl);exact Je
     | true=>
      have HR:Hid (∀ j,j<1→yS lsn ls j=true):=fun j hj=>by
       obtain rfl:j=0:=by omega
       rw [HL.out,h1,h2];rfl
      clear HL kI Ze;go_wp2
      go_quiet ((go_at_call 23;exact Calls.quiet_of_same (j5 _ _ _ _)))
      go_wp2;go_roundw
      case rel=>exact ⟨1,by omega,by go_num,HR,by first | exact qfI hbl _ | exact hbl⟩
      case measure=>simp [intOf];omega
   | succ j=>
    obtain ⟨d0,_,_⟩:=hcell j (by omega);clear hcell;have HL:Hid (yS lsn ls (j+1)=(inB (ls.getD (j+1) qz).tx 1 1000 && inB (ls.getD (j+1) qz).last 1 (lsn-1) && decide ((ls.getD j qz).tx<(ls.getD (j+1) qz).tx))):=rfl;generalize ls.getD (j+1) qz=z at*
    generalize ls.getD j qz=p at*
    cases h1:inB z.tx 1 1000 with
    | false=>
     have HR:Hid (R=false):=kI.out (j+1) hlt (by rw [HL.out,h1];rfl);exact Je
    | true=>
     cases h2:inB z.last 1 (lsn-1) with
     | false=>
      have HR:Hid (R=false):=kI.out (j+1) hlt (by rw [HL.out,h1,h2];rfl);exact Je
     | true=>
      by_cases h3:p.tx<z.tx
      case neg=>
       have HR:Hid (R=false):=kI.out (j+1) hlt (by rw [HL.out,h1,h2,qa0 h3];rfl);have h3b:decide (z.tx≤p.tx)=true:=by simpa using h3
       exact Je
      case pos=>
       have HR:Hid (∀ i,i<j+1+1→yS lsn ls i=true):=fun i hi=>by
        by_cases e:i=j+1
        ·rw [e,HL.out,h1,h2,qaC h3];rfl
        ·exact hall.out i (by omega)
       have h3b:decide (z.tx≤p.tx)=false:=by simpa using h3
       clear HL kI Ze;go_wp2
       go_quiet ((go_at_call 23;exact Calls.quiet_of_same (j5 _ _ _ _)))
       go_wp2;go_roundw
       case rel=>exact ⟨j+1+1,by omega,by go_num,HR,by first | exact qfI hbl _ | exact hbl⟩
       case measure=>simp [intOf];omega
  ·have HR:Hid (R=decide ((ls.length:Int)≤20)):=by
    rw [Hid,Ze.out (fun j hj=>hall.out j (by omega))];simp only [decide_eq_decide];omega
   clear kI Ze;go_wp2;go_ret;exact ⟨qm HR.out.symm,Kv⟩
theorem Box.GG {w:World} {B:Nat} {v:Value} {ss:List qj} {t:TypeId} (b:Box w B (v::cellsS ss) t) (k:Nat) (hk:k<ss.length):
  w.cell? ⟨B,1+k*4,none⟩=some (.bool (ss.getD k qw).v.has)∧w.cell? ⟨B,1+k*4+1,none⟩=some (.int .i64 (ss.getD k qw).v.o.kind)∧
  w.cell? ⟨B,1+k*4+2,none⟩=some (.slice (ss.getD k qw).aI (ss.getD k qw).v.o.ints.length (ss.getD k qw).cI)∧w.cell? ⟨B,1+k*4+3,none⟩=some (.slice (ss.getD k qw).aR (ss.getD k qw).v.o.refs.length (ss.getD k qw).cR)∧
  (∀ i,w.frozen? ⟨B,i,none⟩=false):=by
 have key:∀ j,j<4→(v::cellsS ss)[1+k*4+j]? =(ss.getD k qw).cells[j]? :=fun j hj=>by
  rw [show 1+k*4+j=(k*4+j)+1 by omega,qdI];exact Jc ss k j hk hj
 exact ⟨b.cell _ _ (key 0 (by omega)),b.cell _ _ (key 1 (by omega)),b.cell _ _ (key 2 (by omega)),b.cell _ _ (key 3 (by omega)),fun i=>b.frozen i⟩
theorem qbD (o:yo) (a b c:Bool) (h1:decide (o.kind=0)=a) (h2:decide (o.ints.length=0)=b) (h3:decide (o.refs.length=0)=c):qL ⟨false,o⟩=(a && (b && c)):=by
 rw [← h1,← h2,← h3];rfl
theorem JS {P:Prop} (h:P:=by
 go_enter func24,ntmps24;go_wp2;go_ret;exact ⟨qm HR.out.symm,by rw [hW.out];exact hbW⟩):P:=h
theorem Yg (s:qj) (w:World) (hr:s.reads w) (hl:Fit [s]):
  Calls prog 24 #[.agg s.cells.toArray] w fun e w'=>e=.returned (.bool (qL s.v))∧qa w w':=by
 obtain ⟨h1,h2⟩:=hl s (qac.2 rfl);obtain ⟨W,hW,b0,hbW,qD⟩:=qB w s.cells 45;have hr':s.reads W:=jd.below hr hbW;obtain ⟨⟨h,o⟩,aI,cI,aR,cR⟩:=s;simp only [qj.cells,qj.reads] at*
 cases h with
 | true=>
  have C1:=fH o aI cI aR cR W hr' (by omega) (by omega);have HE:Hid (qL ⟨true,o⟩=okB o):=Dl rfl;generalize qL ⟨true,o⟩=R at*
  go_enter func24,ntmps24;go_wp2_with fail;rw [hW.out];refine C1.mono ?_;rintro e w1 ⟨rfl,hb1⟩;go_wp2;go_ret;exact ⟨qm HE.out.symm,qf hbW hb1⟩
 | false=>
  have HE:=qbD o;generalize qL ⟨false,o⟩=R at*
  obtain ⟨k,ints,refs⟩:=o;obtain ⟨x0,x1,x2,x3,_⟩:=b0.four;simp only at*
  by_cases hk:k=0
  case neg=>
   have HR:Hid (R=false):=HE false _ _ (qa0 hk) rfl rfl;have hkb:(k == 0)=false:=by simpa using hk
   clear HE hk;exact JS
  case pos=>
  subst hk;by_cases hi:ints.length=0
  case neg=>
   have HR:Hid (R=false):=HE true false _ (qaC rfl) (qa0 hi) rfl;have hib:((ints.length:Int) == 0)=false:=by simp;exact fun e=>hi (by rw [e];rfl)
   clear HE hi;exact JS
  case pos=>
  by_cases hj:refs.length=0
  case neg=>
   have HR:Hid (R=false):=HE true true false (qaC rfl) (qaC hi) (qa0 hj);have hib:((ints.length:Int) == 0)=true:=by simp;exact qcI.1 hi
   have hjb:((refs.length:Int) == 0)=false:=by simp;exact fun e=>hj (by rw [e];rfl)
   clear HE hi hj;exact JS
  case pos=>
   have HR:Hid (R=true):=HE true true true (qaC rfl) (qaC hi) (qaC hj);have hib:((ints.length:Int) == 0)=true:=by simp;exact qcI.1 hi
   have hjb:((refs.length:Int) == 0)=true:=by simp;exact qcI.1 hj
   clear HE hi hj;exact JS
theorem qfg {n:Int} {ss:List qj} (k:Nat) (hk:k<ss.length) (h:qL (ss.getD k qw).v=false):xZ n (ss.map (·.v))=false:=by
 have:(ss.map (·.v)).all qL=false:=by
  rw [qfw];exact ⟨(ss.getD k qw).v,qdn.2 ⟨_,xh hk,rfl⟩,by rw [h];decide⟩
 simp [xZ,this]
theorem qd0 {n:Int} {ss:List qj} (h:∀ j,j<ss.length→qL (ss.getD j qw).v=true):xZ n (ss.map (·.v))=inB n 0 1000000:=by
 have:(ss.map (·.v)).all qL=true:=by
  rw [qdt];intro v hv;obtain ⟨s,hs,rfl⟩:=qdn.1 hv;obtain ⟨j,hj,rfl⟩:=qfa hs;have:=h j hj
  simpa [List.getD,hj] using this
 simp [xZ,this]
theorem Xb (p:qA) (h4:p.ss.length=4) (w:World) (hr:jS w p.ss) (hl:Fit p.ss):
  Calls prog 111 #[.agg p.cells.toArray] w fun e w'=>e=.returned (.bool (xZ p.lsn (p.ss.map (·.v))))∧qa w w':=by
 obtain ⟨n,ss⟩:=p;simp only [qA.cells] at*
 obtain ⟨W,hW,b0,hbW,qD⟩:=qB w (.int .i64 n::cellsS ss) 48;have H4:Hid (ss.length=4):=h4;have kI:Hid (∀ k,k<ss.length→qL (ss.getD k qw).v=false→xZ n (ss.map (·.v))=false):=fun k hk h=>qfg k hk h
 have Ze:Hid ((∀ j,j<ss.length→qL (ss.getD j qw).v=true)→xZ n (ss.map (·.v))=inB n 0 1000000):=fun h=>qd0 h
 generalize xZ n (ss.map (·.v))=R at*
 clear qD h4;go_enter func111,ntmps111;go_wp2_with fail;rw [hW.out];clear hW;go_loopw [3] (fun i wr=>∃ (k:Nat),i=.int .i64 k∧k≤4∧Hid (∀ j,j<k→qL (ss.getD j qw).v=true)∧qa W wr)
  (fun i _=>4-(RowKit.intOf i).toNat)
 case atStart=>exact ⟨0,rfl,by omega,fun j hj=>by omega,qab _ _⟩
 case round=>
  obtain ⟨k,rfl,hk,hall,hbl⟩:=hrel;have Uf:=b0.below hbl b0.lt;have Ka:=qf hbW hbl;by_cases hlt:k<4
  ·have hkl:k<ss.length:=by rw [H4.out];exact hlt
   obtain ⟨c0,c1,c2,c3,_⟩:=Uf.GG k hkl;have hi0:(0:Int)≤(k:Int):=by omega
   have hi4:(k:Int)<4:=by omega
   have Vb:=(hr _ (xh hkl)).below Ka;have hlk:Fit [ss.getD k qw]:=fun s hs=>by obtain rfl:=qac.1 hs;exact hl _ (xh hkl)
   have C:=Yg (ss.getD k qw) wr Vb hlk;simp only [qj.cells] at C;cases hz:qL (ss.getD k qw).v with
   | false=>
    have HR:Hid (R=false):=kI.out k hkl hz;rw [hz] at C;clear hz;generalize ss.getD k qw=s at*
    go_wp2_with fail;refine C.mono ?_;rintro e w1 ⟨rfl,hb1⟩;go_wp2;go_ret;exact ⟨qm HR.out.symm,qf Ka hb1⟩
   | true=>
    have HN:Hid (∀ j,j<k+1→qL (ss.getD j qw).v=true):=by
     intro j hj;by_cases e:j=k
     ·rw [e];exact hz
     ·exact hall.out j (by omega)
    rw [hz] at C;clear hz Vb hlk;generalize hs:ss.getD k qw=s at*
    clear hs;go_wp2_with fail;refine C.mono ?_;rintro e w1 ⟨rfl,hb1⟩;clear C;go_wp2_with fail;go_roundw
    case rel=>exact ⟨k+1,by go_num,by omega,HN,qf hbl hb1⟩
    case measure=>simp [RowKit.intOf];omega
  ·have hkk:¬ (k:Int)<4:=by omega
   have HR:Hid (R=inB n 0 1000000):=Ze.out (fun j hj=>hall.out j (by rw [H4.out] at hj;omega));have c0:=Uf.cell 0 _ rfl;go_wp2_with fail;refine (j5 _ _ _ _).mono ?_;rintro e w' ⟨rfl,rfl⟩;go_wp2;go_ret;exact ⟨qm HR.out.symm,Ka⟩
end Go.Proofs.YtnfdccldabbobaaGreatDoor
