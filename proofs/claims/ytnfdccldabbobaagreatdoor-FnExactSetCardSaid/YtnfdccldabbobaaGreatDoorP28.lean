/- Texts. -/
import Derived.Test.YtnfdccldabbobaaGreatDoorP25
set_option maxHeartbeats 8000000
set_option maxRecDepth 100000
namespace Go.Proofs.YtnfdccldabbobaaGreatDoor
open Go.RowKit Go.Proofs.Tryz
section
open Go.ChangeShapes Go.WideShapes Go.ChangeAt Go.RowKit
structure iZ (w:World) (e:qb):Prop where
 shape:e.shape
 reads:e.reads w
 wide:e.wide
theorem chunks (f:Nat→qA):∀ (n:Nat) (cs:List Value),cs.length=n*17→(∀ i,i<n→(cs.drop (i*17)).take 17=(f i).cells)→cs=qx ((List.range n).map f):=by
 intro n
 induction n with
 | zero=>intro cs h _;simp only [Nat.zero_mul,qcI] at h;subst h;rfl
 | succ n ih=>
  intro cs h hf;have h1:=ih (cs.take (n*17)) (by rw [qdm];omega) (fun i hi=>by
   rw [List.drop_take,List.take_take,qf1 (by omega)];exact hf i (by omega))
  have h2:=hf n (by omega);rw [qdD (by rw [List.length_drop];omega)] at h2;rw [List.range_succ,qdd,qgp,Qb,uF,← h1,← h2];simp [qx]
section
variable {H:Type} {enc:TypeId × Value→H} {w:World} {base:Nat} {spare:Nat→Bool} {held:Bool}
theorem Tryz.TV:prog.cellsOf 132=2:=by kernel_rfl
theorem Tryz.qbo:prog.cellsOf 38=1:=by kernel_rfl
theorem Tryz.qbp:prog.cellsOf 37=1:=by kernel_rfl
theorem Tryz.qdV:prog.cellsOf 30=136:=by kernel_rfl
theorem Tryz.qdW:prog.cellsOf 40=144:=by kernel_rfl
theorem Tryz.qbq:prog.cellsOf 36=2:=by kernel_rfl
theorem I9 {fuel:Nat} {cs:List Value} {x:DataW H × List MemPlace} (h:DataW.trod enc prog w base spare held fuel 132 cs=some x):∃ t:qU,cs=t.cells:=by
 obtain ⟨xs,n,_,_,hlen,hxl,hf⟩:=qfC underlying132 h;rw [Tryz.TV] at hlen
 match cs,hlen with
 | [v0,v1],_=>
  have f0:=hf 0 _ rfl;have f1:=hf 1 _ rfl;obtain ⟨y0,hx0⟩:=jV xs 0 (by rw [hxl];decide);obtain ⟨y1,hx1⟩:=jV xs 1 (by rw [hxl];decide);rw [hx0] at f0;rw [hx1] at f1;simp only [qeM,qeF,qeG,Tryz.Ki,List.drop,List.take] at f0 f1;obtain ⟨a,e0,_⟩:=zl f0;obtain ⟨b,e1,_⟩:=zl f1;simp only [qfh,qgt] at e0 e1;subst e0 e1;exact ⟨⟨a,b⟩,rfl⟩
theorem ll {fuel:Nat} {cs:List Value} {x:DataW H × List MemPlace} (h:DataW.trod enc prog w base spare held fuel 38 cs=some x):
  ∃ (a:Option Addr) (c:Nat) (ls:List qU),cs=[.slice a ls.length c]∧yN w a ls∧ls.length≤maxLen:=by
 rcases DataW.trod_slice underlying38 h with ⟨rfl,_⟩ | ⟨a,len,cap,elems,rest,n,_,rfl,_,_,hl,hm,hlen,hel,_,_⟩
 ·exact ⟨none,0,[],rfl,yN.nil _ _,by simp⟩
 rw [Tryz.TV] at hel;have each:∀ i,i<len→∃ t:qU,w.cells? base (a.add (i*2)) 2=some t.cells:=by
  intro i hi;have hy:=hel i hi;rw [qcG (by omega:i<elems.length),Option.bind_eq_some_iff] at hy;obtain ⟨cs',hcs,hy'⟩:=hy;obtain ⟨t,e⟩:=I9 hy';exact ⟨t,by rw [hcs,e]⟩
 obtain ⟨f,hf⟩:∃ f:Nat→qU,∀ i,i<len→w.cells? base (a.add (i*2)) 2=some (f i).cells:=by
  refine ⟨fun i=>if h:i<len then (each i h).choose else jy,fun i hi=>?_⟩;simp only [dif_pos hi];exact (each i hi).choose_spec
 refine ⟨some a,cap,(List.range len).map f,by simp,?_,by simp;omega⟩;intro hne;have hpos:=qe9.2 hne;simp only [qa4,List.length_range] at hpos ⊢;obtain ⟨b,off,spot⟩:=a;have c0:=(qfR (hf 0 hpos)).2.2 0 (by decide);have hspot:spot=none:=by simpa [Addr.add] using World.cell?_spot c0
 subst hspot;refine ⟨b,off,rfl,fun k hk=>?_⟩;have e:((List.range len).map f).getD k jy=f k:=by simp [List.getD,hk]
 rw [e];have hc:=(qfR (hf k hk)).2.2;have d0:=hc 0 (by decide);have d1:=hc 1 (by decide);simp only [zI,qU.cells] at d0 d1;exact ⟨by simpa using d0,by simpa using d1⟩
theorem lq {fuel:Nat} {cs:List Value} {x:DataW H × List MemPlace} (h:DataW.trod enc prog w base spare held fuel 30 cs=some x) (hl:cs.length=136):
  ∃ ps:List qA,cs=qx ps∧vT ps∧∀ p∈ps,∀ s∈p.ss,Qj w s:=by
 obtain ⟨ys,m,_,_,_,hyl,hg⟩:=DataW.trod_array underlying30 h;have each:∀ i,i<8→∃ p:qA,(cs.drop (i*17)).take 17=p.cells∧p.ss.length=4∧∀ s∈p.ss,Qj w s:=by
  intro i hi;have g:=hg i hi;obtain ⟨y,hy⟩:=jV ys i (by omega);rw [hy,Tryz.NW] at g;obtain ⟨p,e,h4,_,hs⟩:=Wo g;exact ⟨p,e,h4,hs⟩
 obtain ⟨f,hf⟩:∃ f:Nat→qA,∀ i,i<8→(cs.drop (i*17)).take 17=(f i).cells∧(f i).ss.length=4∧∀ s∈(f i).ss,Qj w s:=by
  refine ⟨fun i=>if h:i<8 then (each i h).choose else jh,fun i hi=>?_⟩;simp only [dif_pos hi];exact (each i hi).choose_spec
 have hm:∀ p∈(List.range 8).map f,∃ i,i<8∧f i=p:=fun p hp=>by
  obtain ⟨i,hi,rfl⟩:=qdn.1 hp;exact ⟨i,qds.1 hi,rfl⟩
 refine ⟨(List.range 8).map f,chunks f 8 cs (by omega) (fun i hi=>(hf i hi).1),⟨by simp,fun p hp=>?_⟩,fun p hp=>?_⟩
 ·obtain ⟨i,hi,rfl⟩:=hm p hp;exact (hf i hi).2.1
 ·obtain ⟨i,hi,rfl⟩:=hm p hp;exact (hf i hi).2.2
theorem qbr {fuel:Nat} {cs:List Value} {x:DataW H × List MemPlace} (h:DataW.trod enc prog w base spare held fuel 40 cs=some x):
  ∃ e:qb,cs=e.cells∧iZ w e:=by
 obtain ⟨xs,n,_,_,hlen,hxl,hf⟩:=qfC underlying40 h;rw [Tryz.qdW] at hlen;obtain ⟨ds,rs,rfl,hds,hrs⟩:∃ ds rs,cs=ds++rs∧ds.length=136∧rs.length=8:=⟨cs.take 136,cs.drop 136,(qdJ _ _).symm,by rw [qdm];omega,by rw [List.length_drop];omega⟩
 match rs,hrs with
 | [v0,v1,v2,v3,v4,v5,v6,v7],_=>
  have f0:=hf 0 _ rfl;have f1:=hf 1 _ rfl;have f2:=hf 2 _ rfl;have f3:=hf 3 _ rfl;have f4:=hf 4 _ rfl;have f5:=hf 5 _ rfl;have f6:=hf 6 _ rfl;obtain ⟨y0,hx0⟩:=jV xs 0 (by rw [hxl];decide);obtain ⟨y1,hx1⟩:=jV xs 1 (by rw [hxl];decide);obtain ⟨y2,hx2⟩:=jV xs 2 (by rw [hxl];decide);obtain ⟨y3,hx3⟩:=jV xs 3 (by rw [hxl];decide);obtain ⟨y4,hx4⟩:=jV xs 4 (by rw [hxl];decide);obtain ⟨y5,hx5⟩:=jV xs 5 (by rw [hxl];decide);obtain ⟨y6,hx6⟩:=jV xs 6 (by rw [hxl];decide);rw [hx0] at f0;rw [hx1] at f1;rw [hx2] at f2;rw [hx3] at f3;rw [hx4] at f4;rw [hx5] at f5;rw [hx6] at f6;have dr:∀ k,(ds++[v0,v1,v2,v3,v4,v5,v6,v7]).drop (136+k)=[v0,v1,v2,v3,v4,v5,v6,v7].drop k:=fun k=>by rw [← hds,← List.drop_drop,List.drop_left]
  have d0:=dr 0;have d2:=dr 2;have d4:=dr 4;have d5:=dr 5;have d6:=dr 6;have d7:=dr 7;simp only [Nat.add_zero,Nat.reduceAdd] at d0 d2 d4 d5 d6 d7;simp only [qeM,qeF,qeG,Tryz.Ki,Tryz.GL,Tryz.qdV,Tryz.TW,Tryz.qbq,Tryz.qbp,Tryz.qbo,List.drop_zero] at f0 f1 f2 f3 f4 f5 f6;rw [← hds,List.take_left] at f0;rw [d0] at f1;rw [d2] at f2;rw [d4] at f3;rw [d5] at f4;rw [d6] at f5;rw [d7] at f6;simp only [List.drop,List.take] at f1 f2 f3 f4 f5 f6;obtain ⟨ps,e0,hp8,hps⟩:=lq f0 hds;obtain ⟨pl,e1,hpl⟩:=Di f1;obtain ⟨lg,e2,TY⟩:=BI f2;obtain ⟨aT,cT,ls,e3,hL,lL⟩:=GM f3;obtain ⟨aH,cH,hs,e4,hH,lH⟩:=ll f4;obtain ⟨nx,e5,_⟩:=zl f5;obtain ⟨dn,e6,_⟩:=DataW.trod_bool underlying4 f6;simp only [qo.cells,qI.cells,qfh,qgt] at e1 e2 e3 e4 e5 e6;obtain ⟨rfl,rfl⟩:=e1;obtain ⟨rfl,rfl⟩:=e2;subst e0 e3 e4 e5 e6;simp only [maxLen] at lL lH;refine ⟨⟨ps,pl.seats,pl.a,pl.c,pl.hand,lg,ls,aT,cT,hs,aH,cH,nx,dn⟩,rfl,⟨hp8.eight,hp8.four⟩,⟨fun p hp s hs=>(hps p hp s hs).reads,hpl.reads,TY.reads,hL,hH⟩,⟨fun p hp s hs=>?_,hpl.short,TY.short,by show ls.length≤_;omega,by show hs.length≤_;omega⟩⟩;have h1:=(hps p hp s hs).lI;have h2:=(hps p hp s hs).lR;simp only [maxLen] at h1 h2;omega
theorem qbs {b0:Nat} {v:Value} {d:DataW H} {ps:List MemPlace} (hval:Value.okWide prog w .any b0 40 v) (h:DataW.Trod enc prog w base spare held 40 v d ps):
  ∃ e:qb,v=.agg e.cells.toArray∧iZ w e:=by
 obtain ⟨cs,rfl,hcs⟩:=okWide_struct underlying40 hval;obtain ⟨fuel,hf⟩:=h;have e:(Value.agg cs).cells.toList=cs.toList:=rfl;rw [e] at hf;obtain ⟨r,hc,rest⟩:=qbr hf;refine ⟨r,?_,rest⟩;congr 1;rw [← hc]
end
end
theorem qb.xq {l t:qb} {m:Nat} (h:t.v=l.v) (hl:l.short m):t.short m:=by
 simp only [qb.v,qR.mk.injEq] at h;obtain ⟨h1,h2,h3,h4,h5,h6,_,_⟩:=h;refine ⟨fun p hp x hx=>?_,qo.xq (l:=l.qQ) (t:=t.qQ) (by simp only [qo.v,jM.mk.injEq];exact ⟨h2,h3⟩) hl.pool,qI.xq h4 hl.log,by rw [h5];exact hl.txs,by rw [h6];exact hl.holds⟩;have hm:(p.lsn,p.ss.map (·.v))∈t.disk.map (fun p=>(p.lsn,p.ss.map (·.v))):=qdn.2 ⟨p,hp,rfl⟩;rw [h1] at hm;obtain ⟨q,hq,he⟩:=qdn.1 hm;have hs:q.ss.map (·.v)=p.ss.map (·.v):=(Prod.mk.inj he).2;have hx':x.v∈p.ss.map (·.v):=qdn.2 ⟨x,hx,rfl⟩;rw [← hs] at hx';obtain ⟨y,hy,hv⟩:=qdn.1 hx';rw [← hv];exact hl.disk q hq y hy
theorem qb.jB {e:qb} (h:e.short 1048576):e.short 1099511627776:=
 ⟨fun p hp x hx=>by have:=h.disk p hp x hx;omega,qo.jB h.pool,qI.jB h.log,by have:=h.txs;omega,by have:=h.holds;omega⟩
theorem Us {P:Prop} (h:P:=by
 clear hx;go_wp2_with fail;go_roundw
 case rel=>exact ⟨k+1,by omega,by go_num,HK,nV⟩
 case measure=>simp [intOf];omega):P:=h
theorem iH (e:qb) (se:e.shape) (w:World) (re:e.reads w) (hl:e.short 1048576):
  Calls prog 125 #[.agg e.cells.toArray] w fun r w'=>r=.returned (.bool (uK e.v && inB e.next 1 1001))∧qa w w':=by
 have hvl:e.v.log.recs.length=e.log.recs.length:=by simp [qb.v,qI.v]
 have kI:Hid (∀ k,k<e.log.recs.length→uV e.v k=false→(uK e.v && inB e.next 1 1001)=false):=fun k hk h=>by (have:uK e.v=false:=Q7 k (by omega) h;rw [this];rfl)
 have QB:Hid ((∀ k,k<e.log.recs.length→uV e.v k=true)→(uK e.v && inB e.next 1 1001)=inB e.next 1 1001):=fun h=>by (have:uK e.v=true:=uP (fun k hk=>h k (by omega));rw [this];rfl)
 have HXA:Hid (∀ k,uV e.v k=decide ((e.log.recs.getD k qE).tx<e.next)):=fun k=>by (show decide (((e.log.recs.map ql.v).getD k qE.v).tx<e.next)=_;rw [Hw];rfl)
 obtain ⟨RB,Xy⟩:=Q4 ((uK e.v && inB e.next 1 1001));rw [Xy] at kI QB ⊢;clear Xy hvl;have hrl:e.log.recs.length≤1048576:=hl.log.len;obtain ⟨W,hW,b0,hbW,qD⟩:=qB w e.cells 59;have HB:Hid (∀ u,qa W u→Box u w.heap.size e.cells 59):=fun u hu=>b0.below hu b0.lt
 have HR:Hid (∀ u,qa W u→e.reads u):=fun u hu=>(re.below hbW).below hu
 have jr:Hid (∀ u,qa W u→qa w u):=fun u hu=>qf hbW hu
 have hw0:w.heap.size<W.heap.size:=by omega
 have N:qa W W:=qab _ _;clear b0 qD;obtain ⟨_,_,p2,_,_,_,_⟩:=qY se (HB.out W N);have l0:W.cell? ⟨w.heap.size,138,none⟩=some (.slice e.log.a e.log.recs.length e.log.c):=p2 0 _ rfl;clear p2 hl re;go_enter func125,ntmps125;go_upto_region 1 with fail;rw [hW.out];clear hW;go_wp2_with fail;clear l0;go_loopw [9] (fun i wr=>∃ k:Nat,k≤e.log.recs.length∧i=.int .i64 (k:Int)∧Hid (∀ j,j<k→uV e.v j=true)∧qa W wr) (fun i _=>e.log.recs.length-(intOf i).toNat)
 case atStart=>exact ⟨0,qaw _,rfl,fun j hj=>by omega,N⟩
 case round=>
  obtain ⟨k,hk,rfl,hall,hbr⟩:=hrel;clear N;have QF:=hbr.size;by_cases hlt:k<e.log.recs.length
  ·obtain ⟨b,off,ha,hc⟩:=(HR.out _ hbr).log (by intro e0;rw [e0] at hlt;simp at hlt);have hcr:wr.rangeAt b (off+k*15) (e.log.recs.getD k qE).cells:=(hc k hlt).1;have La:Hid (_=_):=HXA.out k;have HXN:Hid (_→_):=kI.out k hlt;rw [ha];clear hc ha;generalize e.log.recs.getD k qE=z at*
   obtain ⟨ZV,QJ,bZ,yF,zx⟩:=qB wr [.int .i64 0,.int .i64 0,.int .i64 0,.int .i64 0,.int .i64 0,.bool false,.int .i64 0,.slice none 0 0,.slice none 0 0,.bool false,.int .i64 0,.slice none 0 0,.slice none 0 0,.int .i64 0,.slice none 0 0] 124;obtain ⟨V,hV,XD,Kr,HT,_,bS⟩:=K4 z _ rfl bZ;have nb:qa wr V:=yF.trans (XD.below qg (by omega));have nV:=qf hbr nb;have EV:Hid (ZV.setCells wr.heap.size 0 z.cells.toArray.toList=V):=hV.out;have x1:=bS.cell 1 _ rfl;obtain ⟨_,_,_,_,_,p5,_⟩:=qY se (HB.out _ nV);have hkl:(k:Int)<(e.log.recs.length:Int):=by omega
   have hk0:(0:Int)≤(k:Int):=by omega
   clear bZ yF zx XD Kr hV nb bS;go_upto_region 4 with (first | (guard_target=qp 12;refine qH 124 11 b (off+k*15) (z.cells) hcr underlying124 (uE _) ?_) | (guard_target=ja 4;refine jb 124 4 12 wr.heap.size 0 z.cells.toArray (by rw [QJ.out];exact HT.out) (jG (uE _)) (Jq _) ?_) | fail);rw [QJ.out,EV.out];clear QJ EV HT hcr;by_cases hx:z.tx<e.next
   ·have Wp:¬ e.next≤z.tx:=by omega
    have HK:Hid (∀ j,j<k+1→uV e.v j=true):=fun j hj=>by
     by_cases q:j=k
     ·rw [q,La.out];exact qaC hx
     ·exact hall.out j (by omega)
    exact Us
   ·have Wp:e.next≤z.tx:=by omega
    have HE:Hid (RB=false∧qa w V):=⟨HXN.out (by rw [La.out];exact qa0 hx),jr.out _ nV⟩;clear hx;go_wp2;go_ret;exact ⟨qm HE.out.1.symm,HE.out.2⟩
  ·have e1:k=e.log.recs.length:=by omega
   have HE:Hid (RB=inB e.next 1 1001∧qa w wr):=⟨QB.out (by rw [e1] at hall;exact hall.out),jr.out _ hbr⟩;have hge:¬ (k:Int)<(e.log.recs.length:Int):=by omega
   obtain ⟨_,_,_,_,_,p5,_⟩:=qY se (HB.out _ hbr);clear hall e1;by_cases h1:1≤e.next
   ·by_cases h2:e.next≤1001
    ·have HF:Hid (RB=true):=by rw [Hid,HE.out.1];simp [inB,h1,h2]
     go_wp2;go_ret;exact ⟨qm HF.out.symm,HE.out.2⟩
    ·have HF:Hid (RB=false):=by rw [Hid,HE.out.1];simp [inB,h2]
     go_wp2;go_ret;exact ⟨qm HF.out.symm,HE.out.2⟩
   ·have HF:Hid (RB=false):=by rw [Hid,HE.out.1];simp [inB,h1]
    go_wp2;go_ret;exact ⟨qm HF.out.symm,HE.out.2⟩
theorem Sa (l:qI) (tx:Int) (w:World) (hr:l.reads w) (hl:l.recs.length≤1048576):
  Calls prog 156 #[.agg l.cells.toArray,.int .i64 tx] w fun r w'=>r=.returned (.int .i64 ((chainOf l.v tx).headD 0))∧qa w w':=by
 obtain ⟨W,hW,b0,hbW,qD⟩:=qB w l.cells 55;have r0:W.rangeAt w.heap.size 0 l.cells:=qN b0;have C:=fI l tx W (qI.reads.below hr hbW) hl;clear b0 qD;go_enter func156,ntmps156;go_wp2_with (first | (guard_target=qp 6;refine qH 55 2 w.heap.size 0 (l.cells) (by rw [hW.out];exact r0) underlying55 (yT _) ?_) | fail);rw [hW.out];clear hW r0;refine C.mono ?_;clear C;rintro r w1 ⟨a,c,ys,rfl,hy,oy,hb⟩;have n1:=qf hbW hb;have HY:Hid ((chainOf l.v tx).headD 0=ys.headD 0):=by rw [Hid,hy.out]
 have ry:=oy.reads;clear oy hy hb hbW;cases ys with
 | nil=>
  go_wp2;go_ret;exact ⟨jN HY.out.symm,n1⟩
 | cons y r=>
  obtain ⟨b,off,rfl,hc⟩:=ry (by simp);have c0:=hc 0 (by simp);simp only [Nat.add_zero,qfp] at c0;have Dj:Hid ((chainOf l.v tx).headD 0=y):=by rw [Hid,HY.out];rfl
  have hn0:(((y::r).length:Int) == 0)=false:=qcM.2 (by simp;omega);have hp:(0:Int)<((y::r).length:Int):=by simp only [qcS];omega
  have hpn:0<(y::r).length:=by simp
  clear hc HY ry;generalize y::r=ys at*
  go_wp2;go_ret;exact ⟨jN Dj.out.symm,n1⟩
theorem ny (tx:Int) (ls:List qM):∀ k,(∀ j,j<ls.length→(ls.getD j qz).tx≠tx)→xW tx ls k= -1:=by
 induction ls with
 | nil=>intro k _;rfl
 | cons l r ih=>
  intro k h;have h0:=h 0 (by simp);simp only [qfp] at h0;rw [xW,qa2 h0,ih (k+1) (fun j hj=>by have:=h (j+1) (by simpa using hj);simpa using this)]
theorem BJ (tx:Int) (ls:List qM):∀ k j,j<ls.length→(ls.getD j qz).tx=tx→0≤xW tx ls k:=by
 induction ls with
 | nil=>intro k j h;simp at h
 | cons l r ih=>
  intro k j hj h;rw [xW];split
  ·omega
  ·rename_i hn
   cases j with
   | zero=>simp only [qfp] at h;exact absurd h hn
   | succ j=>exact ih (k+1) j (by simpa using hj) (by simpa using h)
theorem NQ (a:Option Addr) (c:Nat) (ls:List qM) (tx:Int) (w:World) (hr:kQ w a ls) (hl:ls.length≤1099511627776):
  Calls prog 157 #[.slice a ls.length c,.int .i64 tx] w fun r w'=>r=.returned (.bool (decide (0≤jC ls tx)))∧qa w w':=by
 have HY:Hid (∀ k,k<ls.length→(ls.getD k qz).tx=tx→decide (0≤jC ls tx)=true):=fun k hk h=>qaC (BJ tx ls 0 k hk h)
 have HN:Hid ((∀ k,k<ls.length→(ls.getD k qz).tx≠tx)→decide (0≤jC ls tx)=false):=fun h=>qa0 (by (unfold jC;rw [ny tx ls 0 h];omega))
 have HR:Hid (kQ w a ls):=hr;generalize decide (0≤jC ls tx)=RB at*
 clear hr;go_enter func157,ntmps157;go_wp2_with fail;go_loopw [9] (fun i wr=>∃ k:Nat,k≤ls.length∧i=.int .i64 (k:Int)∧Hid (∀ j,j<k→(ls.getD j qz).tx≠tx)∧qa w wr) (fun i _=>ls.length-(intOf i).toNat)
 case atStart=>exact ⟨0,qaw _,rfl,fun j hj=>by omega,qab _ _⟩
 case round=>
  obtain ⟨k,hk,rfl,hall,hbr⟩:=hrel;by_cases hlt:k<ls.length
  ·obtain ⟨b,off,rfl,hc⟩:=(HR.out.below hbr) (by intro e0;rw [e0] at hlt;simp at hlt);obtain ⟨c0,c1,c2⟩:=hc k hlt;have Lb:Hid (_→_):=HY.out k hlt;obtain ⟨t,ht⟩:=qV (ls.getD k qz);rw [ht.out] at c0 c1 c2 Lb;clear hc;obtain ⟨V,hV,bV,uo,Yy⟩:=qB wr [.int .i64 t.tx,.int .i64 t.last,.bool t.aborts] 115;have nV:=qf hbr uo;have x0:=bV.cell 0 _ rfl;have hkl:(k:Int)<(ls.length:Int):=by omega
   have hk0:(0:Int)≤(k:Int):=by omega
   clear uo Yy bV;go_upto_region 4 with fail;rw [hV.out];clear hV c0 c1 c2;by_cases hx:t.tx=tx
   ·have hxb:(t.tx == tx)=true:=by simp [hx]
    have HE:Hid (RB=true):=Lb.out hx;clear hx;go_wp2;go_ret;exact ⟨qm HE.out.symm,nV⟩
   ·have hxb:(t.tx == tx)=false:=by simpa using hx
    have HK:Hid (∀ j,j<k+1→(ls.getD j qz).tx≠tx):=fun j hj=>by
     by_cases q:j=k
     ·rw [q,ht.out];exact hx
     ·exact hall.out j (by omega)
    exact Us
  ·have e1:k=ls.length:=by omega
   have HE:Hid (RB=false):=HN.out (by rw [e1] at hall;exact hall.out);have hge:¬ (k:Int)<(ls.length:Int):=by omega
   clear hall e1;go_wp2;go_ret;exact ⟨qm HE.out.symm,hbr⟩
def Ku (ls:List qM) (k:Nat):Int:=if k=0 then 0 else (ls.getD (k-1) qz).tx
theorem XO {P:Prop} (h:P:=by
 refine wU HS D0 fun qc=>?_
 generalize V.drew=d0 at*
 iterate 25 refine jv ?_
 refine qau (by kernel_rfl) ?_ _;clear qc;have HE:Hid (xR=false∧qa w d0):=⟨KU.out vK.out,jr.out _ N2⟩;go_wp2;go_ret;exact ⟨qm HE.out.1.symm,HE.out.2⟩):P:=h
theorem Ik (e:qb) (se:e.shape) (w:World) (re:e.reads w) (hl:e.short 1048576) (ZP:xJ e.log.v=true):
  Calls prog 126 #[.agg e.cells.toArray] w fun r w'=>r=.returned (.bool (decide (e.txs.length≤6) && Q8 e.v))∧qa w w':=by
 have kI:Hid (∀ k,k<e.txs.length→vJ e.v k=false→(decide (e.txs.length≤6) && Q8 e.v)=false):=fun k hk h=>by (have:Q8 e.v=false:=Q7 k hk h;rw [this,Bool.and_false])
 have QB:Hid (e.txs.length≤6→(∀ k,k<e.txs.length→vJ e.v k=true)→(decide (e.txs.length≤6) && Q8 e.v)=true):=fun h6 h=>by (have:Q8 e.v=true:=uP h;rw [this,qaC h6];rfl)
 have lu:Hid (¬ e.txs.length≤6→(decide (e.txs.length≤6) && Q8 e.v)=false):=fun h=>by (rw [qa0 h];rfl)
 have Xz:Hid (∀ k,vJ e.v k=(inB (e.txs.getD k qz).tx 1 (e.next-1) && (!(e.txs.getD k qz).aborts && (decide ((e.txs.getD k qz).last=lastOf (e.log.recs.map ql.v) (e.txs.getD k qz).tx) && (decide (k=0) || decide ((e.txs.getD (k-1) qz).tx<(e.txs.getD k qz).tx)))))):=fun k=>rfl
 have HLH:Hid (∀ tx,1≤tx→(chainOf e.log.v tx).headD 0=lastOf (e.log.recs.map ql.v) tx):=fun tx h=>Lc ZP tx h
 obtain ⟨xR,Xy⟩:=Q4 ((decide (e.txs.length≤6) && Q8 e.v));rw [Xy] at kI QB lu ⊢;clear Xy ZP;have hlt:=hl.txs;have hrl:e.log.recs.length≤1048576:=hl.log.len;obtain ⟨W,hW,b0,hbW,qD⟩:=qB w e.cells 59;have HB:Hid (∀ u,qa W u→Box u w.heap.size e.cells 59):=fun u hu=>b0.below hu b0.lt
 have HR:Hid (∀ u,qa W u→e.reads u):=fun u hu=>(re.below hbW).below hu
 have jr:Hid (∀ u,qa W u→qa w u):=fun u hu=>qf hbW hu
 have hw0:w.heap.size<W.heap.size:=by omega
 have N:qa W W:=qab _ _;clear b0 qD;obtain ⟨_,_,_,p3,_,_,_⟩:=qY se (HB.out W N);clear hl re;go_enter func126,ntmps126;go_upto_region 1 with fail;rw [hW.out];clear hW;by_cases h6:e.txs.length≤6
 ·have h6i:¬ (6:Int)<(e.txs.length:Int):=by omega
  have HY6:Hid (_→_):=QB.out h6;clear lu QB h6;go_wp2_with fail;clear p3 h6i;go_loopw [3,13] (fun ah i wr=>∃ k:Nat,k≤e.txs.length∧i=.int .i64 (k:Int)∧ah=.int .i64 (Ku e.txs k)∧Hid (∀ j,j<k→vJ e.v j=true)∧Hid (0≤Ku e.txs k)∧qa W wr) (fun _ i _=>e.txs.length-(intOf i).toNat)
  case atStart=>exact ⟨0,qaw _,rfl,rfl,fun j hj=>by omega,by show (0:Int)≤0;omega,N⟩
  case round=>
   obtain ⟨k,hk,rfl,rfl,hall,hah,hbr⟩:=hrel;clear N;have QF:=hbr.size;by_cases hlt2:k<e.txs.length
   ·obtain ⟨b,off,ha,hc⟩:=(HR.out _ hbr).txs (by intro e0;rw [e0] at hlt2;simp at hlt2);obtain ⟨c0,c1,c2⟩:=hc k hlt2;have JC:Hid (_=_):=Xz.out k;have KU:Hid (_→_):=kI.out k hlt2;have HAN:Hid (Ku e.txs (k+1)=(e.txs.getD k qz).tx):=by rw [Hid,Ku,qa2 (by omega),Nat.add_sub_cancel]
    have HAK:Hid ((k=0∧Ku e.txs k=0)∨(k≠0∧Ku e.txs k=(e.txs.getD (k-1) qz).tx)):=by
     by_cases q:k=0
     ·exact .inl ⟨q,by rw [Ku,qan q]⟩
     ·exact .inr ⟨q,by rw [Ku,qa2 q]⟩
    rw [ha];clear hc ha;generalize e.txs.getD k qz=t at*
    generalize Ku e.txs k=ah at*
    obtain ⟨V,hV,bV,uo,Yy⟩:=qB wr [.int .i64 t.tx,.int .i64 t.last,.bool t.aborts] 115;have nV:=qf hbr uo;obtain ⟨ab,hab⟩:=qV t.aborts;have HS:Hid (∀ u,qa V u→(u.cell? ⟨wr.heap.size,0,none⟩=some (.int .i64 t.tx)∧u.cell? ⟨wr.heap.size,1,none⟩=some (.int .i64 t.last)∧u.cell? ⟨wr.heap.size,2,none⟩=some (.bool ab)∧u.cell? ⟨w.heap.size,142,none⟩=some (.int .i64 e.next)∧u.rangeAt w.heap.size 138 e.log.cells)):=fun u hu=>by
     have bu:=bV.below hu bV.lt;obtain ⟨_,_,q2,_,_,q5,_⟩:=qY se (HB.out u (qf nV hu));have z2:=bu.cell 2 _ rfl;rw [hab.out] at z2;exact ⟨bu.cell 0 _ rfl,bu.cell 1 _ rfl,z2,q5,q2⟩
    have CL:=fun u (hu:qa V u)=>Sa e.log t.tx u (HR.out _ (qf nV hu)).log hrl
    have hkl:(k:Int)<(e.txs.length:Int):=by omega
    have hk0:(0:Int)≤(k:Int):=by omega
    have Ld:=bV.lt;clear bV uo Yy;go_upto_region 7 with fail;rw [hV.out];clear hV c0 c1 c2;have D0:qa V V.drew:=(qab _ _).drew;have N2:qa W V.drew:=qf nV D0;by_cases hA:t.tx≤ah
    ·have vK:Hid (vJ e.v k=false):=by
      rw [Hid,JC.out];rcases HAK.out with ⟨q,h0⟩ | ⟨q,h1⟩
      ·have:inB t.tx 1 (e.next-1)=false:=by unfold inB;exact qa0 (by omega)
       rw [this];rfl
      ·have h2:decide ((e.txs.getD (k-1) qz).tx<t.tx)=false:=qa0 (by omega);rw [h2,qa0 q];simp
     exact XO
    ·have hAn:ah<t.tx:=by omega
     have HGE:Hid (0≤t.tx):=by have:=hah.out;rw [Hid];omega
     by_cases hB:e.next≤t.tx
     ·have vK:Hid (vJ e.v k=false):=by
       have:inB t.tx 1 (e.next-1)=false:=by unfold inB;exact qa0 (by omega)
       rw [Hid,JC.out,this];rfl
      exact XO
     ·have hBn:t.tx<e.next:=by omega
      have BK:Hid (inB t.tx 1 (e.next-1)=true):=by have:=hah.out;rw [Hid];unfold inB;exact qaC (by omega)
      have HPR:Hid ((decide (k=0) || decide ((e.txs.getD (k-1) qz).tx<t.tx))=true):=by
       rcases HAK.out with ⟨q,_⟩ | ⟨q,h1⟩
       ·rw [Hid,qaC q];rfl
       ·rw [Hid,qaC (show (e.txs.getD (k-1) qz).tx<t.tx by omega),Bool.or_true]
      obtain ⟨Hy,BL⟩:=qV ((chainOf e.log.v t.tx).headD 0);have HLE:Hid (lastOf (e.log.recs.map ql.v) t.tx=Hy):=by have:=hah.out;rw [Hid,← BL.out];exact (HLH.out t.tx (by omega)).symm
      cases ab with
      | true=>
       have vK:Hid (vJ e.v k=false):=by rw [Hid,JC.out,BK.out,hab.out];rfl
       exact XO
      | false=>
       by_cases hD:t.last=Hy
       ·have hDb:(t.last != Hy)=false:=by simp [hD]
        have Hz:Hid (∀ j,j<k+1→vJ e.v j=true):=fun j hj=>by
         by_cases q:j=k
         ·rw [q,JC.out,BK.out,hab.out,HLE.out,qaC hD,HPR.out];rfl
         ·exact hall.out j (by omega)
        clear hD;refine wU HS D0 fun qc=>?_
        generalize V.drew=d0 at*
        iterate 19 refine jv ?_
        refine xB 19 (e.log.cells) (fun _ h=>h.2.2.2.2) underlying55 ((yT _)) ?_
        iterate 2 refine jv ?_
        refine jc 22 (fun K hK=>?_);go_simp;refine (CL _ D0).mono ?_;rintro r d1 ⟨rfl,hb1⟩;have D1:=qf D0 hb1;have N3:=qf nV D1;rw [BL.out];refine qX hK (HS.out _ D1) fun qc=>?_
        clear hK K hb1;try simp only [zz]
        iterate 2 refine jv ?_
        refine qau (by kernel_rfl) ?_ _;clear qc;have y0:=(HS.out _ D1).1;go_wp2_with fail;go_roundw
        case rel=>exact ⟨k+1,by omega,by go_num,by rw [HAN.out],Hz,by rw [Hid,HAN.out];exact HGE.out,N3⟩
        case measure=>simp [intOf];omega
       ·have hDb:(t.last != Hy)=true:=by simpa using hD
        have vK:Hid (vJ e.v k=false):=by rw [Hid,JC.out,BK.out,hab.out,HLE.out,qa0 hD];rfl
        clear hD;refine wU HS D0 fun qc=>?_
        generalize V.drew=d0 at*
        iterate 19 refine jv ?_
        refine xB 19 (e.log.cells) (fun _ h=>h.2.2.2.2) underlying55 ((yT _)) ?_
        iterate 2 refine jv ?_
        refine jc 22 (fun K hK=>?_);go_simp;refine (CL _ D0).mono ?_;rintro r d1 ⟨rfl,hb1⟩;have D1:=qf D0 hb1;have N3:=qf nV D1;rw [BL.out];refine qX hK (HS.out _ D1) fun qc=>?_
        clear hK K hb1;try simp only [zz]
        iterate 2 refine jv ?_
        refine qau (by kernel_rfl) ?_ _;clear qc;have HE:Hid (xR=false∧qa w d1):=⟨KU.out vK.out,jr.out _ N3⟩;go_wp2;go_ret;exact ⟨qm HE.out.1.symm,HE.out.2⟩
   ·have e1:k=e.txs.length:=by omega
    have HE:Hid (xR=true∧qa w wr):=⟨HY6.out (by rw [e1] at hall;exact hall.out),jr.out _ hbr⟩;have hge:¬ (k:Int)<(e.txs.length:Int):=by omega
    clear hall e1;go_wp2;go_ret;exact ⟨qm HE.out.1.symm,HE.out.2⟩
 ·have h6i:(6:Int)<(e.txs.length:Int):=by omega
  have HE:Hid (xR=false∧qa w W):=⟨lu.out h6,jr.out _ N⟩;clear h6;go_wp2;go_ret;exact ⟨qm HE.out.1.symm,HE.out.2⟩
end Go.Proofs.YtnfdccldabbobaaGreatDoor
