/- Several texts in one, in their order. -/
import Derived.Test.YtjkckhfddgeboaaGreatDoorPGetx11
import Derived.Test.YtjkckhfddgeboaaGreatDoorPGetx6
import Derived.Test.YtjkckhfddgeboaaGreatDoorPGetx9
import Derived.Test.YtjkckhfddgeboaaGreatDoorPGetx3
import Derived.Test.YtjkckhfddgeboaaGreatDoorPGetx7
import Derived.Deep.Cut
import Derived.Test.YtjkckhfddgeboaaGreatDoorPGetx4
import Derived.Test.YtjkckhfddgeboaaGreatDoorPGetx10
import Derived.Test.YtjkckhfddgeboaaGreatDoorPGetx5
import Derived.Deep.RegionLaw
import Derived.Deep.DrawnRows
import Derived.Test.YtjkckhfddgeboaaGreatDoorPGetx8
import Derived.Test.YtjkckhfddgeboaaGreatDoorPGetx2
import Derived.Test.YtjkckhfddgeboaaGreatDoorPGetx1
import Derived.Deep.MidRow
set_option maxHeartbeats 8000000
set_option maxRecDepth 100000
namespace Go.Proofs.YtjkckhfddgeboaaGreatDoor
open Go.ChangeShapes Go.WideShapes Go.ChangeAt Go.RowKit
structure Be (w:World) (e:qa):Prop where
 shape:e.shape
 reads:e.reads w
 wide:e.wide
theorem chunks (f:Nat→qw):∀ (n:Nat) (cs:List Value),cs.length=n*17→(∀ i,i<n→(cs.drop (i*17)).take 17=(f i).cells)→cs=qj ((List.range n).map f):=by
 intro n
 induction n with
 | zero=>intro cs h _;simp only [Nat.zero_mul,List.length_eq_zero_iff] at h;subst h;rfl
 | succ n ih=>
  intro cs h hf;have h1:=ih (cs.take (n*17)) (by rw [List.length_take];omega) (fun i hi=>by
   rw [List.drop_take,List.take_take,Nat.min_eq_left (by omega)];exact hf i (by omega))
  have h2:=hf n (by omega);rw [List.take_of_length_le (by rw [List.length_drop];omega)] at h2;rw [List.range_succ,List.map_append,List.map_singleton,vM,wS,← h1,← h2];simp [qj]
section
variable {H:Type} {enc:TypeId × Value→H} {w:World} {base:Nat} {spare:Nat→Bool} {held:Bool}
theorem Tryz.rD:Tryz.prog.cellsOf 244=2:=by kernel_rfl
theorem Tryz.iM:Tryz.prog.cellsOf 75=1:=by kernel_rfl
theorem Tryz.iN:Tryz.prog.cellsOf 74=1:=by kernel_rfl
theorem Tryz.Ei:Tryz.prog.cellsOf 67=136:=by kernel_rfl
theorem Tryz.Ej:Tryz.prog.cellsOf 77=144:=by kernel_rfl
theorem Tryz.iO:Tryz.prog.cellsOf 73=2:=by kernel_rfl
theorem Tu {fuel:Nat} {cs:List Value} {x:DataW H × List MemPlace} (h:DataW.trod enc Tryz.prog w base spare held fuel 244 cs=some x):∃ t:qJ,cs=t.cells:=by
 obtain ⟨xs,n,_,_,hlen,hxl,hf⟩:=DataW.trod_struct Tryz.underlying244 h;rw [Tryz.rD] at hlen
 match cs,hlen with
 | [v0,v1],_=>
  have f0:=hf 0 _ rfl;have f1:=hf 1 _ rfl;obtain ⟨y0,hx0⟩:=jm xs 0 (by rw [hxl];decide);obtain ⟨y1,hx1⟩:=jm xs 1 (by rw [hxl];decide);rw [hx0] at f0;rw [hx1] at f1;simp only [List.getElem_toArray,List.getElem_cons_zero,List.getElem_cons_succ,Tryz.Jw,List.drop,List.take] at f0 f1;obtain ⟨a,e0,_⟩:=yc f0;obtain ⟨b,e1,_⟩:=yc f1;simp only [List.cons.injEq,and_true] at e0 e1;subst e0 e1;exact ⟨⟨a,b⟩,rfl⟩
theorem CO {fuel:Nat} {cs:List Value} {x:DataW H × List MemPlace} (h:DataW.trod enc Tryz.prog w base spare held fuel 75 cs=some x):
  ∃ (a:Option Addr) (c:Nat) (ls:List qJ),cs=[.slice a ls.length c]∧yt w a ls∧ls.length≤maxLen:=by
 rcases DataW.trod_slice Tryz.underlying75 h with ⟨rfl,_⟩ | ⟨a,len,cap,elems,rest,n,_,rfl,_,_,hl,hm,hlen,hel,_,_⟩
 ·exact ⟨none,0,[],rfl,yt.nil _ _,by simp⟩
 rw [Tryz.rD] at hel;have each:∀ i,i<len→∃ t:qJ,w.cells? base (a.add (i*2)) 2=some t.cells:=by
  intro i hi;have hy:=hel i hi;rw [List.getElem?_eq_getElem (by omega:i<elems.length),Option.bind_eq_some_iff] at hy;obtain ⟨cs',hcs,hy'⟩:=hy;obtain ⟨t,e⟩:=Tu hy';exact ⟨t,by rw [hcs,e]⟩
 obtain ⟨f,hf⟩:∃ f:Nat→qJ,∀ i,i<len→w.cells? base (a.add (i*2)) 2=some (f i).cells:=by
  refine ⟨fun i=>if h:i<len then (each i h).choose else qY,fun i hi=>?_⟩;simp only [dif_pos hi];exact (each i hi).choose_spec
 refine ⟨some a,cap,(List.range len).map f,by simp,?_,by simp;omega⟩;intro hne;have hpos:=List.length_pos_iff.2 hne;simp only [List.length_map,List.length_range] at hpos ⊢;obtain ⟨b,off,spot⟩:=a;have c0:=(World.cells?_some (hf 0 hpos)).2.2 0 (by decide);have hspot:spot=none:=by simpa [Addr.add] using World.cell?_spot c0
 subst hspot;refine ⟨b,off,rfl,fun k hk=>?_⟩;have e:((List.range len).map f).getD k qY=f k:=by simp [List.getD,hk]
 rw [e];have hc:=(World.cells?_some (hf k hk)).2.2;have d0:=hc 0 (by decide);have d1:=hc 1 (by decide);simp only [yS,qJ.cells] at d0 d1;exact ⟨by simpa using d0,by simpa using d1⟩
theorem CP {fuel:Nat} {cs:List Value} {x:DataW H × List MemPlace} (h:DataW.trod enc Tryz.prog w base spare held fuel 67 cs=some x) (hl:cs.length=136):
  ∃ ps:List qw,cs=qj ps∧zS ps∧∀ p∈ps,∀ s∈p.ss,uD w s:=by
 obtain ⟨ys,m,_,_,_,hyl,hg⟩:=DataW.trod_array Tryz.underlying67 h;have each:∀ i,i<8→∃ p:qw,(cs.drop (i*17)).take 17=p.cells∧p.ss.length=4∧∀ s∈p.ss,uD w s:=by
  intro i hi;have g:=hg i hi;obtain ⟨y,hy⟩:=jm ys i (by omega);rw [hy,Tryz.dw] at g;obtain ⟨p,e,h4,_,hs⟩:=V3 g;exact ⟨p,e,h4,hs⟩
 obtain ⟨f,hf⟩:∃ f:Nat→qw,∀ i,i<8→(cs.drop (i*17)).take 17=(f i).cells∧(f i).ss.length=4∧∀ s∈(f i).ss,uD w s:=by
  refine ⟨fun i=>if h:i<8 then (each i h).choose else qM,fun i hi=>?_⟩;simp only [dif_pos hi];exact (each i hi).choose_spec
 have hm:∀ p∈(List.range 8).map f,∃ i,i<8∧f i=p:=fun p hp=>by
  obtain ⟨i,hi,rfl⟩:=List.mem_map.1 hp;exact ⟨i,List.mem_range.1 hi,rfl⟩
 refine ⟨(List.range 8).map f,chunks f 8 cs (by omega) (fun i hi=>(hf i hi).1),⟨by simp,fun p hp=>?_⟩,fun p hp=>?_⟩
 ·obtain ⟨i,hi,rfl⟩:=hm p hp;exact (hf i hi).2.1
 ·obtain ⟨i,hi,rfl⟩:=hm p hp;exact (hf i hi).2.2
theorem iP {fuel:Nat} {cs:List Value} {x:DataW H × List MemPlace} (h:DataW.trod enc Tryz.prog w base spare held fuel 77 cs=some x):
  ∃ e:qa,cs=e.cells∧Be w e:=by
 obtain ⟨xs,n,_,_,hlen,hxl,hf⟩:=DataW.trod_struct Tryz.underlying77 h;rw [Tryz.Ej] at hlen;obtain ⟨ds,rs,rfl,hds,hrs⟩:∃ ds rs,cs=ds++rs∧ds.length=136∧rs.length=8:=⟨cs.take 136,cs.drop 136,(List.take_append_drop _ _).symm,by rw [List.length_take];omega,by rw [List.length_drop];omega⟩
 match rs,hrs with
 | [v0,v1,v2,v3,v4,v5,v6,v7],_=>
  have f0:=hf 0 _ rfl;have f1:=hf 1 _ rfl;have f2:=hf 2 _ rfl;have f3:=hf 3 _ rfl;have f4:=hf 4 _ rfl;have f5:=hf 5 _ rfl;have f6:=hf 6 _ rfl;obtain ⟨y0,hx0⟩:=jm xs 0 (by rw [hxl];decide);obtain ⟨y1,hx1⟩:=jm xs 1 (by rw [hxl];decide);obtain ⟨y2,hx2⟩:=jm xs 2 (by rw [hxl];decide);obtain ⟨y3,hx3⟩:=jm xs 3 (by rw [hxl];decide);obtain ⟨y4,hx4⟩:=jm xs 4 (by rw [hxl];decide);obtain ⟨y5,hx5⟩:=jm xs 5 (by rw [hxl];decide);obtain ⟨y6,hx6⟩:=jm xs 6 (by rw [hxl];decide);rw [hx0] at f0;rw [hx1] at f1;rw [hx2] at f2;rw [hx3] at f3;rw [hx4] at f4;rw [hx5] at f5;rw [hx6] at f6;have dr:∀ k,(ds++[v0,v1,v2,v3,v4,v5,v6,v7]).drop (136+k)=[v0,v1,v2,v3,v4,v5,v6,v7].drop k:=fun k=>by rw [← hds,← List.drop_drop,List.drop_left]
  have d0:=dr 0;have d2:=dr 2;have d4:=dr 4;have d5:=dr 5;have d6:=dr 6;have d7:=dr 7;simp only [Nat.add_zero,Nat.reduceAdd] at d0 d2 d4 d5 d6 d7;simp only [List.getElem_toArray,List.getElem_cons_zero,List.getElem_cons_succ,Tryz.Jw,Tryz.mM,Tryz.Ei,Tryz.rF,Tryz.iO,Tryz.iN,Tryz.iM,List.drop_zero] at f0 f1 f2 f3 f4 f5 f6;rw [← hds,List.take_left] at f0;rw [d0] at f1;rw [d2] at f2;rw [d4] at f3;rw [d5] at f4;rw [d6] at f5;rw [d7] at f6;simp only [List.drop,List.take] at f1 f2 f3 f4 f5 f6;obtain ⟨ps,e0,hp8,hps⟩:=CP f0 hds;obtain ⟨pl,e1,hpl⟩:=GI f1;obtain ⟨lg,e2,bU⟩:=Nf f2;obtain ⟨aT,cT,ls,e3,hL,lL⟩:=mO f3;obtain ⟨aH,cH,hs,e4,hH,lH⟩:=CO f4;obtain ⟨nx,e5,_⟩:=yc f5;obtain ⟨dn,e6,_⟩:=DataW.trod_bool Tryz.underlying4 f6;simp only [qi.cells,qz.cells,List.cons.injEq,and_true] at e1 e2 e3 e4 e5 e6;obtain ⟨rfl,rfl⟩:=e1;obtain ⟨rfl,rfl⟩:=e2;subst e0 e3 e4 e5 e6;simp only [maxLen] at lL lH;refine ⟨⟨ps,pl.seats,pl.a,pl.c,pl.hand,lg,ls,aT,cT,hs,aH,cH,nx,dn⟩,rfl,⟨hp8.eight,hp8.four⟩,⟨fun p hp s hs=>(hps p hp s hs).reads,hpl.reads,bU.reads,hL,hH⟩,⟨fun p hp s hs=>?_,hpl.short,bU.short,by show ls.length≤_;omega,by show hs.length≤_;omega⟩⟩;have h1:=(hps p hp s hs).lI;have h2:=(hps p hp s hs).lR;simp only [maxLen] at h1 h2;omega
theorem aA {b0:Nat} {v:Value} {d:DataW H} {ps:List MemPlace} (hval:Value.okWide Tryz.prog w .any b0 77 v) (h:DataW.Trod enc Tryz.prog w base spare held 77 v d ps):
  ∃ e:qa,v=.agg e.cells.toArray∧Be w e:=by
 obtain ⟨cs,rfl,hcs⟩:=okWide_struct Tryz.underlying77 hval;obtain ⟨fuel,hf⟩:=h;have e:(Value.agg cs).cells.toList=cs.toList:=rfl;rw [e] at hf;obtain ⟨r,hc,rest⟩:=iP hf;refine ⟨r,?_,rest⟩;congr 1;rw [← hc]
end
end Go.Proofs.YtjkckhfddgeboaaGreatDoor
namespace Go.Proofs.YtjkckhfddgeboaaGreatDoor
open Go.RowKit
theorem qa.yC {l t:qa} {m:Nat} (h:t.v=l.v) (hl:l.short m):t.short m:=by
 simp only [qa.v,ji.mk.injEq] at h;obtain ⟨h1,h2,h3,h4,h5,h6,_,_⟩:=h;refine ⟨fun p hp x hx=>?_,qi.yC (l:=l.qB) (t:=t.qB) (by simp only [qi.v,jN.mk.injEq];exact ⟨h2,h3⟩) hl.pool,qz.yC h4 hl.log,by rw [h5];exact hl.txs,by rw [h6];exact hl.holds⟩;have hm:(p.lsn,p.ss.map (·.v))∈t.disk.map (fun p=>(p.lsn,p.ss.map (·.v))):=List.mem_map.2 ⟨p,hp,rfl⟩;rw [h1] at hm;obtain ⟨q,hq,he⟩:=List.mem_map.1 hm;have hs:q.ss.map (·.v)=p.ss.map (·.v):=(Prod.mk.inj he).2;have hx':x.v∈p.ss.map (·.v):=List.mem_map.2 ⟨x,hx,rfl⟩;rw [← hs] at hx';obtain ⟨y,hy,hv⟩:=List.mem_map.1 hx';rw [← hv];exact hl.disk q hq y hy
theorem qa.qZ {e:qa} (h:e.short 1048576):e.short 1099511627776:=
 ⟨fun p hp x hx=>by have:=h.disk p hp x hx;omega,qi.qZ h.pool,qz.qZ h.log,by have:=h.txs;omega,by have:=h.holds;omega⟩
theorem dL (s t:qf) (w:World) (hs:s.reads w) (ht:t.reads w) (hls:Fit [s]) (hlt:Fit [t]):
  Calls Tryz.prog 251 #[.agg s.cells.toArray,.agg t.cells.toArray] w fun e w'=>e=.returned (.bool (xe s.v t.v))∧Below w.heap.size w w':=by
 obtain ⟨h1,h2⟩:=hls s (List.mem_singleton.2 rfl);obtain ⟨h3,h4⟩:=hlt t (List.mem_singleton.2 rfl);obtain ⟨W,hW,b0,b1,hbW,qp⟩:=jf w s.cells t.cells 28 28;have C1:=Yp s.v.o t.v.o s.aI s.cI s.aR s.cR t.aI t.cI t.aR t.cR W (qQ.below hs hbW) (qQ.below ht hbW) h1 h2 h3 h4;have HZ:Hid (xe s.v t.v=((s.v.has == t.v.has) && yK s.v.o t.v.o)):=rfl;generalize xe s.v t.v=R at*
 simp only [qf.cells] at*
 obtain ⟨x0,x1,x2,x3,_⟩:=b0.four;obtain ⟨y0,y1,y2,y3,_⟩:=b1.four;clear qp b0 b1;cases hb:(s.v.has == t.v.has) with
 | false=>
  have HR:Hid (R=false):=by rw [Hid,HZ.out];simp [hb]
  clear HZ C1;go_enter Tryz.func251,Tryz.ntmps251;go_wp2;go_ret;exact ⟨qd HR.out.symm,by rw [hW.out];exact hbW⟩
 | true=>
  have HR:Hid (R=yK s.v.o t.v.o):=by rw [Hid,HZ.out];simp [hb]
  clear HZ;go_enter Tryz.func251,Tryz.ntmps251;go_wp2_with fail;rw [hW.out];refine C1.mono ?_;clear C1 x0 x1 x2 x3 y0 y1 y2 y3;rintro e w1 ⟨rfl,hb1⟩;go_wp2;go_ret;exact ⟨qd HR.out.symm,hbW.trans (hb1.mono hbW.size)⟩
def Uk (a b:List jy):Bool:=(List.range 4).all fun i=>xe (a.getD i qh.v) (b.getD i qh.v)
def yR (a b:Int × List jy):Bool:=Uk a.2 b.2 && decide (a.1=b.1)
theorem GJ {a b:Int × List jy} (i:Nat) (hi:i<4) (h:xe (a.2.getD i qh.v) (b.2.getD i qh.v)=false):yR a b=false:=by
 have:Uk a.2 b.2=false:=by
  rw [Uk,List.all_eq_false];exact ⟨i,List.mem_range.2 hi,by rw [h];decide⟩
 rw [yR,this,Bool.false_and]
theorem nC {a b:Int × List jy} (h:∀ i,i<4→xe (a.2.getD i qh.v) (b.2.getD i qh.v)=true):yR a b=decide (a.1=b.1):=by
 have:Uk a.2 b.2=true:=by
  rw [Uk,List.all_eq_true];exact fun i hi=>h i (List.mem_range.1 hi)
 rw [yR,this,Bool.true_and]
theorem Qh (ss:List qf) (k:Nat):(ss.map (·.v)).getD k qh.v=(ss.getD k qh).v:=by
 simp only [List.getD,List.getElem?_map];cases ss[k]? <;>rfl
theorem Ql (s:qf):(Tryz.prog.info? 28).map (·.size)=some s.cells.length:=by show _=some 4;kernel_rfl
theorem OC (s:qf):∀ v∈s.cells,v.oneCell'=true:=by
 intro v hv;simp only [qf.cells,List.mem_cons,List.not_mem_nil,or_false] at hv;rcases hv with rfl | rfl | rfl | rfl<;>rfl
theorem WE {w:World} {B:Nat} {t:TypeId} {n:Int} {ss:List qf} (b:Box w B (qw.cells ⟨n,ss⟩) t) (k:Nat) (hk:k<ss.length):w.rangeAt B (1+k*4) (ss.getD k qh).cells:=by
 intro j v hv;have hj:j<4:=(List.getElem?_eq_some_iff.1 hv).1;have e:=u7 ss k j hk hj;refine b.cell (1+k*4+j) v ?_;show (Value.int .i64 n::cellsS ss)[1+k*4+j]? =some v;rw [show 1+k*4+j=(k*4+j)+1 by omega,List.getElem?_cons_succ,e];exact hv
theorem Zk (p q:qw) (hp:p.ss.length=4) (hq:q.ss.length=4) (w:World) (rp:jK w p.ss) (rq:jK w q.ss) (fp:Fit p.ss) (fq:Fit q.ss):
  Calls Tryz.prog 170 #[.agg p.cells.toArray,.agg q.cells.toArray] w fun e w'=>e=.returned (.bool (yR (p.lsn,p.ss.map (·.v)) (q.lsn,q.ss.map (·.v))))∧Below w.heap.size w w':=by
 have jP:Hid (∀ i,i<4→xe (p.ss.getD i qh).v (q.ss.getD i qh).v=false→yR (p.lsn,p.ss.map (·.v)) (q.lsn,q.ss.map (·.v))=false):=fun i hi h=>GJ i hi (by rw [Qh,Qh];exact h)
 have xP:Hid ((∀ i,i<4→xe (p.ss.getD i qh).v (q.ss.getD i qh).v=true)→yR (p.lsn,p.ss.map (·.v)) (q.lsn,q.ss.map (·.v))=decide (p.lsn=q.lsn)):=fun h=>nC (fun i hi=>by rw [Qh,Qh];exact h i hi)
 generalize yR (p.lsn,p.ss.map (·.v)) (q.lsn,q.ss.map (·.v))=RR at*
 obtain ⟨n,ss⟩:=p;obtain ⟨m,ts⟩:=q;simp only at*
 obtain ⟨W,hW,b0,b1,hbW,qp⟩:=jf w (qw.cells ⟨n,ss⟩) (qw.cells ⟨m,ts⟩) 31 31;have HB:Hid (∀ u,Below W.heap.size W u→Box u w.heap.size (qw.cells ⟨n,ss⟩) 31∧Box u (w.heap.size+1) (qw.cells ⟨m,ts⟩) 31):=fun u hu=>⟨b0.below hu b0.lt,b1.below hu b1.lt⟩
 clear qp b0 b1;go_enter Tryz.func170,Tryz.ntmps170;go_wp2_with fail;rw [hW.out];clear hW;go_loopw [5] (fun i wr=>∃ k:Nat,k≤4∧i=.int .i64 (k:Int)∧Hid (∀ i,i<k→xe (ss.getD i qh).v (ts.getD i qh).v=true)∧Below W.heap.size W wr) (fun i _=>4-(intOf i).toNat)
 case atStart=>exact ⟨0,Nat.zero_le _,rfl,fun i hi=>by omega,Below.refl _ _⟩
 case round=>
  obtain ⟨k,hk,rfl,hall,hbr⟩:=hrel;by_cases hlt:k<4
  ·have HR:Hid (∀ u,Below W.heap.size W u→u.rangeAt w.heap.size (1+k*4) (ss.getD k qh).cells∧u.rangeAt (w.heap.size+1) (1+k*4) (ts.getD k qh).cells):=fun u hu=>⟨WE (HB.out u hu).1 k (by omega),WE (HB.out u hu).2 k (by omega)⟩
   have R1:=rp _ (jV (k:=k) (by omega:k<ss.length));have R2:=rq _ (jV (k:=k) (by omega:k<ts.length));have F1:=fp _ (jV (k:=k) (by omega:k<ss.length));have F2:=fq _ (jV (k:=k) (by omega:k<ts.length));have Q8:=jP.out k hlt;have HK:Hid (∀ b,xe (ss.getD k qh).v (ts.getD k qh).v=b→b=true→∀ i,i<k+1→xe (ss.getD i qh).v (ts.getD i qh).v=true):=fun b hb hb2 i hi=>by
    by_cases e:i=k
    ·rw [e,hb];exact hb2
    ·exact hall.out i (by omega)
   have iQ:Hid (_):=Q8;clear Q8;generalize ss.getD k qh=s at*
   generalize ts.getD k qh=t at*
   have hi0:(0:Int)≤(k:Int):=by omega
   have hi4:(k:Int)<4:=by omega
   go_wp2_with fail;have D0:Below W.heap.size W wr.drew:=hbr.trans ((Below.refl _ _).drew.mono hbr.size);refine wp_region_held_drew (S:=fun u=>u.rangeAt w.heap.size (1+k*4) s.cells∧u.rangeAt (w.heap.size+1) (1+k*4) t.cells) (by kernel_rfl) (HR.out _ D0) (fun hHeld=>?_);generalize wr.drew=d0 at*
   refine tr 0 (.int .i64 (k:Int)) ?_;refine tr 1 (.pointer (some ⟨w.heap.size,1,none⟩)) ?_;refine tr 2 (.pointer (some ⟨w.heap.size,1+k*4,none⟩)) ?_;refine Go.Proofs.YtjkckhfddgeboaaGreatDoor.ts 3 rfl (yieldsIf_load_mid (by rfl) _ _ rfl _ _ rfl (s.cells) _ (fun _ h=>h.1) Tryz.underlying28 rfl (Ql _)) ?_;refine tr 4 (.int .i64 (k:Int)) ?_;refine tr 5 (.pointer (some ⟨w.heap.size+1,1,none⟩)) ?_;refine tr 6 (.pointer (some ⟨w.heap.size+1,1+k*4,none⟩)) ?_;refine Go.Proofs.YtjkckhfddgeboaaGreatDoor.ts 7 rfl (yieldsIf_load_mid (by rfl) _ _ rfl _ _ rfl (t.cells) _ (fun _ h=>h.2) Tryz.underlying28 rfl (Ql _)) ?_;refine wpAnyH_ready (rs:=[8]) (by kernel_rfl) (by simp) ?_;refine AllReadyH.cons rfl (fun K hK=>?_) AllReadyH.nil;go_simp;refine (dL s t _ (qQ.below R1 (hbW.trans (D0.mono hbW.size))) (qQ.below R2 (hbW.trans (D0.mono hbW.size))) (fun x hx=>by obtain rfl:=List.mem_singleton.1 hx;exact F1) (fun x hx=>by obtain rfl:=List.mem_singleton.1 hx;exact F2)).mono ?_;rintro e d1 ⟨rfl,hb1⟩;have D1:Below W.heap.size W d1:=D0.trans (hb1.mono D0.size);refine hK.out _ _ (HR.out _ D1) (fun hHeld=>?_);clear hK K hb1;try simp only [zz]
   obtain ⟨bb,hsm⟩:∃ bb,Hid (xe s.v t.v=bb):=⟨_,rfl⟩;rw [hsm.out];cases bb with
   | true=>
    refine tr 9 (.bool false) ?_;refine wpAnyH_done (by kernel_rfl) ?_ _;clear hHeld;go_wp2_with fail;go_roundw
    case rel=>exact ⟨k+1,by omega,by go_num,HK.out _ hsm.out rfl,D1⟩
    case measure=>simp [intOf];omega
   | false=>
    refine tr 9 (.bool true) ?_;refine wpAnyH_done (by kernel_rfl) ?_ _;clear hHeld;have HE:Hid (RR=false∧Below w.heap.size w d1):=⟨iQ.out hsm.out,hbW.trans (D1.mono hbW.size)⟩;go_wp2;go_ret;exact ⟨qd HE.out.1.symm,HE.out.2⟩
  ·obtain rfl:k=4:=by omega
   have hkk:¬ ((4:Nat):Int)<4:=by omega
   have HE:Hid (RR=decide (n=m)∧Below w.heap.size w wr):=⟨xP.out hall.out,hbW.trans (hbr.mono hbW.size)⟩;have x0:=(HB.out _ hbr).1.cell 0 _ rfl;have y0:=(HB.out _ hbr).2.cell 0 _ rfl;by_cases hnm:n=m
   ·subst hnm;go_wp2;go_ret;exact ⟨qd (by rw [HE.out.1];simp),HE.out.2⟩
   ·have hne:(n == m)=false:=by simpa using hnm
    go_wp2;go_ret;exact ⟨qd (by rw [HE.out.1];simp [hnm]),HE.out.2⟩
theorem Xj (p q:qw) (hp:p.ss.length=4) (hq:q.ss.length=4) (w:World) (rp:jK w p.ss) (rq:jK w q.ss) (fp:Fit p.ss) (fq:Fit q.ss):
  Calls Tryz.prog 162 #[.agg p.cells.toArray,.agg q.cells.toArray] w fun e w'=>e=.returned (.bool (yR (p.lsn,p.ss.map (·.v)) (q.lsn,q.ss.map (·.v))))∧Below w.heap.size w w':=by
 have jP:Hid (∀ i,i<4→xe (p.ss.getD i qh).v (q.ss.getD i qh).v=false→yR (p.lsn,p.ss.map (·.v)) (q.lsn,q.ss.map (·.v))=false):=fun i hi h=>GJ i hi (by rw [Qh,Qh];exact h)
 have xP:Hid ((∀ i,i<4→xe (p.ss.getD i qh).v (q.ss.getD i qh).v=true)→yR (p.lsn,p.ss.map (·.v)) (q.lsn,q.ss.map (·.v))=decide (p.lsn=q.lsn)):=fun h=>nC (fun i hi=>by rw [Qh,Qh];exact h i hi)
 generalize yR (p.lsn,p.ss.map (·.v)) (q.lsn,q.ss.map (·.v))=RR at*
 obtain ⟨n,ss⟩:=p;obtain ⟨m,ts⟩:=q;simp only at*
 obtain ⟨W,hW,b0,b1,hbW,qp⟩:=jf w (qw.cells ⟨n,ss⟩) (qw.cells ⟨m,ts⟩) 31 31;have HB:Hid (∀ u,Below W.heap.size W u→Box u w.heap.size (qw.cells ⟨n,ss⟩) 31∧Box u (w.heap.size+1) (qw.cells ⟨m,ts⟩) 31):=fun u hu=>⟨b0.below hu b0.lt,b1.below hu b1.lt⟩
 clear qp b0 b1;have hrg0:W.rangeAt w.heap.size 1 (cellsS ss):=Box.range [.int .i64 n] (cellsS ss) [] (by rw [List.append_nil];exact (HB.out _ (Below.refl _ _)).1);have OD:(Tryz.prog.info? 29).map (·.size)=some (cellsS ss).length:=by rw [jq,hp];kernel_rfl
 go_enter Tryz.func162,Tryz.ntmps162;go_wp2_with (first | (guard_target=wpList _ _ _ (Oper.mk (some 8) _ _ _ _ _::_) _ _;refine wpList_load_mid rfl 29 (.tmp 7) rfl w.heap.size 1 rfl (cellsS ss) _ (by rw [hW.out];exact hrg0) Tryz.underlying29 rfl OD ?_) | fail);rw [hW.out];clear hW hrg0 OD;go_loopw [9] (fun i wr=>∃ k:Nat,k≤4∧i=.int .i64 (k:Int)∧Hid (∀ i,i<k→xe (ss.getD i qh).v (ts.getD i qh).v=true)∧Below W.heap.size W wr) (fun i _=>4-(intOf i).toNat)
 case atStart=>exact ⟨0,Nat.zero_le _,rfl,fun i hi=>by omega,Below.refl _ _⟩
 case round=>
  obtain ⟨k,hk,rfl,hall,hbr⟩:=hrel;by_cases hlt:k<4
  ·have HR1:Hid (∀ u,Below W.heap.size W u→u.rangeAt (w.heap.size+1) (1+k*4) (ts.getD k qh).cells):=fun u hu=>WE (HB.out u hu).2 k (by omega)
   have R1:=rp _ (jV (k:=k) (by omega:k<ss.length));have R2:=rq _ (jV (k:=k) (by omega:k<ts.length));have F1:=fp _ (jV (k:=k) (by omega:k<ss.length));have F2:=fq _ (jV (k:=k) (by omega:k<ts.length));have Q8:=jP.out k hlt;have HK:Hid (∀ b,xe (ss.getD k qh).v (ts.getD k qh).v=b→b=true→∀ i,i<k+1→xe (ss.getD i qh).v (ts.getD i qh).v=true):=fun b hb hb2 i hi=>by
    by_cases e:i=k
    ·rw [e,hb];exact hb2
    ·exact hall.out i (by omega)
   have iQ:Hid (_):=Q8;have hix:=Qi ss hp k hlt;clear Q8;generalize ss.getD k qh=s at*
   generalize ts.getD k qh=t at*
   have hi0:(0:Int)≤(k:Int):=by omega
   have hi4:(k:Int)<4:=by omega
   obtain ⟨ZV,uB,bZ,uY,Xh⟩:=qx wr [.bool false,.int .i64 0,.slice none 0 0,.slice none 0 0] 28;obtain ⟨V,hV,bS0,Kl,Km⟩:=jb [] [.bool false,.int .i64 0,.slice none 0 0,.slice none 0 0] s.cells [] (by simpa using bZ) rfl;have bS:Box V wr.heap.size s.cells 28:=by simpa using bS0
   have HT:Hid (ZV.there wr.heap.size 0 s.cells.toArray.size):=bZ.there 0 _ (by show 0+4≤4;decide);have HV:Hid (ZV.setCells wr.heap.size 0 s.cells.toArray.toList=V):=hV.out;have nb:Below wr.heap.size wr V:=uY.trans (Kl.below (Nat.le_refl _) (by omega));have D:Below W.heap.size W V:=hbr.trans (nb.mono hbr.size);have l6:=bS.lt;have HR:Hid (∀ u,Below V.heap.size V u→u.rangeAt wr.heap.size 0 s.cells∧u.rangeAt (w.heap.size+1) (1+k*4) t.cells):=fun u hu=>⟨Box.range [] s.cells [] (by simpa using bS.below hu bS.lt),HR1.out u (D.trans (hu.mono D.size))⟩
   clear bZ uY Xh hV bS0 Kl Km bS;go_upto_region 4 with (first | (guard_target=wpList _ _ _ (Oper.mk none (Op.store _ (Operand.tmp 6) _) _ _ _ _::_) _ _;refine wpList_store_mid rfl 28 (.tmp 6) (.tmp 12) rfl wr.heap.size 0 s.cells.toArray rfl rfl (by rw [uB.out];exact HT.out) (by rw [List.size_toArray];exact Ql _) (all_oneCell_toArray (OC s)) ?_) | fail);rw [uB.out,HV.out];clear uB HV HT hix;have D0:Below V.heap.size V V.drew:=(Below.refl _ _).drew;refine wp_region_held_drew (S:=fun u=>u.rangeAt wr.heap.size 0 s.cells∧u.rangeAt (w.heap.size+1) (1+k*4) t.cells) (by kernel_rfl) (HR.out _ D0) (fun hHeld=>?_);generalize V.drew=d0 at*
   refine Go.Proofs.YtjkckhfddgeboaaGreatDoor.ts 0 rfl (yieldsIf_load_mid (by rfl) _ _ rfl _ _ rfl (s.cells) _ (fun _ h=>h.1) Tryz.underlying28 rfl (Ql _)) ?_;refine tr 1 (.int .i64 (k:Int)) ?_;refine tr 2 (.pointer (some ⟨w.heap.size+1,1,none⟩)) ?_;refine tr 3 (.pointer (some ⟨w.heap.size+1,1+k*4,none⟩)) ?_;refine Go.Proofs.YtjkckhfddgeboaaGreatDoor.ts 4 rfl (yieldsIf_load_mid (by rfl) _ _ rfl _ _ rfl (t.cells) _ (fun _ h=>h.2) Tryz.underlying28 rfl (Ql _)) ?_;refine wpAnyH_ready (rs:=[5]) (by kernel_rfl) (by simp) ?_;refine AllReadyH.cons rfl (fun K hK=>?_) AllReadyH.nil;have RB:Below w.heap.size w d0:=hbW.trans ((D.trans (D0.mono D.size)).mono hbW.size);go_simp;refine (QX s t _ (qQ.below R1 RB) (qQ.below R2 RB) (fun x hx=>by obtain rfl:=List.mem_singleton.1 hx;exact F1) (fun x hx=>by obtain rfl:=List.mem_singleton.1 hx;exact F2)).mono ?_;rintro e d1 ⟨rfl,hb1⟩;have DV:Below V.heap.size V d1:=D0.trans (hb1.mono D0.size);have D1:Below W.heap.size W d1:=D.trans (DV.mono D.size);refine hK.out _ _ (HR.out _ DV) (fun hHeld=>?_);clear hK K hb1;try simp only [zz]
   obtain ⟨bb,hsm⟩:∃ bb,Hid (xe s.v t.v=bb):=⟨_,rfl⟩;rw [hsm.out];cases bb with
   | true=>
    refine tr 6 (.bool false) ?_;refine wpAnyH_done (by kernel_rfl) ?_ _;clear hHeld;go_wp2_with fail;go_roundw
    case rel=>exact ⟨k+1,by omega,by go_num,HK.out _ hsm.out rfl,D1⟩
    case measure=>simp [intOf];omega
   | false=>
    refine tr 6 (.bool true) ?_;refine wpAnyH_done (by kernel_rfl) ?_ _;clear hHeld;have HE:Hid (RR=false∧Below w.heap.size w d1):=⟨iQ.out hsm.out,hbW.trans (D1.mono hbW.size)⟩;go_wp2;go_ret;exact ⟨qd HE.out.1.symm,HE.out.2⟩
  ·obtain rfl:k=4:=by omega
   have hkk:¬ ((4:Nat):Int)<4:=by omega
   have HE:Hid (RR=decide (n=m)∧Below w.heap.size w wr):=⟨xP.out hall.out,hbW.trans (hbr.mono hbW.size)⟩;have x0:=(HB.out _ hbr).1.cell 0 _ rfl;have y0:=(HB.out _ hbr).2.cell 0 _ rfl;by_cases hnm:n=m
   ·subst hnm;go_wp2;go_ret;exact ⟨qd (by rw [HE.out.1];simp),HE.out.2⟩
   ·have hne:(n == m)=false:=by simpa using hnm
    go_wp2;go_ret;exact ⟨qd (by rw [HE.out.1];simp [hnm]),HE.out.2⟩
theorem nD {w:World} (ty:TypeId) (lo hi:Nat) (a:Option Addr) (c:Nat) (rs:List qb) (hown:OwnSts w lo hi a c rs)
  (b off:Nat) (sc:Nat) (q:qb) (hr:w.rangeAt b off q.cells) (l u:Nat) (hq:q.own w l u) (hl:hi≤l) (hu:u≤w.heap.size)
  (hb:rs.length+1≤68719476736) (hlo:lo≤hi):
  ∃ a' c' w',(Builtin.append_ #[33,33] ty #[.slice a rs.length c,.slice (some ⟨b,off,none⟩) 1 sc]).run Tryz.prog w=.ok (.slice a' (rs++[q]).length c') w'∧OwnSts w' lo w'.heap.size a' c' (rs++[q])∧w.grownBy w' (Value.slice a rs.length c).ownBlock∧
   (∀ k,(Value.slice a' (rs++[q]).length c').ownBlock=some k→(Value.slice a rs.length c).ownBlock=some k∨k=w.heap.size):=by
 obtain ⟨i0,hi0,hz0,hz1,hz2⟩:=info_parts Tryz.ZH;have xB:=hq.ql;have htop:=hown.top;obtain ⟨v',w',hrun,h1,h2,_,h5⟩:=run_append_own_at (P:=Tryz.prog) w lo 33 ty 167 i0 (.agg qc.cells.toArray) 20 280 Tryz.underlying33 hi0 hz0 hz1 hz2 rfl (by decide) _ _ _ hown.row ⟨b,off,none⟩ 1 sc q.cells (by rfl) (by
  intro j v hj;rw [yS];exact hr j v hj) (gQ q) (by simp only [maxLen];omega) (by omega) (by omega)
 have e:jr rs++q.cells=jr (rs++[q]):=by rw [yU,xV];simp [jr]
 have e2:rs.length+1=(rs++[q]).length:=by simp
 rw [e,e2] at h1;have sh:∃ a' c',v'=.slice a' (rs++[q]).length c':=by
  rcases h1.2 with ⟨rfl,h0⟩ | ⟨g,cap,cur,rfl,_⟩
  ·simp at h0
  ·exact ⟨_,_,rfl⟩
 obtain ⟨a',c',rfl⟩:=sh;have hsz:=h2.size;have ht:Touch (Value.slice a rs.length c).ownBlock.toList w w':=Touch.jw h2 (fun k hk=>Option.mem_toList.2 hk);have hrow:=h1.lt;have hold:∀ r∈rs,r.own w' lo w'.heap.size:=fun r hr=>((hown.each r hr).touch ht (fun k hk hk'=>(List.nodup_append.1 hown.apart).2.2 k hk' k (List.mem_flatMap.2 ⟨r,hr,hk⟩) rfl)).widen (Nat.le_refl _) (by omega) (Nat.le_refl _)
 have hnew:q.own w' lo w'.heap.size:=(hq.touch ht (fun k hk hk'=>by have:=xB k hk;have:=hown.blk k (Option.mem_toList.1 hk');omega)).widen (by omega) (by omega) (Nat.le_refl _);refine ⟨a',c',w',hrun,⟨h1,Nat.le_refl _,fun k hk=>(hrow k hk).2,fun r hr=>?_,?_⟩,h2,fun k hk=>h5.elim (fun h5=>.inl (by rw [← h5];exact hk)) (fun h5=>by rw [h5] at hk;exact .inr (Option.some.inj hk).symm)⟩
 ·rcases List.mem_append.1 hr with hr | hr
  ·exact hold r hr
  ·obtain rfl:=List.mem_singleton.1 hr;exact hnew
 ·rw [List.flatMap_append,List.nodup_append,List.nodup_append];have hap:=(List.nodup_append.1 hown.apart).2.1;have hin:∀ x∈rs.flatMap qb.blocks,lo≤x∧x<hi:=fun x hx=>by
   obtain ⟨r,hr,hx⟩:=List.mem_flatMap.1 hx;exact (hown.each r hr).ql x hx
  refine ⟨by cases (Value.slice a' (rs++[q]).length c').ownBlock<;>simp,⟨hap,by simpa using hq.apart,fun x hx y hy e=>?_⟩,fun x hx y hy e=>?_⟩
  ·have:=hin x hx;simp only [List.flatMap_cons,List.flatMap_nil,List.append_nil] at hy;have:=xB y hy;omega
  ·have hx':=Option.mem_toList.1 hx;subst e;rcases List.mem_append.1 hy with hy | hy
   ·obtain ⟨r,hr,hy⟩:=List.mem_flatMap.1 hy;exact wK h1 (hold r hr) x hx' hy
   ·simp only [List.flatMap_cons,List.flatMap_nil,List.append_nil] at hy;exact wK h1 hnew x hx' hy
theorem wY {w:World} {ops:Array Oper} {o:Oper} {act:Act} {K:Act→World→Prop} {Q:Exit→Act→World→Prop} {E:Prop} (hgd:o.guard=none) (s x:Operand)
  (ho:o.op=.call { callee:=.builtin .append,args:=#[s,x],argTypes:=#[33,33] })
  (lo hi:Nat) (a:Option Addr) (c:Nat) (rs:List qb) (hs:act.eval s=.slice a rs.length c) (hown:OwnSts w lo hi a c rs)
  (b off:Nat) (sc:Nat) (q:qb) (hx:act.eval x=.slice (some ⟨b,off,none⟩) 1 sc) (hr:w.rangeAt b off q.cells) (l u:Nat) (hq:q.own w l u) (hl:hi≤l) (hu:u≤w.heap.size)
  (hb:rs.length+1≤68719476736) (hlo:lo≤hi)
  (h:∀ a' c' w',OwnSts w' lo w'.heap.size a' c' (rs++[q])→w.grownBy w' (Value.slice a rs.length c).ownBlock→(∀ k,(Value.slice a' (rs++[q]).length c').ownBlock=some k→(Value.slice a rs.length c).ownBlock=some k∨k=w.heap.size)→K (act.put o.dst (.slice a' (rs++[q]).length c')) w'):
  if Region.wanted o (yielded ops act.tmps)=true then Oper.wp Tryz.prog o act w K Q else E:=by
 have hw:Region.wanted o (yielded ops act.tmps)=true:=by simp [Region.wanted,hgd]
 rw [if_pos hw];obtain ⟨a',c',w',hrun,h2,h3,h4⟩:=nD (w:=w) o.type lo hi a c rs hown b off sc q hr l u hq hl hu hb hlo;unfold Oper.wp;simp [execOp,ho,resolve,invoke,builtin,hs,hx,hrun,Result.andThen];have:=h a' c' w' h2 h3 h4;rw [List.length_append,List.length_singleton] at this;exact this
end Go.Proofs.YtjkckhfddgeboaaGreatDoor
namespace Go.Proofs.YtjkckhfddgeboaaGreatDoor
open Go.RowKit
attribute [local go_sem ↓] Go.wp_at_zero Go.wp_at_succ
theorem CQ {ts:List qf} (h:ts.length=4):∃ a b c d,ts=[a,b,c,d]:=by
 match ts,h with
 | [a,b,c,d],_=>exact ⟨a,b,c,d,rfl⟩
def jX (ss:List jc) (h:Nat) (new:jc):List jc × Nat × jc × Bool:=
 if ss.length<3 then (ss++[new],h,qD,false) else ((qL 4 ss h).1.set (qL 4 ss h).2.2 new,(qL 4 ss h).2.1,(qL 4 ss h).1.getD (qL 4 ss h).2.2 qD,true)
structure Xe (lo B o:Nat) (vs:List Value) (t:TypeId) (a:Option Addr) (c:Nat) (ss:List qb) (w w':World) (ts:List qb) (a':Option Addr) (c' hand':Nat) (old:qb):Prop where
 pool:JB w' lo w'.heap.size B o ((vs.set o (.slice a' ts.length c')).set (o+1) (.int .i64 hand')) t a' c' ts hand'
 fresh:∀ k∈qo a' c' ts,k∈qo a c ss∨w.heap.size≤k
 touch:Touch (B::qo a c ss) w w'
 went:old.own w' lo w'.heap.size
 wentB:∀ k∈old.blocks,k∈qo a c ss
def iR (lo B o:Nat) (vs:List Value) (t:TypeId) (a:Option Addr) (c:Nat) (ss:List qb) (h:Nat) (new:jc) (w:World) (r:Ending) (w':World):Prop:=
 ∃ (ts:List qb) (a':Option Addr) (c' hand':Nat) (old:qb) (went:Bool),r=.returned (.tuple #[.agg old.cells.toArray,.bool went])∧Hid (jX (ss.map qb.v) h new=(ts.map qb.v,hand',old.v,went))∧Xe lo B o vs t a c ss w w' ts a' c' hand' old
theorem JB.below {w w':World} {lo hi B o:Nat} {vs:List Value} {t:TypeId} {a:Option Addr} {c:Nat} {ss:List qb} {hand:Int} (h:JB w lo hi B o vs t a c ss hand) (hb:Below w.heap.size w w'):JB w' lo hi B o vs t a c ss hand:=
 ⟨h.box.below hb h.box.lt,h.c0,h.c1,h.own.below hb,h.off⟩
theorem Tv (w:World) (lo hi:Nat) (h:hi≤w.heap.size):qh.own w lo hi:=⟨QY w lo hi h,QY w lo hi h,fun k h1 _=>by cases h1⟩
theorem Z8:qc.blocks=[]:=rfl
theorem nE (w:World) (lo hi:Nat) (h:hi≤w.heap.size):qc.own w lo hi:=⟨fun s hs=>by
 simp only [qb.ss,qc,List.mem_cons,List.not_mem_nil,or_false] at hs;have:s=qh:=by rcases hs with h | h | h | h<;>exact h
 subst this;exact Tv w lo hi h,by show ([]:List Nat).Nodup;simp⟩
theorem nG {vs:List Value} {o:Nat} {x y:Value} (h:vs[o+1]? =some y):(vs.set o x).set (o+1) y=vs.set o x:=by
 have h1:(vs.set o x)[o+1]? =some y:=by rw [List.getElem?_set_ne (by omega)];exact h
 obtain ⟨_,h2⟩:=List.getElem?_eq_some_iff.1 h1;rw [← h2,List.set_getElem_self]
theorem UK (lo hi B o:Nat) (vs:List Value) (t:TypeId) (a:Option Addr) (c:Nat) (ss:List qb) (h:Nat) (no:Int) (pg:qw) (w:World) (hp:JB w lo hi B o vs t a c ss h) (hlo:lo≤hi) (h3:ss.length≤3) (hh:h<3) (h4:pg.ss.length=4) (hr:jK w pg.ss) (hl:Fit pg.ss):
  Calls Tryz.prog 230 #[.pointer (some ⟨B,o,none⟩),.int .i64 no,.agg pg.cells.toArray] w fun r w'=>iR lo B o vs t a c ss h ⟨no,pg.lsn,pg.ss.map (·.v),false,true⟩ w r w':=by
 obtain ⟨W,hW,b0,b1,hbW,qp⟩:=jf w pg.cells qc.cells 31 167;have Jl:Hid ((Tryz.prog.info? 31).map (·.size)=some pg.cells.length):=by rw [Hid,jo pg h4];kernel_rfl
 have wQ:Hid (W.rangeAt w.heap.size 0 pg.cells):=Box.range [] pg.cells [] (by simpa using b0);have hws:w.heap.size+1<W.heap.size:=by omega
 have hW':Hid ((w.alloc (.cells pg.cells.toArray 31)).alloc (.cells #[.int .i64 0,.int .i64 0,.bool false,.int .i64 0,.slice none 0 0,.slice none 0 0,.bool false,.int .i64 0,.slice none 0 0,.slice none 0 0,.bool false,.int .i64 0,.slice none 0 0,.slice none 0 0,.bool false,.int .i64 0,.slice none 0 0,.slice none 0 0,.bool false,.bool false] 167)=W):=hW.out;have htop:=hp.own.top;have hBlt:=hp.box.lt;clear qp hW b0;go_enter Tryz.func230,Tryz.ntmps230;go_upto_region 1 with fail;rw [hW'.out];clear hW';go_wp2_with (first | (guard_target=wpList _ _ _ (Oper.mk (some 12) _ _ _ _ _::_) _ _;refine wpList_load_mid rfl 31 (.tmp 5) rfl w.heap.size 0 rfl pg.cells _ wQ.out Tryz.underlying31 rfl Jl.out ?_) | fail);refine (K6 pg h4 W (hr.below hbW) hl).mono ?_;rintro e w2 ⟨ts,rfl,hts,ho2,hb2⟩;obtain ⟨x0,x1,x2,x3,rfl⟩:=CQ (ts:=ts) (by have:=congrArg List.length hts.out;simpa [h4] using this);obtain ⟨q,hq⟩:∃ q:qb,Hid ((⟨no,pg.lsn,x0,x1,x2,x3,false,true⟩:qb)=q):=⟨_,rfl⟩;have KO:Hid (q.v=⟨no,pg.lsn,pg.ss.map (·.v),false,true⟩):=by rw [Hid,← hq.out,← hts.out];rfl
 have oq2:q.own w2 W.heap.size w2.heap.size:=by rw [← hq.out];exact ho2
 have hs2:=hb2.size;obtain ⟨W3,hW3,b3,hb3,hs3⟩:=qx w2 qc.cells 167;obtain ⟨W4,vg,hw4,hs4,MZ,_,b4⟩:=kg q _ rfl b3;have HO4:=ko q;have HI:Hid ((Tryz.prog.info? 167).map (·.size)=some q.cells.length):=jI q;have OE:Below w2.heap.size w2 W4:=hb3.trans (hw4.below (Nat.le_refl _) (by omega));have dF:Hid (w2.alloc (.cells #[.int .i64 0,.int .i64 0,.bool false,.int .i64 0,.slice none 0 0,.slice none 0 0,.bool false,.int .i64 0,.slice none 0 0,.slice none 0 0,.bool false,.int .i64 0,.slice none 0 0,.slice none 0 0,.bool false,.int .i64 0,.slice none 0 0,.slice none 0 0,.bool false,.bool false] 167)=W3):=hW3.out;have OG:Hid (W3.setCells w2.heap.size 0 q.cells.toArray.toList=W4):=vg.out;have N2:Below w.heap.size w w2:=hbW.trans (hb2.mono hbW.size);have N4:Below w.heap.size w W4:=N2.trans (OE.mono N2.size);have b6:Box W4 (w.heap.size+1) qc.cells 167:=(b1.below hb2 b1.lt).below OE (by omega);have dX:=oq2.below OE;have p4:=hp.below N4;have hz4:=b4.lt;clear hW3 vg hs3 hs4 hw4 hb3 b3 ho2 hts b1 oq2 hp;go_upto_region 2 with (first | (guard_target=wpList _ _ _ (Oper.mk (some 14) _ _ _ _ _::_) _ _;refine gW (.tmp 11) (.tmp 13) no pg.lsn x0 x1 x2 x3 rfl rfl ?_;rw [hq.out]) | (guard_target=wpList _ _ _ (Oper.mk none (Op.store _ (Operand.tmp 8) _) _ _ _ _::_) _ _;refine wpList_store_mid rfl 167 (.tmp 8) (.tmp 14) rfl w2.heap.size 0 q.cells.toArray rfl rfl (by rw [dF.out];exact MZ.out) HI.out HO4 ?_;rw [dF.out,OG.out]) | fail);clear hq dF OG MZ;have y0:=p4.box.cell o _ p4.c0;by_cases hlt:ss.length<3
 ·have QZ:(ss.length:Int)<3:=by omega
  go_upto_region 3 with fail;clear y0;have d4:Box W4.drew B vs t:=p4.box.drewN 1;have e4:Box W4.drew w2.heap.size q.cells 167:=b4.drewN 1;have y0:=d4.cell o _ p4.c0;have r4:W4.drew.rangeAt w2.heap.size 0 q.cells:=Box.range [] q.cells [] (by simpa using e4);refine wp_region_held_drew (S:=fun w'=>w'.rangeAt w2.heap.size 0 q.cells∧True) (by kernel_rfl) ?_ (fun hHeld=>?_)
  ·exact ⟨r4,trivial⟩
  refine tr 0 (.pointer (some ⟨B,o,none⟩)) ?_;refine tr 1 (.pointer (some ⟨B,o,none⟩)) ?_;refine tr 2 (.pointer (some ⟨B,o,none⟩)) ?_;refine tr 3 (.pointer (some ⟨B,o,none⟩)) ?_;refine Go.Proofs.YtjkckhfddgeboaaGreatDoor.ts 5 rfl (yieldsIf_load_mid (by rfl) _ _ rfl _ _ rfl q.cells _ (fun _ h=>h.1) Tryz.underlying167 rfl HI.out) ?_;refine wpAnyH_ready (rs:=[4,6]) (by kernel_rfl) (by simp) ?_;refine AllReadyH.cons rfl (fun K hK=>?_) (AllReadyH.cons rfl (fun K hK=>?_) AllReadyH.nil)
  ·go_simp;refine hK.out _ _ (hHeld) (fun hHeld=>?_);clear hK K;try simp only [zz]
   refine wpAnyH_ready (rs:=[6]) (by kernel_rfl) (by simp) ?_;refine AllReadyH.cons rfl (fun K hK=>?_) AllReadyH.nil;go_simp;simp only [xg,JU,not_true_eq_false,Nat.lt_irrefl,or_self,if_false];go_simp;obtain ⟨V5,Tw,Gt,hb5,hs5⟩:=qx W4 q.cells 167;rw [Tw.out];obtain ⟨W5,uM⟩:∃ W5,Hid (V5.drew=W5):=⟨_,rfl⟩;rw [uM.out];have b5:Box W5 W4.heap.size q.cells 167:=by rw [← uM.out];exact Gt.drewN 1
   have ND:Below W4.heap.size W4 W5:=by rw [← uM.out];exact hb5.drew
   have p5:=p4.below ND;have Vq:=dX.below ND;have Yh:=b6.below ND b6.lt;have nJ:=b4.below ND b4.lt;have r5:W5.rangeAt W4.heap.size 0 q.cells:=Box.range [] q.cells [] (by simpa using b5);have Tx:W5.rangeAt w2.heap.size 0 q.cells:=Box.range [] q.cells [] (by simpa using nJ);have N5:Below w.heap.size w W5:=N4.trans (ND.mono N4.size);have qdY:=ND.size;clear hs5 hb5 uM Tw b5 Gt nJ;refine hK.out _ _ (⟨Tx,trivial⟩) (fun hHeld=>?_);clear hK K;try simp only [zz]
   refine wpAnyH_ready (rs:=[7]) (by kernel_rfl) (by simp) ?_;refine AllReadyH.cons rfl (fun K hK=>?_) AllReadyH.nil;refine wY rfl (.tmp 25) (.tmp 27) rfl lo hi a c ss rfl p5.own W4.heap.size 0 1 q rfl r5 W.heap.size w2.heap.size Vq (by omega) (by omega) (by omega) hlo ?_;intro a9 c9 w9 o9 g9 f9;obtain ⟨ys,hys⟩:∃ ys,Hid (ss++[q]=ys):=⟨_,rfl⟩;have Zl:Hid (∀ k∈qo a9 c9 (ss++[q]),k∈qo a c ss∨W.heap.size≤k):=fun k hk=>by
    simp only [qo,List.mem_append,Option.mem_toList,List.flatMap_append,List.flatMap_cons,List.flatMap_nil,List.append_nil] at hk ⊢;rcases hk with hk | hk | hk
    ·rcases f9 k hk with h | h
     ·exact .inl (.inl h)
     ·exact .inr (by have:=ND.size;omega)
    ·exact .inl (.inr hk)
    ·exact .inr (by have:=(Vq.ql k hk).1;omega)
   rw [hys.out] at o9 Zl ⊢;have t9:Touch (qo a c ss) W5 w9:=Touch.jw g9 (fun k hk=>List.mem_append.2 (.inl (Option.mem_toList.2 hk)));have QZ:∀ k∈qo a c ss,k<w.heap.size:=fun k hk=>by have:=(p5.own.ql k hk).2;omega
   have k9:=p5.box.touch t9 p5.off;have VO:=Yh.touch t9 (fun hk=>by have:=QZ _ hk;omega);have ZK:=t9.size;have iT:w2.heap.size∉qo a c ss:=fun hk=>by have:=QZ _ hk;omega
   have Ty:w9.rangeAt w2.heap.size 0 q.cells:=QT Tx (t9.block _ (by omega) iT);have T9:Touch (B::qo a c ss) w w9:=(Touch.of_below N5).trans (t9.mono (fun k hk=>List.mem_cons_of_mem _ hk));refine hK.out _ _ (⟨Ty,trivial⟩) (fun hHeld=>?_);clear hK K g9 f9;try simp only [zz]
   refine tr 8 (.pointer (some ⟨B,o,none⟩)) ?_;refine tr 9 (.pointer (some ⟨B,o,none⟩)) ?_;have m0:=k9.cell o _ p4.c0;have wZ:=k9.frozen o;obtain ⟨WF,qF,kF,hwF,qN⟩:=jB k9 o (.slice a9 ys.length c9);have Xg:=Nat.le_of_eq qN;have uK:=Nat.le_of_eq qN.symm;clear qN;have tF:Touch [B] w9 WF:=⟨hwF.os,hwF.tape,hwF.output,hwF.size,fun j hj hn=>hwF.block j hj (fun hh=>hn (by simp;omega))⟩;have hBw:B<w.heap.size:=by have:=p4.box.lt;exact hBlt
   have Pt:B∉qo a9 c9 ys:=fun hk=>(Zl.out B hk).elim p4.off (fun h=>by omega)
   have oF:=o9.touch tF (fun k hk hk'=>Pt (by rw [← List.mem_singleton.1 hk'];exact hk));have zt:=VO.touch tF (by simp;omega);have OH:WF.rangeAt w2.heap.size 0 q.cells:=QT Ty (tF.block _ (by omega) (by simp;omega));have TF:Touch (B::qo a c ss) w WF:=T9.trans (tF.mono (by simp));refine wpAnyH_ready (rs:=[10]) (by kernel_rfl) (by simp) ?_;refine AllReadyH.cons rfl (fun K hK=>?_) AllReadyH.nil;go_simp;rw [qF.out];refine hK.out _ _ (⟨OH,trivial⟩) (fun hHeld=>?_);clear hK K;try simp only [zz]
   refine wpAnyH_done (by kernel_rfl) ?_ _;clear m0 wZ qF;obtain ⟨WG,Tz,Kz,Ul,TA,Z9,bG⟩:=kg qc _ rfl zt;have OI:=Nat.le_of_eq Ul;have OJ:=Nat.le_of_eq Ul.symm;clear Ul;have WH:Hid (WF.setCells (w.heap.size+1) 0 qc.cells.toArray.toList=WG):=Tz.out;have tG:Touch [w.heap.size+1] WF WG:=⟨Kz.os,Kz.tape,Kz.output,Kz.size,fun j hj hn=>Kz.block j hj (fun hh=>hn (by simp;omega))⟩;have hn1:w.heap.size+1∉qo a9 c9 ys:=fun hk=>(Zl.out _ hk).elim (fun h=>by have:=QZ _ h;omega) (fun h=>by omega)
   have kG:=kF.touch tG (by simp;omega);have oG:=(oF.touch tG (fun k hk hk'=>hn1 (by rw [← List.mem_singleton.1 hk'];exact hk))).widen (Nat.le_refl _) (show w9.heap.size≤WG.heap.size by omega) (Nat.le_refl _);have TG:Touch (B::qo a c ss) w WG:=⟨tG.os.trans TF.os,tG.tape.trans TF.tape,tG.output.trans TF.output,Nat.le_trans TF.size tG.size,fun j hj hn=>(tG.block j (by have:=TF.size;omega) (by simp;omega)).trans (TF.block j hj hn)⟩;have qR:Hid (jX (ss.map qb.v) h ⟨no,pg.lsn,pg.ss.map (·.v),false,true⟩=(ys.map qb.v,h,qc.v,false)):=by
    rw [Hid,jX,if_pos (by rw [List.length_map];exact hlt),← hys.out,List.map_append,← KO.out];rfl
   have Yz:Hid (Xe lo B o vs t a c ss w WG ys a9 c9 h qc):=by
    refine ⟨⟨?_,?_,?_,oG,Pt⟩,fun k hk=>(Zl.out k hk).imp id (fun h=>by omega),TG,nE _ _ _ (Nat.le_refl _),fun k hk=>by simp [Z8] at hk⟩
    ·rw [nG p4.c1];exact kG
    ·rw [List.getElem?_set_ne (by omega),List.getElem?_set_self (List.getElem?_eq_some_iff.1 p4.c0).1]
    ·rw [List.getElem?_set_self (by rw [List.length_set];exact (List.getElem?_eq_some_iff.1 p4.c1).1)]
   have WI:WF.there (w.heap.size+1) 0 qc.cells.toArray.size:=TA.out;have Q9:(Tryz.prog.info? 167).map (·.size)=some qc.cells.toArray.size:=jI qc;have Qu:=ko qc;clear kG oG TG kF oF zt TF tG tF;obtain ⟨Zs,hZs⟩:∃ Zs,Hid (qc=Zs):=⟨_,rfl⟩;rw [hZs.out] at WI Q9 Qu WH Z9 Yz qR;go_wp2_with (first | (guard_target=wpList _ _ _ (Oper.mk (some 31) _ _ _ _ _::_) _ _;refine yT ?_;rw [hZs.out]) | (guard_target=wpList _ _ _ (Oper.mk none (Op.store _ (Operand.tmp 6) _) _ _ _ _::_) _ _;refine wpList_store_mid rfl 167 (.tmp 6) (.tmp 31) rfl (w.heap.size+1) 0 Zs.cells.toArray rfl rfl WI Q9 Qu ?_;rw [WH.out]) | fail);exact bodyPost_ret (v:=.tuple #[.agg Zs.cells.toArray,.bool false]) (Qy Tryz.results230 rfl Z9.out rfl) rfl ⟨ys,a9,c9,h,Zs,false,rfl,qR,Yz.out⟩
  ·go_simp;simp only [xg,JU,not_true_eq_false,Nat.lt_irrefl,or_self,if_false];go_simp;obtain ⟨V5,Tw,Gt,hb5,hs5⟩:=qx W4 q.cells 167;rw [Tw.out];obtain ⟨W5,uM⟩:∃ W5,Hid (V5.drew=W5):=⟨_,rfl⟩;rw [uM.out];have b5:Box W5 W4.heap.size q.cells 167:=by rw [← uM.out];exact Gt.drewN 1
   have ND:Below W4.heap.size W4 W5:=by rw [← uM.out];exact hb5.drew
   have p5:=p4.below ND;have Vq:=dX.below ND;have Yh:=b6.below ND b6.lt;have nJ:=b4.below ND b4.lt;have r5:W5.rangeAt W4.heap.size 0 q.cells:=Box.range [] q.cells [] (by simpa using b5);have Tx:W5.rangeAt w2.heap.size 0 q.cells:=Box.range [] q.cells [] (by simpa using nJ);have N5:Below w.heap.size w W5:=N4.trans (ND.mono N4.size);have qdY:=ND.size;clear hs5 hb5 uM Tw b5 Gt nJ;refine hK.out _ _ (⟨Tx,trivial⟩) (fun hHeld=>?_);clear hK K;try simp only [zz]
   clear y0;have y0:=p5.box.cell o _ p4.c0;refine wpAnyH_ready (rs:=[4]) (by kernel_rfl) (by simp) ?_;refine AllReadyH.cons rfl (fun K hK=>?_) AllReadyH.nil;go_simp;refine hK.out _ _ (hHeld) (fun hHeld=>?_);clear hK K;try simp only [zz]
   refine wpAnyH_ready (rs:=[7]) (by kernel_rfl) (by simp) ?_;refine AllReadyH.cons rfl (fun K hK=>?_) AllReadyH.nil;refine wY rfl (.tmp 25) (.tmp 27) rfl lo hi a c ss rfl p5.own W4.heap.size 0 1 q rfl r5 W.heap.size w2.heap.size Vq (by omega) (by omega) (by omega) hlo ?_;intro a9 c9 w9 o9 g9 f9;obtain ⟨ys,hys⟩:∃ ys,Hid (ss++[q]=ys):=⟨_,rfl⟩;have Zl:Hid (∀ k∈qo a9 c9 (ss++[q]),k∈qo a c ss∨W.heap.size≤k):=fun k hk=>by
    simp only [qo,List.mem_append,Option.mem_toList,List.flatMap_append,List.flatMap_cons,List.flatMap_nil,List.append_nil] at hk ⊢;rcases hk with hk | hk | hk
    ·rcases f9 k hk with h | h
     ·exact .inl (.inl h)
     ·exact .inr (by have:=ND.size;omega)
    ·exact .inl (.inr hk)
    ·exact .inr (by have:=(Vq.ql k hk).1;omega)
   rw [hys.out] at o9 Zl ⊢;have t9:Touch (qo a c ss) W5 w9:=Touch.jw g9 (fun k hk=>List.mem_append.2 (.inl (Option.mem_toList.2 hk)));have QZ:∀ k∈qo a c ss,k<w.heap.size:=fun k hk=>by have:=(p5.own.ql k hk).2;omega
   have k9:=p5.box.touch t9 p5.off;have VO:=Yh.touch t9 (fun hk=>by have:=QZ _ hk;omega);have ZK:=t9.size;have iT:w2.heap.size∉qo a c ss:=fun hk=>by have:=QZ _ hk;omega
   have Ty:w9.rangeAt w2.heap.size 0 q.cells:=QT Tx (t9.block _ (by omega) iT);have T9:Touch (B::qo a c ss) w w9:=(Touch.of_below N5).trans (t9.mono (fun k hk=>List.mem_cons_of_mem _ hk));refine hK.out _ _ (⟨Ty,trivial⟩) (fun hHeld=>?_);clear hK K g9 f9;try simp only [zz]
   refine tr 8 (.pointer (some ⟨B,o,none⟩)) ?_;refine tr 9 (.pointer (some ⟨B,o,none⟩)) ?_;have m0:=k9.cell o _ p4.c0;have wZ:=k9.frozen o;obtain ⟨WF,qF,kF,hwF,qN⟩:=jB k9 o (.slice a9 ys.length c9);have Xg:=Nat.le_of_eq qN;have uK:=Nat.le_of_eq qN.symm;clear qN;have tF:Touch [B] w9 WF:=⟨hwF.os,hwF.tape,hwF.output,hwF.size,fun j hj hn=>hwF.block j hj (fun hh=>hn (by simp;omega))⟩;have hBw:B<w.heap.size:=by have:=p4.box.lt;exact hBlt
   have Pt:B∉qo a9 c9 ys:=fun hk=>(Zl.out B hk).elim p4.off (fun h=>by omega)
   have oF:=o9.touch tF (fun k hk hk'=>Pt (by rw [← List.mem_singleton.1 hk'];exact hk));have zt:=VO.touch tF (by simp;omega);have OH:WF.rangeAt w2.heap.size 0 q.cells:=QT Ty (tF.block _ (by omega) (by simp;omega));have TF:Touch (B::qo a c ss) w WF:=T9.trans (tF.mono (by simp));refine wpAnyH_ready (rs:=[10]) (by kernel_rfl) (by simp) ?_;refine AllReadyH.cons rfl (fun K hK=>?_) AllReadyH.nil;go_simp;rw [qF.out];refine hK.out _ _ (⟨OH,trivial⟩) (fun hHeld=>?_);clear hK K;try simp only [zz]
   refine wpAnyH_done (by kernel_rfl) ?_ _;clear m0 wZ qF;obtain ⟨WG,Tz,Kz,Ul,TA,Z9,bG⟩:=kg qc _ rfl zt;have OI:=Nat.le_of_eq Ul;have OJ:=Nat.le_of_eq Ul.symm;clear Ul;have WH:Hid (WF.setCells (w.heap.size+1) 0 qc.cells.toArray.toList=WG):=Tz.out;have tG:Touch [w.heap.size+1] WF WG:=⟨Kz.os,Kz.tape,Kz.output,Kz.size,fun j hj hn=>Kz.block j hj (fun hh=>hn (by simp;omega))⟩;have hn1:w.heap.size+1∉qo a9 c9 ys:=fun hk=>(Zl.out _ hk).elim (fun h=>by have:=QZ _ h;omega) (fun h=>by omega)
   have kG:=kF.touch tG (by simp;omega);have oG:=(oF.touch tG (fun k hk hk'=>hn1 (by rw [← List.mem_singleton.1 hk'];exact hk))).widen (Nat.le_refl _) (show w9.heap.size≤WG.heap.size by omega) (Nat.le_refl _);have TG:Touch (B::qo a c ss) w WG:=⟨tG.os.trans TF.os,tG.tape.trans TF.tape,tG.output.trans TF.output,Nat.le_trans TF.size tG.size,fun j hj hn=>(tG.block j (by have:=TF.size;omega) (by simp;omega)).trans (TF.block j hj hn)⟩;have qR:Hid (jX (ss.map qb.v) h ⟨no,pg.lsn,pg.ss.map (·.v),false,true⟩=(ys.map qb.v,h,qc.v,false)):=by
    rw [Hid,jX,if_pos (by rw [List.length_map];exact hlt),← hys.out,List.map_append,← KO.out];rfl
   have Yz:Hid (Xe lo B o vs t a c ss w WG ys a9 c9 h qc):=by
    refine ⟨⟨?_,?_,?_,oG,Pt⟩,fun k hk=>(Zl.out k hk).imp id (fun h=>by omega),TG,nE _ _ _ (Nat.le_refl _),fun k hk=>by simp [Z8] at hk⟩
    ·rw [nG p4.c1];exact kG
    ·rw [List.getElem?_set_ne (by omega),List.getElem?_set_self (List.getElem?_eq_some_iff.1 p4.c0).1]
    ·rw [List.getElem?_set_self (by rw [List.length_set];exact (List.getElem?_eq_some_iff.1 p4.c1).1)]
   have WI:WF.there (w.heap.size+1) 0 qc.cells.toArray.size:=TA.out;have Q9:(Tryz.prog.info? 167).map (·.size)=some qc.cells.toArray.size:=jI qc;have Qu:=ko qc;clear kG oG TG kF oF zt TF tG tF;obtain ⟨Zs,hZs⟩:∃ Zs,Hid (qc=Zs):=⟨_,rfl⟩;rw [hZs.out] at WI Q9 Qu WH Z9 Yz qR;go_wp2_with (first | (guard_target=wpList _ _ _ (Oper.mk (some 31) _ _ _ _ _::_) _ _;refine yT ?_;rw [hZs.out]) | (guard_target=wpList _ _ _ (Oper.mk none (Op.store _ (Operand.tmp 6) _) _ _ _ _::_) _ _;refine wpList_store_mid rfl 167 (.tmp 6) (.tmp 31) rfl (w.heap.size+1) 0 Zs.cells.toArray rfl rfl WI Q9 Qu ?_;rw [WH.out]) | fail);exact bodyPost_ret (v:=.tuple #[.agg Zs.cells.toArray,.bool false]) (Qy Tryz.results230 rfl Z9.out rfl) rfl ⟨ys,a9,c9,h,Zs,false,rfl,qR,Yz.out⟩
 ·have h33:ss.length=3:=by omega
  have C:=Pv lo hi B o vs t a c ss h W4 p4 h33 hh;have hge:¬ (ss.length:Int)<3:=by omega
  clear h33;go_wp2_with fail;refine C.mono ?_;clear C y0;rintro e w5 ⟨us,k,hand',rfl,iU,hul,p5,hbl,t5⟩;have HN4:Hid (∀ j,W4.heap.size≤j→j∉qo a c us):=fun j hj hk=>by have:=(p5.own.ql j hk).2;have:=N4.size;omega
  have QZ:∀ j∈qo a c us,j<w.heap.size:=fun j hk=>by have:=(p5.own.ql j hk).2;omega
  have hk3:k<3:=by have h:=(QE 4 (ss.map qb.v) h hh).2;rw [iU.out] at h;exact h
  obtain ⟨g,rfl⟩:∃ g,a=some ⟨g,0,none⟩:=by
   rcases p5.own.row.2 with ⟨_,h0⟩ | ⟨g,cap',cur,hv,_⟩
   ·omega
   ·simp only [Value.slice.injEq] at hv;exact ⟨g,hv.1⟩
  have hmem:g∈qo (some ⟨g,0,none⟩) c us:=by simp [qo,Value.ownBlock]
  have hgB:B≠g:=fun e=>p5.off (e▸hmem)
  have hgw:=QZ g hmem;have r5:=(yf p5.own.row rfl k (by omega)).1;have Yh:=b6.touch t5 (by rw [← hbl.out];exact vT (by omega) (fun hk=>by have:=QZ _ hk;omega));have nJ:=b4.touch t5 (by rw [← hbl.out];exact vT (by omega) (fun hk=>by have:=QZ _ hk;have:=N2.size;omega));have Vq:=dX.touch t5 (fun j hj hk=>by have hj1:=(dX.ql j hj).1;rcases List.mem_cons.1 hk with rfl | hk;omega;rw [← hbl.out] at hk;have:=QZ _ hk;omega);have Wl:=p5.own.each (us.getD k qc) (xE us k (by omega));have HOV:Hid (us.map qb.v=(qL 4 (ss.map qb.v) h).1∧hand'=(qL 4 (ss.map qb.v) h).2.1∧k=(qL 4 (ss.map qb.v) h).2.2):=by rw [Hid,iU.out];exact ⟨rfl,rfl,rfl⟩
  obtain ⟨old,hold⟩:∃ old,Hid (us.getD k qc=old):=⟨_,rfl⟩;rw [hold.out] at r5 Wl;have T5:Touch (B::qo (some ⟨g,0,none⟩) c ss) w w5:=(Touch.of_below N4).trans t5;have hs5:=t5.size;have z5:=p5.box.cell o _ p5.c0;obtain ⟨W6,Yn,b10,hb6,hs6⟩:=qx w5 qc.cells 167;obtain ⟨W7,JP,hw7,hs7,Gq,_,b7⟩:=kg old _ rfl b10;have pX:Hid (w5.alloc (.cells #[.int .i64 0,.int .i64 0,.bool false,.int .i64 0,.slice none 0 0,.slice none 0 0,.bool false,.int .i64 0,.slice none 0 0,.slice none 0 0,.bool false,.int .i64 0,.slice none 0 0,.slice none 0 0,.bool false,.int .i64 0,.slice none 0 0,.slice none 0 0,.bool false,.bool false] 167)=W6):=Yn.out;have OL:Hid (W6.setCells w5.heap.size 0 old.cells.toArray.toList=W7):=JP.out;have Yi:Below w5.heap.size w5 W7:=hb6.trans (hw7.below (Nat.le_refl _) (by omega));have HO7:=ko old;have Ah:Hid ((Tryz.prog.info? 167).map (·.size)=some old.cells.length):=jI old;have p7:=p5.below Yi;have UD:=Yh.below Yi Yh.lt;have OM:=nJ.below Yi nJ.lt;have Ni:=Vq.below Yi;have Ai:=Wl.below Yi;have T7:=T5.trans (Touch.of_below Yi);have qfV:=Yi.size;have qfW:=b7.lt;have hkb:(k:Int)<(us.length:Int):=by omega
  have hk0:(0:Int)≤(k:Int):=by omega
  have qfX:us.length≤3:=by omega
  have qfY:3≤us.length:=by omega
  clear Yn JP hs6 hs7 hw7 hb6 b10 hul p4 p5 b6 b4 dX Yh nJ Vq Wl T5 t5 Yi iU;go_upto_region 7 with (first | (guard_target=wpList _ _ _ (Oper.mk (some 40) _ _ _ _ _::_) _ _;refine wpList_load_mid rfl 167 (.tmp 39) rfl g (k*20) rfl old.cells _ r5 Tryz.underlying167 rfl Ah.out ?_) | (guard_target=wpList _ _ _ (Oper.mk none (Op.store _ (Operand.tmp 10) _) _ _ _ _::_) _ _;refine wpList_store_mid rfl 167 (.tmp 10) (.tmp 40) rfl w5.heap.size 0 old.cells.toArray rfl rfl (by rw [pX.out];exact Gq.out) Ah.out HO7 ?_;rw [pX.out,OL.out]) | fail);simp only [Act.put];clear r5 z5 pX OL Gq HO7;have ND:Below W7.heap.size W7 W7.drew:=(Below.refl _ _).drew;have p8:=p7.below ND;have b68:=UD.below ND UD.lt;have OO:=OM.below ND OM.lt;have b78:=b7.below ND b7.lt;have OP:=Ni.below ND;have Mk:=Ai.below ND;have T8:=T7.trans (Touch.of_below ND);have qfZ:=ND.size;clear p7 UD OM b7 Ni Ai T7;have hkl:(us.take k).length=k:=by rw [List.length_take];omega
  obtain ⟨WF,qF,oF,tF,qN⟩:=OwnSts.fill (A:=us.take k) (z:=us.getD k qc) (B:=us.drop (k+1)) (by rw [← wL us k (by omega)];exact p8.own) q OP (by omega) hlo (by omega);rw [hkl] at qF;rw [← Qc us k q (by omega)] at oF;have Xg:=Nat.le_of_eq qN;have uK:=Nat.le_of_eq qN.symm;clear qN hkl;have hgn:g<w.heap.size:=hgw;have zK:Hid (W7.drew.setCells g (k*20) q.cells.toArray.toList=WF):=qF.out;have XX:Hid (W7.drew.there g (k*20) q.cells.toArray.size):=(yf p8.own.row rfl k (by omega)).2;have S8:W7.drew.cell? ⟨B,o,none⟩=some (.slice (some ⟨g,0,none⟩) us.length c):=p8.box.cell o _ p8.c0;have R8:W7.drew.rangeAt w2.heap.size 0 q.cells:=Box.range [] q.cells [] (by simpa using OO);have OQ:=p8.box.touch tF (by simpa using hgB);have SF:WF.cell? ⟨B,o,none⟩=some (.slice (some ⟨g,0,none⟩) us.length c):=OQ.cell o _ p8.c0;have b4F:=OO.touch tF (by simp;have:=N2.size;omega);have RF:WF.rangeAt w2.heap.size 0 q.cells:=Box.range [] q.cells [] (by simpa using b4F);have zt:=b68.touch tF (by simp;omega);have Yg:=b78.touch tF (by simp;omega);have TF:Touch (B::qo (some ⟨g,0,none⟩) c ss) w WF:=T8.trans (tF.mono (fun j hj=>List.mem_cons_of_mem _ (by rw [← hbl.out,List.mem_singleton.1 hj];exact hmem)));have Gs:g∉old.blocks:=fun hk=>wK p8.own.row Mk g rfl hk
  have Zl:Hid (∀ j∈qo (some ⟨g,0,none⟩) c (us.set k q),j∈qo (some ⟨g,0,none⟩) c ss∨W.heap.size≤j):=fun j hj=>by
   simp only [qo,List.mem_append,Option.mem_toList,List.length_set] at hj;rcases hj with hj | hj
   ·exact .inl (by rw [← hbl.out];exact List.mem_append.2 (.inl (Option.mem_toList.2 hj)))
   ·obtain ⟨r,hr,hj2⟩:=List.mem_flatMap.1 hj;rcases List.mem_or_eq_of_mem_set hr with hr | rfl
    ·exact .inl (by rw [← hbl.out];exact List.mem_append.2 (.inr (List.mem_flatMap.2 ⟨r,hr,hj2⟩)))
    ·exact .inr (OP.ql j hj2).1
  refine wp_region_held_drew (S:=fun w'=>w'.cell? ⟨B,o,none⟩=some (.slice (some ⟨g,0,none⟩) us.length c)∧w'.rangeAt w2.heap.size 0 q.cells) (by kernel_rfl) ?_ (fun hHeld=>?_)
  ·exact ⟨S8,R8⟩
  refine tr 0 (.pointer (some ⟨B,o,none⟩)) ?_;refine tr 1 (.pointer (some ⟨B,o,none⟩)) ?_;refine tr 2 (.pointer (some ⟨B,o,none⟩)) ?_;refine tk 3 (v:=.slice (some ⟨g,0,none⟩) us.length c) rfl (Or.inl ⟨by rfl,?_⟩) hHeld ?_
  ·intro w' hSw;have hx:=hSw.1;go_simp<;>rfl
  try simp only [zz]
  refine tr 4 (.int .i64 k) ?_;refine Go.Proofs.YtjkckhfddgeboaaGreatDoor.ts 5 rfl (yieldsIf_load_mid (by rfl) _ _ rfl _ _ rfl q.cells _ (fun _ h=>h.2) Tryz.underlying167 rfl HI.out) ?_;refine tr 6 (.pointer (some ⟨g,k*20,none⟩)) ?_;refine wpAnyH_ready (rs:=[7]) (by kernel_rfl) (by simp) ?_;refine AllReadyH.cons rfl (fun K hK=>?_) AllReadyH.nil;rw [if_pos (by rfl)];refine wp_store_mid 167 (.tmp 47) (.tmp 46) rfl g (k*20) q.cells.toArray rfl rfl XX.out HI.out (ko q) ?_;rw [zK.out];refine hK.out _ _ (⟨SF,RF⟩) (fun hHeld=>?_);clear hK K;try simp only [Act.put,zA,zB,zC]
  refine wpAnyH_done (by kernel_rfl) ?_ _;clear zK XX S8 R8 SF RF hHeld;obtain ⟨WG,Tz,Kz,Ul,TA,Z9,bG⟩:=kg old _ rfl zt;have OI:=Nat.le_of_eq Ul;have OJ:=Nat.le_of_eq Ul.symm;clear Ul;have WH:Hid (WF.setCells (w.heap.size+1) 0 old.cells.toArray.toList=WG):=Tz.out;have tG:Touch [w.heap.size+1] WF WG:=⟨Kz.os,Kz.tape,Kz.output,Kz.size,fun j hj hn=>Kz.block j hj (fun hh=>hn (by simp;omega))⟩;have Pt:B∉qo (some ⟨g,0,none⟩) c (us.set k q):=fun hk=>(Zl.out B hk).elim (fun h=>p8.off (by rw [hbl.out];exact h)) (fun h=>by omega)
  have hn1:w.heap.size+1∉qo (some ⟨g,0,none⟩) c (us.set k q):=fun hk=>(Zl.out _ hk).elim (fun h=>by rw [← hbl.out] at h;have:=QZ _ h;omega) (fun h=>by omega)
  have kG:=OQ.touch tG (by simp;omega);have oG:=(oF.touch tG (fun j hk hk'=>hn1 (by rw [← List.mem_singleton.1 hk'];exact hk))).widen (Nat.le_refl _) (show max hi w2.heap.size≤WG.heap.size by omega) (Nat.le_refl _);have TG:Touch (B::qo (some ⟨g,0,none⟩) c ss) w WG:=⟨tG.os.trans TF.os,tG.tape.trans TF.tape,tG.output.trans TF.output,Nat.le_trans TF.size tG.size,fun j hj hn=>(tG.block j (by have:=TF.size;omega) (by simp;omega)).trans (TF.block j hj hn)⟩;have qag:∀ j∈old.blocks,j∉[w.heap.size+1]:=fun j hj hk=>by have h1:=(Mk.ql j hj).2;have h2:=List.mem_singleton.1 hk;omega
  have oG2:=((Mk.touch tF (fun j hj hk=>Gs (by rw [← List.mem_singleton.1 hk];exact hj))).touch tG qag).widen (Nat.le_refl lo) (show hi≤WG.heap.size by omega) (Nat.le_refl _);have lV:∀ j∈old.blocks,j∈qo (some ⟨g,0,none⟩) c ss:=fun j hj=>by rw [← hbl.out];exact List.mem_append.2 (.inr (List.mem_flatMap.2 ⟨old,by rw [← hold.out];exact xE us k (by omega),hj⟩))
  have qR:Hid (jX (ss.map qb.v) h ⟨no,pg.lsn,pg.ss.map (·.v),false,true⟩=((us.set k q).map qb.v,hand',old.v,true)):=by
   obtain ⟨e1,e2,e3⟩:=HOV.out;rw [Hid,jX,if_neg (by rw [List.length_map];exact hlt),← e1,← e2,← e3,jZ,hold.out,List.map_set,KO.out]
  have Yz:Hid (Xe lo B o vs t (some ⟨g,0,none⟩) c ss w WG (us.set k q) (some ⟨g,0,none⟩) c hand' old):=by
   refine ⟨⟨?_,?_,?_,oG,Pt⟩,fun j hk=>(Zl.out j hk).imp id (fun h=>by omega),TG,oG2,lV⟩
   ·have e:vs.set o (.slice (some ⟨g,0,none⟩) (us.set k q).length c)=vs:=by
     have hc:=p8.c0;rw [List.getElem?_set_ne (by omega)] at hc;obtain ⟨_,h2⟩:=List.getElem?_eq_some_iff.1 hc;rw [List.length_set,← h2,List.set_getElem_self]
    rw [e];exact kG
   ·have hc:=p8.c0;rw [List.getElem?_set_ne (by omega)] at hc ⊢;rw [List.getElem?_set_self (List.getElem?_eq_some_iff.1 hc).1]
   ·have hc:=(List.getElem?_eq_some_iff.1 p8.c1).1;rw [List.length_set] at hc;rw [List.getElem?_set_self (by rw [List.length_set];exact hc)]
  have WI:WF.there (w.heap.size+1) 0 old.cells.toArray.size:=TA.out;have Qu:=ko old;have rL:WF.rangeAt w5.heap.size 0 old.cells:=Box.range [] old.cells [] (by simpa using Yg);clear kG oG TG OQ oF zt b4F Yg TF tG tF T8 p8 OP Mk b68 OO b78;go_wp2_with (first | (guard_target=wpList _ _ _ (Oper.mk (some 48) _ _ _ _ _::_) _ _;refine wpList_load_mid rfl 167 (.tmp 10) rfl w5.heap.size 0 rfl old.cells _ rL Tryz.underlying167 rfl Ah.out ?_) | (guard_target=wpList _ _ _ (Oper.mk none (Op.store _ (Operand.tmp 6) _) _ _ _ _::_) _ _;refine wpList_store_mid rfl 167 (.tmp 6) (.tmp 48) rfl (w.heap.size+1) 0 old.cells.toArray rfl rfl WI Ah.out Qu ?_;rw [WH.out]) | fail);exact bodyPost_ret (v:=.tuple #[.agg old.cells.toArray,.bool true]) (Qy Tryz.results230 rfl Z9.out rfl) rfl ⟨us.set k q,some ⟨g,0,none⟩,c,hand',old,true,rfl,qR,Yz.out⟩
end Go.Proofs.YtjkckhfddgeboaaGreatDoor
namespace Go.Proofs.YtjkckhfddgeboaaGreatDoor
open Go.RowKit
theorem DK (ss:List jc):∀ (no:Int) (b k:Nat),k<ss.length→(ss.getD k qD).no=no→(∀ j,j<k→(ss.getD j qD).no≠no)→jJ no ss b=((b+k:Nat):Int):=by
 induction ss with
 | nil=>intro no b k h;simp at h
 | cons s r ih=>
  intro no b k hk he hn;rw [jJ];cases k with
  | zero=>simp only [List.getD_cons_zero] at he;rw [if_pos he];simp
  | succ k=>
   have h0:=hn 0 (by omega);simp only [List.getD_cons_zero] at h0;simp only [List.getD_cons_succ] at he;rw [if_neg h0,ih no (b+1) k (by simpa using hk) he (fun j hj=>by have:=hn (j+1) (by omega);simpa using this)];omega
theorem H8 (ss:List jc):∀ (no:Int) (b:Nat),(∀ j,j<ss.length→(ss.getD j qD).no≠no)→jJ no ss b= -1:=by
 induction ss with
 | nil=>intro no b _;rfl
 | cons s r ih=>
  intro no b hn;have h0:=hn 0 (by simp);simp only [List.getD_cons_zero] at h0;rw [jJ,if_neg h0,ih no (b+1) (fun j hj=>by have:=hn (j+1) (by simpa using hj);simpa using this)]
theorem GK {ss:List jc} {no:Int} {k:Nat} (hk:k<ss.length) (he:(ss.getD k qD).no=no) (hn:∀ j,j<k→(ss.getD j qD).no≠no):qy ss no=k:=by
 have:=DK ss no 0 k hk he hn
 simpa [qy] using this
theorem DL {ss:List jc} {no:Int} (hn:∀ j,j<ss.length→(ss.getD j qD).no≠no):qy ss no= -1:=H8 ss no 0 hn
theorem VT (ss:List jc) (no:Int):(∃ k:Nat,k<ss.length∧(ss.getD k qD).no=no∧(∀ j,j<k→(ss.getD j qD).no≠no)∧qy ss no=k)∨((∀ j,j<ss.length→(ss.getD j qD).no≠no)∧qy ss no= -1):=by
 by_cases h:∃ k,k<ss.length∧(ss.getD k qD).no=no
 ·have hm:∃ k,(k<ss.length∧(ss.getD k qD).no=no)∧∀ j,j<k→¬ (j<ss.length∧(ss.getD j qD).no=no):=by
   obtain ⟨k,hk⟩:=h
   induction k using Nat.strongRecOn with
   | _ k ih=>
    by_cases h2:∃ j,j<k∧(j<ss.length∧(ss.getD j qD).no=no)
    ·obtain ⟨j,hj,hp⟩:=h2;exact ih j hj hp
    ·exact ⟨k,hk,fun j hj hp=>h2 ⟨j,hj,hp⟩⟩
  obtain ⟨k,⟨h1,h2⟩,h3⟩:=hm;have h4:∀ j,j<k→(ss.getD j qD).no≠no:=fun j hj e=>h3 j hj ⟨by omega,e⟩
  exact .inl ⟨k,h1,h2,h4,GK h1 h2 h4⟩
 ·have h2:∀ j,j<ss.length→(ss.getD j qD).no≠no:=fun j hj e=>h ⟨j,hj,e⟩
  exact .inr ⟨h2,DL h2⟩
def QU (s:jc):Bool:=inB s.no 0 7 && ze s.lsn s.ss
def yV (ss:List jc) (i:Nat):Bool:=QU (ss.getD i qD) && decide (qy ss (ss.getD i qD).no=i)
def jg (p:jN):Bool:=decide (p.seats.length≤3) && (inB p.hand 0 2 && (List.range p.seats.length).all (yV p.seats))
theorem UY {p:jN} (h:¬ p.seats.length≤3):jg p=false:=by simp [jg,h]
theorem UZ {p:jN} (h:inB p.hand 0 2=false):jg p=false:=by simp [jg,h]
theorem Uc {p:jN} (k:Nat) (hk:k<p.seats.length) (h:yV p.seats k=false):jg p=false:=by
 have:(List.range p.seats.length).all (yV p.seats)=false:=by
  rw [List.all_eq_false];exact ⟨k,List.mem_range.2 hk,by simp [h]⟩
 simp [jg,this]
theorem mX {p:jN} (h1:p.seats.length≤3) (h2:inB p.hand 0 2=true) (h:∀ k,k<p.seats.length→yV p.seats k=true):jg p=true:=by
 have:(List.range p.seats.length).all (yV p.seats)=true:=by
  rw [List.all_eq_true];exact fun k hk=>h k (List.mem_range.1 hk)
 simp [jg,this,h1,h2]
theorem K4 {p:jN} (h:jg p=true):p.seats.length≤3∧inB p.hand 0 2=true∧∀ k,k<p.seats.length→yV p.seats k=true:=by
 simp only [jg,Bool.and_eq_true,decide_eq_true_eq,List.all_eq_true] at h;exact ⟨h.1,h.2.1,fun k hk=>h.2.2 k (List.mem_range.2 hk)⟩
theorem SX {ss:List jc} {i:Nat} (h:QU (ss.getD i qD)=false):yV ss i=false:=by simp only [yV,h,Bool.false_and]
theorem SY {ss:List jc} {i k:Nat} (hk:k<i) (hi:i<ss.length) (he:(ss.getD k qD).no=(ss.getD i qD).no):yV ss i=false:=by
 have:qy ss (ss.getD i qD).no≠(i:Int):=by
  rcases VT ss (ss.getD i qD).no with ⟨j,h1,h2,h3,h4⟩ | ⟨h1,_⟩
  ·rw [h4];intro e;have:j=i:=by omega
   subst this;exact h3 k hk he
  ·exact absurd rfl (h1 i hi)
 rw [yV,decide_eq_false this,Bool.and_false]
theorem Ta {ss:List jc} {i:Nat} (hi:i<ss.length) (hb:QU (ss.getD i qD)=true) (h:∀ k,k<i→(ss.getD k qD).no≠(ss.getD i qD).no):yV ss i=true:=by
 have:=GK hi rfl h;rw [yV,hb,decide_eq_true this];rfl
def Xq (p:jN) (k:Nat) (f:jc→jc):jN:=⟨p.seats.set k (f (p.seats.getD k qD)),p.hand⟩
def Mf (s:jc):jc:={ s with hot:=true }
def wy (p:jN) (no:Int):jN:=if 0≤qy p.seats no then Xq p (qy p.seats no).toNat Mf else p
def zq (p:jN):jN × Int:=
 if jg p=true∧p.seats.length=3 then (⟨(qL 4 p.seats p.hand.toNat).1,(qL 4 p.seats p.hand.toNat).2.1⟩,(qL 4 p.seats p.hand.toNat).2.2) else (p,-1)
def xw (p:jN) (no lsn:Int) (ss:List jy):Bool:=jg p && (inB no 0 7 && (ze lsn ss && decide (qy p.seats no<0)))
def vv (p:jN) (no lsn:Int) (ss:List jy):jN × jc × Bool:=
 if xw p no lsn ss=true then (⟨(jX p.seats p.hand.toNat ⟨no,lsn,ss,false,true⟩).1,(jX p.seats p.hand.toNat ⟨no,lsn,ss,false,true⟩).2.1⟩,(jX p.seats p.hand.toNat ⟨no,lsn,ss,false,true⟩).2.2.1,(jX p.seats p.hand.toNat ⟨no,lsn,ss,false,true⟩).2.2.2) else (p,qD,false)
def XP (tx:Int) (r:QW):Bool:=(r.tx == tx) && (r.kind != 6)
def yZ (tx:Int) (rs:List QW):Nat→List Int
 | 0=>[]
 | k+1=>(if XP tx (rs.getD k qm.v)=true then [(rs.getD k qm.v).lsn] else [])++yZ tx rs k
def chainOf (l:JR) (tx:Int):List Int:=yZ tx l.recs l.recs.length
theorem Pn (rs:List qg) (k:Nat):(rs.map qg.v).getD k qm.v=(rs.getD k qm).v:=by
 simp only [List.getD,List.getElem?_map];cases rs[k]? <;>rfl
theorem Cr (tx:Int) (rs:List qg) (k:Nat) (L R:List Int) (h:L++yZ tx (rs.map qg.v) (k+1)=R):
  (if XP tx (rs.getD k qm).v=true then L++[(rs.getD k qm).lsn] else L)++yZ tx (rs.map qg.v) k=R:=by
 rw [yZ,Pn] at h;by_cases hq:XP tx (rs.getD k qm).v=true
 ·rw [if_pos hq] at h ⊢;rw [← h,List.append_assoc];rfl
 ·rw [if_neg hq] at h ⊢;rw [← h];rfl
theorem Dx (w:World) (m:Int) (t:TypeId):ky (w.alloc (.cells #[.int .i64 m] t)) (some ⟨w.heap.size,0,none⟩) [m]:=by
 intro _;refine ⟨w.heap.size,0,rfl,fun i hi=>?_⟩;have hi0:i=0:=by simp at hi;omega
 subst hi0;exact (yF w [.int .i64 m] t).cell 0 _ rfl
theorem uW {n:Nat} {f:Nat→Bool} (k:Nat) (hk:k<n) (h:f k=false):(List.range n).all f=false:=by
 rw [List.all_eq_false];exact ⟨k,List.mem_range.2 hk,by rw [h];decide⟩
theorem vo {n:Nat} {f:Nat→Bool} (h:∀ k,k<n→f k=true):(List.range n).all f=true:=by
 rw [List.all_eq_true];exact fun k hk=>h k (List.mem_range.1 hk)
theorem gu {n:Nat} {f:Nat→Bool} (h:(List.range n).all f=true) (k:Nat) (hk:k<n):f k=true:=by
 rw [List.all_eq_true] at h;exact h k (List.mem_range.2 hk)
def pz:Int × List jy:=(0,[])
def zJ (e:ji) (i:Nat):Bool:=ze (e.disk.getD i pz).1 (e.disk.getD i pz).2 && decide ((e.disk.getD i pz).1≤e.log.sure)
def yP (e:ji):Bool:=(List.range 8).all (zJ e)
def zf (e:ji) (i:Nat):Bool:=decide ((e.seats.getD i qD).lsn≤(e.log.recs.length:Int)) && ((e.seats.getD i qD).dirty || yR ((e.seats.getD i qD).lsn,(e.seats.getD i qD).ss) (e.disk.getD (e.seats.getD i qD).no.toNat pz))
def xZ (e:ji):Bool:=(List.range e.seats.length).all (zf e)
def vK (e:ji) (i:Nat):Bool:=decide ((e.log.recs.getD i qm.v).tx<e.next)
def yL (e:ji):Bool:=(List.range e.log.recs.length).all (vK e)
def wU (e:ji) (i:Nat):Bool:=inB (e.txs.getD i qA).tx 1 (e.next-1) && (!(e.txs.getD i qA).aborts && (decide ((e.txs.getD i qA).last=lastOf e.log.recs (e.txs.getD i qA).tx) && (decide (i=0) || decide ((e.txs.getD (i-1) qA).tx<(e.txs.getD i qA).tx))))
def wV (e:ji):Bool:=(List.range e.txs.length).all (wU e)
def Y8 (hs:List qJ) (i:Nat):Bool:=(List.range i).all fun k=>decide ((hs.getD k qY).oid≠(hs.getD i qY).oid)
def zi (e:ji) (i:Nat):Bool:=inB (e.holds.getD i qY).oid 1 31 && (decide (0≤wT e.txs (e.holds.getD i qY).tx) && Y8 e.holds i)
def xI (e:ji):Bool:=(List.range e.holds.length).all (zi e)
def KX (e:ji):Bool:=decide (e.seats.length=0) && (decide (e.txs.length=0) && decide (e.holds.length=0))
def zy (e:ji):Bool:=wV e && (xI e && decide (e.txs.length≤6))
def ji.wF (e:ji):jN:=⟨e.seats,e.hand⟩
def jA (e:ji):Bool:=kC e.log && (jg e.wF && (inB e.next 1 1001 && (zy e && (yL e && (yP e && (xZ e && (!e.down || KX e)))))))
theorem Zo {e:qa} (h:e.shape) (i:Nat) (hi:i<8):e.v.disk.getD i pz=((e.disk.getD i qM).lsn,(e.disk.getD i qM).ss.map (·.v)):=by
 have hi':i<e.disk.length:=by rw [h.eight];exact hi
 simp [qa.v,List.getD,hi']
theorem iV {r:QW} (h:xN r=true) (hk:r.kind=6):r.tx=0:=by
 by_cases hz:r.tx=0
 ·exact hz
 ·exfalso;simp [xN,hk,ku,hz] at h
theorem CR {l:JR} (hl:kC l=true) (tx:Int) (ht:1≤tx):∀ k,k≤l.recs.length→(yZ tx l.recs k).headD 0=uj tx l.recs k:=by
 obtain ⟨_,_,_,hall⟩:=Fp hl;intro k
 induction k with
 | zero=>intro _;rfl
 | succ k ih=>
  intro hk;obtain ⟨h1,h2⟩:=hall k (by omega);have e:l.recs.getD k qm.v=l.recs.getD k Vf:=rfl;rw [yZ,uj,e];by_cases hx:(l.recs.getD k Vf).tx=tx
  ·have QN:(l.recs.getD k Vf).kind≠6:=fun h6=>by have:=iV h2 h6;omega
   have ho:XP tx (l.recs.getD k Vf)=true:=by simp only [XP,Bool.and_eq_true,beq_iff_eq,bne_iff_ne];exact ⟨hx,QN⟩
   rw [if_pos ho,if_pos hx];exact h1
  ·have ho:¬ XP tx (l.recs.getD k Vf)=true:=by simp only [XP,Bool.and_eq_true,beq_iff_eq];exact fun h=>hx h.1
   rw [if_neg ho,if_neg hx,List.nil_append];exact ih (by omega)
theorem Tp {l:JR} (hl:kC l=true) (tx:Int) (ht:1≤tx):(chainOf l tx).headD 0=lastOf l.recs tx:=CR hl tx ht _ (Nat.le_refl _)
theorem CU {e:ji} {k:Nat} (hk:k<e.log.recs.length) (h:vK e k=false):jA e=false:=by
 have:yL e=false:=uW k hk h;simp [jA,this]
theorem CV {e:ji} {k:Nat} (hk:k<8) (h:zJ e k=false):jA e=false:=by
 have:yP e=false:=uW k hk h;simp [jA,this]
theorem CW {e:ji} {k:Nat} (hk:k<e.seats.length) (h:zf e k=false):jA e=false:=by
 have:xZ e=false:=uW k hk h;simp [jA,this]
theorem TB {e:ji} (h1:kC e.log=true) (h2:jg e.wF=true) (h3:inB e.next 1 1001=true) (h4:zy e=true) (h5:∀ k,k<e.log.recs.length→vK e k=true) (h6:∀ k,k<8→zJ e k=true) (h7:∀ k,k<e.seats.length→zf e k=true):jA e=(!e.down || KX e):=by
 have a:yL e=true:=vo h5;have b:yP e=true:=vo h6;have c:xZ e=true:=vo h7;simp [jA,h1,h2,h3,h4,a,b,c]
theorem rC {e:ji} (h:jg e.wF=true) (k:Nat) (hk:k<e.seats.length):∃ n:Nat,(e.seats.getD k qD).no=n∧n<8:=by
 obtain ⟨_,_,h3⟩:=K4 h;have:=h3 k hk;simp only [yV,QU,Bool.and_eq_true] at this;have hb:=this.1.1;simp only [inB,decide_eq_true_eq] at hb;exact ⟨(e.seats.getD k qD).no.toNat,(Int.toNat_of_nonneg hb.1).symm,by have h2:=hb.2;have h1:=hb.1;show (e.wF.seats.getD k qD).no.toNat<8;omega⟩
theorem XV {w:World} {a:Option Addr} {ss:List qb} (h:j3 w a ss) (k:Nat) (hk:k<ss.length):∃ b off,a=some ⟨b,off,none⟩∧(∀ j,j<ss.length→w.rangeAt b (off+j*20) (ss.getD j qc).cells∧jK w (ss.getD j qc).ss):=by
 obtain ⟨b,off,ha,hh⟩:=h (by intro e;rw [e] at hk;simp at hk);exact ⟨b,off,ha,fun j hj=>hh j hj⟩
end Go.Proofs.YtjkckhfddgeboaaGreatDoor
namespace Go.Proofs.YtjkckhfddgeboaaGreatDoor
open Go.RowKit
def nK (bs:List Bool):List Value:=bs.map Value.bool++List.replicate (4-bs.length) (.bool false)
theorem El (bs:List Bool) (b:Bool) (h:bs.length<4):(nK bs).set bs.length (.bool b)=nK (bs++[b]):=by
 unfold nK;rw [List.set_append_right _ _ (by simp)];have e:4-bs.length=(4-(bs++[b]).length)+1:=by simp;omega
 rw [e,List.replicate_succ];simp
theorem Em (bs:List Bool) (h:bs.length≤4):(nK bs).length=4:=by simp [nK];omega
theorem iW (bs:List Bool) (h:bs.length≤4) (k:Nat) (hk:k<4):∃ v,(nK bs)[k]? =some v:=⟨_,List.getElem?_eq_getElem (by rw [Em bs h];exact hk)⟩
def En (bs:List Bool) (e:Ending):Prop:=∃ c0 c1 c2 c3:Bool,e=.returned (.agg #[.bool c0,.bool c1,.bool c2,.bool c3])∧bs=[c0,c1,c2,c3]
theorem TC (ss:List qf) (q:jy→Bool) (k:Nat) (h:k<ss.length):(ss.take (k+1)).map (fun s=>q s.v)=(ss.take k).map (fun s=>q s.v)++[q (ss.getD k qh).v]:=by
 rw [List.take_add_one,List.map_append];simp [List.getD,h]
theorem Pe (p:qw) (h4:p.ss.length=4) (w:World) (hg:kK w) (hr:jK w p.ss) (hl:Fit p.ss):
  Calls Tryz.prog 243 #[.agg p.cells.toArray,.func (.func 115) #[] #[]] w fun e w'=>En (p.ss.map (fun s=>qE s.v)) e∧Below w.heap.size w w':=by
 obtain ⟨n,ss⟩:=p;simp only [qw.cells] at*
 obtain ⟨W,hW,b0,b1,b2,hbW,qp⟩:=yn w (.int .i64 n::cellsS ss) [.bool false,.bool false,.bool false,.bool false] [.bool false,.bool false,.bool false,.bool false] 31 269 269;have b2':Box W (w.heap.size+1+1) (nK []) 269:=b2;have sK:w.heap.size+1+1<W.heap.size:=by omega
 have hrg0:W.rangeAt w.heap.size 1 (cellsS ss):=Box.range [.int .i64 n] (cellsS ss) [] (by simpa using b0);have hi0:(Tryz.prog.info? 29).map (·.size)=some (cellsS ss).length:=by rw [jq,h4];kernel_rfl
 have HX:=Qi ss h4;have H4:Hid (ss.length=4):=h4;clear b2 qp h4;go_enter Tryz.func243,Tryz.ntmps243;go_wp2_with (first | (guard_target=wpList _ _ _ (Oper.mk (some 9) _ _ _ _ _::_) _ _;refine wpList_load_mid rfl 29 (.tmp 8) rfl w.heap.size 1 rfl (cellsS ss) _ (by rw [hW.out];exact hrg0) Tryz.underlying29 rfl hi0 ?_) | fail);rw [hW.out];clear hW hrg0 hi0;go_loopw [10] (fun i wr=>∃ (k:Nat) (bs:List Bool),i=.int .i64 k∧k≤4∧Hid (bs.length=k∧bs=(ss.take k).map (fun s=>qE s.v))∧Box wr (w.heap.size+1+1) (nK bs) 269∧Below (w.heap.size+1+1) W wr)
  (fun i _=>4-(intOf i).toNat)
 case atStart=>exact ⟨0,[],rfl,by omega,⟨rfl,rfl⟩,b2',Below.refl _ _⟩
 case round=>
  obtain ⟨k,bs,rfl,hk,hbs,wE,hbl⟩:=hrel;clear b2';have Vl:=b1.below hbl (by omega);have uX:=hbl.size;by_cases hlt:k<4
  ·have hkl:k<ss.length:=by rw [H4.out];exact hlt
   have hx:=HX k hlt;clear HX;have qdZ:bs.length≤4:=by have:=hbs.out.1;omega
   have HV:Hid (_=_):=TC ss (fun s=>qE s) k hkl;have hgr:=hg.keep (hbW.trans (hbl.mono (by omega)));have YV:=(hr _ (jV hkl)).below (hbW.trans (hbl.mono (by omega)));have hlk:Fit [ss.getD k qh]:=fun s hs=>by obtain rfl:=List.mem_singleton.1 hs;exact hl _ (jV hkl)
   generalize ss.getD k qh=s at*
   simp only [qf.cells] at hx;obtain ⟨W1,hW1,bx,Vm,qdu⟩:=qx wr [.bool s.v.has,.int .i64 s.v.o.kind,.slice s.aI s.v.o.ints.length s.cI,.slice s.aR s.v.o.refs.length s.cR] 28;have hsz:=wE.lt;have B1:Below (w.heap.size+1+1) W W1:=hbl.trans (Vm.mono (by omega));go_wp2_with fail;rw [hW1.out];clear hx;refine (K9 s W1 (hgr.keep Vm) (YV.below Vm) hlk).mono ?_;rintro e w2 ⟨rfl,hb2⟩;have hs2:=hb2.size;have Aj:=(wE.below Vm hsz).below hb2 (by omega);obtain ⟨u,hu⟩:=iW bs qdZ k hlt;have hc:=Aj.cell k u hu;have hf:=Aj.frozen k;obtain ⟨W3,hW3,b3,hw3,hs3⟩:=jB Aj k (.bool (qE s.v));have b3':Box W3 (w.heap.size+1+1) (nK (bs++[qE s.v])) 269:=by
    have e:=El bs (qE s.v) (by have:=hbs.out.1;omega);rw [hbs.out.1] at e;rw [← e];exact b3
   have HB:Hid ((bs++[qE s.v]).length=k+1∧bs++[qE s.v]=(ss.take (k+1)).map (fun s=>qE s.v)):=⟨by have:=hbs.out.1;simp;omega,by rw [HV.out,← hbs.out.2]⟩;have B3:Below (w.heap.size+1+1) W W3:=(B1.trans (hb2.mono (by omega))).trans (hw3.below (Nat.le_refl _) (by omega));clear b3 Aj hu HV;go_wp2_with fail;rw [hW3.out];go_roundw
   case rel=>exact ⟨k+1,bs++[qE s.v],by go_num,by omega,HB,b3',B3⟩
   case measure=>simp [intOf];omega
  ·obtain rfl:k=4:=by omega
   have hkk:¬ ((4:Nat):Int)<4:=by omega
   have HQ:Hid (bs=ss.map (fun s=>qE s.v)):=by rw [Hid,hbs.out.2,List.take_of_length_le (by rw [H4.out];omega)]
   obtain ⟨c0,c1,c2,c3,rfl⟩:∃ c0 c1 c2 c3,bs=[c0,c1,c2,c3]:=by
    match bs,hbs.out.1 with
    | [c0,c1,c2,c3],_=>exact ⟨c0,c1,c2,c3,rfl⟩
   have hbx:Box wr (w.heap.size+1+1) [.bool c0,.bool c1,.bool c2,.bool c3] 269:=wE;obtain ⟨x0,x1,x2,x3,_⟩:=hbx.four;obtain ⟨y0,y1,y2,y3,f0,f1,f2,f3⟩:=Vl.four;obtain ⟨WF,qF,bF,hwF,qN⟩:=Ye Vl (.bool c0) (.bool c1) (.bool c2) (.bool c3);have xM:Below w.heap.size w WF:=(hbW.trans (hbl.mono (by omega))).trans (hwF.below (by omega) (by omega));clear wE hbs;go_wp2;rw [qF.out];obtain ⟨q0,q1,q2,q3,_⟩:=bF.four;exact bodyPost_ret (v:=.agg #[.bool c0,.bool c1,.bool c2,.bool c3]) (by simp [results,Tryz.results243,go_sem,q0,q1,q2,q3]) rfl ⟨⟨c0,c1,c2,c3,rfl,HQ.out.symm⟩,xM⟩
end Go.Proofs.YtjkckhfddgeboaaGreatDoor