/- Several texts in one, in their order. -/
import Derived.Test.YtjkckhfddgeboaaGreatDoorPGetx1
import Derived.ProofKit
import Derived.OpenShut
import Derived.ChangeOld
import Derived.ChangeArms
import Derived.Test.YtjkckhfddgeboaaGreatDoorPGetx3
import Derived.Test.YtjkckhfddgeboaaGreatDoorPGetx4
import Derived.Test.YtjkckhfddgeboaaGreatDoorProg
import Derived.LaidEql
import Derived.Stop.Asserts
import Derived.RowKitTokens
import Derived.Test.YtjkckhfddgeboaaGreatDoorPGetx2
set_option maxHeartbeats 8000000
set_option maxRecDepth 100000
namespace Go.Proofs.YtjkckhfddgeboaaGreatDoor
open Go.ChangeShapes Go.WideShapes Go.ChangeAt Go.RowKit
def yx (z:Int):Prop:= -9223372036854775808≤z∧z≤9223372036854775807
theorem wf_i64 {z:Int} (h:(Lit.int .i64 z).wf=true):yx z:=by
 simp [Lit.wf,IntKind.min,IntKind.max,IntKind.signed,IntKind.bits] at h;unfold yx;omega
theorem jm {α:Type} (xs:List α) (i:Nat) (h:i<xs.length):∃ y,xs[i]? =some y:=⟨_,List.getElem?_eq_getElem h⟩
section
variable {H:Type} {enc:TypeId × Value→H} {w:World} {base:Nat} {spare:Nat→Bool} {held:Bool}
theorem Gy {fuel:Nat} {cs:List Value} {x:DataW H × List MemPlace} (h:DataW.trod enc Tryz.prog w base spare held fuel 24 cs=some x):
  ∃ (a:Option Addr) (c:Nat) (ns:List Int),cs=[.slice a ns.length c]∧ky w a ns∧(a=none→c=0)∧ns.length≤maxLen∧∀ z∈ns,yx z:=by
 rcases open_ints Tryz.underlying24 Tryz.underlying3 (by kernel_rfl) h with ⟨rfl,_⟩ | ⟨a,len,cap,zs,rfl,_,hl,hm,hz,_,hcell,hwf⟩
 ·exact ⟨none,0,[],rfl,fun h=>absurd rfl h,fun _=>rfl,by simp,by simp⟩
 ·have hlz:len≤zs.length:=by rw [hz];split<;>omega
  refine ⟨some a,cap,zs.take len,by simp;omega,?_,(fun h=>by cases h),by simp;omega,fun z hzz=>wf_i64 (hwf z (List.mem_of_mem_take hzz))⟩;intro hne;have hpos:=List.length_pos_iff.2 hne;simp at hpos;obtain ⟨b,off,spot⟩:=a;have hc0:=hcell 0 (by omega);have hspot:spot=none:=by simpa [Addr.add] using World.cell?_spot hc0
  subst hspot;refine ⟨b,off,rfl,fun i hi=>?_⟩;have hi':i<len:=by simp at hi;omega
  have:=hcell i (by omega);have e:(List.take len zs).getD i 0=zs.getD i 0:=by simp [List.getD,hi']
  rw [e,← yS];exact this
theorem yc {fuel:Nat} {cs:List Value} {x:DataW H × List MemPlace} (h:DataW.trod enc Tryz.prog w base spare held fuel 3 cs=some x):∃ n:Int,cs=[.int .i64 n]∧yx n:=by
 obtain ⟨n,rfl,_,hw⟩:=DataW.trod_int Tryz.underlying3 h;exact ⟨n,rfl,wf_i64 hw⟩
theorem Tryz.Jw:Tryz.prog.cellsOf 3=1:=by kernel_rfl
theorem Tryz.AR:Tryz.prog.cellsOf 24=1:=by kernel_rfl
theorem Tryz.Sv:Tryz.prog.cellsOf 61=3:=by kernel_rfl
theorem NN {fuel:Nat} {cs:List Value} {x:DataW H × List MemPlace} (h:DataW.trod enc Tryz.prog w base spare held fuel 61 cs=some x):
  ∃ (o:xk) (aI:Option Addr) (cI:Nat) (aR:Option Addr) (cR:Nat),cs=[.int .i64 o.kind,.slice aI o.ints.length cI,.slice aR o.refs.length cR]∧qQ w aI cI aR cR o∧o.ints.length≤maxLen∧o.refs.length≤maxLen∧yx o.kind∧(∀ z∈o.ints,yx z)∧(∀ z∈o.refs,yx z):=by
 obtain ⟨xs,n,_,_,hlen,hxl,hf⟩:=DataW.trod_struct Tryz.underlying61 h;rw [Tryz.Sv] at hlen
 match cs,hlen with
 | [v0,v1,v2],_=>
  have f0:=hf 0 _ rfl;have f1:=hf 1 _ rfl;have f2:=hf 2 _ rfl;obtain ⟨y0,hx0⟩:=jm xs 0 (by rw [hxl];decide);obtain ⟨y1,hx1⟩:=jm xs 1 (by rw [hxl];decide);obtain ⟨y2,hx2⟩:=jm xs 2 (by rw [hxl];decide);rw [hx0] at f0;rw [hx1] at f1;rw [hx2] at f2;simp only [List.getElem_toArray,List.getElem_cons_zero,List.getElem_cons_succ,Tryz.Jw,Tryz.AR,List.drop,List.take] at f0 f1 f2;obtain ⟨k,e0,wk⟩:=yc f0;obtain ⟨aI,cI,ints,e1,hI,nI,lI,wI⟩:=Gy f1;obtain ⟨aR,cR,refs,e2,hR,nR,lR,wR⟩:=Gy f2;simp only [List.cons.injEq,and_true] at e0 e1 e2;subst e0 e1 e2;exact ⟨⟨k,ints,refs⟩,aI,cI,aR,cR,rfl,⟨hI,hR,nI,nR⟩,lI,lR,wk,wI,wR⟩
theorem qdQ {b0:Nat} {v:Value} {d:DataW H} {ps:List MemPlace} (hval:Value.okWide Tryz.prog w .any b0 61 v) (h:DataW.Trod enc Tryz.prog w base spare held 61 v d ps):
  ∃ (o:xk) (aI:Option Addr) (cI:Nat) (aR:Option Addr) (cR:Nat),v=.agg #[.int .i64 o.kind,.slice aI o.ints.length cI,.slice aR o.refs.length cR]∧qQ w aI cI aR cR o∧o.ints.length≤maxLen∧o.refs.length≤maxLen∧yx o.kind∧(∀ z∈o.ints,yx z)∧(∀ z∈o.refs,yx z):=by
 obtain ⟨cs,rfl,hcs⟩:=okWide_struct Tryz.underlying61 hval;obtain ⟨fuel,hf⟩:=h;have e:(Value.agg cs).cells.toList=cs.toList:=rfl;rw [e] at hf;obtain ⟨o,aI,cI,aR,cR,hc,rest⟩:=NN hf;refine ⟨o,aI,cI,aR,cR,?_,rest⟩;congr 1;apply Array.toList_inj.1;rw [hc]
end
end Go.Proofs.YtjkckhfddgeboaaGreatDoor
namespace Go.Proofs.YtjkckhfddgeboaaGreatDoor
open Go.ChangeShapes Go.WideShapes Go.ChangeAt Go.RowKit
structure uD (w:World) (s:qf):Prop where
 reads:s.reads w
 lI:s.v.o.ints.length≤maxLen
 lR:s.v.o.refs.length≤maxLen
 kind:yx s.v.o.kind
 ints:∀ z∈s.v.o.ints,yx z
 refs:∀ z∈s.v.o.refs,yx z
section
variable {H:Type} {enc:TypeId × Value→H} {w:World} {base:Nat} {spare:Nat→Bool} {held:Bool}
theorem Tryz.mM:Tryz.prog.cellsOf 4=1:=by kernel_rfl
theorem Tryz.dm:Tryz.prog.cellsOf 63=4:=by kernel_rfl
theorem Tryz.eU:Tryz.prog.cellsOf 64=16:=by kernel_rfl
theorem Tryz.dw:Tryz.prog.cellsOf 66=17:=by kernel_rfl
theorem Yo {fuel:Nat} {cs:List Value} {x:DataW H × List MemPlace} (h:DataW.trod enc Tryz.prog w base spare held fuel 63 cs=some x):
  ∃ s:qf,cs=s.cells∧uD w s:=by
 obtain ⟨xs,n,_,_,hlen,hxl,hf⟩:=DataW.trod_struct Tryz.underlying63 h;rw [Tryz.dm] at hlen
 match cs,hlen with
 | [v0,v1,v2,v3],_=>
  have f0:=hf 0 _ rfl;have f1:=hf 1 _ rfl;obtain ⟨y0,hx0⟩:=jm xs 0 (by rw [hxl];decide);obtain ⟨y1,hx1⟩:=jm xs 1 (by rw [hxl];decide);rw [hx0] at f0;rw [hx1] at f1;simp only [List.getElem_toArray,List.getElem_cons_zero,List.getElem_cons_succ,Tryz.mM,Tryz.Sv,List.drop,List.take] at f0 f1;obtain ⟨b,e0,_⟩:=DataW.trod_bool Tryz.underlying4 f0;obtain ⟨o,aI,cI,aR,cR,e1,hr,lI,lR,wk,wI,wR⟩:=NN f1;simp only [List.cons.injEq,and_true] at e0 e1;obtain ⟨rfl,rfl,rfl⟩:=e1;subst e0;exact ⟨⟨⟨b,o⟩,aI,cI,aR,cR⟩,rfl,hr,lI,lR,wk,wI,wR⟩
theorem AU (cs:List Value) (h:cs.length=16) (f:∀ i,i<4→∃ s:qf,(cs.drop (i*4)).take 4=s.cells∧uD w s):∃ ss:List qf,ss.length=4∧cs=cellsS ss∧∀ s∈ss,uD w s:=by
 obtain ⟨s0,e0,h0⟩:=f 0 (by omega);obtain ⟨s1,e1,h1⟩:=f 1 (by omega);obtain ⟨s2,e2,h2⟩:=f 2 (by omega);obtain ⟨s3,e3,h3⟩:=f 3 (by omega);refine ⟨[s0,s1,s2,s3],rfl,?_,?_⟩
 ·simp only [cellsS,List.flatMap_cons,List.flatMap_nil,List.append_nil,← e0,← e1,← e2,← e3];simp only [Nat.zero_mul,Nat.one_mul,List.drop_zero];have d:∀ (l:List Value) (k:Nat),l.drop k=(l.drop k).take 4++l.drop (k+4):=fun l k=>by rw [← List.drop_drop,List.take_append_drop]
  have a0:=d cs 0;have a1:=d cs 4;have a2:=d cs 8;have a3:=d cs 12;rw [List.drop_zero] at a0;have a4:cs.drop (12+4)=[]:=List.drop_eq_nil_of_le (by omega);rw [a4,List.append_nil] at a3;simp only [show 0+4=4 from rfl,show 4+4=8 from rfl,show 8+4=12 from rfl,show 2*4=8 from rfl,show 3*4=12 from rfl] at*
  conv=>lhs;rw [a0,a1,a2,a3]
 ·intro s hs;simp only [List.mem_cons,List.not_mem_nil,or_false] at hs;rcases hs with rfl | rfl | rfl | rfl<;>assumption
theorem V3 {fuel:Nat} {cs:List Value} {x:DataW H × List MemPlace} (h:DataW.trod enc Tryz.prog w base spare held fuel 66 cs=some x):
  ∃ p:qw,cs=p.cells∧p.ss.length=4∧yx p.lsn∧∀ s∈p.ss,uD w s:=by
 obtain ⟨xs,n,_,_,hlen,hxl,hf⟩:=DataW.trod_struct Tryz.underlying66 h;rw [Tryz.dw] at hlen;obtain ⟨v0,r,rfl⟩:∃ v0 r,cs=v0::r:=by
  cases cs with
  | nil=>simp at hlen
  | cons v r=>exact ⟨v,r,rfl⟩
 have qdR:r.length=16:=by simpa using hlen
 have f0:=hf 0 _ rfl;have f1:=hf 1 _ rfl;obtain ⟨y0,hx0⟩:=jm xs 0 (by rw [hxl];decide);obtain ⟨y1,hx1⟩:=jm xs 1 (by rw [hxl];decide);rw [hx0] at f0;rw [hx1] at f1;simp only [List.getElem_toArray,List.getElem_cons_zero,List.getElem_cons_succ,Tryz.Jw,Tryz.eU,List.drop_zero,List.drop_succ_cons,List.take_succ_cons,List.take_zero] at f0 f1;rw [List.take_of_length_le (by omega)] at f1;obtain ⟨k,e0,wk⟩:=yc f0;obtain ⟨ys,m,_,_,_,hyl,hg⟩:=DataW.trod_array Tryz.underlying64 f1;obtain ⟨ss,h4,e1,hs⟩:=AU (w:=w) r qdR (fun i hi=>by
  have g:=hg i hi;obtain ⟨y,hy⟩:=jm ys i (by omega);rw [hy,Tryz.dm] at g;exact Yo g)
 simp only [List.cons.injEq,and_true] at e0;subst e0 e1;exact ⟨⟨k,ss⟩,rfl,h4,wk,hs⟩
theorem qce {b0:Nat} {v:Value} {d:DataW H} {ps:List MemPlace} (hval:Value.okWide Tryz.prog w .any b0 66 v) (h:DataW.Trod enc Tryz.prog w base spare held 66 v d ps):
  ∃ p:qw,v=.agg p.cells.toArray∧p.ss.length=4∧yx p.lsn∧∀ s∈p.ss,uD w s:=by
 obtain ⟨cs,rfl,hcs⟩:=okWide_struct Tryz.underlying66 hval;obtain ⟨fuel,hf⟩:=h;have e:(Value.agg cs).cells.toList=cs.toList:=rfl;rw [e] at hf;obtain ⟨p,hc,rest⟩:=V3 hf;refine ⟨p,?_,rest⟩;congr 1;apply Array.toList_inj.1;rw [hc]
theorem qcf {b0:Nat} {v:Value} {d:DataW H} {ps:List MemPlace} (hval:Value.okWide Tryz.prog w .any b0 63 v) (h:DataW.Trod enc Tryz.prog w base spare held 63 v d ps):
  ∃ s:qf,v=.agg s.cells.toArray∧uD w s:=by
 obtain ⟨cs,rfl,hcs⟩:=okWide_struct Tryz.underlying63 hval;obtain ⟨fuel,hf⟩:=h;have e:(Value.agg cs).cells.toList=cs.toList:=rfl;rw [e] at hf;obtain ⟨s,hc,rest⟩:=Yo hf;refine ⟨s,?_,rest⟩;congr 1;apply Array.toList_inj.1;rw [hc]
end
end Go.Proofs.YtjkckhfddgeboaaGreatDoor
namespace Go.Proofs.YtjkckhfddgeboaaGreatDoor
open Go.ChangeShapes Go.WideShapes Go.ChangeAt Go.RowKit
structure J8 (w:World) (r:qg):Prop where
 bf:uD w r.bf
 af:uD w r.af
 txs:jW w r.aL r.txs
 lT:r.txs.length≤maxLen
 nums:yx r.lsn∧yx r.tx∧yx r.prev∧yx r.kind∧yx r.oid∧yx r.next
theorem J8.reads {w:World} {r:qg} (h:J8 w r):r.reads w:=⟨h.bf.reads,h.af.reads,h.txs⟩
section
variable {H:Type} {enc:TypeId × Value→H} {w:World} {base:Nat} {spare:Nat→Bool} {held:Bool}
theorem Tryz.fO:Tryz.prog.cellsOf 242=3:=by kernel_rfl
theorem Tryz.eX:Tryz.prog.cellsOf 74=1:=by kernel_rfl
theorem Tryz.fA:Tryz.prog.cellsOf 306=15:=by kernel_rfl
theorem Sw {fuel:Nat} {cs:List Value} {x:DataW H × List MemPlace} (h:DataW.trod enc Tryz.prog w base spare held fuel 242 cs=some x):∃ t:qC,cs=t.cells:=by
 obtain ⟨xs,n,_,_,hlen,hxl,hf⟩:=DataW.trod_struct Tryz.underlying242 h;rw [Tryz.fO] at hlen
 match cs,hlen with
 | [v0,v1,v2],_=>
  have f0:=hf 0 _ rfl;have f1:=hf 1 _ rfl;have f2:=hf 2 _ rfl;obtain ⟨y0,hx0⟩:=jm xs 0 (by rw [hxl];decide);obtain ⟨y1,hx1⟩:=jm xs 1 (by rw [hxl];decide);obtain ⟨y2,hx2⟩:=jm xs 2 (by rw [hxl];decide);rw [hx0] at f0;rw [hx1] at f1;rw [hx2] at f2;simp only [List.getElem_toArray,List.getElem_cons_zero,List.getElem_cons_succ,Tryz.mM,Tryz.Jw,List.drop,List.take] at f0 f1 f2;obtain ⟨a,e0,_⟩:=yc f0;obtain ⟨b,e1,_⟩:=yc f1;obtain ⟨c,e2,_⟩:=DataW.trod_bool Tryz.underlying4 f2;simp only [List.cons.injEq,and_true] at e0 e1 e2;subst e0 e1 e2;exact ⟨⟨a,b,c⟩,rfl⟩
theorem mO {fuel:Nat} {cs:List Value} {x:DataW H × List MemPlace} (h:DataW.trod enc Tryz.prog w base spare held fuel 74 cs=some x):
  ∃ (a:Option Addr) (c:Nat) (ls:List qC),cs=[.slice a ls.length c]∧jW w a ls∧ls.length≤maxLen:=by
 rcases DataW.trod_slice Tryz.underlying74 h with ⟨rfl,_⟩ | ⟨a,len,cap,elems,rest,n,_,rfl,_,_,hl,hm,hlen,hel,_,_⟩
 ·exact ⟨none,0,[],rfl,jW.nil _ _,by simp⟩
 rw [Tryz.fO] at hel;have each:∀ i,i<len→∃ t:qC,w.cells? base (a.add (i*3)) 3=some t.cells:=by
  intro i hi;have hy:=hel i hi;rw [List.getElem?_eq_getElem (by omega:i<elems.length),Option.bind_eq_some_iff] at hy;obtain ⟨cs',hcs,hy'⟩:=hy;obtain ⟨t,e⟩:=Sw hy';exact ⟨t,by rw [hcs,e]⟩
 obtain ⟨f,hf⟩:∃ f:Nat→qC,∀ i,i<len→w.cells? base (a.add (i*3)) 3=some (f i).cells:=by
  refine ⟨fun i=>if h:i<len then (each i h).choose else qA,fun i hi=>?_⟩;simp only [dif_pos hi];exact (each i hi).choose_spec
 refine ⟨some a,cap,(List.range len).map f,by simp,?_,by simp;omega⟩;intro hne;have hpos:=List.length_pos_iff.2 hne;simp only [List.length_map,List.length_range] at hpos ⊢;obtain ⟨b,off,spot⟩:=a;have c0:=(World.cells?_some (hf 0 hpos)).2.2 0 (by decide);have hspot:spot=none:=by simpa [Addr.add] using World.cell?_spot c0
 subst hspot;refine ⟨b,off,rfl,fun k hk=>?_⟩;have e:((List.range len).map f).getD k qA=f k:=by simp [List.getD,hk]
 rw [e];have hc:=(World.cells?_some (hf k hk)).2.2;have d0:=hc 0 (by decide);have d1:=hc 1 (by decide);have d2:=hc 2 (by decide);simp only [yS,qC.cells] at d0 d1 d2;exact ⟨by simpa using d0,by simpa using d1,by simpa using d2⟩
theorem Nc {fuel:Nat} {cs:List Value} {x:DataW H × List MemPlace} (h:DataW.trod enc Tryz.prog w base spare held fuel 306 cs=some x):
  ∃ r:qg,cs=r.cells∧J8 w r:=by
 obtain ⟨xs,n,_,_,hlen,hxl,hf⟩:=DataW.trod_struct Tryz.underlying306 h;rw [Tryz.fA] at hlen
 match cs,hlen with
 | [v0,v1,v2,v3,v4,v5,v6,v7,v8,v9,v10,v11,v12,v13,v14],_=>
  have f0:=hf 0 _ rfl;have f1:=hf 1 _ rfl;have f2:=hf 2 _ rfl;have f3:=hf 3 _ rfl;have f4:=hf 4 _ rfl;have f5:=hf 5 _ rfl;have f6:=hf 6 _ rfl;have f7:=hf 7 _ rfl;have f8:=hf 8 _ rfl;obtain ⟨y0,hx0⟩:=jm xs 0 (by rw [hxl];decide);rw [hx0] at f0;obtain ⟨y1,hx1⟩:=jm xs 1 (by rw [hxl];decide);rw [hx1] at f1;obtain ⟨y2,hx2⟩:=jm xs 2 (by rw [hxl];decide);rw [hx2] at f2;obtain ⟨y3,hx3⟩:=jm xs 3 (by rw [hxl];decide);rw [hx3] at f3;obtain ⟨y4,hx4⟩:=jm xs 4 (by rw [hxl];decide);rw [hx4] at f4;obtain ⟨y5,hx5⟩:=jm xs 5 (by rw [hxl];decide);rw [hx5] at f5;obtain ⟨y6,hx6⟩:=jm xs 6 (by rw [hxl];decide);rw [hx6] at f6;obtain ⟨y7,hx7⟩:=jm xs 7 (by rw [hxl];decide);rw [hx7] at f7;obtain ⟨y8,hx8⟩:=jm xs 8 (by rw [hxl];decide);rw [hx8] at f8;simp only [List.getElem_toArray,List.getElem_cons_zero,List.getElem_cons_succ,Tryz.Jw,Tryz.dm,Tryz.eX,List.drop,List.take] at f0 f1 f2 f3 f4 f5 f6 f7 f8;obtain ⟨n0,e0,w0⟩:=yc f0;obtain ⟨n1,e1,w1⟩:=yc f1;obtain ⟨n2,e2,w2⟩:=yc f2;obtain ⟨n3,e3,w3⟩:=yc f3;obtain ⟨n4,e4,w4⟩:=yc f4;obtain ⟨n5,e5,w5⟩:=yc f7;obtain ⟨s,e6,hs⟩:=Yo f5;obtain ⟨u,e7,hu⟩:=Yo f6;obtain ⟨aL,cL,ls,e8,hL,lL⟩:=mO f8;simp only [qf.cells,List.cons.injEq,and_true] at e0 e1 e2 e3 e4 e5 e6 e7 e8;obtain ⟨g0,g1,g2,g3⟩:=e6;obtain ⟨k0,k1,k2,k3⟩:=e7;subst e0 e1 e2 e3 e4 e5 e8 g0 g1 g2 g3 k0 k1 k2 k3;exact ⟨⟨n0,n1,n2,n3,n4,s,u,n5,ls,aL,cL⟩,rfl,hs,hu,hL,lL,w0,w1,w2,w3,w4,w5⟩
theorem qdS {b0:Nat} {v:Value} {d:DataW H} {ps:List MemPlace} (hval:Value.okWide Tryz.prog w .any b0 306 v) (h:DataW.Trod enc Tryz.prog w base spare held 306 v d ps):
  ∃ r:qg,v=.agg r.cells.toArray∧J8 w r:=by
 obtain ⟨cs,rfl,hcs⟩:=okWide_struct Tryz.underlying306 hval;obtain ⟨fuel,hf⟩:=h;have e:(Value.agg cs).cells.toList=cs.toList:=rfl;rw [e] at hf;obtain ⟨r,hc,rest⟩:=Nc hf;refine ⟨r,?_,rest⟩;congr 1;apply Array.toList_inj.1;rw [hc]
end
end Go.Proofs.YtjkckhfddgeboaaGreatDoor
namespace Go.Proofs.YtjkckhfddgeboaaGreatDoor
open Go.RowKit
def qm:qg:=⟨0,0,0,0,0,qh,qh,0,[],none,0⟩
theorem yC {r t:qg} {m:Nat} (h:t.v=r.v) (hl:r.short m):t.short m:=by
 simp only [qg.v,QW.mk.injEq] at h;obtain ⟨_,_,_,_,_,h1,h2,_,h3⟩:=h;exact ⟨by rw [h1];exact hl.bf,by rw [h2];exact hl.af,by rw [h3];exact hl.txs⟩
theorem qZ {r:qg} (hl:r.short 1048576):r.short 1099511627776:=⟨by have:=hl.bf;omega,by have:=hl.af;omega,by have:=hl.txs;omega⟩
theorem J8.short {w:World} {r:qg} (h:J8 w r):r.short 9223372036854775807:=by
 have h1:=h.bf.lI;have h2:=h.bf.lR;have h3:=h.af.lI;have h4:=h.af.lR;have h5:=h.lT;simp only [maxLen] at h1 h2 h3 h4 h5;exact ⟨by omega,by omega,by omega⟩
theorem qg.own.ql {w:World} {lo hi:Nat} {r:qg} (h:r.own w lo hi):∀ k∈r.blocks,lo≤k∧k<hi:=by
 intro k hk;simp only [qg.blocks,List.mem_append,Option.mem_toList] at hk;rcases hk with h1 | h1 | h1
 ·exact qf.ql h.bf k h1
 ·exact qf.ql h.af k h1
 ·exact h.txs.lt k h1
theorem Rt (r:qg) (w:World) (hr:r.reads w) (hl:r.short 1048576):
  Calls Tryz.prog 287 #[.agg r.cells.toArray] w fun e w'=>∃ t:qg,e=.returned (.agg t.cells.toArray)∧Hid (t.v=r.v)∧t.own w' w.heap.size w'.heap.size∧Below w.heap.size w w':=
 toRec_own r w hr (qZ hl).bf (qZ hl).af (qZ hl).txs
def jO (rs:List qg):List Value:=rs.flatMap qg.cells
theorem zu (r:qg):r.cells.length=15:=rfl
theorem YG (rs:List qg):(jO rs).length=rs.length*15:=by
 induction rs with
 | nil=>rfl
 | cons s r ih=>simp only [jO,List.flatMap_cons,List.length_append,zu,List.length_cons] at *;omega
theorem QK (a b:List qg):jO (a++b)=jO a++jO b:=by simp [jO]
theorem vW (r:qg) (b:List qg):jO (r::b)=r.cells++jO b:=by simp [jO]
theorem Zz (rs:List qg) (k j:Nat) (hk:k<rs.length) (hj:j<15):(jO rs)[k*15+j]? =(rs.getD k qm).cells[j]? :=by
 induction rs generalizing k with
 | nil=>simp at hk
 | cons s r ih=>
  rw [vW];cases k with
  | zero=>rw [List.getElem?_append_left (by rw [zu];omega)];simp
  | succ k=>
   rw [List.getElem?_append_right (by rw [zu];omega),zu];have:=ih k (by simpa using hk);rw [show (k+1)*15+j-15=k*15+j by omega,this];simp
theorem zZ (rs:List qg) (k:Nat) (hk:k<rs.length):rs.getD k qm∈rs:=by
 have e:rs.getD k qm=rs[k]:=by simp [List.getD,hk]
 rw [e];exact List.getElem_mem hk
theorem xU {w w':World} {b o n:Nat} {cs:List Value} (h:w.rangeAt b o cs) (hb:Below n w w') (hn:b<n):w'.rangeAt b o cs:=fun j v hv=>(hb.cell (p:=⟨b,o+j,none⟩) hn).trans (h j v hv)
theorem QT {w w':World} {b o:Nat} {cs:List Value} (h:w.rangeAt b o cs) (hb:w'.heap[b]? =w.heap[b]?):w'.rangeAt b o cs:=fun j v hv=>by
 have:=h j v hv;simp only [World.cell?,hb] at this ⊢;exact this
theorem Kg {w:World} {b o:Nat} {r:qg} (h:w.rangeAt b o r.cells):b<w.heap.size:=block_lt (h 0 _ rfl)
def xc (w:World) (a:Option Addr) (rs:List qg):Prop:=rs≠[]→∃ b off,a=some ⟨b,off,none⟩∧∀ k,k<rs.length→w.rangeAt b (off+k*15) (rs.getD k qm).cells∧(rs.getD k qm).reads w
theorem xc.nil (w:World) (a:Option Addr):xc w a []:=fun h=>absurd rfl h
theorem xc.below {w w':World} {a:Option Addr} {rs:List qg} (h:xc w a rs) (hb:Below w.heap.size w w'):xc w' a rs:=by
 intro hne;obtain ⟨b,off,ha,hc⟩:=h hne;refine ⟨b,off,ha,fun k hk=>?_⟩;obtain ⟨h0,h1⟩:=hc k hk;exact ⟨xU h0 hb (Kg h0),h1.below hb⟩
theorem xc.cases {w:World} {a:Option Addr} {rs:List qg} (h:xc w a rs):rs=[]∨∃ b off,a=some ⟨b,off,none⟩∧0<rs.length∧∀ k,k<rs.length→w.rangeAt b (off+k*15) (rs.getD k qm).cells∧(rs.getD k qm).reads w:=by
 by_cases e:rs=[]
 ·exact .inl e
 ·obtain ⟨b,off,ha,hc⟩:=h e;exact .inr ⟨b,off,ha,List.length_pos_iff.2 e,hc⟩
structure qV (w:World) (lo hi:Nat) (a:Option Addr) (c:Nat) (rs:List qg):Prop where
 row:w.ownsRow lo 189 15 (.slice a rs.length c) rs.length (jO rs)
 top:hi≤w.heap.size
 blk:∀ k,(Value.slice a rs.length c).ownBlock=some k→k<hi
 each:∀ r∈rs,r.own w lo hi
 apart:((Value.slice a rs.length c).ownBlock.toList++rs.flatMap qg.blocks).Nodup
def kr (a:Option Addr) (c:Nat) (rs:List qg):List Nat:=(Value.slice a rs.length c).ownBlock.toList++rs.flatMap qg.blocks
theorem qV.ql {w:World} {lo hi:Nat} {a:Option Addr} {c:Nat} {rs:List qg} (h:qV w lo hi a c rs):∀ k∈kr a c rs,lo≤k∧k<hi:=by
 intro k hk;simp only [kr,List.mem_append,List.mem_flatMap,Option.mem_toList] at hk;rcases hk with h1 | ⟨r,hr,h1⟩
 ·exact ⟨(h.row.lt k h1).1,h.blk k h1⟩
 ·exact (h.each r hr).ql k h1
theorem qg.own.touch {w w':World} {lo hi:Nat} {r:qg} {bl:List Nat} (h:r.own w lo hi) (ht:Touch bl w w') (hd:∀ k∈r.blocks,k∉bl):r.own w' lo hi:=
 ⟨qf.touch h.bf ht (fun k hk=>hd k (List.mem_append.2 (.inl hk))),qf.touch h.af ht (fun k hk=>hd k (List.mem_append.2 (.inr (List.mem_append.2 (.inl hk))))),h.txs.touch ht (fun k hk=>hd k (List.mem_append.2 (.inr (List.mem_append.2 (.inr (Option.mem_toList.2 hk)))))),h.apart⟩
theorem qV.touch {w w':World} {lo hi:Nat} {a:Option Addr} {c:Nat} {rs:List qg} {bl:List Nat} (h:qV w lo hi a c rs) (ht:Touch bl w w') (hd:∀ k∈kr a c rs,k∉bl):qV w' lo hi a c rs:=
 ⟨jE h.row (fun k hk=>ht.block k (h.row.lt k hk).2 (hd k (List.mem_append.2 (.inl (Option.mem_toList.2 hk))))),Nat.le_trans h.top ht.size,h.blk,fun r hr=>(h.each r hr).touch ht (fun k hk=>hd k (List.mem_append.2 (.inr (List.mem_flatMap.2 ⟨r,hr,hk⟩)))),h.apart⟩
theorem qV.within {w w':World} {lo hi l r:Nat} {a:Option Addr} {c:Nat} {rs:List qg} (h:qV w lo hi a c rs) (hw:Within l r w w') (hd:hi≤l∨r≤lo):qV w' lo hi a c rs:=
 ⟨jE h.row (fun k hk=>hw.block k (by have:=h.blk k hk;have:=h.top;omega) (by have:=h.blk k hk;have:=(h.row.lt k hk).1;omega)),Nat.le_trans h.top hw.size,h.blk,fun x hx=>(h.each x hx).within hw hd,h.apart⟩
theorem qV.below {w w':World} {lo hi:Nat} {a:Option Addr} {c:Nat} {rs:List qg} (h:qV w lo hi a c rs) (hb:Below w.heap.size w w'):qV w' lo hi a c rs:=
 h.within (Within.of_below (lo:=w.heap.size) (hi:=w.heap.size) hb) (.inl h.top)
theorem qV.widen {w:World} {lo hi lo' hi':Nat} {a:Option Addr} {c:Nat} {rs:List qg} (h:qV w lo hi a c rs) (h1:lo'≤lo) (h2:hi≤hi') (h3:hi'≤w.heap.size):qV w lo' hi' a c rs:=
 ⟨kM h.row (fun k hk=>by have:=(h.row.lt k hk).1;omega),h3,fun k hk=>by have:=h.blk k hk;omega,fun x hx=>(h.each x hx).widen h1 h2 h3,h.apart⟩
theorem dO (w:World) (lo hi:Nat) (h:hi≤w.heap.size):qV w lo hi none 0 []:=⟨⟨by simp [jO],.inl ⟨rfl,rfl⟩⟩,h,(fun k hk=>by cases hk),(fun r hr=>by simp at hr),by simp [Value.ownBlock]⟩
theorem pM {w:World} {base g n cap:Nat} {rs:List qg} (h:w.ownsRow base 189 15 (.slice (some ⟨g,0,none⟩) n cap) n (jO rs)) (hn:rs.length=n) (k:Nat) (hk:k<n):
  w.rangeAt g (k*15) (rs.getD k qm).cells∧w.there g (k*15) 15:=by
 refine ⟨fun j v hv=>?_,fun j hj=>?_⟩
 ·have hj:j<15:=by have:=(List.getElem?_eq_some_iff.1 hv).1;rwa [zu] at this
  rw [h.cellAt (k*15+j) (by omega),Zz rs k j (by omega) hj,hv]
 ·refine ⟨?_,h.frozenAt _⟩;rw [h.cellAt (k*15+j) (by omega),Zz rs k j (by omega) hj,List.getElem?_eq_getElem (by rw [zu];omega)];rfl
theorem qV.reads {w:World} {lo hi:Nat} {a:Option Addr} {c:Nat} {rs:List qg} (h:qV w lo hi a c rs):xc w a rs:=by
 intro hne;rcases h.row.2 with ⟨_,h0⟩ | ⟨g,cap',cur,hv,hb,hg,hr⟩
 ·exact absurd (List.length_eq_zero_iff.1 h0) hne
 ·simp only [Value.slice.injEq] at hv;obtain ⟨rfl,_,rfl⟩:=hv;refine ⟨g,0,rfl,fun k hk=>?_⟩;rw [Nat.zero_add];exact ⟨(pM h.row rfl k hk).1,(h.each _ (zZ rs k hk)).reads⟩
theorem XN {base g n cap sz:Nat} {e:TypeId} (cs:List Value):∀ (pre old post:List Value) (w:World),w.ownsRow base e sz (.slice (some ⟨g,0,none⟩) n cap) n (pre++(old++post))→old.length=cs.length→
  (w.setCells g pre.length cs).ownsRow base e sz (.slice (some ⟨g,0,none⟩) n cap) n (pre++(cs++post))∧w.grownBy (w.setCells g pre.length cs) (some g):=by
 induction cs with
 | nil=>intro pre old post w h hl;obtain rfl:=List.length_eq_zero_iff.1 hl;exact ⟨h,World.grownBy.refl _ _⟩
 | cons c cr ih=>
  intro pre old post w h hl;obtain ⟨x,r,rfl⟩:∃ x r,old=x::r:=by
   cases old with
   | nil=>simp at hl
   | cons x r=>exact ⟨x,r,rfl⟩
  have hs:=h.stored pre.length c;rw [List.set_append_right _ _ (Nat.le_refl _),Nat.sub_self] at hs;simp only [List.cons_append,List.set_cons_zero] at hs;have:=ih (pre++[c]) r post (w.setCell ⟨g,pre.length,none⟩ c) (by simpa using hs.1) (by simpa using hl);simp only [List.length_append,List.length_singleton] at this;rw [World.setCells];exact ⟨by simpa using this.1,grownBy_trans hs.2 this.2⟩
theorem KL (B:Nat):∀ (vs:List Value) (o:Nat) (w:World),(w.setCells B o vs).heap.size=w.heap.size:=by
 intro vs
 induction vs with
 | nil=>intro o w;rfl
 | cons v r ih=>intro o w;rw [World.setCells,ih];simp
theorem qV.fill {w:World} {lo hi g c:Nat} {A B:List qg} {z:qg} (h:qV w lo hi (some ⟨g,0,none⟩) c (A++z::B)) (q:qg) {l u:Nat} (hq:q.own w l u) (hl:hi≤l) (hlo:lo≤hi) (hu:u≤w.heap.size):
  ∃ W,Hid (w.setCells g (A.length*15) q.cells=W)∧qV W lo (max hi u) (some ⟨g,0,none⟩) c (A++q::B)∧Touch [g] w W∧W.heap.size=w.heap.size:=by
 have hrow:=h.row;rw [QK,vW,List.length_append,List.length_cons] at hrow;have hg:lo≤g∧g<hi:=⟨(hrow.lt g rfl).1,h.blk g rfl⟩;obtain ⟨h1,h2⟩:=XN q.cells (jO A) z.cells (jO B) w hrow rfl;rw [YG] at h1 h2;have ht:Touch [g] w (w.setCells g (A.length*15) q.cells):=Touch.jw h2 (fun k hk=>by cases hk;simp);have hap:=h.apart;simp only [List.flatMap_append,List.flatMap_cons,Value.ownBlock,Option.toList,List.singleton_append,List.nodup_cons,List.nodup_append,List.mem_append,not_or] at hap;obtain ⟨⟨n1,n2,n3⟩,a1,⟨a2,a3,a4⟩,a5⟩:=hap;have xB:=hq.ql;have hA:∀ x∈A.flatMap qg.blocks,lo≤x∧x<hi:=fun x hx=>by
  obtain ⟨r,hr,hx⟩:=List.mem_flatMap.1 hx;exact (h.each r (by simp [hr])).ql x hx
 have hB:∀ x∈B.flatMap qg.blocks,lo≤x∧x<hi:=fun x hx=>by
  obtain ⟨r,hr,hx⟩:=List.mem_flatMap.1 hx;exact (h.each r (by simp [hr])).ql x hx
 have hsz:=KL g q.cells (A.length*15) w;refine ⟨_,rfl,⟨?_,?_,fun k hk=>?_,fun r hr=>?_,?_⟩,ht,hsz⟩
 ·rw [QK,vW,List.length_append,List.length_cons];exact h1
 ·rw [hsz];have:=h.top;omega
 ·cases hk;show g<max hi u;omega
 ·rcases List.mem_append.1 hr with hr | hr
  ·exact ((h.each r (by simp [hr])).touch ht (fun k hk hk'=>n1 (by rw [← List.mem_singleton.1 hk'];exact List.mem_flatMap.2 ⟨r,hr,hk⟩))).widen (Nat.le_refl _) (by omega) (by rw [hsz];have:=h.top;omega)
  ·rcases List.mem_cons.1 hr with rfl | hr
   ·exact (hq.touch ht (fun k hk hk'=>by have:=xB k hk;have:=List.mem_singleton.1 hk';omega)).widen (by omega) (by omega) (by rw [hsz];have:=h.top;omega)
   ·exact ((h.each r (by simp [hr])).touch ht (fun k hk hk'=>n3 (by rw [← List.mem_singleton.1 hk'];exact List.mem_flatMap.2 ⟨r,hr,hk⟩))).widen (Nat.le_refl _) (by omega) (by rw [hsz];have:=h.top;omega)
 ·simp only [List.flatMap_append,List.flatMap_cons,Value.ownBlock,Option.toList,List.singleton_append,List.nodup_cons,List.nodup_append,List.mem_append,not_or];refine ⟨⟨n1,fun hk=>by have:=xB g hk;omega,n3⟩,a1,⟨hq.apart,a3,fun x hx y hy e=>by have:=xB x hx;have:=hB y hy;omega⟩,fun x hx y hy e=>?_⟩;rcases hy with hy | hy
  ·have:=xB y hy;have:=hA x hx;omega
  ·exact a5 x hx y (.inr hy) e
structure qb where
 no:Int
 lsn:Int
 s0:qf
 s1:qf
 s2:qf
 s3:qf
 dirty:Bool
 hot:Bool
def qb.ss (s:qb):List qf:=[s.s0,s.s1,s.s2,s.s3]
def qb.page (s:qb):qw:=⟨s.lsn,s.ss⟩
structure jc where
 no:Int
 lsn:Int
 ss:List jy
 dirty:Bool
 hot:Bool
def qb.v (s:qb):jc:=⟨s.no,s.lsn,s.ss.map (·.v),s.dirty,s.hot⟩
def qb.cells (s:qb):List Value:=.int .i64 s.no::.int .i64 s.lsn::(s.s0.cells++(s.s1.cells++(s.s2.cells++(s.s3.cells++[.bool s.dirty,.bool s.hot]))))
theorem qb.zG (s:qb):s.cells=.int .i64 s.no::(s.page.cells++[.bool s.dirty,.bool s.hot]):=by
 simp [qb.cells,qb.page,qb.ss,qw.cells,cellsS]
def qc:qb:=⟨0,0,qh,qh,qh,qh,false,false⟩
def qb.reads (w:World) (s:qb):Prop:=jK w s.ss
theorem qb.reads.below {w w':World} {s:qb} (h:s.reads w) (hb:Below w.heap.size w w'):s.reads w':=jK.below h hb
def qb.blocks (s:qb):List Nat:=s.ss.flatMap qf.blocks
def qb.own (w:World) (lo hi:Nat) (s:qb):Prop:=qG w lo hi s.ss
theorem qb.own.apart {w:World} {lo hi:Nat} {s:qb} (h:s.own w lo hi):s.blocks.Nodup:=qG.apart h
theorem qb.own.reads {w:World} {lo hi:Nat} {s:qb} (h:s.own w lo hi):s.reads w:=qG.reads h
theorem qb.own.below {w w':World} {lo hi:Nat} {s:qb} (h:s.own w lo hi) (hb:Below w.heap.size w w'):s.own w' lo hi:=qG.below h hb
theorem qb.own.within {w w':World} {lo hi l u:Nat} {s:qb} (h:s.own w lo hi) (hw:Within l u w w') (hd:hi≤l∨u≤lo):s.own w' lo hi:=qG.within h hw hd
theorem qb.own.widen {w:World} {lo hi lo' hi':Nat} {s:qb} (h:s.own w lo hi) (h1:lo'≤lo) (h2:hi≤hi') (h3:hi'≤w.heap.size):s.own w lo' hi':=qG.widen h h1 h2 h3
theorem qb.own.ql {w:World} {lo hi:Nat} {s:qb} (h:s.own w lo hi):∀ k∈s.blocks,lo≤k∧k<hi:=qG.ql h
theorem gQ (s:qb):∀ v∈s.cells,v.oneCell'=true:=by
 intro v hv;rw [qb.zG] at hv;rcases List.mem_cons.1 hv with rfl | h
 ·rfl
 ·rcases List.mem_append.1 h with h | h
  ·exact Qx _ v h
  ·simp only [List.mem_cons,List.not_mem_nil,or_false] at h;rcases h with rfl | rfl<;>rfl
def jr (rs:List qb):List Value:=rs.flatMap qb.cells
theorem xg (r:qb):r.cells.length=20:=rfl
theorem Qe (rs:List qb):(jr rs).length=rs.length*20:=by
 induction rs with
 | nil=>rfl
 | cons s r ih=>simp only [jr,List.flatMap_cons,List.length_append,xg,List.length_cons] at *;omega
theorem yU (a b:List qb):jr (a++b)=jr a++jr b:=by simp [jr]
theorem xV (r:qb) (b:List qb):jr (r::b)=r.cells++jr b:=by simp [jr]
theorem YK (rs:List qb) (k j:Nat) (hk:k<rs.length) (hj:j<20):(jr rs)[k*20+j]? =(rs.getD k qc).cells[j]? :=by
 induction rs generalizing k with
 | nil=>simp at hk
 | cons s r ih=>
  rw [xV];cases k with
  | zero=>rw [List.getElem?_append_left (by rw [xg];omega)];simp
  | succ k=>
   rw [List.getElem?_append_right (by rw [xg];omega),xg];have:=ih k (by simpa using hk);rw [show (k+1)*20+j-20=k*20+j by omega,this];simp
theorem wL (rs:List qb) (k:Nat) (hk:k<rs.length):rs=rs.take k++rs.getD k qc::rs.drop (k+1):=by
 have e:rs.getD k qc=rs[k]:=by simp [List.getD,hk]
 rw [e];conv=>lhs;rw [← List.take_append_drop k rs,List.drop_eq_getElem_cons hk]
theorem xE (rs:List qb) (k:Nat) (hk:k<rs.length):rs.getD k qc∈rs:=by
 have e:rs.getD k qc=rs[k]:=by simp [List.getD,hk]
 rw [e];exact List.getElem_mem hk
theorem Jk {w:World} {b o:Nat} {r:qb} (h:w.rangeAt b o r.cells):b<w.heap.size:=block_lt (h 0 _ rfl)
def j3 (w:World) (a:Option Addr) (rs:List qb):Prop:=rs≠[]→∃ b off,a=some ⟨b,off,none⟩∧∀ k,k<rs.length→w.rangeAt b (off+k*20) (rs.getD k qc).cells∧(rs.getD k qc).reads w
theorem j3.nil (w:World) (a:Option Addr):j3 w a []:=fun h=>absurd rfl h
theorem j3.below {w w':World} {a:Option Addr} {rs:List qb} (h:j3 w a rs) (hb:Below w.heap.size w w'):j3 w' a rs:=by
 intro hne;obtain ⟨b,off,ha,hc⟩:=h hne;refine ⟨b,off,ha,fun k hk=>?_⟩;obtain ⟨h0,h1⟩:=hc k hk;exact ⟨xU h0 hb (Jk h0),h1.below hb⟩
theorem j3.cases {w:World} {a:Option Addr} {rs:List qb} (h:j3 w a rs):rs=[]∨∃ b off,a=some ⟨b,off,none⟩∧0<rs.length∧∀ k,k<rs.length→w.rangeAt b (off+k*20) (rs.getD k qc).cells∧(rs.getD k qc).reads w:=by
 by_cases e:rs=[]
 ·exact .inl e
 ·obtain ⟨b,off,ha,hc⟩:=h e;exact .inr ⟨b,off,ha,List.length_pos_iff.2 e,hc⟩
structure OwnSts (w:World) (lo hi:Nat) (a:Option Addr) (c:Nat) (rs:List qb):Prop where
 row:w.ownsRow lo 167 20 (.slice a rs.length c) rs.length (jr rs)
 top:hi≤w.heap.size
 blk:∀ k,(Value.slice a rs.length c).ownBlock=some k→k<hi
 each:∀ r∈rs,r.own w lo hi
 apart:((Value.slice a rs.length c).ownBlock.toList++rs.flatMap qb.blocks).Nodup
def qo (a:Option Addr) (c:Nat) (rs:List qb):List Nat:=(Value.slice a rs.length c).ownBlock.toList++rs.flatMap qb.blocks
theorem OwnSts.ql {w:World} {lo hi:Nat} {a:Option Addr} {c:Nat} {rs:List qb} (h:OwnSts w lo hi a c rs):∀ k∈qo a c rs,lo≤k∧k<hi:=by
 intro k hk;simp only [qo,List.mem_append,List.mem_flatMap,Option.mem_toList] at hk;rcases hk with h1 | ⟨r,hr,h1⟩
 ·exact ⟨(h.row.lt k h1).1,h.blk k h1⟩
 ·exact (h.each r hr).ql k h1
theorem qb.own.touch {w w':World} {lo hi:Nat} {s:qb} {bl:List Nat} (h:s.own w lo hi) (ht:Touch bl w w') (hd:∀ k∈s.blocks,k∉bl):s.own w' lo hi:=
 ⟨fun x hx=>qf.touch (h.each x hx) ht (fun k hk=>hd k (List.mem_flatMap.2 ⟨x,hx,hk⟩)),qG.apart h⟩
theorem OwnSts.touch {w w':World} {lo hi:Nat} {a:Option Addr} {c:Nat} {rs:List qb} {bl:List Nat} (h:OwnSts w lo hi a c rs) (ht:Touch bl w w') (hd:∀ k∈qo a c rs,k∉bl):OwnSts w' lo hi a c rs:=
 ⟨jE h.row (fun k hk=>ht.block k (h.row.lt k hk).2 (hd k (List.mem_append.2 (.inl (Option.mem_toList.2 hk))))),Nat.le_trans h.top ht.size,h.blk,fun r hr=>(h.each r hr).touch ht (fun k hk=>hd k (List.mem_append.2 (.inr (List.mem_flatMap.2 ⟨r,hr,hk⟩)))),h.apart⟩
theorem OwnSts.within {w w':World} {lo hi l r:Nat} {a:Option Addr} {c:Nat} {rs:List qb} (h:OwnSts w lo hi a c rs) (hw:Within l r w w') (hd:hi≤l∨r≤lo):OwnSts w' lo hi a c rs:=
 ⟨jE h.row (fun k hk=>hw.block k (by have:=h.blk k hk;have:=h.top;omega) (by have:=h.blk k hk;have:=(h.row.lt k hk).1;omega)),Nat.le_trans h.top hw.size,h.blk,fun x hx=>(h.each x hx).within hw hd,h.apart⟩
theorem OwnSts.below {w w':World} {lo hi:Nat} {a:Option Addr} {c:Nat} {rs:List qb} (h:OwnSts w lo hi a c rs) (hb:Below w.heap.size w w'):OwnSts w' lo hi a c rs:=
 h.within (Within.of_below (lo:=w.heap.size) (hi:=w.heap.size) hb) (.inl h.top)
theorem OwnSts.widen {w:World} {lo hi lo' hi':Nat} {a:Option Addr} {c:Nat} {rs:List qb} (h:OwnSts w lo hi a c rs) (h1:lo'≤lo) (h2:hi≤hi') (h3:hi'≤w.heap.size):OwnSts w lo' hi' a c rs:=
 ⟨kM h.row (fun k hk=>by have:=(h.row.lt k hk).1;omega),h3,fun k hk=>by have:=h.blk k hk;omega,fun x hx=>(h.each x hx).widen h1 h2 h3,h.apart⟩
theorem WV (w:World) (lo hi:Nat) (h:hi≤w.heap.size):OwnSts w lo hi none 0 []:=⟨⟨by simp [jr],.inl ⟨rfl,rfl⟩⟩,h,(fun k hk=>by cases hk),(fun r hr=>by simp at hr),by simp [Value.ownBlock]⟩
theorem yf {w:World} {base g n cap:Nat} {rs:List qb} (h:w.ownsRow base 167 20 (.slice (some ⟨g,0,none⟩) n cap) n (jr rs)) (hn:rs.length=n) (k:Nat) (hk:k<n):
  w.rangeAt g (k*20) (rs.getD k qc).cells∧w.there g (k*20) 20:=by
 refine ⟨fun j v hv=>?_,fun j hj=>?_⟩
 ·have hj:j<20:=by have:=(List.getElem?_eq_some_iff.1 hv).1;rwa [xg] at this
  rw [h.cellAt (k*20+j) (by omega),YK rs k j (by omega) hj,hv]
 ·refine ⟨?_,h.frozenAt _⟩;rw [h.cellAt (k*20+j) (by omega),YK rs k j (by omega) hj,List.getElem?_eq_getElem (by rw [xg];omega)];rfl
theorem OwnSts.reads {w:World} {lo hi:Nat} {a:Option Addr} {c:Nat} {rs:List qb} (h:OwnSts w lo hi a c rs):j3 w a rs:=by
 intro hne;rcases h.row.2 with ⟨_,h0⟩ | ⟨g,cap',cur,hv,hb,hg,hr⟩
 ·exact absurd (List.length_eq_zero_iff.1 h0) hne
 ·simp only [Value.slice.injEq] at hv;obtain ⟨rfl,_,rfl⟩:=hv;refine ⟨g,0,rfl,fun k hk=>?_⟩;rw [Nat.zero_add];exact ⟨(yf h.row rfl k hk).1,(h.each _ (xE rs k hk)).reads⟩
theorem OwnSts.fill {w:World} {lo hi g c:Nat} {A B:List qb} {z:qb} (h:OwnSts w lo hi (some ⟨g,0,none⟩) c (A++z::B)) (q:qb) {l u:Nat} (hq:q.own w l u) (hl:hi≤l) (hlo:lo≤hi) (hu:u≤w.heap.size):
  ∃ W,Hid (w.setCells g (A.length*20) q.cells=W)∧OwnSts W lo (max hi u) (some ⟨g,0,none⟩) c (A++q::B)∧Touch [g] w W∧W.heap.size=w.heap.size:=by
 have hrow:=h.row;rw [yU,xV,List.length_append,List.length_cons] at hrow;have hg:lo≤g∧g<hi:=⟨(hrow.lt g rfl).1,h.blk g rfl⟩;obtain ⟨h1,h2⟩:=XN q.cells (jr A) z.cells (jr B) w hrow rfl;rw [Qe] at h1 h2;have ht:Touch [g] w (w.setCells g (A.length*20) q.cells):=Touch.jw h2 (fun k hk=>by cases hk;simp);have hap:=h.apart;simp only [List.flatMap_append,List.flatMap_cons,Value.ownBlock,Option.toList,List.singleton_append,List.nodup_cons,List.nodup_append,List.mem_append,not_or] at hap;obtain ⟨⟨n1,n2,n3⟩,a1,⟨a2,a3,a4⟩,a5⟩:=hap;have xB:=hq.ql;have hA:∀ x∈A.flatMap qb.blocks,lo≤x∧x<hi:=fun x hx=>by
  obtain ⟨r,hr,hx⟩:=List.mem_flatMap.1 hx;exact (h.each r (by simp [hr])).ql x hx
 have hB:∀ x∈B.flatMap qb.blocks,lo≤x∧x<hi:=fun x hx=>by
  obtain ⟨r,hr,hx⟩:=List.mem_flatMap.1 hx;exact (h.each r (by simp [hr])).ql x hx
 have hsz:=KL g q.cells (A.length*20) w;refine ⟨_,rfl,⟨?_,?_,fun k hk=>?_,fun r hr=>?_,?_⟩,ht,hsz⟩
 ·rw [yU,xV,List.length_append,List.length_cons];exact h1
 ·rw [hsz];have:=h.top;omega
 ·cases hk;show g<max hi u;omega
 ·rcases List.mem_append.1 hr with hr | hr
  ·exact ((h.each r (by simp [hr])).touch ht (fun k hk hk'=>n1 (by rw [← List.mem_singleton.1 hk'];exact List.mem_flatMap.2 ⟨r,hr,hk⟩))).widen (Nat.le_refl _) (by omega) (by rw [hsz];have:=h.top;omega)
  ·rcases List.mem_cons.1 hr with rfl | hr
   ·exact (hq.touch ht (fun k hk hk'=>by have:=xB k hk;have:=List.mem_singleton.1 hk';omega)).widen (by omega) (by omega) (by rw [hsz];have:=h.top;omega)
   ·exact ((h.each r (by simp [hr])).touch ht (fun k hk hk'=>n3 (by rw [← List.mem_singleton.1 hk'];exact List.mem_flatMap.2 ⟨r,hr,hk⟩))).widen (Nat.le_refl _) (by omega) (by rw [hsz];have:=h.top;omega)
 ·simp only [List.flatMap_append,List.flatMap_cons,Value.ownBlock,Option.toList,List.singleton_append,List.nodup_cons,List.nodup_append,List.mem_append,not_or];refine ⟨⟨n1,fun hk=>by have:=xB g hk;omega,n3⟩,a1,⟨hq.apart,a3,fun x hx y hy e=>by have:=xB x hx;have:=hB y hy;omega⟩,fun x hx y hy e=>?_⟩;rcases hy with hy | hy
  ·have:=xB y hy;have:=hA x hx;omega
  ·exact a5 x hx y (.inr hy) e
end Go.Proofs.YtjkckhfddgeboaaGreatDoor
namespace Go.Proofs.YtjkckhfddgeboaaGreatDoor
open Go.RowKit Go.Extern.Stop Go.Stop Go.Extern
def kK (w:World):Prop:=w.cell? ⟨0,0,none⟩=some (.iface 366 (.agg #[.pointer (some ⟨1,178,none⟩)]))
theorem kK.lt {w:World} (h:kK w):0<w.heap.size:=by
 unfold kK at h;rcases Nat.lt_or_ge 0 w.heap.size with h0 | h0
 ·exact h0
 ·simp [World.cell?,Array.getElem?_eq_none h0] at h
theorem kK.below {w w':World} {n:Nat} (h:kK w) (hb:Below n w w') (hn:0<n):kK w':=by
 unfold kK at h ⊢;rw [hb.cell (p:=⟨0,0,none⟩) hn];exact h
theorem kK.keep {w w':World} (h:kK w) (hb:Below w.heap.size w w'):kK w':=h.below hb h.lt
theorem Tryz.BX (t:Addr) (w:World):(ReflectliteValue.unpack (.iface 263 (.pointer (some t)))).run Tryz.prog w
  = .ok (.agg #[.pointer (some ⟨1,263,none⟩),.pointer (some ⟨w.heap.size,0,none⟩),.int .u64 150]) (w.alloc (.cells #[.pointer (some t)] 263)):=by kernel_rfl
theorem Tryz.AV (a : Addr) (w : World) : (ReflectliteValue.methodAny (ReflectliteValue.valueError "reflectlite.Value.Type" 0) (fun t _ _ _ => ReflectliteType.toType t) #[.agg #[.pointer (some ⟨1, 263, none⟩), .pointer (some a), .int .u64 150]]).run Tryz.prog w
  = .ok (.iface 366 (.agg #[.pointer (some ⟨1,263,none⟩)])) w:=by kernel_rfl
theorem Tryz.NP (h : Value) (w : World) : (Go.method 547 366 (.agg #[h]) "Kind").run Tryz.prog w = .ok (397, h) w := by kernel_rfl
theorem Tryz.AX (w:World):((ReflectliteType.abiMethod fun t=>(fun a:Nat=>Value.int IntKind.u8 (a:Int)) <$> Rtype.kind t) #[.pointer (some ⟨1,263,none⟩)]).run Tryz.prog w=.ok (.int .u8 22) w:=by kernel_rfl
theorem Tryz.AY (w:World):((ReflectliteType.abiMethod fun t=>(fun a:Nat=>Value.int IntKind.u8 (a:Int)) <$> Rtype.kind t) #[.pointer (some ⟨1,261,none⟩)]).run Tryz.prog w=.ok (.int .u8 25) w:=by kernel_rfl
theorem rlm (z:Sem Value) (f:TypeId→Addr→Nat→Nat→Sem Value) (v:Value):
  ReflectliteValue.method z f #[v]=(do match ← ReflectliteValue.parts v with | none=>z | some (t,a,fl)=>f t a fl (fl % 32)):=rfl
theorem Tryz.NQ (a:Addr) (w:World):(ReflectliteValue.parts (.agg #[.pointer (some ⟨1,263,none⟩),.pointer (some a),.int .u64 150])).run Tryz.prog w=.ok (some (263,a,150)) w:=by kernel_rfl
theorem Tryz.eY (a p:Addr) (W:World) (ha:W.cell? a=some (.pointer (some p))):
  (ReflectliteValue.method (ReflectliteValue.valueError "reflectlite.Value.IsNil" 0) ReflectliteValue.isNil #[.agg #[.pointer (some ⟨1, 263, none⟩), .pointer (some a), .int .u64 150]]).run Tryz.prog W = .ok (.bool false) W := by
 rw [rlm];simp only [Sem.run_bind,Tryz.NQ,Result.andThen];simp [ReflectliteValue.isNil,loadVar,isAgg,underlying,Tryz.underlying263,ha,Result.andThen]
theorem Tryz.NR (h : Value) (w : World) : (Go.method 547 366 (.agg #[h]) "Elem").run Tryz.prog w = .ok (408, .agg #[h]) w := by kernel_rfl
theorem Tryz.V4 (h : Value) (w : World) : (Go.method 547 366 (.agg #[h]) "Implements").run Tryz.prog w = .ok (409, .agg #[h]) w := by kernel_rfl
theorem Tryz.ZC (h : Value) (w : World) : (Go.method 547 366 (.agg #[h]) "AssignableTo").run Tryz.prog w = .ok (406, .agg #[h]) w := by kernel_rfl
theorem Tryz.AZ (w:World):(ReflectliteType.method ReflectliteType.elem #[.agg #[.pointer (some ⟨1,263,none⟩)]]).run Tryz.prog w=.ok (.iface 366 (.agg #[.pointer (some ⟨1,261,none⟩)])) w:=by kernel_rfl
theorem Tryz.Hr (w : World) : (ReflectliteType.relation "Implements" ReflectliteType.implements_ #[.agg #[.pointer (some ⟨1, 261, none⟩)], .iface 366 (.agg #[.pointer (some ⟨1, 178, none⟩)])]).run Tryz.prog w = .ok (.bool true) w := by kernel_rfl
theorem Tryz.Sy (v:Value) (w:World):(ReflectliteType.typeOf #[.iface 261 v]).run Tryz.prog w=.ok (.iface 366 (.agg #[.pointer (some ⟨1,261,none⟩)])) w:=by kernel_rfl
theorem Tryz.Ht (w : World) : (ReflectliteType.relation "AssignableTo" ReflectliteType.assignableTo #[.agg #[.pointer (some ⟨1, 261, none⟩)], .iface 366 (.agg #[.pointer (some ⟨1, 261, none⟩)])]).run Tryz.prog w = .ok (.bool true) w := by kernel_rfl
theorem Tryz.BZ (s:ByteArray) (w:World):(ReflectliteValue.unpack (.iface 261 (.agg #[.string s]))).run Tryz.prog w
  = .ok (.agg #[.pointer (some ⟨1,261,none⟩),.pointer (some ⟨w.heap.size,0,none⟩),.int .u64 153]) (w.alloc (.cells #[.string s] 261)):=by kernel_rfl
theorem Tryz.Sz (w:World):(Rtype.elem? 263).run Tryz.prog w=.ok (some 261) w:=by kernel_rfl
theorem Tryz.O9 (p:Addr) (w:World):(ReflectliteValue.mk 261 p ReflectliteValue.flagAddr).run Tryz.prog w=.ok (.agg #[.pointer (some ⟨1,261,none⟩),.pointer (some p),.int .u64 409]) w:=by kernel_rfl
theorem Tryz.A7 (a p:Addr) (W:World) (ha:W.cell? a=some (.pointer (some p))):
  (ReflectliteValue.method (ReflectliteValue.valueError "reflectlite.Value.Elem" 0) ReflectliteValue.elem #[.agg #[.pointer (some ⟨1, 263, none⟩), .pointer (some a), .int .u64 150]]).run Tryz.prog W
   = .ok (.agg #[.pointer (some ⟨1,261,none⟩),.pointer (some p),.int .u64 409]) W:=by
 rw [rlm];simp only [Sem.run_bind,Tryz.NQ,Result.andThen];simp [ReflectliteValue.elem,loadVar,isAgg,underlying,Tryz.underlying263,ha,Result.andThen,Tryz.Sz,Tryz.O9]
theorem rls (v x:Value):ReflectliteValue.set #[v,x]=(do
  let (some (dst,a,fl),some (src,b,_)):=(← ReflectliteValue.parts v,← ReflectliteValue.parts x)
   | unsupported (.noEntry "extern/(internal/reflectlite.Value).Set.zeroValue")
  if fl / ReflectliteValue.flagAddr % 2 == 0 then unsupported (.noEntry "extern/(internal/reflectlite.Value).Set.unaddressable")
  let val ← loadVar src b
  if ← Rtype.directlyAssignable dst src then storeVar dst a val
  else if ← Rtype.implements dst src then
   if (← Rtype.kind src) == 20 then
    match val with
    | .nilIface => unsupported (.noEntry "extern/reflectlite: a nil value of one interface type handed on as a value of another")
    | _=>storeVar dst a val
   else storeVar dst a (.iface src val)
  else panicString ("reflectlite.Set: value of type " ++ (← Rtype.spelt src) ++ " is not assignable to type " ++ (← Rtype.spelt dst))
  pure (.tuple #[])):=rfl
theorem Tryz.SA (a:Addr) (w:World):(ReflectliteValue.parts (.agg #[.pointer (some ⟨1,261,none⟩),.pointer (some a),.int .u64 409])).run Tryz.prog w=.ok (some (261,a,409)) w:=by kernel_rfl
theorem Tryz.eZ (a:Addr) (w:World):(ReflectliteValue.parts (.agg #[.pointer (some ⟨1,261,none⟩),.pointer (some a),.int .u64 153])).run Tryz.prog w=.ok (some (261,a,153)) w:=by kernel_rfl
theorem Tryz.SB (w:World):(Rtype.directlyAssignable 261 261).run Tryz.prog w=.ok true w:=by kernel_rfl
theorem Tryz.LJ (ta b:Addr) (s:ByteArray) (old:Value) (W:World) (hb:W.cell? b=some (.string s)) (ht:W.cell? ta=some old) (hf:W.frozen? ta=false):
  (ReflectliteValue.set #[.agg #[.pointer (some ⟨1,261,none⟩),.pointer (some ta),.int .u64 409],.agg #[.pointer (some ⟨1,261,none⟩),.pointer (some b),.int .u64 153]]).run Tryz.prog W
   = .ok (.tuple #[]) (W.setCell ta (.string s)):=by
 rw [rls];simp only [Sem.run_bind,Tryz.SA,Tryz.eZ,Result.andThen];simp [ReflectliteValue.flagAddr,loadVar,loadCells,loadCellsFrom,hb,Result.andThen,Tryz.SB,storeVar,Value.cells,storeCells,Addr.add];rw [run_store Tryz.prog W ta _ _ (by rfl)];simp [ht,hf]
theorem LK (t:Value) (w:World):Calls Tryz.prog 238 #[.nilIface,t] w fun e w'=>e=.returned (.bool false)∧w'=w:=by
 go_enter Tryz.func238,Tryz.ntmps238;go_wp2;go_ret;exact ⟨rfl,rfl⟩
theorem LM (s:ByteArray) (t:Addr) (old:Value) (w:World) (hg:w.cell? ⟨0,0,none⟩=some (.iface 366 (.agg #[.pointer (some ⟨1,178,none⟩)]))) (ht0:w.cell? t=some old) (hf0:w.frozen? t=false):
  Calls Tryz.prog 238 #[.iface 261 (.agg #[.string s]),.iface 263 (.pointer (some t))] w fun ev w'=>ev=.returned (.bool true)∧w'=((((w.alloc (.cells #[.pointer (some t)] 263)).alloc (.cells #[.pointer (some ⟨1,263,none⟩),.pointer (some ⟨w.heap.size,0,none⟩),.int .u64 150] 320)).alloc (.cells #[.pointer (some ⟨1,263,none⟩),.pointer (some ⟨w.heap.size,0,none⟩),.int .u64 150] 320)).alloc (.cells #[.string s] 261)).setCell t (.string s):=by
 have h6:=@run_callFunc_extern Tryz.prog 300 _ (fun args=>ReflectliteValue.unpack (args.getD 0 (.tuple #[]))) Tryz.func300 (by kernel_rfl) (by kernel_rfl) (by kernel_rfl) (by kernel_rfl);have h7 := @run_callFunc_extern Tryz.prog 301 _ (ReflectliteValue.methodAny (ReflectliteValue.valueError "reflectlite.Value.Type" 0) (fun t _ _ _ => ReflectliteType.toType t)) Tryz.func301 (by kernel_rfl) (by kernel_rfl) (by kernel_rfl) (by kernel_rfl);have h8 := @run_callFunc_extern Tryz.prog 302 _ (ReflectliteValue.method (ReflectliteValue.valueError "reflectlite.Value.IsNil" 0) ReflectliteValue.isNil) Tryz.func302 (by kernel_rfl) (by kernel_rfl) (by kernel_rfl) (by kernel_rfl);have h27:=@run_callFunc_extern Tryz.prog 397 _ (ReflectliteType.abiMethod fun t=>do pure (.int .u8 (← Rtype.kind t))) Tryz.func397 (by kernel_rfl) (by kernel_rfl) (by kernel_rfl) (by kernel_rfl);have h37:=@run_callFunc_extern Tryz.prog 408 _ (ReflectliteType.method ReflectliteType.elem) Tryz.func408 (by kernel_rfl) (by kernel_rfl) (by kernel_rfl) (by kernel_rfl);have h38 := @run_callFunc_extern Tryz.prog 409 _ (ReflectliteType.relation "Implements" ReflectliteType.implements_) Tryz.func409 (by kernel_rfl) (by kernel_rfl) (by kernel_rfl) (by kernel_rfl);have h10:=@run_callFunc_extern Tryz.prog 333 _ ReflectliteType.typeOf Tryz.func333 (by kernel_rfl) (by kernel_rfl) (by kernel_rfl) (by kernel_rfl);have h35 := @run_callFunc_extern Tryz.prog 406 _ (ReflectliteType.relation "AssignableTo" ReflectliteType.assignableTo) Tryz.func406 (by kernel_rfl) (by kernel_rfl) (by kernel_rfl) (by kernel_rfl);have h11 := @run_callFunc_extern Tryz.prog 334 _ (ReflectliteValue.method (ReflectliteValue.valueError "reflectlite.Value.Elem" 0) ReflectliteValue.elem) Tryz.func334 (by kernel_rfl) (by kernel_rfl) (by kernel_rfl) (by kernel_rfl);have h12:=@run_callFunc_extern Tryz.prog 335 _ ReflectliteValue.set Tryz.func335 (by kernel_rfl) (by kernel_rfl) (by kernel_rfl) (by kernel_rfl);have tO:=Tryz.Sy;have mA:=Tryz.ZC;have a25:=Tryz.Ht;have v25:=Tryz.BZ;have f6:=Tryz.BX;have f7:=Tryz.AV;have mK:=Tryz.NP;have mE:=Tryz.NR;have mI:=Tryz.V4;have k27:=Tryz.AX;have k25:=Tryz.AY;have e27:=Tryz.AZ;have i25:=Tryz.Hr;have n8:=Tryz.eY ⟨w.heap.size,0,none⟩ t ((w.alloc (.cells #[.pointer (some t)] 263)).alloc (.cells #[.pointer (some ⟨1,263,none⟩),.pointer (some ⟨w.heap.size,0,none⟩),.int .u64 150] 320)) (by simp);have hlt:0<w.heap.size:=by
  rcases Nat.lt_or_ge 0 w.heap.size with h0 | h0
  ·exact h0
  ·simp [World.cell?,Array.getElem?_eq_none h0] at hg
 have hg2:((w.alloc (.cells #[.pointer (some t)] 263)).alloc (.cells #[.pointer (some ⟨1,263,none⟩),.pointer (some ⟨w.heap.size,0,none⟩),.int .u64 150] 320)).cell? ⟨0,0,none⟩=some (.iface 366 (.agg #[.pointer (some ⟨1,178,none⟩)])):=by
  rw [World.cell?_alloc_lt _ _ ⟨0,0,none⟩ (Nat.lt_of_lt_of_le hlt (by simp)),World.cell?_alloc_lt _ _ ⟨0,0,none⟩ hlt];exact hg
 have htl:t.block<w.heap.size:=by
  rcases Nat.lt_or_ge t.block w.heap.size with h | h
  ·exact h
  ·simp [World.cell?,Array.getElem?_eq_none h] at ht0
 have el:=Tryz.A7 ⟨w.heap.size,0,none⟩ t (((w.alloc (.cells #[.pointer (some t)] 263)).alloc (.cells #[.pointer (some ⟨1,263,none⟩),.pointer (some ⟨w.heap.size,0,none⟩),.int .u64 150] 320)).alloc (.cells #[.pointer (some ⟨1,263,none⟩),.pointer (some ⟨w.heap.size,0,none⟩),.int .u64 150] 320)) (by rw [World.cell?_alloc_lt _ _ ⟨w.heap.size,0,none⟩ (by simp;omega)];simp);have st:=Tryz.LJ t ⟨w.heap.size+1+1+1,0,none⟩ s old ((((w.alloc (.cells #[.pointer (some t)] 263)).alloc (.cells #[.pointer (some ⟨1,263,none⟩),.pointer (some ⟨w.heap.size,0,none⟩),.int .u64 150] 320)).alloc (.cells #[.pointer (some ⟨1,263,none⟩),.pointer (some ⟨w.heap.size,0,none⟩),.int .u64 150] 320)).alloc (.cells #[.string s] 261))
  (by rw [World.cell?_alloc_at _ _ _ _ (by simp)];rfl)
  (by rw [World.cell?_alloc_lt _ _ t (by simp;omega),World.cell?_alloc_lt _ _ t (by simp;omega),World.cell?_alloc_lt _ _ t (by simp;omega),World.cell?_alloc_lt _ _ t htl];exact ht0)
  (by rw [World.frozen?_alloc_old _ _ t (by simp;omega),World.frozen?_alloc_old _ _ t (by simp;omega),World.frozen?_alloc_old _ _ t (by simp;omega),World.frozen?_alloc_old _ _ t (Nat.ne_of_lt htl)];exact hf0)
 go_enter Tryz.func238,Tryz.ntmps238;go_wp2;refine wp_loop_rounds 1 ?_;rw [rounds_succ];go_wp2;go_ret;exact ⟨rfl,rfl⟩
theorem ic (w:World):Calls Tryz.prog 144 #[.nilIface] w fun e w'=>e=.returned (.bool false)∧Below w.heap.size w w':=by
 go_enter Tryz.func144,Tryz.ntmps144;go_wp2_with fail;refine (LK _ _).mono ?_;rintro e w' ⟨rfl,rfl⟩;go_wp2;go_ret;exact ⟨rfl,(Below.refl _ _).alloc (Nat.le_refl _) _⟩
theorem ig (s:ByteArray) (w:World) (hg:kK w):Calls Tryz.prog 144 #[.iface 261 (.agg #[.string s])] w fun e w'=>e=.returned (.bool true)∧Below w.heap.size w w':=by
 have hgA:kK (w.alloc (.cells #[.string ⟨#[]⟩] 261)):=hg.keep ((Below.refl _ _).alloc (Nat.le_refl _) _);go_enter Tryz.func144,Tryz.ntmps144;go_wp2_with fail;refine (LM s ⟨w.heap.size,0,none⟩ (.string ⟨#[]⟩) _ hgA (by simp) (by simp)).mono ?_;rintro e w' ⟨rfl,rfl⟩;go_wp2;go_ret;refine ⟨rfl,?_⟩;exact (((((Below.refl _ _).alloc (Nat.le_refl _) _).alloc (by simp) _).alloc (by simp;omega) _).alloc (by simp;omega) _).alloc (by simp;omega) _
end Go.Proofs.YtjkckhfddgeboaaGreatDoor
namespace Go.Proofs.YtjkckhfddgeboaaGreatDoor
open Go.RowKit
def uE (l:List Int) (least most:Int):Bool:=decide (l.length≤5) && l.all (fun z=>inB z least most)
theorem SC {l:List Int} {least most:Int} (j:Nat) (hj:j<l.length) (h:inB (l.getD j 0) least most=false):uE l least most=false:=by
 have:(l.all (fun z=>inB z least most))=false:=by
  rw [List.all_eq_false];exact ⟨l.getD j 0,by simp [List.getD,hj],by rw [h];decide⟩
 simp [uE,this]
theorem Ca {l:List Int} {least most:Int} (h:∀ j,j<l.length→inB (l.getD j 0) least most=true):uE l least most=decide (l.length≤5):=by
 have:(l.all (fun z=>inB z least most))=true:=by
  rw [List.all_eq_true];intro z hz;obtain ⟨j,hj,rfl⟩:=List.getElem_of_mem hz;have:=h j hj
  simpa [List.getD,hj] using this
 simp [uE,this]
theorem SE (o:xk):okB o=(inB o.kind 1 99 && (uE o.ints (-1000000) 1000000 && uE o.refs 0 31)):=by
 unfold okB uE;cases inB o.kind 1 99<;>cases decide (o.ints.length≤5)<;>cases decide (o.refs.length≤5)<;>cases o.ints.all (fun z=>inB z (-1000000) 1000000)<;>simp
theorem V8 {x l m:Int} (h:inB x l m=false):x<l∨(¬ x<l∧m<x):=by simp [inB] at h;omega
theorem Wq {x l m:Int} (h:inB x l m=true):¬ x<l∧¬ m<x:=by simp [inB] at h;omega
def Cb (ok:Bool) (e:Ending):Prop:=(ok=true∧e=.returned .nilIface)∨(ok=false∧∃ s,e=.returned (.iface 261 (.agg #[.string s])))
theorem ik {ok:Bool} (h:ok=true):Cb ok (.returned .nilIface):=.inl ⟨h,rfl⟩
theorem Ws {ok:Bool} (h:ok=false) (s:ByteArray):Cb ok (.returned (.iface 261 (.agg #[.string s]))):=.inr ⟨h,s,rfl⟩
theorem QL (a:Option Addr) (c:Nat) (l:List Int) (least most:Int) (w:World) (hr:ky w a l) (hl:l.length≤140737488355328):
  Calls Tryz.prog 239 #[.slice a l.length c,.int .i64 least,.int .i64 most] w fun e w'=>e=.returned (.bool (uE l least most))∧w'=w:=by
 go_enter Tryz.func239,Tryz.ntmps239;go_wp2
 go_loop [11] (fun i=>∃ j:Nat,j≤l.length∧i=.int .i64 j∧Hid (∀ t,t<j→inB (l.getD t 0) least most=true)) (fun i=>l.length-(RowKit.intOf i).toNat)
 case atStart=>exact ⟨0,by omega,rfl,fun t ht=>by omega⟩
 case round=>
  obtain ⟨j,hj,rfl,hall⟩:=hrel;by_cases hlt:j<l.length
  ·rcases hr.cases with rfl | ⟨b,off,rfl,hpos,hcell⟩
   ·simp at hlt
   have hc:=hcell j hlt;clear hcell;cases hz:inB (l.getD j 0) least most with
   | false=>
    have HE:Hid (uE l least most=false):=SC j hlt hz;have hz':=V8 hz;clear hz;generalize l.getD j 0=z at*
    rcases hz' with h1 | ⟨h1,h2⟩
    all_goals
     go_wp2;go_ret;exact ⟨qd HE.out.symm,rfl⟩
   | true=>
    have HN:Hid (∀ t,t<j+1→inB (l.getD t 0) least most=true):=by
     intro t ht;by_cases e:t=j
     ·rw [e];exact hz
     ·exact hall.out t (by omega)
    obtain ⟨h1,h2⟩:=Wq hz;clear hz;generalize l.getD j 0=z at*
    go_wp2
    go_round
    case rel=>exact ⟨j+1,by omega,by go_num,HN⟩
    case measure=>simp [RowKit.intOf];omega
  ·have HE:Hid (uE l least most=decide (l.length≤5)):=Ca (fun t ht=>hall.out t (by omega));go_wp2;go_ret;exact ⟨qd (by rw [HE.out];exact decide_eq_decide.2 (by omega)),rfl⟩
theorem NS (o:xk) (aI:Option Addr) (cI:Nat) (aR:Option Addr) (cR:Nat) (w:World) (hr:qQ w aI cI aR cR o) (UR:o.ints.length≤140737488355328) (hnR:o.refs.length≤140737488355328):
  Calls Tryz.prog 145 #[.agg #[.int .i64 o.kind,.slice aI o.ints.length cI,.slice aR o.refs.length cR]] w fun e w'=>Cb (okB o) e∧Below w.heap.size w w':=by
 have yA:=SE o;generalize okB o=OK at*
 obtain ⟨k,ints,refs⟩:=o;obtain ⟨hI,hR,_,_⟩:=hr;simp only at*
 obtain ⟨W,hW,b0,hbW,qp⟩:=qx w [.int .i64 k,.slice aI ints.length cI,.slice aR refs.length cR] 26;have hI':=hI.below hbW;have hR':=hR.below hbW;have x0:=b0.cell 0 _ rfl;have x1:=b0.cell 1 _ rfl;have x2:=b0.cell 2 _ rfl;cases hk:inB k 1 99 with
 | false=>
  have HF:Hid (OK=false):=by rw [Hid,yA,hk,Bool.false_and]
  clear yA;have hz':=V8 hk;clear hk;rcases hz' with h1 | ⟨h1,h2⟩
  all_goals
   go_enter Tryz.func145,Tryz.ntmps145;go_wp2;go_ret;exact ⟨Ws HF.out _,hW.out▸hbW⟩
 | true=>
 rw [hk,Bool.true_and] at yA;obtain ⟨h1,h2⟩:=Wq hk;clear hk;cases hp:uE ints (-1000000) 1000000 with
 | false=>
  have HF:Hid (OK=false):=by rw [Hid,yA,hp,Bool.false_and]
  clear yA;have HP:Hid (_=_):=hp;clear hp;go_enter Tryz.func145,Tryz.ntmps145;go_wp2_with fail;rw [hW.out];refine (QL aI cI ints _ _ W hI' UR).mono ?_;rintro e w' ⟨rfl,rfl⟩;rw [HP.out];go_wp2;go_ret;exact ⟨Ws HF.out _,hbW⟩
 | true=>
 rw [hp,Bool.true_and] at yA;have HP:Hid (_=_):=hp;clear hp;cases hq:uE refs 0 31 with
 | false=>
  have HF:Hid (OK=false):=by rw [Hid,yA,hq]
  clear yA;have HQ:Hid (_=_):=hq;clear hq;go_enter Tryz.func145,Tryz.ntmps145;go_wp2_with fail;rw [hW.out];refine (QL aI cI ints _ _ W hI' UR).mono ?_;rintro e w' ⟨rfl,rfl⟩;rw [HP.out];go_wp2_with fail;refine (QL aR cR refs _ _ _ hR' hnR).mono ?_;rintro e w' ⟨rfl,rfl⟩;rw [HQ.out];go_wp2;go_ret;exact ⟨Ws HF.out _,hbW⟩
 | true=>
  have HF:Hid (OK=true):=by rw [Hid,yA,hq]
  clear yA;have HQ:Hid (_=_):=hq;clear hq;go_enter Tryz.func145,Tryz.ntmps145;go_wp2_with fail;rw [hW.out];refine (QL aI cI ints _ _ W hI' UR).mono ?_;rintro e w' ⟨rfl,rfl⟩;rw [HP.out];go_wp2_with fail;refine (QL aR cR refs _ _ _ hR' hnR).mono ?_;rintro e w' ⟨rfl,rfl⟩;rw [HQ.out];go_wp2;go_ret;exact ⟨ik HF.out,hbW⟩
theorem Hu (o:xk) (aI:Option Addr) (cI:Nat) (aR:Option Addr) (cR:Nat) (w:World) (hg:kK w) (hr:qQ w aI cI aR cR o) (UR:o.ints.length≤140737488355328) (hnR:o.refs.length≤140737488355328):
  Calls Tryz.prog 49 #[.agg #[.int .i64 o.kind,.slice aI o.ints.length cI,.slice aR o.refs.length cR]] w fun e w'=>e=.returned (.bool (okB o))∧Below w.heap.size w w':=by
 obtain ⟨W,hW,b0,hbW,qp⟩:=qx w [.int .i64 o.kind,.slice aI o.ints.length cI,.slice aR o.refs.length cR] 26;have hr':=hr.below hbW;have hg':=hg.keep hbW;have x0:=b0.cell 0 _ rfl;have x1:=b0.cell 1 _ rfl;have x2:=b0.cell 2 _ rfl;go_enter Tryz.func49,Tryz.ntmps49;go_wp2_with fail;rw [hW.out];refine (NS o aI cI aR cR W hr' UR hnR).mono ?_;rintro e w1 ⟨he,hb1⟩;have B1:Below w.heap.size w w1:=hbW.trans (hb1.mono hbW.size);rcases he with ⟨hok,rfl⟩ | ⟨hok,s,rfl⟩
 ·have HO:Hid (_=_):=hok;clear hok;go_wp2_with fail;refine (ic w1).mono ?_;rintro e w2 ⟨rfl,hb2⟩;go_wp2;go_ret;exact ⟨by rw [HO.out];rfl,B1.trans (hb2.mono B1.size)⟩
 ·have HO:Hid (_=_):=hok;clear hok;go_wp2_with fail;refine (ig s w1 (hg'.keep hb1)).mono ?_;rintro e w2 ⟨rfl,hb2⟩;go_wp2;go_ret;exact ⟨by rw [HO.out];rfl,B1.trans (hb2.mono B1.size)⟩
theorem Cc {s:jy} (h:s.has=false):qE s=yK s.o Uu:=by
 obtain ⟨b,k,i,r⟩:=s;simp only at h;subst h;show qE ⟨false,k,i,r⟩=(decide (k=(0:Int)) && (decide (i=([]:List Int)) && decide (r=([]:List Int))));rw [Bool.eq_iff_iff];simp [qE]
theorem K9 (s:qf) (w:World) (hg:kK w) (hr:s.reads w) (hl:Fit [s]):
  Calls Tryz.prog 115 #[.agg s.cells.toArray] w fun e w'=>e=.returned (.bool (qE s.v))∧Below w.heap.size w w':=by
 obtain ⟨h1,h2⟩:=hl s (List.mem_singleton.2 rfl);obtain ⟨W,hW,b0,hbW,qp⟩:=qx w s.cells 28;have hr':s.reads W:=qQ.below hr hbW;have hg':=hg.keep hbW;have HT:Hid (s.v.has=true→qE s.v=okB s.v.o):=fun h=>Gz h
 have HF:Hid (s.v.has=false→qE s.v=yK s.v.o Uu):=fun h=>Cc h
 have hno:qQ W none 0 none 0 Uu:=⟨fun h=>absurd rfl h,fun h=>absurd rfl h,fun _=>rfl,fun _=>rfl⟩;have C1:=Hu s.v.o s.aI s.cI s.aR s.cR W hg' hr' (by omega) (by omega);have C2:=XU s.v.o Uu s.aI s.cI s.aR s.cR none 0 none 0 W hr' hno (by omega) (by omega) (by simp [Uu]) (by simp [Uu]);simp only [Uu] at C2;generalize qE s.v=R at*
 simp only [qf.cells] at*
 cases hh:s.v.has with
 | true=>
  have HE:Hid (_=_):=HT.out hh;rw [hh] at hW;clear hh C2 HT HF;go_enter Tryz.func115,Tryz.ntmps115;go_wp2_with fail;rw [hW.out];refine C1.mono ?_;rintro e w1 ⟨rfl,hb1⟩;go_wp2;go_ret;exact ⟨qd HE.out.symm,hbW.trans (hb1.mono hbW.size)⟩
 | false=>
  have HE:Hid (_=_):=HF.out hh;rw [hh] at hW;clear hh C1 HT HF;go_enter Tryz.func115,Tryz.ntmps115;go_wp2_with fail;rw [hW.out];refine C2.mono ?_;rintro e w1 ⟨rfl,hb1⟩;go_wp2;go_ret;exact ⟨qd HE.out.symm,hbW.trans (hb1.mono hbW.size)⟩
theorem Ce (ss:List qf) (k:Nat) (hk:k<ss.length):((cellsS ss).drop (k*4)).take 4=(ss.getD k qh).cells:=by
 apply List.ext_getElem?
 intro j;rw [List.getElem?_take];by_cases hj:j<4
 ·rw [if_pos (by omega),List.getElem?_drop];exact u7 ss k j hk hj
 ·rw [if_neg (by omega),List.getElem?_eq_none (by rw [xR];omega)]
theorem Qi (ss:List qf) (h4:ss.length=4) (k:Nat) (hk:k<4) (w:World):
  (Instr.index 29 (.agg (cellsS ss).toArray) (.int .i64 (k:Int))).run Tryz.prog w=.ok (.agg (ss.getD k qh).cells.toArray) w:=by
 have he:=Ce ss k (by omega);have hz:(sizeOf 28).run Tryz.prog w=.ok 4 w:=by kernel_rfl
 simp [Instr.index,asIntOf,Go.part,run_underlying Tryz.underlying29,hz];rw [if_pos hk,he];simp [List.getD]
end Go.Proofs.YtjkckhfddgeboaaGreatDoor
namespace Go.Proofs.YtjkckhfddgeboaaGreatDoor
open Go.RowKit
theorem UT (W:World) (v:Value):(Instr.typeAssert (.iface 333 v) 272 333 true).run Tryz.prog W=.ok (.tuple #[v,.bool true]) W:=by kernel_rfl
theorem NT (W:World):(do pure (Value.tuple #[← zeroValue 333,.bool false]):Sem Value).run Tryz.prog W=.ok (.tuple #[.agg #[.int .i64 0,.int .i64 0,.int .i64 0,.bool false,.int .i64 0,.slice none 0 0,.slice none 0 0,.bool false,.int .i64 0,.slice none 0 0,.slice none 0 0],.bool false]) W:=by kernel_rfl
theorem UU (W:World):(Instr.typeAssert .nilIface 272 333 true).run Tryz.prog W=.ok (.tuple #[.agg #[.int .i64 0,.int .i64 0,.int .i64 0,.bool false,.int .i64 0,.slice none 0 0,.slice none 0 0,.bool false,.int .i64 0,.slice none 0 0,.slice none 0 0],.bool false]) W:=by kernel_rfl
theorem zH (W:World) (u:TypeId) (v:Value) (h:u≠333):(Instr.typeAssert (.iface u v) 272 333 true).run Tryz.prog W=.ok (.tuple #[.agg #[.int .i64 0,.int .i64 0,.int .i64 0,.bool false,.int .i64 0,.slice none 0 0,.slice none 0 0,.bool false,.int .i64 0,.slice none 0 0,.slice none 0 0],.bool false]) W:=by
 have e:(Instr.typeAssert (.iface u v) 272 333 true).run Tryz.prog W=(if u=333 then (pure (Value.tuple #[v,.bool true]):Sem Value) else (do pure (Value.tuple #[← zeroValue 333,.bool false]))).run Tryz.prog W:=by kernel_rfl
 rw [e,if_neg h];exact NT W
theorem Ze (W:World) (v:Value):(Instr.typeAssert (.iface 335 v) 272 335 true).run Tryz.prog W=.ok (.tuple #[v,.bool true]) W:=by kernel_rfl
theorem mP (W:World):(do pure (Value.tuple #[← zeroValue 335,.bool false]):Sem Value).run Tryz.prog W=.ok (.tuple #[.agg #[.int .i64 0,.int .i64 0],.bool false]) W:=by kernel_rfl
theorem Zf (W:World):(Instr.typeAssert .nilIface 272 335 true).run Tryz.prog W=.ok (.tuple #[.agg #[.int .i64 0,.int .i64 0],.bool false]) W:=by kernel_rfl
theorem yY (W:World) (u:TypeId) (v:Value) (h:u≠335):(Instr.typeAssert (.iface u v) 272 335 true).run Tryz.prog W=.ok (.tuple #[.agg #[.int .i64 0,.int .i64 0],.bool false]) W:=by
 have e:(Instr.typeAssert (.iface u v) 272 335 true).run Tryz.prog W=(if u=335 then (pure (Value.tuple #[v,.bool true]):Sem Value) else (do pure (Value.tuple #[← zeroValue 335,.bool false]))).run Tryz.prog W:=by kernel_rfl
 rw [e,if_neg h];exact mP W
theorem ZZ (W:World) (v:Value):(Instr.typeAssert (.iface 336 v) 272 336 true).run Tryz.prog W=.ok (.tuple #[v,.bool true]) W:=by kernel_rfl
theorem dx (W:World):(do pure (Value.tuple #[← zeroValue 336,.bool false]):Sem Value).run Tryz.prog W=.ok (.tuple #[.agg #[.int .i64 0,.int .i64 0],.bool false]) W:=by kernel_rfl
theorem Z0 (W:World):(Instr.typeAssert .nilIface 272 336 true).run Tryz.prog W=.ok (.tuple #[.agg #[.int .i64 0,.int .i64 0],.bool false]) W:=by kernel_rfl
theorem vZ (W:World) (u:TypeId) (v:Value) (h:u≠336):(Instr.typeAssert (.iface u v) 272 336 true).run Tryz.prog W=.ok (.tuple #[.agg #[.int .i64 0,.int .i64 0],.bool false]) W:=by
 have e:(Instr.typeAssert (.iface u v) 272 336 true).run Tryz.prog W=(if u=336 then (pure (Value.tuple #[v,.bool true]):Sem Value) else (do pure (Value.tuple #[← zeroValue 336,.bool false]))).run Tryz.prog W:=by kernel_rfl
 rw [e,if_neg h];exact dx W
theorem V9 (W:World) (v:Value):(Instr.typeAssert (.iface 338 v) 272 338 true).run Tryz.prog W=.ok (.tuple #[v,.bool true]) W:=by kernel_rfl
theorem Hw (W:World):(do pure (Value.tuple #[← zeroValue 338,.bool false]):Sem Value).run Tryz.prog W=.ok (.tuple #[.agg #[.int .i64 0,.int .i64 0,.int .i64 0,.bool false,.int .i64 0,.slice none 0 0,.slice none 0 0,.int .i64 0],.bool false]) W:=by kernel_rfl
theorem Ua (W:World):(Instr.typeAssert .nilIface 272 338 true).run Tryz.prog W=.ok (.tuple #[.agg #[.int .i64 0,.int .i64 0,.int .i64 0,.bool false,.int .i64 0,.slice none 0 0,.slice none 0 0,.int .i64 0],.bool false]) W:=by kernel_rfl
theorem Kb (W:World) (u:TypeId) (v:Value) (h:u≠338):(Instr.typeAssert (.iface u v) 272 338 true).run Tryz.prog W=.ok (.tuple #[.agg #[.int .i64 0,.int .i64 0,.int .i64 0,.bool false,.int .i64 0,.slice none 0 0,.slice none 0 0,.int .i64 0],.bool false]) W:=by
 have e:(Instr.typeAssert (.iface u v) 272 338 true).run Tryz.prog W=(if u=338 then (pure (Value.tuple #[v,.bool true]):Sem Value) else (do pure (Value.tuple #[← zeroValue 338,.bool false]))).run Tryz.prog W:=by kernel_rfl
 rw [e,if_neg h];exact Hw W
theorem UW (W:World) (v:Value):(Instr.typeAssert (.iface 339 v) 272 339 true).run Tryz.prog W=.ok (.tuple #[v,.bool true]) W:=by kernel_rfl
theorem NU (W:World):(do pure (Value.tuple #[← zeroValue 339,.bool false]):Sem Value).run Tryz.prog W=.ok (.tuple #[.agg #[.int .i64 0,.int .i64 0],.bool false]) W:=by kernel_rfl
theorem UX (W:World):(Instr.typeAssert .nilIface 272 339 true).run Tryz.prog W=.ok (.tuple #[.agg #[.int .i64 0,.int .i64 0],.bool false]) W:=by kernel_rfl
theorem mQ (W:World) (u:TypeId) (v:Value) (h:u≠339):(Instr.typeAssert (.iface u v) 272 339 true).run Tryz.prog W=.ok (.tuple #[.agg #[.int .i64 0,.int .i64 0],.bool false]) W:=by
 have e:(Instr.typeAssert (.iface u v) 272 339 true).run Tryz.prog W=(if u=339 then (pure (Value.tuple #[v,.bool true]):Sem Value) else (do pure (Value.tuple #[← zeroValue 339,.bool false]))).run Tryz.prog W:=by kernel_rfl
 rw [e,if_neg h];exact NU W
theorem Z4 (W:World) (v:Value):(Instr.typeAssert (.iface 341 v) 272 341 true).run Tryz.prog W=.ok (.tuple #[v,.bool true]) W:=by kernel_rfl
theorem Z5 (W:World):(Instr.typeAssert .nilIface 272 341 true).run Tryz.prog W=.ok (.tuple #[.agg #[.slice none 0 0],.bool false]) W:=by kernel_rfl
def xW (tx prev:Int):List Value:=[.int .i64 tx,.int .i64 prev]
def Zn (tx prev oid:Int) (b a:qf):List Value:=[.int .i64 tx,.int .i64 prev,.int .i64 oid,.bool b.v.has,.int .i64 b.v.o.kind,.slice b.aI b.v.o.ints.length b.cI,.slice b.aR b.v.o.refs.length b.cR,.bool a.v.has,.int .i64 a.v.o.kind,.slice a.aI a.v.o.ints.length a.cI,.slice a.aR a.v.o.refs.length a.cR]
def KW (tx prev oid:Int) (a:qf) (next:Int):List Value:=[.int .i64 tx,.int .i64 prev,.int .i64 oid,.bool a.v.has,.int .i64 a.v.o.kind,.slice a.aI a.v.o.ints.length a.cI,.slice a.aR a.v.o.refs.length a.cR,.int .i64 next]
def Jg (ls:List qC) (aL:Option Addr) (cL:Nat):List Value:=[.slice aL ls.length cL]
def vF (v:List Value):Value:=.iface 333 (.agg v.toArray)
def yO (v:List Value):Value:=.iface 335 (.agg v.toArray)
def zw (v:List Value):Value:=.iface 336 (.agg v.toArray)
def wC (v:List Value):Value:=.iface 338 (.agg v.toArray)
def vG (v:List Value):Value:=.iface 339 (.agg v.toArray)
def zx (v:List Value):Value:=.iface 341 (.agg v.toArray)
def kQ (r:qg):Value:=
 if r.kind == 1 then vF (Zn r.tx r.prev r.oid r.bf r.af)
 else if r.kind == 2 then yO (xW r.tx r.prev)
 else if r.kind == 3 then zw (xW r.tx r.prev)
 else if r.kind == 4 then wC (KW r.tx r.prev r.oid r.af r.next)
 else if r.kind == 5 then vG (xW r.tx r.prev)
 else if r.kind == 6 then zx (Jg r.txs r.aL r.cL)
 else .nilIface
theorem sj (r:qg) (w:World):
  Calls Tryz.prog 244 #[.agg r.cells.toArray] w fun e w'=>e=.returned (kQ r)∧Below w.heap.size w w':=by
 obtain ⟨W,hW,b0,b1,hbW,qp⟩:=jf w r.cells [.int .i64 r.tx,.int .i64 r.prev] 189 331;have HV:Hid (kQ r=if r.kind == 1 then vF (Zn r.tx r.prev r.oid r.bf r.af)
  else if r.kind == 2 then yO (xW r.tx r.prev)
  else if r.kind == 3 then zw (xW r.tx r.prev)
  else if r.kind == 4 then wC (KW r.tx r.prev r.oid r.af r.next)
  else if r.kind == 5 then vG (xW r.tx r.prev)
  else if r.kind == 6 then zx (Jg r.txs r.aL r.cL)
  else .nilIface):=rfl
 generalize kQ r=D at*
 simp only [qg.cells] at*
 obtain ⟨x0,x1,x2,x3,x4,x5,x6,x7,x8,x9,kJ,xy,xz,xG,xm⟩:=fifteen b0;have y0:=b1.cell 0 _ rfl;have y1:=b1.cell 1 _ rfl;clear b0 b1 qp;cases k1:(r.kind == 1) with
 | true=>
  have HR:Hid (D=vF (Zn r.tx r.prev r.oid r.bf r.af)):=by rw [Hid,HV.out];simp [k1]
  clear HV;go_enter Tryz.func244,Tryz.ntmps244;go_wp2_with fail;rw [hW.out];clear hW;go_wp2;go_ret;exact ⟨by rw [HR.out];rfl,hbW⟩
 | false=>
  cases k2:(r.kind == 2) with
  | true=>
   have HR:Hid (D=yO (xW r.tx r.prev)):=by rw [Hid,HV.out];simp [k1,k2]
   clear HV;go_enter Tryz.func244,Tryz.ntmps244;go_wp2_with fail;rw [hW.out];clear hW;go_wp2;go_ret;exact ⟨by rw [HR.out];rfl,hbW⟩
  | false=>
   cases k3:(r.kind == 3) with
   | true=>
    have HR:Hid (D=zw (xW r.tx r.prev)):=by rw [Hid,HV.out];simp [k1,k2,k3]
    clear HV;go_enter Tryz.func244,Tryz.ntmps244;go_wp2_with fail;rw [hW.out];clear hW;go_wp2;go_ret;exact ⟨by rw [HR.out];rfl,hbW⟩
   | false=>
    cases k4:(r.kind == 4) with
    | true=>
     have HR:Hid (D=wC (KW r.tx r.prev r.oid r.af r.next)):=by rw [Hid,HV.out];simp [k1,k2,k3,k4]
     clear HV;go_enter Tryz.func244,Tryz.ntmps244;go_wp2_with fail;rw [hW.out];clear hW;go_wp2;go_ret;exact ⟨by rw [HR.out];rfl,hbW⟩
    | false=>
     cases k5:(r.kind == 5) with
     | true=>
      have HR:Hid (D=vG (xW r.tx r.prev)):=by rw [Hid,HV.out];simp [k1,k2,k3,k4,k5]
      clear HV;go_enter Tryz.func244,Tryz.ntmps244;go_wp2_with fail;rw [hW.out];clear hW;go_wp2;go_ret;exact ⟨by rw [HR.out];rfl,hbW⟩
     | false=>
      cases k6:(r.kind == 6) with
      | true=>
       have HR:Hid (D=zx (Jg r.txs r.aL r.cL)):=by rw [Hid,HV.out];simp [k1,k2,k3,k4,k5,k6]
       clear HV;go_enter Tryz.func244,Tryz.ntmps244;go_wp2_with fail;rw [hW.out];clear hW;go_wp2;go_ret;exact ⟨by rw [HR.out];rfl,hbW⟩
      | false=>
       have HR:Hid (D=.nilIface):=by rw [Hid,HV.out];simp [k1,k2,k3,k4,k5,k6]
       clear HV;go_enter Tryz.func244,Tryz.ntmps244;go_wp2;go_ret;exact ⟨by rw [HR.out];rfl,by rw [hW.out];exact hbW⟩
end Go.Proofs.YtjkckhfddgeboaaGreatDoor