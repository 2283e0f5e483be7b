/- Texts. -/
import Derived.Test.YtnfdccldabbobaaGreatDoorP9
import Derived.Test.YtnfdccldabbobaaGreatDoorP8
import Derived.RangeFuncNested
import Derived.RangeFuncBound
import Derived.RangeFuncCalls
import Derived.RangeFuncLeaves
import Derived.Shelf.Abstract
import Derived.Shelf.RegionOpen
import Derived.OwnWalkIn
import Derived.TacticsInMore
import Derived.LoopNIn
import Derived.LoopIn
set_option maxHeartbeats 8000000
set_option maxRecDepth 100000
namespace Go.Proofs.YtnfdccldabbobaaGreatDoor
open Go.RowKit Go.Proofs.Tryz
section
open Go.ChangeShapes Go.WideShapes Go.ChangeAt Go.RowKit
structure Xi (w:World) (r:ql):Prop where
 bf:Qj w r.bf
 af:Qj w r.af
 txs:kQ w r.aL r.txs
 lT:r.txs.length≤maxLen
 nums:zy r.lsn∧zy r.tx∧zy r.prev∧zy r.kind∧zy r.oid∧zy r.next
theorem Xi.reads {w:World} {r:ql} (h:Xi w r):r.reads w:=⟨h.bf.reads,h.af.reads,h.txs⟩
section
variable {H:Type} {enc:TypeId × Value→H} {w:World} {base:Nat} {spare:Nat→Bool} {held:Bool}
theorem Tryz.Tx:prog.cellsOf 130=3:=by kernel_rfl
theorem Tryz.qa6:prog.cellsOf 37=1:=by kernel_rfl
theorem Tryz.Ty:prog.cellsOf 163=15:=by kernel_rfl
theorem EZ {fuel:Nat} {cs:List Value} {x:DataW H × List MemPlace} (h:DataW.trod enc prog w base spare held fuel 130 cs=some x):∃ t:qM,cs=t.cells:=by
 obtain ⟨xs,n,_,_,hlen,hxl,hf⟩:=qfC underlying130 h;rw [Tryz.Tx] at hlen
 match cs,hlen with
 | [v0,v1,v2],_=>
  have f0:=hf 0 _ rfl;have f1:=hf 1 _ rfl;have f2:=hf 2 _ rfl;obtain ⟨y0,hx0⟩:=jV xs 0 (by rw [hxl];decide);obtain ⟨y1,hx1⟩:=jV xs 1 (by rw [hxl];decide);obtain ⟨y2,hx2⟩:=jV xs 2 (by rw [hxl];decide);rw [hx0] at f0;rw [hx1] at f1;rw [hx2] at f2;simp only [qeM,qeF,qeG,Tryz.GL,Tryz.Ki,List.drop,List.take] at f0 f1 f2;obtain ⟨a,e0,_⟩:=zl f0;obtain ⟨b,e1,_⟩:=zl f1;obtain ⟨c,e2,_⟩:=DataW.trod_bool underlying4 f2;simp only [qfh,qgt] at e0 e1 e2;subst e0 e1 e2;exact ⟨⟨a,b,c⟩,rfl⟩
theorem GM {fuel:Nat} {cs:List Value} {x:DataW H × List MemPlace} (h:DataW.trod enc prog w base spare held fuel 37 cs=some x):
  ∃ (a:Option Addr) (c:Nat) (ls:List qM),cs=[.slice a ls.length c]∧kQ w a ls∧ls.length≤maxLen:=by
 rcases DataW.trod_slice underlying37 h with ⟨rfl,_⟩ | ⟨a,len,cap,elems,rest,n,_,rfl,_,_,hl,hm,hlen,hel,_,_⟩
 ·exact ⟨none,0,[],rfl,kQ.nil _ _,by simp⟩
 rw [Tryz.Tx] at hel;have each:∀ i,i<len→∃ t:qM,w.cells? base (a.add (i*3)) 3=some t.cells:=by
  intro i hi;have hy:=hel i hi;rw [qcG (by omega:i<elems.length),Option.bind_eq_some_iff] at hy;obtain ⟨cs',hcs,hy'⟩:=hy;obtain ⟨t,e⟩:=EZ hy';exact ⟨t,by rw [hcs,e]⟩
 obtain ⟨f,hf⟩:∃ f:Nat→qM,∀ i,i<len→w.cells? base (a.add (i*3)) 3=some (f i).cells:=by
  refine ⟨fun i=>if h:i<len then (each i h).choose else qz,fun i hi=>?_⟩;simp only [dif_pos hi];exact (each i hi).choose_spec
 refine ⟨some a,cap,(List.range len).map f,by simp,?_,by simp;omega⟩;intro hne;have hpos:=qe9.2 hne;simp only [qa4,List.length_range] at hpos ⊢;obtain ⟨b,off,spot⟩:=a;have c0:=(qfR (hf 0 hpos)).2.2 0 (by decide);have hspot:spot=none:=by simpa [Addr.add] using World.cell?_spot c0
 subst hspot;refine ⟨b,off,rfl,fun k hk=>?_⟩;have e:((List.range len).map f).getD k qz=f k:=by simp [List.getD,hk]
 rw [e];have hc:=(qfR (hf k hk)).2.2;have d0:=hc 0 (by decide);have d1:=hc 1 (by decide);have d2:=hc 2 (by decide);simp only [zI,qM.cells] at d0 d1 d2;exact ⟨by simpa using d0,by simpa using d1,by simpa using d2⟩
theorem tK {fuel:Nat} {cs:List Value} {x:DataW H × List MemPlace} (h:DataW.trod enc prog w base spare held fuel 163 cs=some x):
  ∃ r:ql,cs=r.cells∧Xi w r:=by
 obtain ⟨xs,n,_,_,hlen,hxl,hf⟩:=qfC underlying163 h;rw [Tryz.Ty] at hlen
 match cs,hlen with
 | [v0,v1,v2,v3,v4,v5,v6,v7,v8,v9,v10,v11,v12,v13,v14],_=>
  have f0:=hf 0 _ rfl;have f1:=hf 1 _ rfl;have f2:=hf 2 _ rfl;have f3:=hf 3 _ rfl;have f4:=hf 4 _ rfl;have f5:=hf 5 _ rfl;have f6:=hf 6 _ rfl;have f7:=hf 7 _ rfl;have f8:=hf 8 _ rfl;obtain ⟨y0,hx0⟩:=jV xs 0 (by rw [hxl];decide);rw [hx0] at f0;obtain ⟨y1,hx1⟩:=jV xs 1 (by rw [hxl];decide);rw [hx1] at f1;obtain ⟨y2,hx2⟩:=jV xs 2 (by rw [hxl];decide);rw [hx2] at f2;obtain ⟨y3,hx3⟩:=jV xs 3 (by rw [hxl];decide);rw [hx3] at f3;obtain ⟨y4,hx4⟩:=jV xs 4 (by rw [hxl];decide);rw [hx4] at f4;obtain ⟨y5,hx5⟩:=jV xs 5 (by rw [hxl];decide);rw [hx5] at f5;obtain ⟨y6,hx6⟩:=jV xs 6 (by rw [hxl];decide);rw [hx6] at f6;obtain ⟨y7,hx7⟩:=jV xs 7 (by rw [hxl];decide);rw [hx7] at f7;obtain ⟨y8,hx8⟩:=jV xs 8 (by rw [hxl];decide);rw [hx8] at f8;simp only [qeM,qeF,qeG,Tryz.Ki,Tryz.NL,Tryz.qa6,List.drop,List.take] at f0 f1 f2 f3 f4 f5 f6 f7 f8;obtain ⟨n0,e0,w0⟩:=zl f0;obtain ⟨n1,e1,w1⟩:=zl f1;obtain ⟨n2,e2,w2⟩:=zl f2;obtain ⟨n3,e3,w3⟩:=zl f3;obtain ⟨n4,e4,w4⟩:=zl f4;obtain ⟨n5,e5,w5⟩:=zl f7;obtain ⟨s,e6,hs⟩:=Zb f5;obtain ⟨u,e7,hu⟩:=Zb f6;obtain ⟨aL,cL,ls,e8,hL,lL⟩:=GM f8;simp only [qj.cells,qfh,qgt] at e0 e1 e2 e3 e4 e5 e6 e7 e8;obtain ⟨g0,g1,g2,g3⟩:=e6;obtain ⟨k0,k1,k2,k3⟩:=e7;subst e0 e1 e2 e3 e4 e5 e8 g0 g1 g2 g3 k0 k1 k2 k3;exact ⟨⟨n0,n1,n2,n3,n4,s,u,n5,ls,aL,cL⟩,rfl,hs,hu,hL,lL,w0,w1,w2,w3,w4,w5⟩
theorem qlB {b0:Nat} {v:Value} {d:DataW H} {ps:List MemPlace} (hval:Value.okWide prog w .any b0 163 v) (h:DataW.Trod enc prog w base spare held 163 v d ps):
  ∃ r:ql,v=.agg r.cells.toArray∧Xi w r:=by
 obtain ⟨cs,rfl,hcs⟩:=okWide_struct underlying163 hval;obtain ⟨fuel,hf⟩:=h;have e:(Value.agg cs).cells.toList=cs.toList:=rfl;rw [e] at hf;obtain ⟨r,hc,rest⟩:=tK hf;refine ⟨r,?_,rest⟩;congr 1;apply qgk.1;rw [hc]
end
end
def qE:ql:=⟨0,0,0,0,0,qw,qw,0,[],none,0⟩
theorem xq {r t:ql} {m:Nat} (h:t.v=r.v) (hl:r.short m):t.short m:=by
 simp only [ql.v,xS.mk.injEq] at h;obtain ⟨_,_,_,_,_,h1,h2,_,h3⟩:=h;exact ⟨by rw [h1];exact hl.bf,by rw [h2];exact hl.af,by rw [h3];exact hl.txs⟩
theorem jB {r:ql} (hl:r.short 1048576):r.short 1099511627776:=⟨by have:=hl.bf;omega,by have:=hl.af;omega,by have:=hl.txs;omega⟩
theorem Xi.short {w:World} {r:ql} (h:Xi w r):r.short 9223372036854775807:=by
 have h1:=h.bf.lI;have h2:=h.bf.lR;have h3:=h.af.lI;have h4:=h.af.lR;have h5:=h.lT;simp only [maxLen] at h1 h2 h3 h4 h5;exact ⟨by omega,by omega,by omega⟩
theorem ql.own.qC {w:World} {lo hi:Nat} {r:ql} (h:r.own w lo hi):∀ k∈r.blocks,lo≤k∧k<hi:=by
 intro k hk;simp only [ql.blocks,qaa,qad] at hk;rcases hk with h1 | h1 | h1
 ·exact qj.qC h.bf k h1
 ·exact qj.qC h.af k h1
 ·exact h.txs.lt k h1
theorem E5 (r:ql) (w:World) (hr:r.reads w) (hl:r.short 1048576):
  Calls prog 119 #[.agg r.cells.toArray] w fun e w'=>∃ t:ql,e=.returned (.agg t.cells.toArray)∧Hid (t.v=r.v)∧t.own w' w.heap.size w'.heap.size∧qa w w':=
 toRec_own r w hr (jB hl).bf (jB hl).af (jB hl).txs
theorem qa7 {ss ts:List qj} (h:ts.map (·.v)=ss.map (·.v)) (h4:ss.length=4):ts.length=4:=by
 have:=qcz List.length h;simp only [qa4] at this;omega
theorem qdM {ss:List qj} (hl:∀ s∈ss,s.v.o.ints.length≤1048576∧s.v.o.refs.length≤1048576):∀ s∈ss,s.v.o.ints.length≤1099511627776∧s.v.o.refs.length≤1099511627776:=fun s hs=>by have:=hl s hs;omega
section
open Go.RowKit Go.Shelf
theorem UN {F:Fence} {n:Nat} {P:Program} {ops:Array Oper} {rest:List Oper} {o:Oper} {a:Act} {w w':World} {Q:Exit→Act→World→Prop} {v:Value} (hgd:o.guard=none) (hF:∀ f,F.fn f) (hs:o.semAt F.round a.eval=execOp a.eval o)
  (hrun:(execOp a.eval o).run P w=.ok (.value v) w') (h:wpListIn F n P ops Q rest (a.put o.dst v) w'):wpListIn F n P ops Q (o::rest) a w:=
 wpListIn_plain hgd fun K hK=>⟨fun f _=>hF f,by rw [hs,hrun,Oper.uponIn_value];exact hK _ _ h⟩
theorem Ru {F:Fence} {n:Nat} {P:Program} {ops:Array Oper} {rest:List Oper} {o:Oper} {a:Act} {w w':World} {Q:Exit→Act→World→Prop} (hgd:o.guard=none) (hF:∀ f,F.fn f) (hs:o.semAt F.round a.eval=execOp a.eval o)
  (hrun:(execOp a.eval o).run P w=.ok .skip w') (h:wpListIn F n P ops Q rest (a.put o.dst undef) w'):wpListIn F n P ops Q (o::rest) a w:=
 wpListIn_plain hgd fun K hK=>⟨fun f _=>hF f,by rw [hs,hrun,Oper.uponIn_skip];exact hK _ _ h⟩
theorem iq {F:Fence} {n:Nat} {P:Program} {ops:Array Oper} {rest:List Oper} {op:Oper} {a:Act} {w:World} {Q:Exit→Act→World→Prop} (hgd:op.guard=none) (hF:∀ f,F.fn f) (hs:op.semAt F.round a.eval=execOp a.eval op) (ty:TypeId) (x:Operand) (ho:op.op=.load ty x)
  (b o:Nat) (hx:a.eval x=.pointer (some ⟨b,o,none⟩)) (cs:List Value) (d:TypeDesc) (hc:w.rangeAt b o cs)
  (hu:P.underlying ty=some d) (hd:d.isRow=true) (hi:(P.info? ty).map (·.size)=some cs.length)
  (h:wpListIn F n P ops Q rest (a.put op.dst (.agg cs.toArray)) w):wpListIn F n P ops Q (op::rest) a w:=by
 refine UN hgd hF hs (v:=.agg cs.toArray) ?_ h;unfold execOp;simp only [ho,hx,Instr.loadAt,Instr.sureAddr,qdq,qeJ,qdf,qeI w b o ty cs d hc hu hd hi]
theorem Rv {F:Fence} {n:Nat} {P:Program} {ops:Array Oper} {rest:List Oper} {op:Oper} {a:Act} {w:World} {Q:Exit→Act→World→Prop} (hgd:op.guard=none) (hF:∀ f,F.fn f) (hs:op.semAt F.round a.eval=execOp a.eval op) (ty:TypeId) (x y:Operand) (ho:op.op=.store ty x y)
  (b o:Nat) (cs:Array Value) (hx:a.eval x=.pointer (some ⟨b,o,none⟩)) (hy:a.eval y=.agg cs) (ht:w.there b o cs.size)
  (hi:(P.info? ty).map (·.size)=some cs.size) (h1:cs.all (·.oneCell')=true)
  (h:wpListIn F n P ops Q rest (a.put op.dst undef) (w.setCells b o cs.toList)):wpListIn F n P ops Q (op::rest) a w:=by
 refine Ru hgd hF hs ?_ h;unfold execOp;simp only [ho,hx,hy,qdq,qeJ,qdf,run_storeAt_mid w b o ty cs ht hi h1]
theorem NM {n:Nat} {P:Program} {g:Operand} {ps:Array Tmp} {assign body:Code} {Q:Exit→Act→World→Prop} {a:Act} {w:World} {gf:Nat} {lb:Array Value} (hg:a.eval g=.func (.func gf) #[] lb) (eg:∀ args w,(callFunc gf args).run P w=.ok (.enter gf args) w)
  (h:∀ (r:Loop) (W1:World),r.state=.ready→r.pending=none→r.tmps=a.tmps→r.params=ps→r.assign=assign→r.body=body→W1.heap[w.heap.size+1]? =some (.loop r)→W1.heap[w.heap.size]? =some (.deferred (some []))→qa w W1→W1.heap.size=w.heap.size+2→
   CallsIn Fence.wide (n-1) P gf (#[.func (.yield (w.heap.size+1)) #[] #[]]++lb) W1 (rangePost Fence.wide n P (w.heap.size+1) Q { a with defers:=[{ target:=.collected w.heap.size,args:=#[] }]++a.defers })):
  (Code.rangeFunc g ps assign body).wpIn Fence.wide n P Q a w:=by
 refine wpIn_rangeFunc ?_;intro fn _;obtain ⟨r,hr⟩:∃ r:Loop,({ state:=.ready,pending:=none,fn:=fn,tmps:=a.tmps,params:=ps,assign:=assign,body:=body,defers:=w.heap.size }:Loop)=r:=⟨_,rfl⟩;obtain ⟨W1,hW1⟩:=Q4 ((w.alloc (.deferred (some []))).alloc (.loop r));have hL:W1.heap[w.heap.size+1]? =some (.loop r):=by
  rw [← hW1];have:=World.alloc_heap_new (w.alloc (.deferred (some []))) (.loop r)
  rwa [World.size_alloc] at this
 have hD:W1.heap[w.heap.size]? =some (.deferred (some [])):=by
  rw [← hW1];exact (Below.heap_alloc _ _ _ (by simp)).trans (World.alloc_heap_new w _)
 have hB:qa w W1:=by
  rw [← hW1];exact ((qab _ w).alloc qg _).alloc (by simp) _
 have hS:W1.heap.size=w.heap.size+2:=by rw [← hW1];simp
 have hc:=h r W1 (by rw [← hr]) (by rw [← hr]) (by rw [← hr]) (by rw [← hr]) (by rw [← hr]) (by rw [← hr]) hL hD hB hS;refine ⟨w.heap.size+1,[{ target:=.collected w.heap.size,args:=#[] }],W1,{ target:=.fn (.func gf) lb,args:=#[.func (.yield (w.heap.size+1)) #[] #[]] },W1,gf,#[.func (.yield (w.heap.size+1)) #[] #[]]++lb,W1,?_,?_,?_,?_,?_,?_⟩
 ·rw [← hW1,← hr];exact run_enterLoop_outer fn a.tmps ps assign body
 ·simp only [resolve,hg];simp [go_sem]
 ·intro f' _
  trivial
 ·simp [invoke,go_sem,eg]
 ·intro hh;have hn:Fence.wide.depth.isSome=false:=rfl;rw [hn] at hh;cases hh
 ·exact hc
theorem uO (w:World) (l:Nat) (o:Obj):Within l (l+1) w (w.putObj l o)∧(w.putObj l o).heap.size=w.heap.size:=by
 refine ⟨⟨rfl,rfl,rfl,by simp [World.putObj],fun k _ hn=>World.putObj_heap_other (by omega)⟩,by simp [World.putObj]⟩
theorem iw {m:Nat} {P:Program} {l:Nat} {r:Loop} {args:Array Value} {W:World} {R:Ending→World→Prop} (hL:W.heap[l]? =some (.loop r)) (hs:args.size=r.params.size) (hrd:r.state=.ready)
  (h:r.assign.wpIn (Fence.wide.inRound l) m P (Exit.then (fun a1 w1=>w1.heap[l]? =some (.loop r)∧∀ V,V.heap[l]? =some (.loop { r with state:=.busy })→Within l (l+1) w1 V→V.heap.size=w1.heap.size→r.body.wpIn (Fence.wide.inRound l) m P (roundPost P l R) a1 V) (fun _ _ _=>False))
   { tmps:=(r.params.zip args).foldl (fun t (p,v)=>t.setIfInBounds p v) r.tmps,defers:=[] } W):YieldAt Fence.wide m P l args W R:=by
 refine ⟨r.fn,_,r.assign,r.body,run_yield hL hs,roundIn_of_wpIn trivial (wpIn_mono h ?_)⟩;intro e a1 w1 hp;cases e with
 | normal=>exact ⟨_,run_beginRound hp.1 hrd,hp.2 _ (World.putObj_heap_same (qc0.1 hp.1).1) (uO w1 l _).1 (uO w1 l _).2⟩
 | exit id=>exact hp.elim
 | goto t=>exact hp.elim
 | ret=>exact hp.elim
 | panic ch=>exact hp.elim
 | outgrown=>exact hp.elim
theorem qa8 {P:Program} {l:Nat} {r:Loop} {V:World} (jump:Option Code) (hL:V.heap[l]? =some (.loop r)):
  ∃ X,(Instr.endRound l jump).run P V=.ok (.bool jump.isNone) X∧X.heap[l]? =some (.loop { r with state:=if jump.isNone then .ready else .done,pending:=jump })∧Within l (l+1) V X∧X.heap.size=V.heap.size:=
 ⟨_,run_endRound jump hL,World.putObj_heap_same (qc0.1 hL).1,(uO V l _).1,(uO V l _).2⟩
theorem E8 {P:Program} {l:Nat} {r:Loop} {V:World} (hst:r.state=.ready) (E9:r.pending=none) (hL:V.heap[l]? =some (.loop { r with state:=.busy })):
  ∃ X,(Instr.endRound l none).run P V=.ok (.bool true) X∧X.heap[l]? =some (.loop r)∧Within l (l+1) V X∧X.heap.size=V.heap.size:=by
 obtain ⟨X,h1,h2,h3,h4⟩:=qa8 (P:=P) (r:={ r with state:=.busy }) none hL;refine ⟨X,h1,?_,h3,h4⟩;rw [h2];cases r;simp only at hst E9;subst hst E9;rfl
end
end Go.Proofs.YtnfdccldabbobaaGreatDoor
