/- Several texts in one, in their order. -/
import Derived.Test.YtfehemepdoomdaaPViewx1
import Derived.ProofKit
import Derived.OpenShut
import Derived.ChangeOld
import Derived.ChangeArms
import Derived.Test.YtfehemepdoomdaaPViewx3
import Derived.Test.YtfehemepdoomdaaProg
import Derived.LaidEql
import Derived.Stop.Asserts
import Derived.RowKitTokens
import Derived.Test.YtfehemepdoomdaaPViewx2
import Derived.Deep.QuietTactic
import Derived.Deep.RegionHeld3
import Derived.Test.YtfehemepdoomdaaPViewx4
import Derived.Deep.CutRange
import Derived.Deep.RegionLaw
import Derived.Deep.DrawnRows
set_option maxHeartbeats 8000000
set_option maxRecDepth 100000
namespace Go.Proofs.Ytfehemepdoomdaa
open Go.ChangeShapes Go.WideShapes Go.ChangeAt Go.RowKit
def InI64 (z:Int):Prop:= -9223372036854775808≤z∧z≤9223372036854775807
theorem wf_i64 {z:Int} (h:(Lit.int .i64 z).wf=true):InI64 z:=by
 simp [Lit.wf,IntKind.min,IntKind.max,IntKind.signed,IntKind.bits] at h
 unfold InI64;omega
theorem some_at {α:Type} (xs:List α) (i:Nat) (h:i<xs.length):∃ y,xs[i]? =some y:=⟨_,List.getElem?_eq_getElem h⟩
section
variable {H:Type} {enc:TypeId × Value→H} {w:World} {base:Nat} {spare:Nat→Bool} {held:Bool}
theorem trod_ints {fuel:Nat} {cs:List Value} {x:DataW H × List MemPlace} (h:DataW.trod enc Try.prog w base spare held fuel 22 cs=some x):
  ∃ (a:Option Addr) (c:Nat) (ns:List Int),cs=[.slice a ns.length c]∧ReadsI w a ns∧(a=none→c=0)∧ns.length≤maxLen∧∀ z∈ns,InI64 z:=by
 rcases open_ints Try.underlying22 Try.underlying3 (by kernel_rfl) h with ⟨rfl,_⟩ | ⟨a,len,cap,zs,rfl,_,hl,hm,hz,_,hcell,hwf⟩
 ·exact ⟨none,0,[],rfl,fun h=>absurd rfl h,fun _=>rfl,by simp,by simp⟩
 ·have hlz:len≤zs.length:=by rw [hz];split<;>omega
  refine ⟨some a,cap,zs.take len,by simp;omega,?_,(fun h=>by cases h),by simp;omega,fun z hzz=>wf_i64 (hwf z (List.mem_of_mem_take hzz))⟩
  intro hne
  have hpos:=List.length_pos_iff.2 hne
  simp at hpos
  obtain ⟨b,off,spot⟩:=a
  have hc0:=hcell 0 (by omega)
  have hspot:spot=none:=by simpa [Addr.add] using World.cell?_spot hc0
  subst hspot
  refine ⟨b,off,rfl,fun i hi=>?_⟩
  have hi':i<len:=by simp at hi;omega
  have:=hcell i (by omega)
  have e:(List.take len zs).getD i 0=zs.getD i 0:=by simp [List.getD,hi']
  rw [e,← Addr_add]
  exact this
theorem trod_num {fuel:Nat} {cs:List Value} {x:DataW H × List MemPlace} (h:DataW.trod enc Try.prog w base spare held fuel 3 cs=some x):∃ n:Int,cs=[.int .i64 n]∧InI64 n:=by
 obtain ⟨n,rfl,_,hw⟩:=DataW.trod_int Try.underlying3 h
 exact ⟨n,rfl,wf_i64 hw⟩
theorem Try.cellsI:Try.prog.cellsOf 3=1:=by kernel_rfl
theorem Try.cellsIs:Try.prog.cellsOf 22=1:=by kernel_rfl
theorem Try.cellsO:Try.prog.cellsOf 24=3:=by kernel_rfl
theorem trod_obj {fuel:Nat} {cs:List Value} {x:DataW H × List MemPlace} (h:DataW.trod enc Try.prog w base spare held fuel 24 cs=some x):
  ∃ (o:ObjV) (aI:Option Addr) (cI:Nat) (aR:Option Addr) (cR:Nat),cs=[.int .i64 o.kind,.slice aI o.ints.length cI,.slice aR o.refs.length cR]∧ReadsO w aI cI aR cR o∧o.ints.length≤maxLen∧o.refs.length≤maxLen∧InI64 o.kind∧(∀ z∈o.ints,InI64 z)∧(∀ z∈o.refs,InI64 z):=by
 obtain ⟨xs,n,_,_,hlen,hxl,hf⟩:=DataW.trod_struct Try.underlying24 h
 rw [Try.cellsO] at hlen
 match cs,hlen with
 | [v0,v1,v2],_=>
  have f0:=hf 0 _ rfl
  have f1:=hf 1 _ rfl
  have f2:=hf 2 _ rfl
  obtain ⟨y0,hx0⟩:=some_at xs 0 (by rw [hxl];decide)
  obtain ⟨y1,hx1⟩:=some_at xs 1 (by rw [hxl];decide)
  obtain ⟨y2,hx2⟩:=some_at xs 2 (by rw [hxl];decide)
  rw [hx0] at f0
  rw [hx1] at f1
  rw [hx2] at f2
  simp only [List.getElem_toArray,List.getElem_cons_zero,List.getElem_cons_succ,Try.cellsI,Try.cellsIs,List.drop,List.take] at f0 f1 f2
  obtain ⟨k,e0,wk⟩:=trod_num f0
  obtain ⟨aI,cI,ints,e1,hI,nI,lI,wI⟩:=trod_ints f1
  obtain ⟨aR,cR,refs,e2,hR,nR,lR,wR⟩:=trod_ints f2
  simp only [List.cons.injEq,and_true] at e0 e1 e2
  subst e0 e1 e2
  exact ⟨⟨k,ints,refs⟩,aI,cI,aR,cR,rfl,⟨hI,hR,nI,nR⟩,lI,lR,wk,wI,wR⟩
theorem open_obj {b0:Nat} {v:Value} {d:DataW H} {ps:List MemPlace} (hval:Value.okWide Try.prog w .any b0 24 v) (h:DataW.Trod enc Try.prog w base spare held 24 v d ps):
  ∃ (o:ObjV) (aI:Option Addr) (cI:Nat) (aR:Option Addr) (cR:Nat),v=.agg #[.int .i64 o.kind,.slice aI o.ints.length cI,.slice aR o.refs.length cR]∧ReadsO w aI cI aR cR o∧o.ints.length≤maxLen∧o.refs.length≤maxLen∧InI64 o.kind∧(∀ z∈o.ints,InI64 z)∧(∀ z∈o.refs,InI64 z):=by
 obtain ⟨cs,rfl,hcs⟩:=okWide_struct Try.underlying24 hval
 obtain ⟨fuel,hf⟩:=h
 have e:(Value.agg cs).cells.toList=cs.toList:=rfl
 rw [e] at hf
 obtain ⟨o,aI,cI,aR,cR,hc,rest⟩:=trod_obj hf
 refine ⟨o,aI,cI,aR,cR,?_,rest⟩
 congr 1
 apply Array.toList_inj.1
 rw [hc]
end
end Go.Proofs.Ytfehemepdoomdaa
namespace Go.Proofs.Ytfehemepdoomdaa
open Go.ChangeShapes Go.WideShapes Go.ChangeAt Go.RowKit
structure InSlot (w:World) (s:SlotA):Prop where
 reads:s.reads w
 lI:s.v.o.ints.length≤maxLen
 lR:s.v.o.refs.length≤maxLen
 kind:InI64 s.v.o.kind
 ints:∀ z∈s.v.o.ints,InI64 z
 refs:∀ z∈s.v.o.refs,InI64 z
section
variable {H:Type} {enc:TypeId × Value→H} {w:World} {base:Nat} {spare:Nat→Bool} {held:Bool}
theorem Try.cellsB:Try.prog.cellsOf 4=1:=by kernel_rfl
theorem Try.cellsSl:Try.prog.cellsOf 26=4:=by kernel_rfl
theorem Try.cellsSl4:Try.prog.cellsOf 27=16:=by kernel_rfl
theorem Try.cellsPg:Try.prog.cellsOf 29=17:=by kernel_rfl
theorem trod_slot {fuel:Nat} {cs:List Value} {x:DataW H × List MemPlace} (h:DataW.trod enc Try.prog w base spare held fuel 26 cs=some x):
  ∃ s:SlotA,cs=s.cells∧InSlot w s:=by
 obtain ⟨xs,n,_,_,hlen,hxl,hf⟩:=DataW.trod_struct Try.underlying26 h
 rw [Try.cellsSl] at hlen
 match cs,hlen with
 | [v0,v1,v2,v3],_=>
  have f0:=hf 0 _ rfl
  have f1:=hf 1 _ rfl
  obtain ⟨y0,hx0⟩:=some_at xs 0 (by rw [hxl];decide)
  obtain ⟨y1,hx1⟩:=some_at xs 1 (by rw [hxl];decide)
  rw [hx0] at f0
  rw [hx1] at f1
  simp only [List.getElem_toArray,List.getElem_cons_zero,List.getElem_cons_succ,Try.cellsB,Try.cellsO,List.drop,List.take] at f0 f1
  obtain ⟨b,e0,_⟩:=DataW.trod_bool Try.underlying4 f0
  obtain ⟨o,aI,cI,aR,cR,e1,hr,lI,lR,wk,wI,wR⟩:=trod_obj f1
  simp only [List.cons.injEq,and_true] at e0 e1
  obtain ⟨rfl,rfl,rfl⟩:=e1
  subst e0
  exact ⟨⟨⟨b,o⟩,aI,cI,aR,cR⟩,rfl,hr,lI,lR,wk,wI,wR⟩
theorem four_of (cs:List Value) (h:cs.length=16) (f:∀ i,i<4→∃ s:SlotA,(cs.drop (i*4)).take 4=s.cells∧InSlot w s):∃ ss:List SlotA,ss.length=4∧cs=cellsS ss∧∀ s∈ss,InSlot w s:=by
 obtain ⟨s0,e0,h0⟩:=f 0 (by omega)
 obtain ⟨s1,e1,h1⟩:=f 1 (by omega)
 obtain ⟨s2,e2,h2⟩:=f 2 (by omega)
 obtain ⟨s3,e3,h3⟩:=f 3 (by omega)
 refine ⟨[s0,s1,s2,s3],rfl,?_,?_⟩
 ·simp only [cellsS,List.flatMap_cons,List.flatMap_nil,List.append_nil,← e0,← e1,← e2,← e3]
  simp only [Nat.zero_mul,Nat.one_mul,List.drop_zero]
  have d:∀ (l:List Value) (k:Nat),l.drop k=(l.drop k).take 4++l.drop (k+4):=fun l k=>by rw [← List.drop_drop,List.take_append_drop]
  have a0:=d cs 0
  have a1:=d cs 4
  have a2:=d cs 8
  have a3:=d cs 12
  rw [List.drop_zero] at a0
  have a4:cs.drop (12+4)=[]:=List.drop_eq_nil_of_le (by omega)
  rw [a4,List.append_nil] at a3
  simp only [show 0+4=4 from rfl,show 4+4=8 from rfl,show 8+4=12 from rfl,show 2*4=8 from rfl,show 3*4=12 from rfl] at*
  conv=>lhs;rw [a0,a1,a2,a3]
 ·intro s hs
  simp only [List.mem_cons,List.not_mem_nil,or_false] at hs
  rcases hs with rfl | rfl | rfl | rfl<;>assumption
theorem trod_page {fuel:Nat} {cs:List Value} {x:DataW H × List MemPlace} (h:DataW.trod enc Try.prog w base spare held fuel 29 cs=some x):
  ∃ p:PageA,cs=p.cells∧p.ss.length=4∧InI64 p.lsn∧∀ s∈p.ss,InSlot w s:=by
 obtain ⟨xs,n,_,_,hlen,hxl,hf⟩:=DataW.trod_struct Try.underlying29 h
 rw [Try.cellsPg] at hlen
 obtain ⟨v0,r,rfl⟩:∃ v0 r,cs=v0::r:=by
  cases cs with
  | nil=>simp at hlen
  | cons v r=>exact ⟨v,r,rfl⟩
 have hr16:r.length=16:=by simpa using hlen
 have f0:=hf 0 _ rfl
 have f1:=hf 1 _ rfl
 obtain ⟨y0,hx0⟩:=some_at xs 0 (by rw [hxl];decide)
 obtain ⟨y1,hx1⟩:=some_at xs 1 (by rw [hxl];decide)
 rw [hx0] at f0
 rw [hx1] at f1
 simp only [List.getElem_toArray,List.getElem_cons_zero,List.getElem_cons_succ,Try.cellsI,Try.cellsSl4,List.drop_zero,List.drop_succ_cons,List.take_succ_cons,List.take_zero] at f0 f1
 rw [List.take_of_length_le (by omega)] at f1
 obtain ⟨k,e0,wk⟩:=trod_num f0
 obtain ⟨ys,m,_,_,_,hyl,hg⟩:=DataW.trod_array Try.underlying27 f1
 obtain ⟨ss,h4,e1,hs⟩:=four_of (w:=w) r hr16 (fun i hi=>by
  have g:=hg i hi
  obtain ⟨y,hy⟩:=some_at ys i (by omega)
  rw [hy,Try.cellsSl] at g
  exact trod_slot g)
 simp only [List.cons.injEq,and_true] at e0
 subst e0 e1
 exact ⟨⟨k,ss⟩,rfl,h4,wk,hs⟩
theorem open_page {b0:Nat} {v:Value} {d:DataW H} {ps:List MemPlace} (hval:Value.okWide Try.prog w .any b0 29 v) (h:DataW.Trod enc Try.prog w base spare held 29 v d ps):
  ∃ p:PageA,v=.agg p.cells.toArray∧p.ss.length=4∧InI64 p.lsn∧∀ s∈p.ss,InSlot w s:=by
 obtain ⟨cs,rfl,hcs⟩:=okWide_struct Try.underlying29 hval
 obtain ⟨fuel,hf⟩:=h
 have e:(Value.agg cs).cells.toList=cs.toList:=rfl
 rw [e] at hf
 obtain ⟨p,hc,rest⟩:=trod_page hf
 refine ⟨p,?_,rest⟩
 congr 1
 apply Array.toList_inj.1
 rw [hc]
theorem open_slot {b0:Nat} {v:Value} {d:DataW H} {ps:List MemPlace} (hval:Value.okWide Try.prog w .any b0 26 v) (h:DataW.Trod enc Try.prog w base spare held 26 v d ps):
  ∃ s:SlotA,v=.agg s.cells.toArray∧InSlot w s:=by
 obtain ⟨cs,rfl,hcs⟩:=okWide_struct Try.underlying26 hval
 obtain ⟨fuel,hf⟩:=h
 have e:(Value.agg cs).cells.toList=cs.toList:=rfl
 rw [e] at hf
 obtain ⟨s,hc,rest⟩:=trod_slot hf
 refine ⟨s,?_,rest⟩
 congr 1
 apply Array.toList_inj.1
 rw [hc]
end
end Go.Proofs.Ytfehemepdoomdaa
namespace Go.Proofs.Ytfehemepdoomdaa
open Go.ChangeShapes Go.WideShapes Go.ChangeAt Go.RowKit
structure InRec (w:World) (r:RecA):Prop where
 bf:InSlot w r.bf
 af:InSlot w r.af
 txs:ReadsL w r.aL r.txs
 lT:r.txs.length≤maxLen
 nums:InI64 r.lsn∧InI64 r.tx∧InI64 r.prev∧InI64 r.kind∧InI64 r.oid∧InI64 r.next
theorem InRec.reads {w:World} {r:RecA} (h:InRec w r):r.reads w:=⟨h.bf.reads,h.af.reads,h.txs⟩
section
variable {H:Type} {enc:TypeId × Value→H} {w:World} {base:Nat} {spare:Nat→Bool} {held:Bool}
theorem Try.cellsLv:Try.prog.cellsOf 105=3:=by kernel_rfl
theorem Try.cellsLvs:Try.prog.cellsOf 37=1:=by kernel_rfl
theorem Try.cellsRc:Try.prog.cellsOf 126=15:=by kernel_rfl
theorem trod_live {fuel:Nat} {cs:List Value} {x:DataW H × List MemPlace} (h:DataW.trod enc Try.prog w base spare held fuel 105 cs=some x):∃ t:LiveV,cs=t.cells:=by
 obtain ⟨xs,n,_,_,hlen,hxl,hf⟩:=DataW.trod_struct Try.underlying105 h
 rw [Try.cellsLv] at hlen
 match cs,hlen with
 | [v0,v1,v2],_=>
  have f0:=hf 0 _ rfl
  have f1:=hf 1 _ rfl
  have f2:=hf 2 _ rfl
  obtain ⟨y0,hx0⟩:=some_at xs 0 (by rw [hxl];decide)
  obtain ⟨y1,hx1⟩:=some_at xs 1 (by rw [hxl];decide)
  obtain ⟨y2,hx2⟩:=some_at xs 2 (by rw [hxl];decide)
  rw [hx0] at f0
  rw [hx1] at f1
  rw [hx2] at f2
  simp only [List.getElem_toArray,List.getElem_cons_zero,List.getElem_cons_succ,Try.cellsB,Try.cellsI,List.drop,List.take] at f0 f1 f2
  obtain ⟨a,e0,_⟩:=trod_num f0
  obtain ⟨b,e1,_⟩:=trod_num f1
  obtain ⟨c,e2,_⟩:=DataW.trod_bool Try.underlying4 f2
  simp only [List.cons.injEq,and_true] at e0 e1 e2
  subst e0 e1 e2
  exact ⟨⟨a,b,c⟩,rfl⟩
theorem trod_lives {fuel:Nat} {cs:List Value} {x:DataW H × List MemPlace} (h:DataW.trod enc Try.prog w base spare held fuel 37 cs=some x):
  ∃ (a:Option Addr) (c:Nat) (ls:List LiveV),cs=[.slice a ls.length c]∧ReadsL w a ls∧ls.length≤maxLen:=by
 rcases DataW.trod_slice Try.underlying37 h with ⟨rfl,_⟩ | ⟨a,len,cap,elems,rest,n,_,rfl,_,_,hl,hm,hlen,hel,_,_⟩
 ·exact ⟨none,0,[],rfl,ReadsL.nil _ _,by simp⟩
 rw [Try.cellsLv] at hel
 have each:∀ i,i<len→∃ t:LiveV,w.cells? base (a.add (i*3)) 3=some t.cells:=by
  intro i hi
  have hy:=hel i hi
  rw [List.getElem?_eq_getElem (by omega:i<elems.length),Option.bind_eq_some_iff] at hy
  obtain ⟨cs',hcs,hy'⟩:=hy
  obtain ⟨t,e⟩:=trod_live hy'
  exact ⟨t,by rw [hcs,e]⟩
 obtain ⟨f,hf⟩:∃ f:Nat→LiveV,∀ i,i<len→w.cells? base (a.add (i*3)) 3=some (f i).cells:=by
  refine ⟨fun i=>if h:i<len then (each i h).choose else zeroL,fun i hi=>?_⟩
  simp only [dif_pos hi]
  exact (each i hi).choose_spec
 refine ⟨some a,cap,(List.range len).map f,by simp,?_,by simp;omega⟩
 intro hne
 have hpos:=List.length_pos_iff.2 hne
 simp only [List.length_map,List.length_range] at hpos ⊢
 obtain ⟨b,off,spot⟩:=a
 have c0:=(World.cells?_some (hf 0 hpos)).2.2 0 (by decide)
 have hspot:spot=none:=by simpa [Addr.add] using World.cell?_spot c0
 subst hspot
 refine ⟨b,off,rfl,fun k hk=>?_⟩
 have e:((List.range len).map f).getD k zeroL=f k:=by simp [List.getD,hk]
 rw [e]
 have hc:=(World.cells?_some (hf k hk)).2.2
 have d0:=hc 0 (by decide)
 have d1:=hc 1 (by decide)
 have d2:=hc 2 (by decide)
 simp only [Addr_add,LiveV.cells] at d0 d1 d2
 exact ⟨by simpa using d0,by simpa using d1,by simpa using d2⟩
theorem trod_rec {fuel:Nat} {cs:List Value} {x:DataW H × List MemPlace} (h:DataW.trod enc Try.prog w base spare held fuel 126 cs=some x):
  ∃ r:RecA,cs=r.cells∧InRec w r:=by
 obtain ⟨xs,n,_,_,hlen,hxl,hf⟩:=DataW.trod_struct Try.underlying126 h
 rw [Try.cellsRc] at hlen
 match cs,hlen with
 | [v0,v1,v2,v3,v4,v5,v6,v7,v8,v9,v10,v11,v12,v13,v14],_=>
  have f0:=hf 0 _ rfl
  have f1:=hf 1 _ rfl
  have f2:=hf 2 _ rfl
  have f3:=hf 3 _ rfl
  have f4:=hf 4 _ rfl
  have f5:=hf 5 _ rfl
  have f6:=hf 6 _ rfl
  have f7:=hf 7 _ rfl
  have f8:=hf 8 _ rfl
  obtain ⟨y0,hx0⟩:=some_at xs 0 (by rw [hxl];decide)
  rw [hx0] at f0
  obtain ⟨y1,hx1⟩:=some_at xs 1 (by rw [hxl];decide)
  rw [hx1] at f1
  obtain ⟨y2,hx2⟩:=some_at xs 2 (by rw [hxl];decide)
  rw [hx2] at f2
  obtain ⟨y3,hx3⟩:=some_at xs 3 (by rw [hxl];decide)
  rw [hx3] at f3
  obtain ⟨y4,hx4⟩:=some_at xs 4 (by rw [hxl];decide)
  rw [hx4] at f4
  obtain ⟨y5,hx5⟩:=some_at xs 5 (by rw [hxl];decide)
  rw [hx5] at f5
  obtain ⟨y6,hx6⟩:=some_at xs 6 (by rw [hxl];decide)
  rw [hx6] at f6
  obtain ⟨y7,hx7⟩:=some_at xs 7 (by rw [hxl];decide)
  rw [hx7] at f7
  obtain ⟨y8,hx8⟩:=some_at xs 8 (by rw [hxl];decide)
  rw [hx8] at f8
  simp only [List.getElem_toArray,List.getElem_cons_zero,List.getElem_cons_succ,Try.cellsI,Try.cellsSl,Try.cellsLvs,List.drop,List.take] at f0 f1 f2 f3 f4 f5 f6 f7 f8
  obtain ⟨n0,e0,w0⟩:=trod_num f0
  obtain ⟨n1,e1,w1⟩:=trod_num f1
  obtain ⟨n2,e2,w2⟩:=trod_num f2
  obtain ⟨n3,e3,w3⟩:=trod_num f3
  obtain ⟨n4,e4,w4⟩:=trod_num f4
  obtain ⟨n5,e5,w5⟩:=trod_num f7
  obtain ⟨s,e6,hs⟩:=trod_slot f5
  obtain ⟨u,e7,hu⟩:=trod_slot f6
  obtain ⟨aL,cL,ls,e8,hL,lL⟩:=trod_lives f8
  simp only [SlotA.cells,List.cons.injEq,and_true] at e0 e1 e2 e3 e4 e5 e6 e7 e8
  obtain ⟨g0,g1,g2,g3⟩:=e6
  obtain ⟨k0,k1,k2,k3⟩:=e7
  subst e0 e1 e2 e3 e4 e5 e8 g0 g1 g2 g3 k0 k1 k2 k3
  exact ⟨⟨n0,n1,n2,n3,n4,s,u,n5,ls,aL,cL⟩,rfl,hs,hu,hL,lL,w0,w1,w2,w3,w4,w5⟩
theorem open_rec {b0:Nat} {v:Value} {d:DataW H} {ps:List MemPlace} (hval:Value.okWide Try.prog w .any b0 126 v) (h:DataW.Trod enc Try.prog w base spare held 126 v d ps):
  ∃ r:RecA,v=.agg r.cells.toArray∧InRec w r:=by
 obtain ⟨cs,rfl,hcs⟩:=okWide_struct Try.underlying126 hval
 obtain ⟨fuel,hf⟩:=h
 have e:(Value.agg cs).cells.toList=cs.toList:=rfl
 rw [e] at hf
 obtain ⟨r,hc,rest⟩:=trod_rec hf
 refine ⟨r,?_,rest⟩
 congr 1
 apply Array.toList_inj.1
 rw [hc]
end
end Go.Proofs.Ytfehemepdoomdaa
namespace Go.Proofs.Ytfehemepdoomdaa
open Go.RowKit
def zeroR:RecA:=⟨0,0,0,0,0,zeroS,zeroS,0,[],none,0⟩
theorem short_of {r t:RecA} {m:Nat} (h:t.v=r.v) (hl:r.short m):t.short m:=by
 simp only [RecA.v,RecV.mk.injEq] at h
 obtain ⟨_,_,_,_,_,h1,h2,_,h3⟩:=h
 exact ⟨by rw [h1];exact hl.bf,by rw [h2];exact hl.af,by rw [h3];exact hl.txs⟩
theorem short_wide {r:RecA} (hl:r.short 1048576):r.short 1099511627776:=⟨by have:=hl.bf;omega,by have:=hl.af;omega,by have:=hl.txs;omega⟩
theorem InRec.short {w:World} {r:RecA} (h:InRec w r):r.short 9223372036854775807:=by
 have h1:=h.bf.lI
 have h2:=h.bf.lR
 have h3:=h.af.lI
 have h4:=h.af.lR
 have h5:=h.lT
 simp only [maxLen] at h1 h2 h3 h4 h5
 exact ⟨by omega,by omega,by omega⟩
theorem RecA.own.blocks_lt {w:World} {lo hi:Nat} {r:RecA} (h:r.own w lo hi):∀ k∈r.blocks,lo≤k∧k<hi:=by
 intro k hk
 simp only [RecA.blocks,List.mem_append,Option.mem_toList] at hk
 rcases hk with h1 | h1 | h1
 ·exact SlotA.blocks_lt h.bf k h1
 ·exact SlotA.blocks_lt h.af k h1
 ·exact h.txs.lt k h1
theorem toRec_law (r:RecA) (w:World) (hr:r.reads w) (hl:r.short 1048576):
  Calls Try.prog 67 #[.agg r.cells.toArray] w fun e w'=>∃ t:RecA,e=.returned (.agg t.cells.toArray)∧Hid (t.v=r.v)∧t.own w' w.heap.size w'.heap.size∧Below w.heap.size w w':=
 toRec_own r w hr (short_wide hl).bf (short_wide hl).af (short_wide hl).txs
def cellsRs (rs:List RecA):List Value:=rs.flatMap RecA.cells
theorem cellsR_len (r:RecA):r.cells.length=15:=rfl
theorem cellsRs_len (rs:List RecA):(cellsRs rs).length=rs.length*15:=by
 induction rs with
 | nil=>rfl
 | cons s r ih=>simp only [cellsRs,List.flatMap_cons,List.length_append,cellsR_len,List.length_cons] at *;omega
theorem cellsRs_app (a b:List RecA):cellsRs (a++b)=cellsRs a++cellsRs b:=by simp [cellsRs]
theorem cellsRs_cons (r:RecA) (b:List RecA):cellsRs (r::b)=r.cells++cellsRs b:=by simp [cellsRs]
theorem cellsRs_at (rs:List RecA) (k j:Nat) (hk:k<rs.length) (hj:j<15):(cellsRs rs)[k*15+j]? =(rs.getD k zeroR).cells[j]? :=by
 induction rs generalizing k with
 | nil=>simp at hk
 | cons s r ih=>
  rw [cellsRs_cons]
  cases k with
  | zero=>rw [List.getElem?_append_left (by rw [cellsR_len];omega)];simp
  | succ k=>
   rw [List.getElem?_append_right (by rw [cellsR_len];omega),cellsR_len]
   have:=ih k (by simpa using hk)
   rw [show (k+1)*15+j-15=k*15+j by omega,this]
   simp
theorem recD_mem (rs:List RecA) (k:Nat) (hk:k<rs.length):rs.getD k zeroR∈rs:=by
 have e:rs.getD k zeroR=rs[k]:=by simp [List.getD,hk]
 rw [e]
 exact List.getElem_mem hk
theorem rangeAt_below {w w':World} {b o n:Nat} {cs:List Value} (h:w.rangeAt b o cs) (hb:Below n w w') (hn:b<n):w'.rangeAt b o cs:=fun j v hv=>(hb.cell (p:=⟨b,o+j,none⟩) hn).trans (h j v hv)
theorem rangeR_lt {w:World} {b o:Nat} {r:RecA} (h:w.rangeAt b o r.cells):b<w.heap.size:=block_lt (h 0 _ rfl)
def ReadsRs (w:World) (a:Option Addr) (rs:List RecA):Prop:=rs≠[]→∃ b off,a=some ⟨b,off,none⟩∧∀ k,k<rs.length→w.rangeAt b (off+k*15) (rs.getD k zeroR).cells∧(rs.getD k zeroR).reads w
theorem ReadsRs.nil (w:World) (a:Option Addr):ReadsRs w a []:=fun h=>absurd rfl h
theorem ReadsRs.below {w w':World} {a:Option Addr} {rs:List RecA} (h:ReadsRs w a rs) (hb:Below w.heap.size w w'):ReadsRs w' a rs:=by
 intro hne
 obtain ⟨b,off,ha,hc⟩:=h hne
 refine ⟨b,off,ha,fun k hk=>?_⟩
 obtain ⟨h0,h1⟩:=hc k hk
 exact ⟨rangeAt_below h0 hb (rangeR_lt h0),h1.below hb⟩
theorem ReadsRs.cases {w:World} {a:Option Addr} {rs:List RecA} (h:ReadsRs w a rs):rs=[]∨∃ b off,a=some ⟨b,off,none⟩∧0<rs.length∧∀ k,k<rs.length→w.rangeAt b (off+k*15) (rs.getD k zeroR).cells∧(rs.getD k zeroR).reads w:=by
 by_cases e:rs=[]
 ·exact .inl e
 ·obtain ⟨b,off,ha,hc⟩:=h e
  exact .inr ⟨b,off,ha,List.length_pos_iff.2 e,hc⟩
structure OwnRs (w:World) (lo hi:Nat) (a:Option Addr) (c:Nat) (rs:List RecA):Prop where
 row:w.ownsRow lo 130 15 (.slice a rs.length c) rs.length (cellsRs rs)
 top:hi≤w.heap.size
 blk:∀ k,(Value.slice a rs.length c).ownBlock=some k→k<hi
 each:∀ r∈rs,r.own w lo hi
 apart:((Value.slice a rs.length c).ownBlock.toList++rs.flatMap RecA.blocks).Nodup
def blocksRs (a:Option Addr) (c:Nat) (rs:List RecA):List Nat:=(Value.slice a rs.length c).ownBlock.toList++rs.flatMap RecA.blocks
theorem OwnRs.blocks_lt {w:World} {lo hi:Nat} {a:Option Addr} {c:Nat} {rs:List RecA} (h:OwnRs w lo hi a c rs):∀ k∈blocksRs a c rs,lo≤k∧k<hi:=by
 intro k hk
 simp only [blocksRs,List.mem_append,List.mem_flatMap,Option.mem_toList] at hk
 rcases hk with h1 | ⟨r,hr,h1⟩
 ·exact ⟨(h.row.lt k h1).1,h.blk k h1⟩
 ·exact (h.each r hr).blocks_lt k h1
theorem RecA.own.touch {w w':World} {lo hi:Nat} {r:RecA} {bl:List Nat} (h:r.own w lo hi) (ht:Touch bl w w') (hd:∀ k∈r.blocks,k∉bl):r.own w' lo hi:=
 ⟨SlotA.touch h.bf ht (fun k hk=>hd k (List.mem_append.2 (.inl hk))),SlotA.touch h.af ht (fun k hk=>hd k (List.mem_append.2 (.inr (List.mem_append.2 (.inl hk))))),h.txs.touch ht (fun k hk=>hd k (List.mem_append.2 (.inr (List.mem_append.2 (.inr (Option.mem_toList.2 hk)))))),h.apart⟩
theorem OwnRs.touch {w w':World} {lo hi:Nat} {a:Option Addr} {c:Nat} {rs:List RecA} {bl:List Nat} (h:OwnRs w lo hi a c rs) (ht:Touch bl w w') (hd:∀ k∈blocksRs a c rs,k∉bl):OwnRs w' lo hi a c rs:=
 ⟨ownsRow_block h.row (fun k hk=>ht.block k (h.row.lt k hk).2 (hd k (List.mem_append.2 (.inl (Option.mem_toList.2 hk))))),Nat.le_trans h.top ht.size,h.blk,fun r hr=>(h.each r hr).touch ht (fun k hk=>hd k (List.mem_append.2 (.inr (List.mem_flatMap.2 ⟨r,hr,hk⟩)))),h.apart⟩
theorem OwnRs.within {w w':World} {lo hi l r:Nat} {a:Option Addr} {c:Nat} {rs:List RecA} (h:OwnRs w lo hi a c rs) (hw:Within l r w w') (hd:hi≤l∨r≤lo):OwnRs w' lo hi a c rs:=
 ⟨ownsRow_block h.row (fun k hk=>hw.block k (by have:=h.blk k hk;have:=h.top;omega) (by have:=h.blk k hk;have:=(h.row.lt k hk).1;omega)),Nat.le_trans h.top hw.size,h.blk,fun x hx=>(h.each x hx).within hw hd,h.apart⟩
theorem OwnRs.below {w w':World} {lo hi:Nat} {a:Option Addr} {c:Nat} {rs:List RecA} (h:OwnRs w lo hi a c rs) (hb:Below w.heap.size w w'):OwnRs w' lo hi a c rs:=
 h.within (Within.of_below (lo:=w.heap.size) (hi:=w.heap.size) hb) (.inl h.top)
theorem OwnRs.widen {w:World} {lo hi lo' hi':Nat} {a:Option Addr} {c:Nat} {rs:List RecA} (h:OwnRs w lo hi a c rs) (h1:lo'≤lo) (h2:hi≤hi') (h3:hi'≤w.heap.size):OwnRs w lo' hi' a c rs:=
 ⟨ownsRow_base h.row (fun k hk=>by have:=(h.row.lt k hk).1;omega),h3,fun k hk=>by have:=h.blk k hk;omega,fun x hx=>(h.each x hx).widen h1 h2 h3,h.apart⟩
theorem row_rec {w:World} {base g n cap:Nat} {rs:List RecA} (h:w.ownsRow base 130 15 (.slice (some ⟨g,0,none⟩) n cap) n (cellsRs rs)) (hn:rs.length=n) (k:Nat) (hk:k<n):
  w.rangeAt g (k*15) (rs.getD k zeroR).cells∧w.there g (k*15) 15:=by
 refine ⟨fun j v hv=>?_,fun j hj=>?_⟩
 ·have hj:j<15:=by have:=(List.getElem?_eq_some_iff.1 hv).1;rwa [cellsR_len] at this
  rw [h.cellAt (k*15+j) (by omega),cellsRs_at rs k j (by omega) hj,hv]
 ·refine ⟨?_,h.frozenAt _⟩
  rw [h.cellAt (k*15+j) (by omega),cellsRs_at rs k j (by omega) hj,List.getElem?_eq_getElem (by rw [cellsR_len];omega)]
  rfl
theorem OwnRs.reads {w:World} {lo hi:Nat} {a:Option Addr} {c:Nat} {rs:List RecA} (h:OwnRs w lo hi a c rs):ReadsRs w a rs:=by
 intro hne
 rcases h.row.2 with ⟨_,h0⟩ | ⟨g,cap',cur,hv,hb,hg,hr⟩
 ·exact absurd (List.length_eq_zero_iff.1 h0) hne
 ·simp only [Value.slice.injEq] at hv
  obtain ⟨rfl,_,rfl⟩:=hv
  refine ⟨g,0,rfl,fun k hk=>?_⟩
  rw [Nat.zero_add]
  exact ⟨(row_rec h.row rfl k hk).1,(h.each _ (recD_mem rs k hk)).reads⟩
theorem row_setCells {base g n cap sz:Nat} {e:TypeId} (cs:List Value):∀ (pre old post:List Value) (w:World),w.ownsRow base e sz (.slice (some ⟨g,0,none⟩) n cap) n (pre++(old++post))→old.length=cs.length→
  (w.setCells g pre.length cs).ownsRow base e sz (.slice (some ⟨g,0,none⟩) n cap) n (pre++(cs++post))∧w.grownBy (w.setCells g pre.length cs) (some g):=by
 induction cs with
 | nil=>intro pre old post w h hl;obtain rfl:=List.length_eq_zero_iff.1 hl;exact ⟨h,World.grownBy.refl _ _⟩
 | cons c cr ih=>
  intro pre old post w h hl
  obtain ⟨x,r,rfl⟩:∃ x r,old=x::r:=by
   cases old with
   | nil=>simp at hl
   | cons x r=>exact ⟨x,r,rfl⟩
  have hs:=h.stored pre.length c
  rw [List.set_append_right _ _ (Nat.le_refl _),Nat.sub_self] at hs
  simp only [List.cons_append,List.set_cons_zero] at hs
  have:=ih (pre++[c]) r post (w.setCell ⟨g,pre.length,none⟩ c) (by simpa using hs.1) (by simpa using hl)
  simp only [List.length_append,List.length_singleton] at this
  rw [World.setCells]
  exact ⟨by simpa using this.1,grownBy_trans hs.2 this.2⟩
theorem setCells_heap (B:Nat):∀ (vs:List Value) (o:Nat) (w:World),(w.setCells B o vs).heap.size=w.heap.size:=by
 intro vs
 induction vs with
 | nil=>intro o w;rfl
 | cons v r ih=>intro o w;rw [World.setCells,ih];simp
theorem OwnRs.fill {w:World} {lo hi g c:Nat} {A B:List RecA} {z:RecA} (h:OwnRs w lo hi (some ⟨g,0,none⟩) c (A++z::B)) (q:RecA) {l u:Nat} (hq:q.own w l u) (hl:hi≤l) (hlo:lo≤hi) (hu:u≤w.heap.size):
  ∃ W,Hid (w.setCells g (A.length*15) q.cells=W)∧OwnRs W lo (max hi u) (some ⟨g,0,none⟩) c (A++q::B)∧Touch [g] w W∧W.heap.size=w.heap.size:=by
 have hrow:=h.row
 rw [cellsRs_app,cellsRs_cons,List.length_append,List.length_cons] at hrow
 have hg:lo≤g∧g<hi:=⟨(hrow.lt g rfl).1,h.blk g rfl⟩
 obtain ⟨h1,h2⟩:=row_setCells q.cells (cellsRs A) z.cells (cellsRs B) w hrow rfl
 rw [cellsRs_len] at h1 h2
 have ht:Touch [g] w (w.setCells g (A.length*15) q.cells):=Touch.of_grown h2 (fun k hk=>by cases hk;simp)
 have hap:=h.apart
 simp only [List.flatMap_append,List.flatMap_cons,Value.ownBlock,Option.toList,List.singleton_append,List.nodup_cons,List.nodup_append,List.mem_append,not_or] at hap
 obtain ⟨⟨n1,n2,n3⟩,a1,⟨a2,a3,a4⟩,a5⟩:=hap
 have hqb:=hq.blocks_lt
 have hA:∀ x∈A.flatMap RecA.blocks,lo≤x∧x<hi:=fun x hx=>by
  obtain ⟨r,hr,hx⟩:=List.mem_flatMap.1 hx
  exact (h.each r (by simp [hr])).blocks_lt x hx
 have hB:∀ x∈B.flatMap RecA.blocks,lo≤x∧x<hi:=fun x hx=>by
  obtain ⟨r,hr,hx⟩:=List.mem_flatMap.1 hx
  exact (h.each r (by simp [hr])).blocks_lt x hx
 have hsz:=setCells_heap g q.cells (A.length*15) w
 refine ⟨_,rfl,⟨?_,?_,fun k hk=>?_,fun r hr=>?_,?_⟩,ht,hsz⟩
 ·rw [cellsRs_app,cellsRs_cons,List.length_append,List.length_cons]
  exact h1
 ·rw [hsz]
  have:=h.top
  omega
 ·cases hk
  show g<max hi u
  omega
 ·rcases List.mem_append.1 hr with hr | hr
  ·exact ((h.each r (by simp [hr])).touch ht (fun k hk hk'=>n1 (by rw [← List.mem_singleton.1 hk'];exact List.mem_flatMap.2 ⟨r,hr,hk⟩))).widen (Nat.le_refl _) (by omega) (by rw [hsz];have:=h.top;omega)
  ·rcases List.mem_cons.1 hr with rfl | hr
   ·exact (hq.touch ht (fun k hk hk'=>by have:=hqb k hk;have:=List.mem_singleton.1 hk';omega)).widen (by omega) (by omega) (by rw [hsz];have:=h.top;omega)
   ·exact ((h.each r (by simp [hr])).touch ht (fun k hk hk'=>n3 (by rw [← List.mem_singleton.1 hk'];exact List.mem_flatMap.2 ⟨r,hr,hk⟩))).widen (Nat.le_refl _) (by omega) (by rw [hsz];have:=h.top;omega)
 ·simp only [List.flatMap_append,List.flatMap_cons,Value.ownBlock,Option.toList,List.singleton_append,List.nodup_cons,List.nodup_append,List.mem_append,not_or]
  refine ⟨⟨n1,fun hk=>by have:=hqb g hk;omega,n3⟩,a1,⟨hq.apart,a3,fun x hx y hy e=>by have:=hqb x hx;have:=hB y hy;omega⟩,fun x hx y hy e=>?_⟩
  rcases hy with hy | hy
  ·have:=hqb y hy;have:=hA x hx;omega
  ·exact a5 x hx y (.inr hy) e
structure SeatA where
 no:Int
 lsn:Int
 s0:SlotA
 s1:SlotA
 s2:SlotA
 s3:SlotA
 dirty:Bool
 hot:Bool
def SeatA.ss (s:SeatA):List SlotA:=[s.s0,s.s1,s.s2,s.s3]
def SeatA.page (s:SeatA):PageA:=⟨s.lsn,s.ss⟩
structure SeatV where
 no:Int
 lsn:Int
 ss:List SlotV
 dirty:Bool
 hot:Bool
def SeatA.v (s:SeatA):SeatV:=⟨s.no,s.lsn,s.ss.map (·.v),s.dirty,s.hot⟩
def SeatA.cells (s:SeatA):List Value:=.int .i64 s.no::.int .i64 s.lsn::(s.s0.cells++(s.s1.cells++(s.s2.cells++(s.s3.cells++[.bool s.dirty,.bool s.hot]))))
theorem SeatA.cells_page (s:SeatA):s.cells=.int .i64 s.no::(s.page.cells++[.bool s.dirty,.bool s.hot]):=by
 simp [SeatA.cells,SeatA.page,SeatA.ss,PageA.cells,cellsS]
def zeroSt:SeatA:=⟨0,0,zeroS,zeroS,zeroS,zeroS,false,false⟩
def SeatA.reads (w:World) (s:SeatA):Prop:=ReadsS w s.ss
theorem SeatA.reads.below {w w':World} {s:SeatA} (h:s.reads w) (hb:Below w.heap.size w w'):s.reads w':=ReadsS.below h hb
def SeatA.blocks (s:SeatA):List Nat:=s.ss.flatMap SlotA.blocks
def SeatA.own (w:World) (lo hi:Nat) (s:SeatA):Prop:=OwnS w lo hi s.ss
theorem SeatA.own.apart {w:World} {lo hi:Nat} {s:SeatA} (h:s.own w lo hi):s.blocks.Nodup:=OwnS.apart h
theorem SeatA.own.reads {w:World} {lo hi:Nat} {s:SeatA} (h:s.own w lo hi):s.reads w:=OwnS.reads h
theorem SeatA.own.within {w w':World} {lo hi l u:Nat} {s:SeatA} (h:s.own w lo hi) (hw:Within l u w w') (hd:hi≤l∨u≤lo):s.own w' lo hi:=OwnS.within h hw hd
theorem SeatA.own.widen {w:World} {lo hi lo' hi':Nat} {s:SeatA} (h:s.own w lo hi) (h1:lo'≤lo) (h2:hi≤hi') (h3:hi'≤w.heap.size):s.own w lo' hi':=OwnS.widen h h1 h2 h3
theorem SeatA.own.blocks_lt {w:World} {lo hi:Nat} {s:SeatA} (h:s.own w lo hi):∀ k∈s.blocks,lo≤k∧k<hi:=OwnS.blocks_lt h
theorem oneSt (s:SeatA):∀ v∈s.cells,v.oneCell'=true:=by
 intro v hv
 rw [SeatA.cells_page] at hv
 rcases List.mem_cons.1 hv with rfl | h
 ·rfl
 ·rcases List.mem_append.1 h with h | h
  ·exact oneP _ v h
  ·simp only [List.mem_cons,List.not_mem_nil,or_false] at h
   rcases h with rfl | rfl<;>rfl
def cellsSts (rs:List SeatA):List Value:=rs.flatMap SeatA.cells
theorem cellsSt_len (r:SeatA):r.cells.length=20:=rfl
theorem cellsSts_len (rs:List SeatA):(cellsSts rs).length=rs.length*20:=by
 induction rs with
 | nil=>rfl
 | cons s r ih=>simp only [cellsSts,List.flatMap_cons,List.length_append,cellsSt_len,List.length_cons] at *;omega
theorem cellsSts_app (a b:List SeatA):cellsSts (a++b)=cellsSts a++cellsSts b:=by simp [cellsSts]
theorem cellsSts_cons (r:SeatA) (b:List SeatA):cellsSts (r::b)=r.cells++cellsSts b:=by simp [cellsSts]
theorem cellsSts_at (rs:List SeatA) (k j:Nat) (hk:k<rs.length) (hj:j<20):(cellsSts rs)[k*20+j]? =(rs.getD k zeroSt).cells[j]? :=by
 induction rs generalizing k with
 | nil=>simp at hk
 | cons s r ih=>
  rw [cellsSts_cons]
  cases k with
  | zero=>rw [List.getElem?_append_left (by rw [cellsSt_len];omega)];simp
  | succ k=>
   rw [List.getElem?_append_right (by rw [cellsSt_len];omega),cellsSt_len]
   have:=ih k (by simpa using hk)
   rw [show (k+1)*20+j-20=k*20+j by omega,this]
   simp
theorem seatD_mem (rs:List SeatA) (k:Nat) (hk:k<rs.length):rs.getD k zeroSt∈rs:=by
 have e:rs.getD k zeroSt=rs[k]:=by simp [List.getD,hk]
 rw [e]
 exact List.getElem_mem hk
theorem rangeSt_lt {w:World} {b o:Nat} {r:SeatA} (h:w.rangeAt b o r.cells):b<w.heap.size:=block_lt (h 0 _ rfl)
def ReadsSts (w:World) (a:Option Addr) (rs:List SeatA):Prop:=rs≠[]→∃ b off,a=some ⟨b,off,none⟩∧∀ k,k<rs.length→w.rangeAt b (off+k*20) (rs.getD k zeroSt).cells∧(rs.getD k zeroSt).reads w
theorem ReadsSts.nil (w:World) (a:Option Addr):ReadsSts w a []:=fun h=>absurd rfl h
theorem ReadsSts.below {w w':World} {a:Option Addr} {rs:List SeatA} (h:ReadsSts w a rs) (hb:Below w.heap.size w w'):ReadsSts w' a rs:=by
 intro hne
 obtain ⟨b,off,ha,hc⟩:=h hne
 refine ⟨b,off,ha,fun k hk=>?_⟩
 obtain ⟨h0,h1⟩:=hc k hk
 exact ⟨rangeAt_below h0 hb (rangeSt_lt h0),h1.below hb⟩
theorem ReadsSts.cases {w:World} {a:Option Addr} {rs:List SeatA} (h:ReadsSts w a rs):rs=[]∨∃ b off,a=some ⟨b,off,none⟩∧0<rs.length∧∀ k,k<rs.length→w.rangeAt b (off+k*20) (rs.getD k zeroSt).cells∧(rs.getD k zeroSt).reads w:=by
 by_cases e:rs=[]
 ·exact .inl e
 ·obtain ⟨b,off,ha,hc⟩:=h e
  exact .inr ⟨b,off,ha,List.length_pos_iff.2 e,hc⟩
structure OwnSts (w:World) (lo hi:Nat) (a:Option Addr) (c:Nat) (rs:List SeatA):Prop where
 row:w.ownsRow lo 98 20 (.slice a rs.length c) rs.length (cellsSts rs)
 top:hi≤w.heap.size
 blk:∀ k,(Value.slice a rs.length c).ownBlock=some k→k<hi
 each:∀ r∈rs,r.own w lo hi
 apart:((Value.slice a rs.length c).ownBlock.toList++rs.flatMap SeatA.blocks).Nodup
def blocksSts (a:Option Addr) (c:Nat) (rs:List SeatA):List Nat:=(Value.slice a rs.length c).ownBlock.toList++rs.flatMap SeatA.blocks
theorem OwnSts.blocks_lt {w:World} {lo hi:Nat} {a:Option Addr} {c:Nat} {rs:List SeatA} (h:OwnSts w lo hi a c rs):∀ k∈blocksSts a c rs,lo≤k∧k<hi:=by
 intro k hk
 simp only [blocksSts,List.mem_append,List.mem_flatMap,Option.mem_toList] at hk
 rcases hk with h1 | ⟨r,hr,h1⟩
 ·exact ⟨(h.row.lt k h1).1,h.blk k h1⟩
 ·exact (h.each r hr).blocks_lt k h1
theorem SeatA.own.touch {w w':World} {lo hi:Nat} {s:SeatA} {bl:List Nat} (h:s.own w lo hi) (ht:Touch bl w w') (hd:∀ k∈s.blocks,k∉bl):s.own w' lo hi:=
 ⟨fun x hx=>SlotA.touch (h.each x hx) ht (fun k hk=>hd k (List.mem_flatMap.2 ⟨x,hx,hk⟩)),OwnS.apart h⟩
theorem OwnSts.touch {w w':World} {lo hi:Nat} {a:Option Addr} {c:Nat} {rs:List SeatA} {bl:List Nat} (h:OwnSts w lo hi a c rs) (ht:Touch bl w w') (hd:∀ k∈blocksSts a c rs,k∉bl):OwnSts w' lo hi a c rs:=
 ⟨ownsRow_block h.row (fun k hk=>ht.block k (h.row.lt k hk).2 (hd k (List.mem_append.2 (.inl (Option.mem_toList.2 hk))))),Nat.le_trans h.top ht.size,h.blk,fun r hr=>(h.each r hr).touch ht (fun k hk=>hd k (List.mem_append.2 (.inr (List.mem_flatMap.2 ⟨r,hr,hk⟩)))),h.apart⟩
theorem OwnSts.within {w w':World} {lo hi l r:Nat} {a:Option Addr} {c:Nat} {rs:List SeatA} (h:OwnSts w lo hi a c rs) (hw:Within l r w w') (hd:hi≤l∨r≤lo):OwnSts w' lo hi a c rs:=
 ⟨ownsRow_block h.row (fun k hk=>hw.block k (by have:=h.blk k hk;have:=h.top;omega) (by have:=h.blk k hk;have:=(h.row.lt k hk).1;omega)),Nat.le_trans h.top hw.size,h.blk,fun x hx=>(h.each x hx).within hw hd,h.apart⟩
theorem OwnSts.below {w w':World} {lo hi:Nat} {a:Option Addr} {c:Nat} {rs:List SeatA} (h:OwnSts w lo hi a c rs) (hb:Below w.heap.size w w'):OwnSts w' lo hi a c rs:=
 h.within (Within.of_below (lo:=w.heap.size) (hi:=w.heap.size) hb) (.inl h.top)
theorem OwnSts.widen {w:World} {lo hi lo' hi':Nat} {a:Option Addr} {c:Nat} {rs:List SeatA} (h:OwnSts w lo hi a c rs) (h1:lo'≤lo) (h2:hi≤hi') (h3:hi'≤w.heap.size):OwnSts w lo' hi' a c rs:=
 ⟨ownsRow_base h.row (fun k hk=>by have:=(h.row.lt k hk).1;omega),h3,fun k hk=>by have:=h.blk k hk;omega,fun x hx=>(h.each x hx).widen h1 h2 h3,h.apart⟩
theorem row_seat {w:World} {base g n cap:Nat} {rs:List SeatA} (h:w.ownsRow base 98 20 (.slice (some ⟨g,0,none⟩) n cap) n (cellsSts rs)) (hn:rs.length=n) (k:Nat) (hk:k<n):
  w.rangeAt g (k*20) (rs.getD k zeroSt).cells∧w.there g (k*20) 20:=by
 refine ⟨fun j v hv=>?_,fun j hj=>?_⟩
 ·have hj:j<20:=by have:=(List.getElem?_eq_some_iff.1 hv).1;rwa [cellsSt_len] at this
  rw [h.cellAt (k*20+j) (by omega),cellsSts_at rs k j (by omega) hj,hv]
 ·refine ⟨?_,h.frozenAt _⟩
  rw [h.cellAt (k*20+j) (by omega),cellsSts_at rs k j (by omega) hj,List.getElem?_eq_getElem (by rw [cellsSt_len];omega)]
  rfl
theorem OwnSts.reads {w:World} {lo hi:Nat} {a:Option Addr} {c:Nat} {rs:List SeatA} (h:OwnSts w lo hi a c rs):ReadsSts w a rs:=by
 intro hne
 rcases h.row.2 with ⟨_,h0⟩ | ⟨g,cap',cur,hv,hb,hg,hr⟩
 ·exact absurd (List.length_eq_zero_iff.1 h0) hne
 ·simp only [Value.slice.injEq] at hv
  obtain ⟨rfl,_,rfl⟩:=hv
  refine ⟨g,0,rfl,fun k hk=>?_⟩
  rw [Nat.zero_add]
  exact ⟨(row_seat h.row rfl k hk).1,(h.each _ (seatD_mem rs k hk)).reads⟩
theorem OwnSts.fill {w:World} {lo hi g c:Nat} {A B:List SeatA} {z:SeatA} (h:OwnSts w lo hi (some ⟨g,0,none⟩) c (A++z::B)) (q:SeatA) {l u:Nat} (hq:q.own w l u) (hl:hi≤l) (hlo:lo≤hi) (hu:u≤w.heap.size):
  ∃ W,Hid (w.setCells g (A.length*20) q.cells=W)∧OwnSts W lo (max hi u) (some ⟨g,0,none⟩) c (A++q::B)∧Touch [g] w W∧W.heap.size=w.heap.size:=by
 have hrow:=h.row
 rw [cellsSts_app,cellsSts_cons,List.length_append,List.length_cons] at hrow
 have hg:lo≤g∧g<hi:=⟨(hrow.lt g rfl).1,h.blk g rfl⟩
 obtain ⟨h1,h2⟩:=row_setCells q.cells (cellsSts A) z.cells (cellsSts B) w hrow rfl
 rw [cellsSts_len] at h1 h2
 have ht:Touch [g] w (w.setCells g (A.length*20) q.cells):=Touch.of_grown h2 (fun k hk=>by cases hk;simp)
 have hap:=h.apart
 simp only [List.flatMap_append,List.flatMap_cons,Value.ownBlock,Option.toList,List.singleton_append,List.nodup_cons,List.nodup_append,List.mem_append,not_or] at hap
 obtain ⟨⟨n1,n2,n3⟩,a1,⟨a2,a3,a4⟩,a5⟩:=hap
 have hqb:=hq.blocks_lt
 have hA:∀ x∈A.flatMap SeatA.blocks,lo≤x∧x<hi:=fun x hx=>by
  obtain ⟨r,hr,hx⟩:=List.mem_flatMap.1 hx
  exact (h.each r (by simp [hr])).blocks_lt x hx
 have hB:∀ x∈B.flatMap SeatA.blocks,lo≤x∧x<hi:=fun x hx=>by
  obtain ⟨r,hr,hx⟩:=List.mem_flatMap.1 hx
  exact (h.each r (by simp [hr])).blocks_lt x hx
 have hsz:=setCells_heap g q.cells (A.length*20) w
 refine ⟨_,rfl,⟨?_,?_,fun k hk=>?_,fun r hr=>?_,?_⟩,ht,hsz⟩
 ·rw [cellsSts_app,cellsSts_cons,List.length_append,List.length_cons]
  exact h1
 ·rw [hsz]
  have:=h.top
  omega
 ·cases hk
  show g<max hi u
  omega
 ·rcases List.mem_append.1 hr with hr | hr
  ·exact ((h.each r (by simp [hr])).touch ht (fun k hk hk'=>n1 (by rw [← List.mem_singleton.1 hk'];exact List.mem_flatMap.2 ⟨r,hr,hk⟩))).widen (Nat.le_refl _) (by omega) (by rw [hsz];have:=h.top;omega)
  ·rcases List.mem_cons.1 hr with rfl | hr
   ·exact (hq.touch ht (fun k hk hk'=>by have:=hqb k hk;have:=List.mem_singleton.1 hk';omega)).widen (by omega) (by omega) (by rw [hsz];have:=h.top;omega)
   ·exact ((h.each r (by simp [hr])).touch ht (fun k hk hk'=>n3 (by rw [← List.mem_singleton.1 hk'];exact List.mem_flatMap.2 ⟨r,hr,hk⟩))).widen (Nat.le_refl _) (by omega) (by rw [hsz];have:=h.top;omega)
 ·simp only [List.flatMap_append,List.flatMap_cons,Value.ownBlock,Option.toList,List.singleton_append,List.nodup_cons,List.nodup_append,List.mem_append,not_or]
  refine ⟨⟨n1,fun hk=>by have:=hqb g hk;omega,n3⟩,a1,⟨hq.apart,a3,fun x hx y hy e=>by have:=hqb x hx;have:=hB y hy;omega⟩,fun x hx y hy e=>?_⟩
  rcases hy with hy | hy
  ·have:=hqb y hy;have:=hA x hx;omega
  ·exact a5 x hx y (.inr hy) e
end Go.Proofs.Ytfehemepdoomdaa
namespace Go.Proofs.Ytfehemepdoomdaa
open Go.RowKit Go.Extern.Stop Go.Stop Go.Extern
end Go.Proofs.Ytfehemepdoomdaa
namespace Go.Proofs.Ytfehemepdoomdaa
open Go.RowKit
theorem cells_take (ss:List SlotA) (k:Nat) (hk:k<ss.length):((cellsS ss).drop (k*4)).take 4=(ss.getD k zeroS).cells:=by
 apply List.ext_getElem?
 intro j
 rw [List.getElem?_take]
 by_cases hj:j<4
 ·rw [if_pos (by omega),List.getElem?_drop]
  exact cellsS_at ss k j hk hj
 ·rw [if_neg (by omega),List.getElem?_eq_none (by rw [cells_len];omega)]
theorem run_index_slot (ss:List SlotA) (h4:ss.length=4) (k:Nat) (hk:k<4) (w:World):
  (Instr.index 47 (.agg (cellsS ss).toArray) (.int .i64 (k:Int))).run Try.prog w=.ok (.agg (ss.getD k zeroS).cells.toArray) w:=by
 have he:=cells_take ss k (by omega)
 have hz:(sizeOf 46).run Try.prog w=.ok 4 w:=by kernel_rfl
 simp [Instr.index,asIntOf,Go.part,run_underlying Try.underlying47,hz]
 rw [if_pos hk,he]
 simp [List.getD]
theorem zero_own (w:World) (lo hi:Nat) (h:hi≤w.heap.size):zeroS.own w lo hi:=⟨ownI_nil _ _ _ h,ownI_nil _ _ _ h,fun k hk=>by cases hk⟩
theorem own_zeroR (w:World) (lo hi:Nat) (h:hi≤w.heap.size):zeroR.own w lo hi:=⟨zero_own w lo hi h,zero_own w lo hi h,ownL_nil w lo hi h,by decide⟩
theorem rec_one (q:RecA):q.cells.toArray.all (·.oneCell')=true:=all_oneCell_toArray (oneR q)
theorem Try.infoRec:(Try.prog.info? 130).map (fun i=>(i.zero,i.size,i.bytes))=some (some (.agg zeroR.cells.toArray),15,200):=by kernel_rfl
theorem ownsRow_at {w:World} {base:Nat} {e:TypeId} {size n:Nat} {v:Value} {xs:List Value} (h:w.ownsRow base e size v n xs) {k:Nat} (hk:v.ownBlock=some k):∃ cur,w.heap[k]? =some (.cells cur e (0,0)):=by
 rcases h.2 with ⟨rfl,_⟩ | ⟨g,cap,cur,rfl,_,hg,_⟩
 ·cases hk
 ·cases hk
  exact ⟨cur,hg⟩
theorem row_apart {w:World} {base lo hi n:Nat} {v:Value} {xs:List Value} {r:RecA} (h:w.ownsRow base 130 15 v n xs) (hr:r.own w lo hi):∀ k,v.ownBlock=some k→k∉r.blocks:=by
 intro k hk hm
 obtain ⟨cur,hc⟩:=ownsRow_at h hk
 simp only [RecA.blocks,SlotA.blocks,List.mem_append,Option.mem_toList] at hm
 have no:∀ {b2 s2 n2:Nat} {e2:TypeId} {v2:Value} {x2:List Value},w.ownsRow b2 e2 s2 v2 n2 x2→v2.ownBlock=some k→e2=130:=by
  intro b2 s2 n2 e2 v2 x2 h2 hk2
  obtain ⟨cur2,hc2⟩:=ownsRow_at h2 hk2
  rw [hc] at hc2
  simp only [Option.some.injEq,Obj.cells.injEq] at hc2
  exact hc2.2.1.symm
 rcases hm with (h1 | h1) | (h1 | h1) | h1
 ·have:=no hr.bf.ints.1 h1;cases this
 ·have:=no hr.bf.refs.1 h1;cases this
 ·have:=no hr.af.ints.1 h1;cases this
 ·have:=no hr.af.refs.1 h1;cases this
 ·have:=no hr.txs.1 h1;cases this
theorem Try.infoSeat:(Try.prog.info? 98).map (fun i=>(i.zero,i.size,i.bytes))=some (some (.agg zeroSt.cells.toArray),20,280):=by kernel_rfl
structure LogV where
 recs:List RecV
 sure:Int
structure LogA where
 recs:List RecA
 sure:Int
 a:Option Addr
 c:Nat
def LogA.v (l:LogA):LogV:=⟨l.recs.map RecA.v,l.sure⟩
def LogA.cells (l:LogA):List Value:=[.slice l.a l.recs.length l.c,.int .i64 l.sure]
def LogA.reads (w:World) (l:LogA):Prop:=ReadsRs w l.a l.recs
def LogA.own (w:World) (lo hi:Nat) (l:LogA):Prop:=OwnRs w lo hi l.a l.c l.recs
structure LogA.short (l:LogA) (m:Nat):Prop where
 len:l.recs.length≤m
 each:∀ r∈l.recs,r.short m
theorem LogA.short.at {l:LogA} {m:Nat} (h:l.short m) (k:Nat) (hk:k<l.recs.length):(l.recs.getD k zeroR).short m:=h.each _ (recD_mem _ k hk)
theorem mapV_len {rs ts:List RecA} (h:ts.map RecA.v=rs.map RecA.v):ts.length=rs.length:=by simpa using congrArg List.length h
theorem mapV_at {rs ts:List RecA} (h:ts.map RecA.v=rs.map RecA.v) (k:Nat) (hk:k<rs.length):(ts.getD k zeroR).v=(rs.getD k zeroR).v:=by
 have hk':k<ts.length:=by rw [mapV_len h];exact hk
 have:=congrArg (fun x=>x[k]?) h
 simpa [List.getD,hk,hk'] using this
theorem mapV_all {rs ts:List RecA} (h:ts.map RecA.v=rs.map RecA.v) (P:RecA→Prop) (hP:∀ a b:RecA,a.v=b.v→P b→P a) (hall:∀ r∈rs,P r):∀ r∈ts,P r:=by
 intro r hr
 obtain ⟨k,hk,rfl⟩:=List.getElem_of_mem hr
 have hk':k<rs.length:=by rw [← mapV_len h];exact hk
 have e:=mapV_at h k hk'
 refine hP _ (rs.getD k zeroR) ?_ (hall _ (recD_mem rs k hk'))
 rw [← e]
 simp [List.getD,hk]
theorem LogA.short_of {l t:LogA} {m:Nat} (h:t.v=l.v) (hl:l.short m):t.short m:=by
 simp only [LogA.v,LogV.mk.injEq] at h
 exact ⟨by rw [mapV_len h.1];exact hl.len,mapV_all h.1 (fun r=>r.short m) (fun a b e hb=>Go.Proofs.Ytfehemepdoomdaa.short_of e hb) hl.each⟩
theorem LogA.short_wide {l:LogA} (hl:l.short 1048576):l.short 1099511627776:=⟨by have:=hl.len;omega,fun r hr=>Go.Proofs.Ytfehemepdoomdaa.short_wide (hl.each r hr)⟩
structure EngV where
 disk:List (Int × List SlotV)
 seats:List SeatV
 hand:Int
 log:LogV
 txs:List LiveV
 holds:List HoldV
 next:Int
 down:Bool
structure EngA where
 disk:List PageA
 seats:List SeatA
 aS:Option Addr
 cS:Nat
 hand:Int
 log:LogA
 txs:List LiveV
 aT:Option Addr
 cT:Nat
 holds:List HoldV
 aH:Option Addr
 cH:Nat
 next:Int
 down:Bool
def EngA.v (e:EngA):EngV:=⟨e.disk.map (fun p=>(p.lsn,p.ss.map (·.v))),e.seats.map SeatA.v,e.hand,e.log.v,e.txs,e.holds,e.next,e.down⟩
def cellsPs (ps:List PageA):List Value:=ps.flatMap PageA.cells
def EngA.tail (e:EngA):List Value:=[.slice e.aS e.seats.length e.cS,.int .i64 e.hand,.slice e.log.a e.log.recs.length e.log.c,.int .i64 e.log.sure,.slice e.aT e.txs.length e.cT,.slice e.aH e.holds.length e.cH,.int .i64 e.next,.bool e.down]
def EngA.cells (e:EngA):List Value:=cellsPs e.disk++e.tail
structure EngA.shape (e:EngA):Prop where
 eight:e.disk.length=8
 four:∀ p∈e.disk,p.ss.length=4
theorem cellsPs_len:∀ (ps:List PageA),(∀ p∈ps,p.ss.length=4)→(cellsPs ps).length=ps.length*17:=by
 intro ps
 induction ps with
 | nil=>intro _;rfl
 | cons p r ih=>
  intro h
  have h1:=ih (fun q hq=>h q (List.mem_cons_of_mem _ hq))
  have h2:=page_len p (h p List.mem_cons_self)
  simp only [cellsPs,List.flatMap_cons,List.length_append,List.length_cons] at h1 ⊢
  omega
theorem EngA.disk_len {e:EngA} (h:e.shape):(cellsPs e.disk).length=136:=by rw [cellsPs_len _ h.four,h.eight]
theorem EngA.cells_len {e:EngA} (h:e.shape):e.cells.length=144:=by rw [EngA.cells,List.length_append,EngA.disk_len h];rfl
theorem EngA.cell_at {w:World} {B:Nat} {t:TypeId} {e:EngA} (h:e.shape) (b:Box w B e.cells t) (j:Nat) (v:Value) (hv:e.tail[j]? =some v):w.cell? ⟨B,136+j,none⟩=some v:=by
 refine b.cell (136+j) v ?_
 rw [EngA.cells,List.getElem?_append_right (by rw [EngA.disk_len h];omega),EngA.disk_len h,show 136+j-136=j by omega]
 exact hv
theorem cellsPs_split (ps:List PageA) (k:Nat) (hk:k<ps.length):cellsPs ps=cellsPs (ps.take k)++(ps[k].cells++cellsPs (ps.drop (k+1))):=by
 have e:ps=ps.take k++ps[k]::ps.drop (k+1):=by
  conv=>lhs;rw [← List.take_append_drop k ps,List.drop_eq_getElem_cons hk]
 conv=>lhs;rw [e]
 simp only [cellsPs,List.flatMap_append,List.flatMap_cons]
theorem EngA.page_at {w:World} {B:Nat} {t:TypeId} {e:EngA} (h:e.shape) (b:Box w B e.cells t) (k:Nat) (hk:k<e.disk.length):w.rangeAt B (k*17) e.disk[k].cells:=by
 have e1:e.cells=cellsPs (e.disk.take k)++(e.disk[k].cells++(cellsPs (e.disk.drop (k+1))++e.tail)):=by rw [EngA.cells,cellsPs_split e.disk k hk];simp
 have b':=b
 rw [e1] at b'
 have:=Box.range _ _ _ b'
 rwa [cellsPs_len _ (fun p hp=>h.four p (List.mem_of_mem_take hp)),List.length_take,Nat.min_eq_left (Nat.le_of_lt hk)] at this
def rowOf (a:Option Addr) (n c:Nat):List Nat:=(Value.slice a n c).ownBlock.toList
def EngA.diskBl (e:EngA):List Nat:=(e.disk.flatMap (·.ss)).flatMap SlotA.blocks
def EngA.blocks (e:EngA):List Nat:=e.diskBl++(blocksSts e.aS e.cS e.seats++(blocksRs e.log.a e.log.c e.log.recs++(rowOf e.aT e.txs.length e.cT++rowOf e.aH e.holds.length e.cH)))
structure EngA.own (w:World) (lo hi:Nat) (e:EngA):Prop where
 disk:OwnS w lo hi (e.disk.flatMap (·.ss))
 pool:OwnSts w lo hi e.aS e.cS e.seats
 log:OwnRs w lo hi e.log.a e.log.c e.log.recs
 txs:OwnL w lo hi e.aT e.cT e.txs
 holds:OwnH w lo hi e.aH e.cH e.holds
 apart:e.blocks.Nodup
theorem OwnS.touch {w w':World} {lo hi:Nat} {ss:List SlotA} {bl:List Nat} (h:OwnS w lo hi ss) (ht:Touch bl w w') (hd:∀ k∈ss.flatMap SlotA.blocks,k∉bl):OwnS w' lo hi ss:=
 ⟨fun x hx=>SlotA.touch (h.each x hx) ht (fun k hk=>hd k (List.mem_flatMap.2 ⟨x,hx,hk⟩)),h.apart⟩
theorem EngA.own.blocks_lt {w:World} {lo hi:Nat} {e:EngA} (h:e.own w lo hi):∀ k∈e.blocks,lo≤k∧k<hi:=by
 intro k hk
 simp only [EngA.blocks,List.mem_append] at hk
 rcases hk with hk | hk | hk | hk | hk
 ·exact h.disk.blocks_lt k hk
 ·exact h.pool.blocks_lt k hk
 ·exact h.log.blocks_lt k hk
 ·exact h.txs.lt k (Option.mem_toList.1 hk)
 ·exact h.holds.lt k (Option.mem_toList.1 hk)
theorem EngA.own.touch {w w':World} {lo hi:Nat} {e:EngA} {bl:List Nat} (h:e.own w lo hi) (ht:Touch bl w w') (hd:∀ k∈e.blocks,k∉bl):e.own w' lo hi:=by
 simp only [EngA.blocks,List.mem_append] at hd
 exact ⟨h.disk.touch ht (fun k hk=>hd k (.inl hk)),h.pool.touch ht (fun k hk=>hd k (.inr (.inl hk))),h.log.touch ht (fun k hk=>hd k (.inr (.inr (.inl hk)))),h.txs.touch ht (fun k hk=>hd k (.inr (.inr (.inr (.inl (Option.mem_toList.2 hk)))))),h.holds.touch ht (fun k hk=>hd k (.inr (.inr (.inr (.inr (Option.mem_toList.2 hk)))))),h.apart⟩
theorem EngA.own.within {w w':World} {lo hi l r:Nat} {e:EngA} (h:e.own w lo hi) (hw:Within l r w w') (hd:hi≤l∨r≤lo):e.own w' lo hi:=
 ⟨h.disk.within hw hd,h.pool.within hw hd,h.log.within hw hd,h.txs.within hw hd,h.holds.within hw hd,h.apart⟩
theorem EngA.own.below {w w':World} {lo hi:Nat} {e:EngA} (h:e.own w lo hi) (hb:Below w.heap.size w w'):e.own w' lo hi:=
 ⟨h.disk.below hb,h.pool.below hb,h.log.below hb,h.txs.below hb,h.holds.below hb,h.apart⟩
theorem EngA.own.widen {w:World} {lo hi lo' hi':Nat} {e:EngA} (h:e.own w lo hi) (h1:lo'≤lo) (h2:hi≤hi') (h3:hi'≤w.heap.size):e.own w lo' hi':=
 ⟨h.disk.widen h1 h2 h3,h.pool.widen h1 h2 h3,h.log.widen h1 h2 h3,h.txs.widen h1 h2 h3,h.holds.widen h1 h2 h3,h.apart⟩
theorem Try.infoEng:(Try.prog.info? 60).map (·.size)=some 144:=by kernel_rfl
def zeroP:PageA:=⟨0,[zeroS,zeroS,zeroS,zeroS]⟩
def zeroE:EngA:=⟨[zeroP,zeroP,zeroP,zeroP,zeroP,zeroP,zeroP,zeroP],[],none,0,0,⟨[],0,none,0⟩,[],none,0,[],none,0,0,false⟩
theorem Try.zeroEng:(Try.prog.info? 60).map (·.zero)=some (some (.agg zeroE.cells.toArray)):=by kernel_rfl
structure Disk8 (ps:List PageA):Prop where
 eight:ps.length=8
 four:∀ p∈ps,p.ss.length=4
theorem pageD_mem {ps:List PageA} {k:Nat} (h:k<ps.length):ps.getD k zeroP∈ps:=by simp [List.getD,h,List.getElem_mem]
theorem Disk8.at {ps:List PageA} (h:Disk8 ps) {k:Nat} (hk:k<8):(ps.getD k zeroP).ss.length=4:=h.four _ (pageD_mem (by rw [h.eight];exact hk))
def pgv (p:PageA):Int × List SlotV:=(p.lsn,p.ss.map (·.v))
def slots8 (ps:List PageA):List SlotA:=ps.flatMap (·.ss)
theorem page_in {w:World} {B:Nat} {t:TypeId} {ps:List PageA} (h:Disk8 ps) (b:Box w B (cellsPs ps) t) (k:Nat) (hk:k<8):w.rangeAt B (k*17) (ps.getD k zeroP).cells:=by
 have hk':k<ps.length:=by rw [h.eight];exact hk
 have e:=cellsPs_split ps k hk'
 have b':=b
 rw [e] at b'
 have:=Box.range _ _ _ b'
 rw [cellsPs_len _ (fun p hp=>h.four p (List.mem_of_mem_take hp)),List.length_take,Nat.min_eq_left (Nat.le_of_lt hk')] at this
 have e2:ps.getD k zeroP=ps[k]:=by simp [List.getD,hk']
 rw [e2];exact this
theorem disk8_info {ps:List PageA} (h:Disk8 ps):(Try.prog.info? 50).map (·.size)=some (cellsPs ps).length:=by rw [cellsPs_len _ h.four,h.eight];kernel_rfl
theorem pgv_at {ps ts:List PageA} (he:ts.map pgv=ps.map pgv) (k:Nat) (hk:k<ps.length):pgv (ts.getD k zeroP)=pgv (ps.getD k zeroP):=by
 have hk':k<ts.length:=by have:=congrArg List.length he;simp only [List.length_map] at this;omega
 have:=congrArg (fun l=>l[k]?) he
 simpa [List.getD,hk,hk'] using this
theorem page_infoP (p:PageA) (h:p.ss.length=4):(Try.prog.info? 49).map (·.size)=some p.cells.length:=by rw [page_len _ h];kernel_rfl
theorem eqPageA8_same (ps ts:List PageA) (hp:Disk8 ps) (ht:Disk8 ts) (he:ts.map pgv=ps.map pgv) (w:World) (hrp:∀ p∈ps,ReadsS w p.ss) (hrt:∀ p∈ts,ReadsS w p.ss) (hf:∀ p∈ps,Fit p.ss):
  Calls Try.prog 29 #[.agg (cellsPs ps).toArray,.agg (cellsPs ts).toArray] w fun e w'=>e=.returned (.bool true)∧Below w.heap.size w w':=by
 obtain ⟨W,hW,b0,b1,hbW,hsW⟩:=boxes2 w (cellsPs ps) (cellsPs ts) 50 50
 go_enter Try.func29,Try.ntmps29
 go_wp2_with fail
 rw [hW.out]
 clear hW hsW
 go_loopw [5] (fun i wr=>∃ k:Nat,k≤8∧i=.int .i64 (k:Int)∧Below W.heap.size W wr) (fun i _=>8-(intOf i).toNat)
 case atStart=>exact ⟨0,Nat.zero_le _,rfl,Below.refl _ _⟩
 case round=>
  obtain ⟨k,hk,rfl,hbr⟩:=hrel
  by_cases hlt:k<8
  ·have HR:Hid (∀ u,Below W.heap.size W u→u.rangeAt w.heap.size (k*17) (ps.getD k zeroP).cells∧u.rangeAt (w.heap.size+1) (k*17) (ts.getD k zeroP).cells):=fun u hu=>⟨page_in hp (b0.below hu b0.lt) k hlt,page_in ht (b1.below hu b1.lt) k hlt⟩
   have HP4:=hp.at hlt
   have HT4:=ht.at hlt
   have hv:=pgv_at he k (by rw [hp.eight];exact hlt)
   have R1:=hrp _ (pageD_mem (k:=k) (by rw [hp.eight];exact hlt))
   have R2:=hrt _ (pageD_mem (k:=k) (by rw [ht.eight];exact hlt))
   have F1:=hf _ (pageD_mem (k:=k) (by rw [hp.eight];exact hlt))
   generalize ps.getD k zeroP=p at*
   generalize ts.getD k zeroP=t at*
   obtain ⟨n,ss⟩:=p
   obtain ⟨n',ts'⟩:=t
   simp only [pgv,Prod.mk.injEq] at hv
   obtain ⟨rfl,hv⟩:=hv
   have HV:Hid _:=hv
   clear hv
   have hi0:(0:Int)≤(k:Int):=by omega
   have hi8:(k:Int)<8:=by omega
   go_wp2_with fail
   have D0:Below W.heap.size W wr.drew:=hbr.trans ((Below.refl _ _).drew.mono hbr.size)
   refine wp_region_held_drew (S:=fun u=>u.rangeAt w.heap.size (k*17) (PageA.cells ⟨n',ss⟩)∧u.rangeAt (w.heap.size+1) (k*17) (PageA.cells ⟨n',ts'⟩)) (by kernel_rfl) (HR.out _ D0) (fun hHeld=>?_)
   generalize wr.drew=d0 at*
   refine tq 0 (v:=.int .i64 (k:Int)) rfl hHeld ?_
   try simp only [zz]
   refine tq 1 (v:=.pointer (some ⟨w.heap.size,k*17,none⟩)) rfl hHeld ?_
   try simp only [zz]
   refine tk 2 rfl (yieldsIf_load_mid (by rfl) _ _ rfl _ _ rfl (PageA.cells ⟨n',ss⟩) _ (fun _ h=>h.1) Try.underlying49 rfl (page_infoP _ HP4)) hHeld ?_
   try simp only [zz]
   refine tq 3 (v:=.int .i64 (k:Int)) rfl hHeld ?_
   try simp only [zz]
   refine tq 4 (v:=.pointer (some ⟨w.heap.size+1,k*17,none⟩)) rfl hHeld ?_
   try simp only [zz]
   refine tk 5 rfl (yieldsIf_load_mid (by rfl) _ _ rfl _ _ rfl (PageA.cells ⟨n',ts'⟩) _ (fun _ h=>h.2) Try.underlying49 rfl (page_infoP _ HT4)) hHeld ?_
   try simp only [zz]
   refine wpAnyH_ready (rs:=[6]) (by kernel_rfl) (by simp) ?_
   refine AllReadyH.cons rfl (fun K hK=>?_) AllReadyH.nil
   go_simp
   refine (eqPage_same n' ss ts' HP4 HV.out d0 (R1.below (hbW.trans (D0.mono hbW.size))) (R2.below (hbW.trans (D0.mono hbW.size))) F1).mono ?_
   rintro e d1 ⟨rfl,hb1⟩
   have D1:Below W.heap.size W d1:=D0.trans (hb1.mono D0.size)
   refine hK.out _ _ (HR.out _ D1) (fun hHeld=>?_)
   clear hK K hb1
   try simp only [zz]
   refine tq 7 (v:=.bool false) rfl hHeld ?_
   try simp only [zz]
   refine wpAnyH_done (by kernel_rfl) ?_ _
   clear hHeld
   go_wp2_with fail
   go_roundw
   case rel=>exact ⟨k+1,by omega,by go_num,D1⟩
   case measure=>simp [intOf];omega
  ·obtain rfl:k=8:=by omega
   have hkk:¬ ((8:Nat):Int)<8:=by omega
   have HE:Hid (Below w.heap.size w wr):=hbW.trans (hbr.mono hbW.size)
   go_wp2
   go_ret
   exact ⟨rfl,HE.out⟩
theorem OwnS.part {w:World} {lo hi:Nat} {A M B:List SlotA} (h:OwnS w lo hi (A++(M++B))):OwnS w lo hi M:=by
 refine ⟨fun s hs=>h.each s (by simp [hs]),?_⟩
 have:=h.apart
 simp only [List.flatMap_append,List.nodup_append] at this
 exact this.2.1.1
theorem OwnS.swap {w w':World} {lo hi:Nat} {A M N B:List SlotA} (h:OwnS w lo hi (A++(M++B))) (ht:Touch (M.flatMap SlotA.blocks) w w') (ho:OwnS w' lo hi N) (hb:N.flatMap SlotA.blocks=M.flatMap SlotA.blocks):OwnS w' lo hi (A++(N++B)):=by
 have ha:=h.apart
 simp only [List.flatMap_append,List.nodup_append,List.mem_append] at ha
 obtain ⟨a1,⟨a2,a3,a4⟩,a5⟩:=ha
 refine ⟨fun s hs=>?_,?_⟩
 ·rcases List.mem_append.1 hs with hs | hs
  ·exact SlotA.touch (h.each s (by simp [hs])) ht (fun k hk hk'=>a5 k (List.mem_flatMap.2 ⟨s,hs,hk⟩) k (.inl hk') rfl)
  ·rcases List.mem_append.1 hs with hs | hs
   ·exact ho.each s hs
   ·exact SlotA.touch (h.each s (by simp [hs])) ht (fun k hk hk'=>a4 k hk' k (List.mem_flatMap.2 ⟨s,hs,hk⟩) rfl)
 ·have:=h.apart
  simp only [List.flatMap_append,hb] at this ⊢
  exact this
theorem markSs_blocks (ss:List SlotA):∀ k,(markSs ss k).flatMap SlotA.blocks=ss.flatMap SlotA.blocks:=by
 induction ss with
 | nil=>intro k;rfl
 | cons s r ih=>intro k;simp only [markSs,List.flatMap_cons,mark_blocks,ih]
theorem countS_app (A B:List SlotA):countS (A++B)=countS A+countS B:=by
 induction A with
 | nil=>simp [countS]
 | cons s r ih=>simp only [List.cons_append,countS,ih];omega
theorem slots8_app (a b:List PageA):slots8 (a++b)=slots8 a++slots8 b:=by simp only [slots8,List.flatMap_append]
theorem slots8_cons (p:PageA) (b:List PageA):slots8 (p::b)=p.ss++slots8 b:=by simp only [slots8,List.flatMap_cons]
theorem pageD_eq {ps:List PageA} {k:Nat} (h:k<ps.length):ps[k]=ps.getD k zeroP:=by simp [List.getD,h]
theorem slots_split (ps:List PageA) (k:Nat) (hk:k<ps.length):slots8 ps=slots8 (ps.take k)++((ps.getD k zeroP).ss++slots8 (ps.drop (k+1))):=by
 have e:ps=ps.take k++ps.getD k zeroP::ps.drop (k+1):=by
  conv=>lhs;rw [← List.take_append_drop k ps,List.drop_eq_getElem_cons hk]
  simp [List.getD,hk]
 conv=>lhs;rw [e]
 simp only [slots8,List.flatMap_append,List.flatMap_cons]
theorem slots_next (ps:List PageA) (k:Nat) (hk:k<ps.length):slots8 (ps.take (k+1))=slots8 (ps.take k)++(ps.getD k zeroP).ss:=by
 rw [List.take_succ_eq_append_getElem hk,slots8_app,slots8_cons,pageD_eq hk]
 simp only [slots8,List.flatMap_nil,List.append_nil]
theorem countS_take_le (ps:List PageA) (k:Nat):countS (slots8 (ps.take k))≤countS (slots8 ps):=by
 conv=>rhs;rw [← List.take_append_drop k ps,slots8_app,countS_app]
 omega
theorem markPageA8_touch (ps:List PageA) (hp:Disk8 ps) (lo hi:Nat) (k0:Int) (w:World) (ho:OwnS w lo hi (slots8 ps)) (hf:∀ p∈ps,Fit p.ss) (h0:0≤k0) (hk:k0+countS (slots8 ps)≤10995116277760) (hhi:hi≤w.heap.size):
  Calls Try.prog 34 #[.agg (cellsPs ps).toArray,.int .i64 k0] w fun e w'=>e=.returned (.int .i64 (k0+countS (slots8 ps)))∧OwnS w' lo hi (markSs (slots8 ps) k0)∧Touch ((slots8 ps).flatMap SlotA.blocks) w w':=by
 obtain ⟨W,hW,b0,hbW,hsW⟩:=boxes1 w (cellsPs ps) 50
 have hs0:w.heap.size<W.heap.size:=by omega
 have hbl:=ho.blocks_lt
 go_enter Try.func34,Try.ntmps34
 go_wp2_with fail
 rw [hW.out]
 clear hW hsW
 go_loopw [1,5] (fun kk i wr=>∃ k:Nat,k≤8∧i=.int .i64 (k:Int)∧kk=.int .i64 (k0+countS (slots8 (ps.take k)))∧OwnS wr lo hi (markSs (slots8 (ps.take k)) k0++slots8 (ps.drop k))∧Touch ((slots8 ps).flatMap SlotA.blocks) W wr) (fun _ i _=>8-(intOf i).toNat)
 case atStart=>exact ⟨0,Nat.zero_le _,rfl,by simp [slots8,countS],by simpa [slots8,markSs] using ho.below hbW,Touch.refl _ _⟩
 case round=>
  obtain ⟨k,hk8,rfl,rfl,hor,htr⟩:=hrel
  by_cases hlt:k<8
  ·have hkl:k<ps.length:=by rw [hp.eight];exact hlt
   have hwB:w.heap.size∉(slots8 ps).flatMap SlotA.blocks:=fun h=>by have:=(hbl _ h).2;omega
   have r1:=page_in hp (b0.touch htr hwB) k hlt
   have HP4:=hp.at hlt
   have F1:=hf _ (pageD_mem (k:=k) hkl)
   have e1:slots8 (ps.drop k)=(ps.getD k zeroP).ss++slots8 (ps.drop (k+1)):=by
    rw [List.drop_eq_getElem_cons hkl,slots8_cons,pageD_eq hkl]
   rw [e1] at hor
   have e2:=slots_next ps k hkl
   have HC:Hid (countS (slots8 (ps.take (k+1)))=countS (slots8 (ps.take k))+countS (ps.getD k zeroP).ss):=by rw [Hid,e2,countS_app]
   have HM:Hid (markSs (slots8 (ps.take (k+1))) k0=markSs (slots8 (ps.take k)) k0++markSs (ps.getD k zeroP).ss (k0+countS (slots8 (ps.take k)))):=by rw [Hid,e2,markSs_app]
   have HB:Hid (∀ j∈(ps.getD k zeroP).ss.flatMap SlotA.blocks,j∈(slots8 ps).flatMap SlotA.blocks):=fun j hj=>by
    rw [slots_split ps k hkl]
    simp only [List.flatMap_append,List.mem_append]
    exact .inr (.inl hj)
   have hcl:=countS_take_le ps k
   have C:=markPage_touch (ps.getD k zeroP) HP4 lo hi (k0+countS (slots8 (ps.take k))) wr hor.part F1 (by omega) (by omega) (by have:=htr.size;omega)
   clear e1 e2
   generalize ps.getD k zeroP=p at*
   have HIp:=page_infoP p HP4
   have hi0:(0:Int)≤(k:Int):=by omega
   have hi8:(k:Int)<8:=by omega
   generalize hcc:countS (slots8 (ps.take k))=cc at*
   go_wp2_with (first | (guard_target=wpList _ _ _ (Oper.mk (some 12) _ _ _ _ _::_) _ _;refine wpList_load_mid rfl 49 (.tmp 11) rfl w.heap.size (k*17) rfl p.cells _ r1 Try.underlying49 rfl HIp ?_) | fail)
   refine C.mono ?_
   clear C
   rintro e w1 ⟨rfl,ho1,ht1⟩
   have HOK:Hid (OwnS w1 lo hi (markSs (slots8 (ps.take (k+1))) k0++slots8 (ps.drop (k+1)))):=by
    rw [Hid,HM.out,List.append_assoc]
    exact hor.swap ht1 ho1 (markSs_blocks _ _)
   have HTK:Hid (Touch ((slots8 ps).flatMap SlotA.blocks) W w1):=htr.trans (ht1.mono HB.out)
   have HCC:Hid (k0+(cc:Int)+(countS p.ss:Int)=k0+(countS (slots8 (ps.take (k+1))):Int)):=by have:=HC.out;rw [Hid];omega
   clear hor htr ho1 ht1 HC HM
   go_wp2_with fail
   go_roundw
   case rel=>exact ⟨k+1,by omega,by go_num,by rw [HCC.out],HOK.out,HTK.out⟩
   case measure=>simp [intOf];omega
  ·obtain rfl:k=8:=by omega
   have hkk:¬ ((8:Nat):Int)<8:=by omega
   have e1:ps.take 8=ps:=by rw [← hp.eight,List.take_length]
   have e2:ps.drop 8=[]:=by rw [← hp.eight,List.drop_length]
   rw [e1,e2] at hor
   have HE:Hid (OwnS wr lo hi (markSs (slots8 ps) k0)∧Touch ((slots8 ps).flatMap SlotA.blocks) w wr):=⟨by simpa [slots8] using hor,(Touch.of_below hbW).trans htr⟩
   have HT:Hid (k0+(countS (slots8 (ps.take 8)):Int)=k0+countS (slots8 ps)):=by rw [Hid,e1]
   clear e1 e2
   go_wp2
   go_ret
   exact ⟨ret_int HT.out,HE.out.1,HE.out.2⟩
structure PoolV where
 seats:List SeatV
 hand:Int
structure PoolA where
 seats:List SeatA
 hand:Int
 a:Option Addr
 c:Nat
def PoolA.v (l:PoolA):PoolV:=⟨l.seats.map SeatA.v,l.hand⟩
def PoolA.cells (l:PoolA):List Value:=[.slice l.a l.seats.length l.c,.int .i64 l.hand]
def PoolA.reads (w:World) (l:PoolA):Prop:=ReadsSts w l.a l.seats
def PoolA.own (w:World) (lo hi:Nat) (l:PoolA):Prop:=OwnSts w lo hi l.a l.c l.seats
def SeatA.short (s:SeatA) (m:Nat):Prop:=∀ x∈s.ss,x.v.o.ints.length≤m∧x.v.o.refs.length≤m
structure PoolA.short (l:PoolA) (m:Nat):Prop where
 len:l.seats.length≤m
 each:∀ r∈l.seats,r.short m
theorem PoolA.short.at {l:PoolA} {m:Nat} (h:l.short m) (k:Nat) (hk:k<l.seats.length):(l.seats.getD k zeroSt).short m:=h.each _ (seatD_mem _ k hk)
theorem SeatA.short_of {a b:SeatA} {m:Nat} (h:a.v=b.v) (hb:b.short m):a.short m:=by
 intro x hx
 have e:a.ss.map (·.v)=b.ss.map (·.v):=congrArg SeatV.ss h
 have:x.v∈b.ss.map (·.v):=by rw [← e];exact List.mem_map.2 ⟨x,hx,rfl⟩
 obtain ⟨y,hy,e⟩:=List.mem_map.1 this
 rw [← e]
 exact hb y hy
theorem SeatA.short.wide {s:SeatA} (h:s.short 1048576):s.short 1099511627776:=fun x hx=>by have:=h x hx;omega
theorem mapSt_len {rs ts:List SeatA} (h:ts.map SeatA.v=rs.map SeatA.v):ts.length=rs.length:=by simpa using congrArg List.length h
theorem mapSt_at {rs ts:List SeatA} (h:ts.map SeatA.v=rs.map SeatA.v) (k:Nat) (hk:k<rs.length):(ts.getD k zeroSt).v=(rs.getD k zeroSt).v:=by
 have hk':k<ts.length:=by rw [mapSt_len h];exact hk
 have:=congrArg (fun x=>x[k]?) h
 simpa [List.getD,hk,hk'] using this
theorem mapSt_all {rs ts:List SeatA} (h:ts.map SeatA.v=rs.map SeatA.v) (P:SeatA→Prop) (hP:∀ a b:SeatA,a.v=b.v→P b→P a) (hall:∀ r∈rs,P r):∀ r∈ts,P r:=by
 intro r hr
 obtain ⟨k,hk,rfl⟩:=List.getElem_of_mem hr
 have hk':k<rs.length:=by rw [← mapSt_len h];exact hk
 have e:=mapSt_at h k hk'
 refine hP _ (rs.getD k zeroSt) ?_ (hall _ (seatD_mem rs k hk'))
 rw [← e]
 simp [List.getD,hk]
theorem PoolA.short_of {l t:PoolA} {m:Nat} (h:t.v=l.v) (hl:l.short m):t.short m:=by
 simp only [PoolA.v,PoolV.mk.injEq] at h
 exact ⟨by rw [mapSt_len h.1];exact hl.len,mapSt_all h.1 (fun r=>r.short m) (fun a b e hb=>SeatA.short_of e hb) hl.each⟩
theorem PoolA.short_wide {l:PoolA} (hl:l.short 1048576):l.short 1099511627776:=⟨by have:=hl.len;omega,fun r hr=>(hl.each r hr).wide⟩
theorem seat_one' (q:SeatA):q.cells.toArray.all (·.oneCell')=true:=all_oneCell_toArray (oneSt q)
theorem zeroSt_own' (w:World) (lo hi:Nat) (h:hi≤w.heap.size):zeroSt.own w lo hi:=⟨fun s hs=>by
 simp only [SeatA.ss,zeroSt,List.mem_cons,List.not_mem_nil,or_false] at hs
 have:s=zeroS:=by rcases hs with h | h | h | h<;>exact h
 subst this
 exact ⟨ownI_nil w lo hi h,ownI_nil w lo hi h,fun k h1 _=>by cases h1⟩,by show ([]:List Nat).Nodup;simp⟩
theorem four_slots' {ts:List SlotA} (h:ts.length=4):∃ a b c d,ts=[a,b,c,d]:=by
 match ts,h with
 | [a,b,c,d],_=>exact ⟨a,b,c,d,rfl⟩
theorem wide_of {ss:List SlotA} (hl:∀ s∈ss,s.v.o.ints.length≤1048576∧s.v.o.refs.length≤1048576):∀ s∈ss,s.v.o.ints.length≤1099511627776∧s.v.o.refs.length≤1099511627776:=fun s hs=>by have:=hl s hs;omega
def seatFrom (no:Int):List SeatV→Nat→Int
 | [],_=> -1
 | l::r,k=>if l.no=no then (k:Int) else seatFrom no r (k+1)
def seatedOf (ss:List SeatV) (no:Int):Int:=seatFrom no ss 0
theorem dropSt_at (ls:List SeatA) (k:Nat) (h:k<ls.length):(ls.map SeatA.v).drop k=(ls.getD k zeroSt).v::(ls.map SeatA.v).drop (k+1):=by
 rw [List.drop_eq_getElem_cons (by simpa using h)]
 simp [List.getD,h]
theorem specSeated_any (a:Option Addr) (c:Nat) (ls:List SeatA) (hand no:Int) (w:World) (hr:ReadsSts w a ls) (hl:ls.length≤1099511627776):
  Calls Try.prog 45 #[.agg #[.slice a ls.length c,.int .i64 hand],.int .i64 no] w fun r w'=>r=.returned (.int .i64 (seatedOf (ls.map SeatA.v) no))∧Below w.heap.size w w':=by
 obtain ⟨W,hW,b0,hbW,hsW⟩:=boxes1 w [.slice a ls.length c,.int .i64 hand] 53
 have HT:Hid (∀ u,Below W.heap.size W u→u.cell? ⟨w.heap.size,0,none⟩=some (.slice a ls.length c)):=fun u hu=>(b0.below hu b0.lt).cell 0 _ rfl
 have HR:Hid (∀ u,Below W.heap.size W u→ReadsSts u a ls):=fun u hu=>hr.below (hbW.trans (hu.mono hbW.size))
 have HF:Hid (seatFrom no ((ls.map SeatA.v).drop 0) 0=seatedOf (ls.map SeatA.v) no):=rfl
 generalize seatedOf (ls.map SeatA.v) no=R at*
 clear hsW b0 hr
 go_enter Try.func45,Try.ntmps45
 go_wp2_with fail
 rw [hW.out]
 clear hW
 go_loopw [5] (fun i wr=>∃ (k:Nat),i=.int .i64 k∧k≤ls.length∧Hid (seatFrom no ((ls.map SeatA.v).drop k) k=R)∧Below W.heap.size W wr)
  (fun i _=>ls.length-(intOf i).toNat)
 case atStart=>exact ⟨0,rfl,by omega,HF,Below.refl _ _⟩
 case round=>
  obtain ⟨k,rfl,hk,hR,hbl⟩:=hrel
  have x0:=HT.out wr hbl
  have hrr:=HR.out wr hbl
  have hbT:Below w.heap.size w wr:=hbW.trans (hbl.mono hbW.size)
  by_cases hlt:k<ls.length
  ·obtain ⟨b,off,rfl,hcell⟩:=hrr (by rintro rfl;simp at hlt)
   have c0:=(hcell k hlt).1 0 _ rfl
   simp only [Nat.add_zero] at c0
   clear hcell
   have hkk:(k:Int)<(ls.length:Int):=by omega
   have hi0:(0:Int)≤(k:Int):=by omega
   have HR2:Hid ((if (ls.getD k zeroSt).no=no then (k:Int) else seatFrom no ((ls.map SeatA.v).drop (k+1)) (k+1))=R):=by
    have h:=hR.out
    rw [dropSt_at ls k hlt,seatFrom] at h
    exact h
   generalize ls.getD k zeroSt=z at*
   by_cases hq:z.no=no
   ·have HR3:Hid ((k:Int)=R):=by have h:=HR2.out;rw [if_pos hq] at h;exact h
    have hqb:(z.no == no)=true:=by simpa using hq
    clear hq hR HR2
    go_wp2
    go_ret
    exact ⟨ret_int HR3.out,hbT⟩
   ·have HR3:Hid (seatFrom no ((ls.map SeatA.v).drop (k+1)) (k+1)=R):=by have h:=HR2.out;rw [if_neg hq] at h;exact h
    have hqb:(z.no == no)=false:=by simpa using hq
    clear hq hR HR2
    go_wp2_with fail
    go_roundw
    case rel=>exact ⟨k+1,by go_num,by omega,HR3,hbl⟩
    case measure=>simp [intOf];omega
  ·have hkk:¬ (k:Int)<(ls.length:Int):=by omega
   have HR':Hid (-1=R):=by
    have h:=hR.out
    rw [List.drop_eq_nil_of_le (by rw [List.length_map];omega),seatFrom] at h
    exact h
   clear hR
   go_wp2
   go_ret
   exact ⟨ret_int HR'.out,hbT⟩
def RecA.with (r:RecA) (t1 t2:SlotA) (aL:Option Addr) (cL:Nat):RecA:=⟨r.lsn,r.tx,r.prev,r.kind,r.oid,t1,t2,r.next,r.txs,aL,cL⟩
end Go.Proofs.Ytfehemepdoomdaa
namespace Go.Proofs.Ytfehemepdoomdaa
open Go.RowKit
attribute [local go_sem ↓] Go.wp_at_zero Go.wp_at_succ
end Go.Proofs.Ytfehemepdoomdaa
namespace Go.Proofs.Ytfehemepdoomdaa
open Go.RowKit
theorem rep_len (n:Nat) (r:RecA):(List.replicate n r).length=n:=by simp
theorem zero_cellsRs (n:Nat):(madeCells (Value.agg zeroR.cells.toArray).cells (n*15)).toList=cellsRs (List.replicate n zeroR):=by
 apply List.ext_getElem?
 intro i
 by_cases h:i<n*15
 ·have e:=cellsRs_at (List.replicate n zeroR) (i / 15) (i % 15) (by simp;omega) (Nat.mod_lt _ (by omega))
  rw [show i / 15*15+i % 15=i by omega] at e
  rw [e]
  have hg:(List.replicate n zeroR).getD (i / 15) zeroR=zeroR:=by simp [List.getD,show i / 15<n by omega]
  rw [hg]
  simp only [madeCells,Array.toList_map,List.getElem?_map,Array.toList_range,List.getElem?_range h,Option.map_some]
  have hm:i % 15<15:=Nat.mod_lt _ (by omega)
  have hz:∀ j,j<15→some ((Value.agg zeroR.cells.toArray).cells[j]!)=zeroR.cells[j]? :=by
   intro j hj
   rcases (by omega:j=0∨j=1∨j=2∨j=3∨j=4∨j=5∨j=6∨j=7∨j=8∨j=9∨j=10∨j=11∨j=12∨j=13∨j=14) with rfl | rfl | rfl | rfl | rfl | rfl | rfl | rfl | rfl | rfl | rfl | rfl | rfl | rfl | rfl<;>rfl
  exact hz _ hm
 ·rw [List.getElem?_eq_none (by simp [size_madeCells];omega),List.getElem?_eq_none (by rw [cellsRs_len];simp;omega)]
theorem own_zeroRs {w:World} {lo hi g c:Nat} (n:Nat) (h:w.ownsRow lo 130 15 (.slice (some ⟨g,0,none⟩) n c) n (cellsRs (List.replicate n zeroR))) (ht:hi≤w.heap.size) (hg:g<hi):OwnRs w lo hi (some ⟨g,0,none⟩) c (List.replicate n zeroR):=by
 refine ⟨by rw [rep_len];exact h,ht,fun k hk=>by cases hk;exact hg,fun r hr=>?_,?_⟩
 ·rw [(List.mem_replicate.1 hr).2]
  exact own_zeroR w lo hi ht
 ·have e:(List.replicate n zeroR).flatMap RecA.blocks=[]:=by
   rw [List.flatMap_eq_nil_iff]
   intro r hr
   rw [(List.mem_replicate.1 hr).2]
   rfl
  rw [e]
  simp [Value.ownBlock]
def Came (rs ts:List RecA) (k:Nat):Prop:=ts.length=k∧ts.map RecA.v=(rs.take k).map RecA.v
theorem came_none (rs:List RecA):Came rs [] 0:=⟨rfl,by simp⟩
theorem Came.snoc {rs ts:List RecA} {k:Nat} (h:Came rs ts k) (hk:k<rs.length) {q:RecA} (hq:q.v=(rs.getD k zeroR).v):Came rs (ts++[q]) (k+1):=by
 refine ⟨by simp [h.1],?_⟩
 have e:rs.getD k zeroR=rs[k]:=by simp [List.getD,hk]
 rw [List.map_append,h.2,List.take_succ_eq_append_getElem hk,List.map_append,List.map_singleton,List.map_singleton,hq,e]
theorem Came.all {rs ts:List RecA} (h:Came rs ts rs.length):ts.map RecA.v=rs.map RecA.v:=by
 have:=h.2
 rwa [List.take_length] at this
theorem range_below {w w':World} {b o:Nat} {r:RecA} (h:w.rangeAt b o r.cells) (hb:Below w.heap.size w w'):w'.rangeAt b o r.cells:=rangeAt_below h hb (rangeR_lt h)
theorem toRecS_any (a:Option Addr) (cap:Nat) (rs:List RecA) (w:World) (hr:ReadsRs w a rs) (hl:rs.length≤1048576) (hs:∀ r∈rs,r.short 1048576):
  Calls Try.prog 48 #[.slice a rs.length cap] w fun e w'=>∃ a' c' ts,e=.returned (.slice a' ts.length c')∧Hid (ts.map RecA.v=rs.map RecA.v)∧OwnRs w' w.heap.size w'.heap.size a' c' ts∧Below w.heap.size w w':=by
 obtain ⟨i0,hi,hz0,hz1,hz2⟩:=info_parts Try.infoRec
 have HI:Hid ((Try.prog.info? 126).map (·.size)=some 15):=by rw [Hid];kernel_rfl
 have HJ:Hid ((Try.prog.info? 130).map (·.size)=some 15):=by rw [Hid];kernel_rfl
 rcases hr.cases with rfl | ⟨b,off,rfl,hpos,hcell⟩
 ·go_enter Try.func48,Try.ntmps48
  go_wp2_with (at_make;refine wpList_make_full _ rfl _ _ 54 rfl w.heap.size 130 i0 (.agg zeroR.cells.toArray) 15 Try.underlying54 hi hz0 hz1 _ _ _ _ 0 rfl rfl (by simp) (by simp) (by omega) (by simp [maxLen]) (Nat.le_refl _) ?_)
  intro w0 hown0 hgrow0
  have hB:Below w.heap.size w w0:=(Below.refl _ _).grown hgrow0 (Nat.le_refl _) (fun k h=>by cases h)
  have ho:w0.ownsRow w.heap.size 130 15 (.slice (some ⟨w.heap.size,0,none⟩) 0 0) 0 (cellsRs (List.replicate 0 zeroR)):=by
   rw [← zero_cellsRs]
   exact hown0
  have HO:Hid (OwnRs w0 w.heap.size w0.heap.size (some ⟨w.heap.size,0,none⟩) 0 []):=own_zeroRs 0 ho (Nat.le_refl _) (ho.lt _ rfl).2
  clear hown0 hgrow0 ho
  go_wp2
  refine wp_loop_rounds 1 ?_
  rw [rounds_succ]
  go_wp2
  go_ret
  exact ⟨_,_,[],rfl,rfl,HO.out,hB⟩
 ·have hbB:b<w.heap.size:=rangeR_lt (hcell 0 hpos).1
  go_enter Try.func48,Try.ntmps48
  go_wp2_with (at_make;refine wpList_make_full _ rfl _ _ 54 rfl w.heap.size 130 i0 (.agg zeroR.cells.toArray) 15 Try.underlying54 hi hz0 hz1 _ _ _ _ rs.length rfl rfl rfl rfl (by rw [hz2];omega) (by simp [maxLen];omega) (Nat.le_refl _) ?_)
  intro w0 hown0 hgrow0
  have hb0:Below w.heap.size w w0:=(Below.refl _ _).grown hgrow0 (Nat.le_refl _) (fun k h=>by cases h)
  have ho:w0.ownsRow w.heap.size 130 15 (.slice (some ⟨w.heap.size,0,none⟩) rs.length rs.length) rs.length (cellsRs (List.replicate rs.length zeroR)):=by
   rw [← zero_cellsRs]
   exact hown0
  have HO:Hid (OwnRs w0 w.heap.size w0.heap.size (some ⟨w.heap.size,0,none⟩) rs.length (List.replicate rs.length zeroR)):=own_zeroRs _ ho (Nat.le_refl _) (ho.lt _ rfl).2
  clear hown0 hgrow0 ho
  go_wp2
  go_loopw [4] (fun i wr=>∃ (k:Nat) (ts:List RecA),k≤rs.length∧i=.int .i64 k∧Hid (Came rs ts k)∧Hid (OwnRs wr w.heap.size wr.heap.size (some ⟨w.heap.size,0,none⟩) rs.length (ts++List.replicate (rs.length-k) zeroR))∧Below w.heap.size w wr)
   (fun i _=>rs.length-(intOf i).toNat)
  case atStart=>exact ⟨0,[],Nat.zero_le _,rfl,came_none rs,HO,hb0⟩
  case round=>
   obtain ⟨k,ts,hk,rfl,hc,hown,hnx⟩:=hrel
   by_cases hlt:k<rs.length
   ·obtain ⟨c0,c1⟩:=hcell k hlt
    have HR:Hid (wr.rangeAt b (off+k*15) (rs.getD k zeroR).cells):=rangeAt_below c0 hnx hbB
    have hrd:(rs.getD k zeroR).reads wr:=c1.below hnx
    have hsh:(rs.getD k zeroR).short 1048576:=hs _ (recD_mem rs k hlt)
    have C:=toRec_law (rs.getD k zeroR) wr hrd hsh
    have HS:Hid (∀ q:RecA,q.v=(rs.getD k zeroR).v→Came rs (ts++[q]) (k+1)):=fun q hq=>hc.out.snoc hlt hq
    have HP:Hid (ts++List.replicate (rs.length-k) zeroR=ts++zeroR::List.replicate (rs.length-(k+1)) zeroR∧(ts++zeroR::List.replicate (rs.length-(k+1)) zeroR).length=rs.length∧ts.length=k):=by
     have e:rs.length-k=(rs.length-(k+1))+1:=by omega
     refine ⟨by rw [e,List.replicate_succ],?_,hc.out.1⟩
     have:=hc.out.1
     simp
     omega
    clear c0 c1 hcell hb0 HO hs hrd hsh
    generalize rs.getD k zeroR=z at*
    go_wp2_with (first | (guard_target=wpList _ _ _ (Oper.mk (some 19) _ _ _ _ _::_) _ _;refine wpList_load_mid rfl 126 (.tmp 18) rfl b (off+k*15) rfl z.cells _ HR.out Try.underlying126 rfl HI.out ?_) | fail)
    refine C.mono ?_
    clear C HR
    rintro e w1 ⟨q,rfl,hq,hqo,hb1⟩
    have hs1:=hb1.size
    have ho1:=hown.out.below hb1
    rw [HP.out.1] at ho1
    obtain ⟨W2,hW2,ho2,ht2,hs2⟩:=ho1.fill q hqo (Nat.le_refl _) (by have:=hnx.size;omega) (Nat.le_refl _)
    rw [HP.out.2.2] at hW2
    have HT:Hid (w1.there w.heap.size (k*15) 15):=(row_rec ho1.row rfl k (by rw [HP.out.2.1];exact hlt)).2
    have hB2:Below w.heap.size w W2:=(hnx.trans (hb1.mono hnx.size)).trans ((ht2.within (lo:=w.heap.size) (hi:=w.heap.size+1) (fun j hj=>by obtain rfl:=List.mem_singleton.1 hj;omega)).below (Nat.le_refl _) (by have:=hnx.size;omega))
    have HH:Hid (OwnRs W2 w.heap.size W2.heap.size (some ⟨w.heap.size,0,none⟩) rs.length ((ts++[q])++List.replicate (rs.length-(k+1)) zeroR)):=by
     have:=ho2.widen (Nat.le_refl _) (show max wr.heap.size w1.heap.size≤W2.heap.size by omega) (Nat.le_refl _)
     rw [List.append_assoc,List.singleton_append]
     exact this
    have HB:Hid _:=hB2
    have HC:=HS.out q hq.out
    have HO1:=rec_one q
    clear ho1 ho2 ht2 hs2 hB2 hqo hb1 hnx hown hq HS hs1
    go_wp2_with (first | (guard_target=wpList _ _ _ (Oper.mk none (Op.store _ (Operand.tmp 21) _) _ _ _ _::_) _ _;refine wpList_store_mid rfl 130 (.tmp 21) (.tmp 20) rfl w.heap.size (k*15) q.cells.toArray rfl rfl HT.out HJ.out HO1 ?_) | fail)
    rw [hW2.out]
    go_roundw
    case rel=>exact ⟨k+1,ts++[q],by omega,by go_num,HC,HH,HB.out⟩
    case measure=>simp [intOf];omega
   ·have HE:Hid (ts.map RecA.v=rs.map RecA.v∧OwnRs wr w.heap.size wr.heap.size (some ⟨w.heap.size,0,none⟩) rs.length ts∧ts.length=rs.length):=by
     have e:k=rs.length:=by omega
     rw [e] at hown hc
     rw [Nat.sub_self,List.replicate_zero,List.append_nil] at hown
     exact ⟨hc.out.all,hown.out,hc.out.1⟩
    go_wp2
    go_ret
    exact ⟨some ⟨w.heap.size,0,none⟩,rs.length,ts,by rw [HE.out.2.2];rfl,HE.out.1,HE.out.2.1,hnx⟩
theorem mapV_nil {ts:List RecA} (h:ts.map RecA.v=([]:List RecA).map RecA.v):ts=[]:=by simpa using h
theorem toLog_any (l:LogA) (w:World) (hr:l.reads w) (hl:l.short 1048576):
  Calls Try.prog 22 #[.agg l.cells.toArray] w fun e w'=>∃ t:LogA,e=.returned (.agg t.cells.toArray)∧Hid (t.v=l.v)∧t.own w' w.heap.size w'.heap.size∧Below w.heap.size w w':=by
 obtain ⟨rs,s,a,c⟩:=l
 obtain ⟨hl1,hl2⟩:=hl
 simp only [LogA.reads,LogA.cells,LogA.own] at*
 obtain ⟨W,hW,b0,b1,b2,hbW,hsW⟩:=boxes3 w [.slice a rs.length c,.int .i64 s] [.slice none 0 0,.int .i64 0] [.slice none 0 0,.int .i64 0] 36 56 56
 have C:=toRecS_any a c rs W (hr.below hbW) hl1 hl2
 go_enter Try.func22,Try.ntmps22
 go_wp2_with fail
 rw [hW.out]
 clear hW
 have hs0:w.heap.size+1+1<W.heap.size:=by omega
 clear hsW
 refine C.mono ?_
 clear C
 rintro e w1 ⟨a',c',ts,rfl,hv,ho1,hb1⟩
 have hs1:=hb1.size
 have b01:=b0.below hb1 b0.lt
 have b11:=b1.below hb1 b1.lt
 have b21:=b2.below hb1 b2.lt
 have x1:=b01.cell 1 _ rfl
 have y0:=b21.cell 0 _ rfl
 have y1:=b21.cell 1 _ rfl
 have f0:=b21.frozen 0
 have f1:=b21.frozen 1
 have z0:=b11.cell 0 _ rfl
 have z1:=b11.cell 1 _ rfl
 have g0:=b11.frozen 0
 have g1:=b11.frozen 1
 obtain ⟨W2,hW2,b22,hw2,hs2⟩:=box_set b21 0 (.slice a' ts.length c')
 obtain ⟨W3,hW3,b23,hw3,hs3⟩:=box_set b22 1 (.int .i64 s)
 have b13:=(b11.within hw2 (by omega)).within hw3 (by omega)
 obtain ⟨W4,hW4,b14,hw4,hs4⟩:=box_set b13 0 (.slice a' ts.length c')
 obtain ⟨W5,hW5,b15,hw5,hs5⟩:=box_set b14 1 (.int .i64 s)
 simp only [List.set] at b15
 have q0:=b15.cell 0 _ rfl
 have q1:=b15.cell 1 _ rfl
 have hB5:Below w.heap.size w W5:=((((hbW.trans (hb1.mono (by omega))).trans (hw2.below (by omega) (by omega))).trans (hw3.below (by omega) (by omega))).trans (hw4.below (by omega) (by omega))).trans (hw5.below (by omega) (by omega))
 have ho5:=((((ho1.within hw2 (.inr (by omega))).within hw3 (.inr (by omega))).within hw4 (.inr (by omega))).within hw5 (.inr (by omega))).widen (show w.heap.size≤W.heap.size by omega) (show w1.heap.size≤W5.heap.size by omega) (Nat.le_refl _)
 have HH:Hid (_∧_∧_):=⟨ho5,hB5,hv.out⟩
 clear ho5 hB5 hv ho1 hb1 hw2 hw3 hw4 hw5 hs2 hs3 hs4 hs5 b01 b11 b21 b22 b23 b13 b14 b15 b0 b1 b2 hbW
 have h34:Hid (((((w1.setCell ⟨w.heap.size+1+1,0,none⟩ (.slice a' ts.length c')).setCell ⟨w.heap.size+1+1,1,none⟩ (.int .i64 s)).setCell ⟨w.heap.size+1,0,none⟩ (.slice a' ts.length c')).setCell ⟨w.heap.size+1,1,none⟩ (.int .i64 s))=W5):=by rw [Hid,hW2.out,hW3.out,hW4.out,hW5.out]
 clear hW2 hW3 hW4 hW5
 go_wp2
 rw [h34.out]
 exact bodyPost_ret (v:=.agg #[.slice a' ts.length c',.int .i64 s]) (by simp [results,Try.results22,go_sem,q0,q1]) rfl ⟨⟨ts,s,a',c'⟩,rfl,by simp only [Hid,LogA.v];rw [HH.out.2.2],HH.out.1,HH.out.2.1⟩
theorem eqRecS_same (a b:Option Addr) (ca cb:Nat) (rs ts:List RecA) (he:ts.map RecA.v=rs.map RecA.v) (w:World) (ha:ReadsRs w a rs) (hb:ReadsRs w b ts) (hl:rs.length≤1099511627776) (hs:∀ r∈rs,r.short 1099511627776):
  Calls Try.prog 56 #[.slice a rs.length ca,.slice b ts.length cb] w fun e w'=>e=.returned (.bool true)∧Below w.heap.size w w':=by
 rcases ha.cases with rfl | ⟨b1,o1,rfl,hpos,hc1⟩
 ·obtain rfl:=mapV_nil he
  go_enter Try.func56,Try.ntmps56
  go_wp2
  refine wp_loop_rounds 1 ?_
  rw [rounds_succ]
  go_wp2
  go_ret
  exact ⟨rfl,Below.refl _ _⟩
 ·have hlen:=mapV_len he
  rcases hb.cases with rfl | ⟨b2,o2,rfl,_,hc2⟩
  ·simp at hlen;omega
  ·have HV:Hid (∀ k,k<rs.length→(ts.getD k zeroR).v=(rs.getD k zeroR).v):=fun k hk=>mapV_at he k hk
   have HS:Hid (∀ k,k<rs.length→(rs.getD k zeroR).short 1099511627776):=fun k hk=>hs _ (recD_mem rs k hk)
   have HI:Hid ((Try.prog.info? 130).map (·.size)=some 15):=by rw [Hid];kernel_rfl
   have hu:=Try.underlying130
   rw [hlen] at hc2 ⊢
   clear he hs hlen
   go_enter Try.func56,Try.ntmps56
   go_wp2
   go_loopw [5] (fun i wr=>∃ k:Nat,k≤rs.length∧i=.int .i64 k∧Below w.heap.size w wr) (fun i _=>rs.length-(intOf i).toNat)
   case atStart=>exact ⟨0,Nat.zero_le _,rfl,Below.refl _ _⟩
   case round=>
    obtain ⟨k,hk,rfl,hbl⟩:=hrel
    by_cases hlt:k<rs.length
    ·obtain ⟨h1,r1⟩:=hc1 k hlt
     obtain ⟨h2,r2⟩:=hc2 k hlt
     have hv:=HV.out k hlt
     have hsh:=HS.out k hlt
     clear hc1 hc2
     generalize rs.getD k zeroR=z at*
     generalize ts.getD k zeroR=y at*
     have HR:Hid (∀ w1,Below w.heap.size w w1→w1.rangeAt b1 (o1+k*15) z.cells∧w1.rangeAt b2 (o2+k*15) y.cells):=fun w1 hh=>⟨range_below h1 hh,range_below h2 hh⟩
     have HD:Hid (∀ w1,Below w.heap.size w w1→z.reads w1∧y.reads w1):=fun w1 hh=>⟨r1.below hh,r2.below hh⟩
     clear h1 h2 r1 r2
     go_wp2_with fail
     refine wp_region_held_drew (S:=fun w'=>w'.rangeAt b1 (o1+k*15) z.cells∧w'.rangeAt b2 (o2+k*15) y.cells) (by kernel_rfl) ?_ (fun hHeld=>?_)
     ·exact HR.out _ hbl.drew
     refine tq 0 (v:=.slice (some ⟨b1,o1,none⟩) rs.length ca) rfl hHeld ?_
     try simp only [zz]
     refine tq 1 (v:=.int .i64 k) rfl hHeld ?_
     try simp only [zz]
     refine tq 2 (v:=.pointer (some ⟨b1,o1+k*15,none⟩)) rfl hHeld ?_
     try simp only [zz]
     refine tk 3 rfl (yieldsIf_load_mid (by rfl) _ _ rfl _ _ rfl z.cells _ (fun _ h=>h.1) Try.underlying130 rfl HI.out) hHeld ?_
     try simp only [zz]
     refine tq 4 (v:=.slice (some ⟨b2,o2,none⟩) rs.length cb) rfl hHeld ?_
     try simp only [zz]
     refine tq 5 (v:=.int .i64 k) rfl hHeld ?_
     try simp only [zz]
     refine tq 6 (v:=.pointer (some ⟨b2,o2+k*15,none⟩)) rfl hHeld ?_
     try simp only [zz]
     refine tk 7 rfl (yieldsIf_load_mid (by rfl) _ _ rfl _ _ rfl y.cells _ (fun _ h=>h.2) Try.underlying130 rfl HI.out) hHeld ?_
     try simp only [zz]
     refine wpAnyH_ready (rs:=[8]) (by kernel_rfl) (by simp) ?_
     refine AllReadyH.cons rfl (fun K hK=>?_) AllReadyH.nil
     go_simp
     refine (eqRec_same z y hv _ (HD.out _ hbl.drew).1 (HD.out _ hbl.drew).2 hsh).mono ?_
     rintro e w2 ⟨rfl,hb2⟩
     have hw2:Below w.heap.size w w2:=(hbl.drew).trans (hb2.mono hbl.size)
     refine hK.out _ _ (HR.out _ hw2) (fun hHeld=>?_)
     clear hK K
     try simp only [zz]
     refine tq 9 (v:=.bool false) rfl hHeld ?_
     try simp only [zz]
     refine wpAnyH_done (by kernel_rfl) ?_ _
     go_wp2_with fail
     go_roundw
     case rel=>exact ⟨k+1,by omega,by go_num,hw2⟩
     case measure=>simp [intOf];omega
    ·go_wp2
     go_ret
     exact ⟨rfl,hbl⟩
theorem eqLog_same (l t:LogA) (he:t.v=l.v) (w:World) (hr:l.reads w) (ht:t.reads w) (hl:l.short 1099511627776):
  Calls Try.prog 31 #[.agg l.cells.toArray,.agg t.cells.toArray] w fun e w'=>e=.returned (.bool true)∧Below w.heap.size w w':=by
 obtain ⟨rs,s,a,c⟩:=l
 obtain ⟨ts,s',a',c'⟩:=t
 obtain ⟨hl1,hl2⟩:=hl
 simp only [LogA.v,LogV.mk.injEq] at he
 obtain ⟨he,rfl⟩:=he
 simp only [LogA.reads,LogA.cells] at*
 obtain ⟨W,hW,b0,b1,hbW,hsW⟩:=boxes2 w [.slice a rs.length c,.int .i64 s'] [.slice a' ts.length c',.int .i64 s'] 56 56
 have C:=eqRecS_same a a' c c' rs ts he W (hr.below hbW) (ht.below hbW) hl1 hl2
 clear hsW he hl1 hl2 hr ht
 go_enter Try.func31,Try.ntmps31
 go_wp2_with fail
 rw [hW.out]
 clear hW
 refine C.mono ?_
 clear C
 rintro e w1 ⟨rfl,hb1⟩
 have x1:=(b0.below hb1 b0.lt).cell 1 _ rfl
 have y1:=(b1.below hb1 b1.lt).cell 1 _ rfl
 clear b0 b1
 go_wp2
 go_ret
 exact ⟨rfl,hbW.trans (hb1.mono hbW.size)⟩
theorem szRecS_any (a:Option Addr) (cap:Nat) (rs:List RecA) (left:Int) (w:World) (hr:ReadsRs w a rs) (hn:rs.length≤9223372036854775807) (hs:∀ r∈rs,r.short 9223372036854775807) (hl:0≤left∧left≤1048576):
  Calls Try.prog 43 #[.slice a rs.length cap,.int .i64 left] w fun e w'=>∃ z:Int,e=.returned (.int .i64 z)∧(z<0∨(0≤z∧z≤left∧rs.length≤1048576∧∀ r∈rs,r.short 1048576))∧Below w.heap.size w w':=by
 have HI:Hid ((Try.prog.info? 126).map (·.size)=some 15):=by rw [Hid];kernel_rfl
 by_cases hle:left-rs.length<0
 ·go_enter Try.func43,Try.ntmps43
  go_wp2
  go_ret
  exact ⟨-1,rfl,.inl (by omega),Below.refl _ _⟩
 have HS:Hid (∀ k,k<rs.length→(rs.getD k zeroR).short 9223372036854775807):=fun k hk=>hs _ (recD_mem rs k hk)
 have hlen:rs.length≤1048576:=by omega
 have HC:Hid (∀ k,k<rs.length→∃ b off,a=some ⟨b,off,none⟩∧w.rangeAt b (off+k*15) (rs.getD k zeroR).cells):=fun k hk=>by
  obtain ⟨b,off,ha,hc⟩:=hr (by intro e;rw [e] at hk;simp at hk)
  exact ⟨b,off,ha,(hc k hk).1⟩
 have HA:Hid ((∀ k,k<rs.length→(rs.getD k zeroR).short 1048576)→∀ r∈rs,r.short 1048576):=by
  intro h r hr
  obtain ⟨k,hk,rfl⟩:=List.getElem_of_mem hr
  have:=h k hk
  simpa [List.getD,hk] using this
 clear hr hs
 go_enter Try.func43,Try.ntmps43
 go_wp2
 go_loopw [1,5] (fun v i wr=>∃ (k:Nat) (z:Int),k≤rs.length∧i=.int .i64 k∧v=.int .i64 z∧0≤z∧z≤left∧Hid (∀ j,j<k→(rs.getD j zeroR).short 1048576)∧Below w.heap.size w wr) (fun _ i _=>rs.length-(intOf i).toNat)
 case atStart=>exact ⟨0,left-rs.length,Nat.zero_le _,rfl,by go_num,by omega,by omega,fun j hj=>by omega,Below.refl _ _⟩
 case round=>
  obtain ⟨k,z,hk,rfl,rfl,hz0,hz1,hsh,hbl⟩:=hrel
  by_cases hlt:k<rs.length
  ·obtain ⟨b,off,rfl,hcell⟩:=HC.out k hlt
   have HR:Hid (wr.rangeAt b (off+k*15) (rs.getD k zeroR).cells):=range_below hcell hbl
   have C:=szRec_any (rs.getD k zeroR) z wr (HS.out k hlt) (by omega)
   clear hcell HC
   have HN:Hid ((rs.getD k zeroR).short 1048576→∀ j,j<k+1→(rs.getD j zeroR).short 1048576):=fun h j hj=>by
    by_cases e:j=k
    ·rw [e];exact h
    ·exact hsh.out j (by omega)
   generalize rs.getD k zeroR=y at*
   go_wp2_with (first | (guard_target=wpList _ _ _ (Oper.mk (some 21) _ _ _ _ _::_) _ _;refine wpList_load_mid rfl 126 (.tmp 20) rfl b (off+k*15) rfl y.cells _ HR.out Try.underlying126 rfl HI.out ?_) | fail)
   refine C.mono ?_
   clear C HR
   rintro e w1 ⟨z1,rfl,hz,hb1⟩
   have hB1:Below w.heap.size w w1:=hbl.trans (hb1.mono hbl.size)
   rcases hz with hneg | ⟨g0,g1,g2⟩
   ·go_wp2
    go_ret
    exact ⟨-1,rfl,.inl (by omega),hB1⟩
   ·have hzn:¬ z1<0:=by omega
    have HH:=HN.out g2
    go_wp2
    go_roundw
    case rel=>exact ⟨k+1,z1,by omega,by go_num,rfl,g0,by omega,HH,hB1⟩
    case measure=>simp [intOf];omega
  ·have HE:Hid (∀ r∈rs,r.short 1048576):=HA.out (fun j hj=>hsh.out j (by omega))
   go_wp2
   go_ret
   exact ⟨z,rfl,.inr ⟨hz0,hz1,hlen,HE.out⟩,hbl⟩
theorem szLog_any (l:LogA) (left:Int) (w:World) (hr:l.reads w) (hs:l.short 9223372036854775807) (hl:0≤left∧left≤1048576):
  Calls Try.prog 15 #[.agg l.cells.toArray,.int .i64 left] w fun e w'=>∃ z:Int,e=.returned (.int .i64 z)∧(z<0∨(0≤z∧z≤left∧l.short 1048576))∧Below w.heap.size w w':=by
 obtain ⟨rs,s,a,c⟩:=l
 obtain ⟨hl1,hl2⟩:=hs
 simp only [LogA.reads,LogA.cells] at*
 obtain ⟨W,hW,b0,hbW,hsW⟩:=boxes1 w [.slice a rs.length c,.int .i64 s] 36
 have C:=szRecS_any a c rs left W (hr.below hbW) hl1 hl2 hl
 clear hsW hr hl1 hl2
 go_enter Try.func15,Try.ntmps15
 go_wp2_with fail
 rw [hW.out]
 clear hW
 refine C.mono ?_
 clear C
 rintro e w1 ⟨z,rfl,hz,hb1⟩
 have hB:Below w.heap.size w w1:=hbW.trans (hb1.mono hbW.size)
 rcases hz with hneg | ⟨h0,h1,h2,h3⟩
 ·go_wp2
  go_ret
  exact ⟨-1,rfl,.inl (by omega),hB⟩
 ·have hzn:¬ z<0:=by omega
  go_wp2
  go_ret
  exact ⟨z,rfl,.inr ⟨h0,h1,h2,h3⟩,hB⟩
end Go.Proofs.Ytfehemepdoomdaa