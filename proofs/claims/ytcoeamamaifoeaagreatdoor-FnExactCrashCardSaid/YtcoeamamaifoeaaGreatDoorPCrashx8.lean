/- Several texts in one, in their order. -/
import Derived.Test.YtcoeamamaifoeaaGreatDoorPCrashx1
import Derived.ProofKit
import Derived.OpenShut
import Derived.ChangeOld
import Derived.Test.YtcoeamamaifoeaaGreatDoorPCrashx2
import Derived.ChangeArms
import Derived.Test.YtcoeamamaifoeaaGreatDoorPCrashx4
import Derived.Test.YtcoeamamaifoeaaGreatDoorPCrashx5
import Derived.Test.YtcoeamamaifoeaaGreatDoorProg
import Derived.LaidEql
import Derived.Stop.Asserts
import Derived.RowKitTokens
set_option maxHeartbeats 8000000
set_option maxRecDepth 100000
namespace Go.Proofs.YtcoeamamaifoeaaGreatDoor
open Go.ChangeShapes Go.WideShapes Go.ChangeAt Go.RowKit
def InI64 (z:Int):Prop:= -9223372036854775808≤z∧z≤9223372036854775807
theorem wf_i64 {z:Int} (h:(Lit.int .i64 z).wf=true):InI64 z:=by
 simp [Lit.wf,IntKind.min,IntKind.max,IntKind.signed,IntKind.bits] at h
 unfold InI64;omega
theorem some_at {α:Type} (xs:List α) (i:Nat) (h:i<xs.length):∃ y,xs[i]? =some y:=⟨_,List.getElem?_eq_getElem h⟩
section
variable {H:Type} {enc:TypeId × Value→H} {w:World} {base:Nat} {spare:Nat→Bool} {held:Bool}
theorem trod_ints {fuel:Nat} {cs:List Value} {x:DataW H × List MemPlace} (h:DataW.trod enc Tryz.prog w base spare held fuel 22 cs=some x):
  ∃ (a:Option Addr) (c:Nat) (ns:List Int),cs=[.slice a ns.length c]∧ReadsI w a ns∧(a=none→c=0)∧ns.length≤maxLen∧∀ z∈ns,InI64 z:=by
 rcases open_ints Tryz.underlying22 Tryz.underlying3 (by kernel_rfl) h with ⟨rfl,_⟩ | ⟨a,len,cap,zs,rfl,_,hl,hm,hz,_,hcell,hwf⟩
 ·exact ⟨none,0,[],rfl,fun h=>absurd rfl h,fun _=>rfl,by simp,by simp⟩
 ·have hlz:len≤zs.length:=by rw [hz];split<;>omega
  refine ⟨some a,cap,zs.take len,by simp;omega,?_,(fun h=>by cases h),by simp;omega,fun z hzz=>wf_i64 (hwf z (List.mem_of_mem_take hzz))⟩
  intro hne
  have hpos:=List.length_pos_iff.2 hne
  simp at hpos
  obtain ⟨b,off,spot⟩:=a
  have hc0:=hcell 0 (by omega)
  have hspot:spot=none:=by simpa [Addr.add] using World.cell?_spot hc0
  subst hspot
  refine ⟨b,off,rfl,fun i hi=>?_⟩
  have hi':i<len:=by simp at hi;omega
  have:=hcell i (by omega)
  have e:(List.take len zs).getD i 0=zs.getD i 0:=by simp [List.getD,hi']
  rw [e,← Addr_add]
  exact this
theorem trod_num {fuel:Nat} {cs:List Value} {x:DataW H × List MemPlace} (h:DataW.trod enc Tryz.prog w base spare held fuel 3 cs=some x):∃ n:Int,cs=[.int .i64 n]∧InI64 n:=by
 obtain ⟨n,rfl,_,hw⟩:=DataW.trod_int Tryz.underlying3 h
 exact ⟨n,rfl,wf_i64 hw⟩
theorem Tryz.cellsI:Tryz.prog.cellsOf 3=1:=by kernel_rfl
theorem Tryz.cellsIs:Tryz.prog.cellsOf 22=1:=by kernel_rfl
theorem Tryz.cellsO:Tryz.prog.cellsOf 24=3:=by kernel_rfl
theorem trod_obj {fuel:Nat} {cs:List Value} {x:DataW H × List MemPlace} (h:DataW.trod enc Tryz.prog w base spare held fuel 24 cs=some x):
  ∃ (o:ObjV) (aI:Option Addr) (cI:Nat) (aR:Option Addr) (cR:Nat),cs=[.int .i64 o.kind,.slice aI o.ints.length cI,.slice aR o.refs.length cR]∧ReadsO w aI cI aR cR o∧o.ints.length≤maxLen∧o.refs.length≤maxLen∧InI64 o.kind∧(∀ z∈o.ints,InI64 z)∧(∀ z∈o.refs,InI64 z):=by
 obtain ⟨xs,n,_,_,hlen,hxl,hf⟩:=DataW.trod_struct Tryz.underlying24 h
 rw [Tryz.cellsO] at hlen
 match cs,hlen with
 | [v0,v1,v2],_=>
  have f0:=hf 0 _ rfl
  have f1:=hf 1 _ rfl
  have f2:=hf 2 _ rfl
  obtain ⟨y0,hx0⟩:=some_at xs 0 (by rw [hxl];decide)
  obtain ⟨y1,hx1⟩:=some_at xs 1 (by rw [hxl];decide)
  obtain ⟨y2,hx2⟩:=some_at xs 2 (by rw [hxl];decide)
  rw [hx0] at f0
  rw [hx1] at f1
  rw [hx2] at f2
  simp only [List.getElem_toArray,List.getElem_cons_zero,List.getElem_cons_succ,Tryz.cellsI,Tryz.cellsIs,List.drop,List.take] at f0 f1 f2
  obtain ⟨k,e0,wk⟩:=trod_num f0
  obtain ⟨aI,cI,ints,e1,hI,nI,lI,wI⟩:=trod_ints f1
  obtain ⟨aR,cR,refs,e2,hR,nR,lR,wR⟩:=trod_ints f2
  simp only [List.cons.injEq,and_true] at e0 e1 e2
  subst e0 e1 e2
  exact ⟨⟨k,ints,refs⟩,aI,cI,aR,cR,rfl,⟨hI,hR,nI,nR⟩,lI,lR,wk,wI,wR⟩
end
end Go.Proofs.YtcoeamamaifoeaaGreatDoor
namespace Go.Proofs.YtcoeamamaifoeaaGreatDoor
open Go.ChangeShapes Go.WideShapes Go.ChangeAt Go.RowKit
structure InSlot (w:World) (s:SlotA):Prop where
 reads:s.reads w
 lI:s.v.o.ints.length≤maxLen
 lR:s.v.o.refs.length≤maxLen
 kind:InI64 s.v.o.kind
 ints:∀ z∈s.v.o.ints,InI64 z
 refs:∀ z∈s.v.o.refs,InI64 z
section
variable {H:Type} {enc:TypeId × Value→H} {w:World} {base:Nat} {spare:Nat→Bool} {held:Bool}
theorem Tryz.cellsB:Tryz.prog.cellsOf 4=1:=by kernel_rfl
theorem Tryz.cellsSl:Tryz.prog.cellsOf 26=4:=by kernel_rfl
theorem Tryz.cellsSl4:Tryz.prog.cellsOf 27=16:=by kernel_rfl
theorem Tryz.cellsPg:Tryz.prog.cellsOf 29=17:=by kernel_rfl
theorem trod_slot {fuel:Nat} {cs:List Value} {x:DataW H × List MemPlace} (h:DataW.trod enc Tryz.prog w base spare held fuel 26 cs=some x):
  ∃ s:SlotA,cs=s.cells∧InSlot w s:=by
 obtain ⟨xs,n,_,_,hlen,hxl,hf⟩:=DataW.trod_struct Tryz.underlying26 h
 rw [Tryz.cellsSl] at hlen
 match cs,hlen with
 | [v0,v1,v2,v3],_=>
  have f0:=hf 0 _ rfl
  have f1:=hf 1 _ rfl
  obtain ⟨y0,hx0⟩:=some_at xs 0 (by rw [hxl];decide)
  obtain ⟨y1,hx1⟩:=some_at xs 1 (by rw [hxl];decide)
  rw [hx0] at f0
  rw [hx1] at f1
  simp only [List.getElem_toArray,List.getElem_cons_zero,List.getElem_cons_succ,Tryz.cellsB,Tryz.cellsO,List.drop,List.take] at f0 f1
  obtain ⟨b,e0,_⟩:=DataW.trod_bool Tryz.underlying4 f0
  obtain ⟨o,aI,cI,aR,cR,e1,hr,lI,lR,wk,wI,wR⟩:=trod_obj f1
  simp only [List.cons.injEq,and_true] at e0 e1
  obtain ⟨rfl,rfl,rfl⟩:=e1
  subst e0
  exact ⟨⟨⟨b,o⟩,aI,cI,aR,cR⟩,rfl,hr,lI,lR,wk,wI,wR⟩
theorem four_of (cs:List Value) (h:cs.length=16) (f:∀ i,i<4→∃ s:SlotA,(cs.drop (i*4)).take 4=s.cells∧InSlot w s):∃ ss:List SlotA,ss.length=4∧cs=cellsS ss∧∀ s∈ss,InSlot w s:=by
 obtain ⟨s0,e0,h0⟩:=f 0 (by omega)
 obtain ⟨s1,e1,h1⟩:=f 1 (by omega)
 obtain ⟨s2,e2,h2⟩:=f 2 (by omega)
 obtain ⟨s3,e3,h3⟩:=f 3 (by omega)
 refine ⟨[s0,s1,s2,s3],rfl,?_,?_⟩
 ·simp only [cellsS,List.flatMap_cons,List.flatMap_nil,List.append_nil,← e0,← e1,← e2,← e3]
  simp only [Nat.zero_mul,Nat.one_mul,List.drop_zero]
  have d:∀ (l:List Value) (k:Nat),l.drop k=(l.drop k).take 4++l.drop (k+4):=fun l k=>by rw [← List.drop_drop,List.take_append_drop]
  have a0:=d cs 0
  have a1:=d cs 4
  have a2:=d cs 8
  have a3:=d cs 12
  rw [List.drop_zero] at a0
  have a4:cs.drop (12+4)=[]:=List.drop_eq_nil_of_le (by omega)
  rw [a4,List.append_nil] at a3
  simp only [show 0+4=4 from rfl,show 4+4=8 from rfl,show 8+4=12 from rfl,show 2*4=8 from rfl,show 3*4=12 from rfl] at*
  conv=>lhs;rw [a0,a1,a2,a3]
 ·intro s hs
  simp only [List.mem_cons,List.not_mem_nil,or_false] at hs
  rcases hs with rfl | rfl | rfl | rfl<;>assumption
theorem trod_page {fuel:Nat} {cs:List Value} {x:DataW H × List MemPlace} (h:DataW.trod enc Tryz.prog w base spare held fuel 29 cs=some x):
  ∃ p:PageA,cs=p.cells∧p.ss.length=4∧InI64 p.lsn∧∀ s∈p.ss,InSlot w s:=by
 obtain ⟨xs,n,_,_,hlen,hxl,hf⟩:=DataW.trod_struct Tryz.underlying29 h
 rw [Tryz.cellsPg] at hlen
 obtain ⟨v0,r,rfl⟩:∃ v0 r,cs=v0::r:=by
  cases cs with
  | nil=>simp at hlen
  | cons v r=>exact ⟨v,r,rfl⟩
 have hr16:r.length=16:=by simpa using hlen
 have f0:=hf 0 _ rfl
 have f1:=hf 1 _ rfl
 obtain ⟨y0,hx0⟩:=some_at xs 0 (by rw [hxl];decide)
 obtain ⟨y1,hx1⟩:=some_at xs 1 (by rw [hxl];decide)
 rw [hx0] at f0
 rw [hx1] at f1
 simp only [List.getElem_toArray,List.getElem_cons_zero,List.getElem_cons_succ,Tryz.cellsI,Tryz.cellsSl4,List.drop_zero,List.drop_succ_cons,List.take_succ_cons,List.take_zero] at f0 f1
 rw [List.take_of_length_le (by omega)] at f1
 obtain ⟨k,e0,wk⟩:=trod_num f0
 obtain ⟨ys,m,_,_,_,hyl,hg⟩:=DataW.trod_array Tryz.underlying27 f1
 obtain ⟨ss,h4,e1,hs⟩:=four_of (w:=w) r hr16 (fun i hi=>by
  have g:=hg i hi
  obtain ⟨y,hy⟩:=some_at ys i (by omega)
  rw [hy,Tryz.cellsSl] at g
  exact trod_slot g)
 simp only [List.cons.injEq,and_true] at e0
 subst e0 e1
 exact ⟨⟨k,ss⟩,rfl,h4,wk,hs⟩
end
end Go.Proofs.YtcoeamamaifoeaaGreatDoor
namespace Go.Proofs.YtcoeamamaifoeaaGreatDoor
open Go.ChangeShapes Go.WideShapes Go.ChangeAt Go.RowKit
structure InRec (w:World) (r:RecA):Prop where
 bf:InSlot w r.bf
 af:InSlot w r.af
 txs:ReadsL w r.aL r.txs
 lT:r.txs.length≤maxLen
 nums:InI64 r.lsn∧InI64 r.tx∧InI64 r.prev∧InI64 r.kind∧InI64 r.oid∧InI64 r.next
theorem InRec.reads {w:World} {r:RecA} (h:InRec w r):r.reads w:=⟨h.bf.reads,h.af.reads,h.txs⟩
section
variable {H:Type} {enc:TypeId × Value→H} {w:World} {base:Nat} {spare:Nat→Bool} {held:Bool}
theorem Tryz.cellsLv:Tryz.prog.cellsOf 111=3:=by kernel_rfl
theorem Tryz.cellsLvs:Tryz.prog.cellsOf 37=1:=by kernel_rfl
theorem Tryz.cellsRc:Tryz.prog.cellsOf 131=15:=by kernel_rfl
theorem trod_live {fuel:Nat} {cs:List Value} {x:DataW H × List MemPlace} (h:DataW.trod enc Tryz.prog w base spare held fuel 111 cs=some x):∃ t:LiveV,cs=t.cells:=by
 obtain ⟨xs,n,_,_,hlen,hxl,hf⟩:=DataW.trod_struct Tryz.underlying111 h
 rw [Tryz.cellsLv] at hlen
 match cs,hlen with
 | [v0,v1,v2],_=>
  have f0:=hf 0 _ rfl
  have f1:=hf 1 _ rfl
  have f2:=hf 2 _ rfl
  obtain ⟨y0,hx0⟩:=some_at xs 0 (by rw [hxl];decide)
  obtain ⟨y1,hx1⟩:=some_at xs 1 (by rw [hxl];decide)
  obtain ⟨y2,hx2⟩:=some_at xs 2 (by rw [hxl];decide)
  rw [hx0] at f0
  rw [hx1] at f1
  rw [hx2] at f2
  simp only [List.getElem_toArray,List.getElem_cons_zero,List.getElem_cons_succ,Tryz.cellsB,Tryz.cellsI,List.drop,List.take] at f0 f1 f2
  obtain ⟨a,e0,_⟩:=trod_num f0
  obtain ⟨b,e1,_⟩:=trod_num f1
  obtain ⟨c,e2,_⟩:=DataW.trod_bool Tryz.underlying4 f2
  simp only [List.cons.injEq,and_true] at e0 e1 e2
  subst e0 e1 e2
  exact ⟨⟨a,b,c⟩,rfl⟩
theorem trod_lives {fuel:Nat} {cs:List Value} {x:DataW H × List MemPlace} (h:DataW.trod enc Tryz.prog w base spare held fuel 37 cs=some x):
  ∃ (a:Option Addr) (c:Nat) (ls:List LiveV),cs=[.slice a ls.length c]∧ReadsL w a ls∧ls.length≤maxLen:=by
 rcases DataW.trod_slice Tryz.underlying37 h with ⟨rfl,_⟩ | ⟨a,len,cap,elems,rest,n,_,rfl,_,_,hl,hm,hlen,hel,_,_⟩
 ·exact ⟨none,0,[],rfl,ReadsL.nil _ _,by simp⟩
 rw [Tryz.cellsLv] at hel
 have each:∀ i,i<len→∃ t:LiveV,w.cells? base (a.add (i*3)) 3=some t.cells:=by
  intro i hi
  have hy:=hel i hi
  rw [List.getElem?_eq_getElem (by omega:i<elems.length),Option.bind_eq_some_iff] at hy
  obtain ⟨cs',hcs,hy'⟩:=hy
  obtain ⟨t,e⟩:=trod_live hy'
  exact ⟨t,by rw [hcs,e]⟩
 obtain ⟨f,hf⟩:∃ f:Nat→LiveV,∀ i,i<len→w.cells? base (a.add (i*3)) 3=some (f i).cells:=by
  refine ⟨fun i=>if h:i<len then (each i h).choose else zeroL,fun i hi=>?_⟩
  simp only [dif_pos hi]
  exact (each i hi).choose_spec
 refine ⟨some a,cap,(List.range len).map f,by simp,?_,by simp;omega⟩
 intro hne
 have hpos:=List.length_pos_iff.2 hne
 simp only [List.length_map,List.length_range] at hpos ⊢
 obtain ⟨b,off,spot⟩:=a
 have c0:=(World.cells?_some (hf 0 hpos)).2.2 0 (by decide)
 have hspot:spot=none:=by simpa [Addr.add] using World.cell?_spot c0
 subst hspot
 refine ⟨b,off,rfl,fun k hk=>?_⟩
 have e:((List.range len).map f).getD k zeroL=f k:=by simp [List.getD,hk]
 rw [e]
 have hc:=(World.cells?_some (hf k hk)).2.2
 have d0:=hc 0 (by decide)
 have d1:=hc 1 (by decide)
 have d2:=hc 2 (by decide)
 simp only [Addr_add,LiveV.cells] at d0 d1 d2
 exact ⟨by simpa using d0,by simpa using d1,by simpa using d2⟩
theorem trod_rec {fuel:Nat} {cs:List Value} {x:DataW H × List MemPlace} (h:DataW.trod enc Tryz.prog w base spare held fuel 131 cs=some x):
  ∃ r:RecA,cs=r.cells∧InRec w r:=by
 obtain ⟨xs,n,_,_,hlen,hxl,hf⟩:=DataW.trod_struct Tryz.underlying131 h
 rw [Tryz.cellsRc] at hlen
 match cs,hlen with
 | [v0,v1,v2,v3,v4,v5,v6,v7,v8,v9,v10,v11,v12,v13,v14],_=>
  have f0:=hf 0 _ rfl
  have f1:=hf 1 _ rfl
  have f2:=hf 2 _ rfl
  have f3:=hf 3 _ rfl
  have f4:=hf 4 _ rfl
  have f5:=hf 5 _ rfl
  have f6:=hf 6 _ rfl
  have f7:=hf 7 _ rfl
  have f8:=hf 8 _ rfl
  obtain ⟨y0,hx0⟩:=some_at xs 0 (by rw [hxl];decide)
  rw [hx0] at f0
  obtain ⟨y1,hx1⟩:=some_at xs 1 (by rw [hxl];decide)
  rw [hx1] at f1
  obtain ⟨y2,hx2⟩:=some_at xs 2 (by rw [hxl];decide)
  rw [hx2] at f2
  obtain ⟨y3,hx3⟩:=some_at xs 3 (by rw [hxl];decide)
  rw [hx3] at f3
  obtain ⟨y4,hx4⟩:=some_at xs 4 (by rw [hxl];decide)
  rw [hx4] at f4
  obtain ⟨y5,hx5⟩:=some_at xs 5 (by rw [hxl];decide)
  rw [hx5] at f5
  obtain ⟨y6,hx6⟩:=some_at xs 6 (by rw [hxl];decide)
  rw [hx6] at f6
  obtain ⟨y7,hx7⟩:=some_at xs 7 (by rw [hxl];decide)
  rw [hx7] at f7
  obtain ⟨y8,hx8⟩:=some_at xs 8 (by rw [hxl];decide)
  rw [hx8] at f8
  simp only [List.getElem_toArray,List.getElem_cons_zero,List.getElem_cons_succ,Tryz.cellsI,Tryz.cellsSl,Tryz.cellsLvs,List.drop,List.take] at f0 f1 f2 f3 f4 f5 f6 f7 f8
  obtain ⟨n0,e0,w0⟩:=trod_num f0
  obtain ⟨n1,e1,w1⟩:=trod_num f1
  obtain ⟨n2,e2,w2⟩:=trod_num f2
  obtain ⟨n3,e3,w3⟩:=trod_num f3
  obtain ⟨n4,e4,w4⟩:=trod_num f4
  obtain ⟨n5,e5,w5⟩:=trod_num f7
  obtain ⟨s,e6,hs⟩:=trod_slot f5
  obtain ⟨u,e7,hu⟩:=trod_slot f6
  obtain ⟨aL,cL,ls,e8,hL,lL⟩:=trod_lives f8
  simp only [SlotA.cells,List.cons.injEq,and_true] at e0 e1 e2 e3 e4 e5 e6 e7 e8
  obtain ⟨g0,g1,g2,g3⟩:=e6
  obtain ⟨k0,k1,k2,k3⟩:=e7
  subst e0 e1 e2 e3 e4 e5 e8 g0 g1 g2 g3 k0 k1 k2 k3
  exact ⟨⟨n0,n1,n2,n3,n4,s,u,n5,ls,aL,cL⟩,rfl,hs,hu,hL,lL,w0,w1,w2,w3,w4,w5⟩
end
end Go.Proofs.YtcoeamamaifoeaaGreatDoor
namespace Go.Proofs.YtcoeamamaifoeaaGreatDoor
open Go.RowKit
def zeroR:RecA:=⟨0,0,0,0,0,zeroS,zeroS,0,[],none,0⟩
theorem short_of {r t:RecA} {m:Nat} (h:t.v=r.v) (hl:r.short m):t.short m:=by
 simp only [RecA.v,RecV.mk.injEq] at h
 obtain ⟨_,_,_,_,_,h1,h2,_,h3⟩:=h
 exact ⟨by rw [h1];exact hl.bf,by rw [h2];exact hl.af,by rw [h3];exact hl.txs⟩
theorem short_wide {r:RecA} (hl:r.short 1048576):r.short 1099511627776:=⟨by have:=hl.bf;omega,by have:=hl.af;omega,by have:=hl.txs;omega⟩
theorem InRec.short {w:World} {r:RecA} (h:InRec w r):r.short 9223372036854775807:=by
 have h1:=h.bf.lI
 have h2:=h.bf.lR
 have h3:=h.af.lI
 have h4:=h.af.lR
 have h5:=h.lT
 simp only [maxLen] at h1 h2 h3 h4 h5
 exact ⟨by omega,by omega,by omega⟩
theorem RecA.own.blocks_lt {w:World} {lo hi:Nat} {r:RecA} (h:r.own w lo hi):∀ k∈r.blocks,lo≤k∧k<hi:=by
 intro k hk
 simp only [RecA.blocks,List.mem_append,Option.mem_toList] at hk
 rcases hk with h1 | h1 | h1
 ·exact SlotA.blocks_lt h.bf k h1
 ·exact SlotA.blocks_lt h.af k h1
 ·exact h.txs.lt k h1
theorem toRec_law (r:RecA) (w:World) (hr:r.reads w) (hl:r.short 1048576):
  Calls Tryz.prog 92 #[.agg r.cells.toArray] w fun e w'=>∃ t:RecA,e=.returned (.agg t.cells.toArray)∧Hid (t.v=r.v)∧t.own w' w.heap.size w'.heap.size∧Below w.heap.size w w':=
 toRec_own r w hr (short_wide hl).bf (short_wide hl).af (short_wide hl).txs
def cellsRs (rs:List RecA):List Value:=rs.flatMap RecA.cells
theorem cellsR_len (r:RecA):r.cells.length=15:=rfl
theorem cellsRs_len (rs:List RecA):(cellsRs rs).length=rs.length*15:=by
 induction rs with
 | nil=>rfl
 | cons s r ih=>simp only [cellsRs,List.flatMap_cons,List.length_append,cellsR_len,List.length_cons] at *;omega
theorem cellsRs_app (a b:List RecA):cellsRs (a++b)=cellsRs a++cellsRs b:=by simp [cellsRs]
theorem cellsRs_cons (r:RecA) (b:List RecA):cellsRs (r::b)=r.cells++cellsRs b:=by simp [cellsRs]
theorem cellsRs_at (rs:List RecA) (k j:Nat) (hk:k<rs.length) (hj:j<15):(cellsRs rs)[k*15+j]? =(rs.getD k zeroR).cells[j]? :=by
 induction rs generalizing k with
 | nil=>simp at hk
 | cons s r ih=>
  rw [cellsRs_cons]
  cases k with
  | zero=>rw [List.getElem?_append_left (by rw [cellsR_len];omega)];simp
  | succ k=>
   rw [List.getElem?_append_right (by rw [cellsR_len];omega),cellsR_len]
   have:=ih k (by simpa using hk)
   rw [show (k+1)*15+j-15=k*15+j by omega,this]
   simp
theorem recD_mem (rs:List RecA) (k:Nat) (hk:k<rs.length):rs.getD k zeroR∈rs:=by
 have e:rs.getD k zeroR=rs[k]:=by simp [List.getD,hk]
 rw [e]
 exact List.getElem_mem hk
theorem rangeAt_below {w w':World} {b o n:Nat} {cs:List Value} (h:w.rangeAt b o cs) (hb:Below n w w') (hn:b<n):w'.rangeAt b o cs:=fun j v hv=>(hb.cell (p:=⟨b,o+j,none⟩) hn).trans (h j v hv)
theorem rangeR_lt {w:World} {b o:Nat} {r:RecA} (h:w.rangeAt b o r.cells):b<w.heap.size:=block_lt (h 0 _ rfl)
def ReadsRs (w:World) (a:Option Addr) (rs:List RecA):Prop:=rs≠[]→∃ b off,a=some ⟨b,off,none⟩∧∀ k,k<rs.length→w.rangeAt b (off+k*15) (rs.getD k zeroR).cells∧(rs.getD k zeroR).reads w
theorem ReadsRs.nil (w:World) (a:Option Addr):ReadsRs w a []:=fun h=>absurd rfl h
theorem ReadsRs.below {w w':World} {a:Option Addr} {rs:List RecA} (h:ReadsRs w a rs) (hb:Below w.heap.size w w'):ReadsRs w' a rs:=by
 intro hne
 obtain ⟨b,off,ha,hc⟩:=h hne
 refine ⟨b,off,ha,fun k hk=>?_⟩
 obtain ⟨h0,h1⟩:=hc k hk
 exact ⟨rangeAt_below h0 hb (rangeR_lt h0),h1.below hb⟩
theorem ReadsRs.cases {w:World} {a:Option Addr} {rs:List RecA} (h:ReadsRs w a rs):rs=[]∨∃ b off,a=some ⟨b,off,none⟩∧0<rs.length∧∀ k,k<rs.length→w.rangeAt b (off+k*15) (rs.getD k zeroR).cells∧(rs.getD k zeroR).reads w:=by
 by_cases e:rs=[]
 ·exact .inl e
 ·obtain ⟨b,off,ha,hc⟩:=h e
  exact .inr ⟨b,off,ha,List.length_pos_iff.2 e,hc⟩
structure OwnRs (w:World) (lo hi:Nat) (a:Option Addr) (c:Nat) (rs:List RecA):Prop where
 row:w.ownsRow lo 100 15 (.slice a rs.length c) rs.length (cellsRs rs)
 top:hi≤w.heap.size
 blk:∀ k,(Value.slice a rs.length c).ownBlock=some k→k<hi
 each:∀ r∈rs,r.own w lo hi
 apart:((Value.slice a rs.length c).ownBlock.toList++rs.flatMap RecA.blocks).Nodup
def blocksRs (a:Option Addr) (c:Nat) (rs:List RecA):List Nat:=(Value.slice a rs.length c).ownBlock.toList++rs.flatMap RecA.blocks
theorem OwnRs.blocks_lt {w:World} {lo hi:Nat} {a:Option Addr} {c:Nat} {rs:List RecA} (h:OwnRs w lo hi a c rs):∀ k∈blocksRs a c rs,lo≤k∧k<hi:=by
 intro k hk
 simp only [blocksRs,List.mem_append,List.mem_flatMap,Option.mem_toList] at hk
 rcases hk with h1 | ⟨r,hr,h1⟩
 ·exact ⟨(h.row.lt k h1).1,h.blk k h1⟩
 ·exact (h.each r hr).blocks_lt k h1
theorem RecA.own.touch {w w':World} {lo hi:Nat} {r:RecA} {bl:List Nat} (h:r.own w lo hi) (ht:Touch bl w w') (hd:∀ k∈r.blocks,k∉bl):r.own w' lo hi:=
 ⟨SlotA.touch h.bf ht (fun k hk=>hd k (List.mem_append.2 (.inl hk))),SlotA.touch h.af ht (fun k hk=>hd k (List.mem_append.2 (.inr (List.mem_append.2 (.inl hk))))),h.txs.touch ht (fun k hk=>hd k (List.mem_append.2 (.inr (List.mem_append.2 (.inr (Option.mem_toList.2 hk)))))),h.apart⟩
theorem OwnRs.touch {w w':World} {lo hi:Nat} {a:Option Addr} {c:Nat} {rs:List RecA} {bl:List Nat} (h:OwnRs w lo hi a c rs) (ht:Touch bl w w') (hd:∀ k∈blocksRs a c rs,k∉bl):OwnRs w' lo hi a c rs:=
 ⟨ownsRow_block h.row (fun k hk=>ht.block k (h.row.lt k hk).2 (hd k (List.mem_append.2 (.inl (Option.mem_toList.2 hk))))),Nat.le_trans h.top ht.size,h.blk,fun r hr=>(h.each r hr).touch ht (fun k hk=>hd k (List.mem_append.2 (.inr (List.mem_flatMap.2 ⟨r,hr,hk⟩)))),h.apart⟩
theorem OwnRs.within {w w':World} {lo hi l r:Nat} {a:Option Addr} {c:Nat} {rs:List RecA} (h:OwnRs w lo hi a c rs) (hw:Within l r w w') (hd:hi≤l∨r≤lo):OwnRs w' lo hi a c rs:=
 ⟨ownsRow_block h.row (fun k hk=>hw.block k (by have:=h.blk k hk;have:=h.top;omega) (by have:=h.blk k hk;have:=(h.row.lt k hk).1;omega)),Nat.le_trans h.top hw.size,h.blk,fun x hx=>(h.each x hx).within hw hd,h.apart⟩
theorem OwnRs.below {w w':World} {lo hi:Nat} {a:Option Addr} {c:Nat} {rs:List RecA} (h:OwnRs w lo hi a c rs) (hb:Below w.heap.size w w'):OwnRs w' lo hi a c rs:=
 h.within (Within.of_below (lo:=w.heap.size) (hi:=w.heap.size) hb) (.inl h.top)
theorem OwnRs.widen {w:World} {lo hi lo' hi':Nat} {a:Option Addr} {c:Nat} {rs:List RecA} (h:OwnRs w lo hi a c rs) (h1:lo'≤lo) (h2:hi≤hi') (h3:hi'≤w.heap.size):OwnRs w lo' hi' a c rs:=
 ⟨ownsRow_base h.row (fun k hk=>by have:=(h.row.lt k hk).1;omega),h3,fun k hk=>by have:=h.blk k hk;omega,fun x hx=>(h.each x hx).widen h1 h2 h3,h.apart⟩
theorem ownRs_nil (w:World) (lo hi:Nat) (h:hi≤w.heap.size):OwnRs w lo hi none 0 []:=⟨⟨by simp [cellsRs],.inl ⟨rfl,rfl⟩⟩,h,(fun k hk=>by cases hk),(fun r hr=>by simp at hr),by simp [Value.ownBlock]⟩
theorem OwnRs.nocap {w:World} {lo hi:Nat} {a:Option Addr} {c:Nat} {rs:List RecA} (h:OwnRs w lo hi a c rs):a=none→c=0:=by
 intro ha
 rcases h.row.2 with ⟨hv,_⟩ | ⟨g,cap,cur,hv,_⟩
 ·simp only [Value.slice.injEq] at hv;exact hv.2.2
 ·simp [ha] at hv
theorem row_rec {w:World} {base g n cap:Nat} {rs:List RecA} (h:w.ownsRow base 100 15 (.slice (some ⟨g,0,none⟩) n cap) n (cellsRs rs)) (hn:rs.length=n) (k:Nat) (hk:k<n):
  w.rangeAt g (k*15) (rs.getD k zeroR).cells∧w.there g (k*15) 15:=by
 refine ⟨fun j v hv=>?_,fun j hj=>?_⟩
 ·have hj:j<15:=by have:=(List.getElem?_eq_some_iff.1 hv).1;rwa [cellsR_len] at this
  rw [h.cellAt (k*15+j) (by omega),cellsRs_at rs k j (by omega) hj,hv]
 ·refine ⟨?_,h.frozenAt _⟩
  rw [h.cellAt (k*15+j) (by omega),cellsRs_at rs k j (by omega) hj,List.getElem?_eq_getElem (by rw [cellsR_len];omega)]
  rfl
theorem OwnRs.reads {w:World} {lo hi:Nat} {a:Option Addr} {c:Nat} {rs:List RecA} (h:OwnRs w lo hi a c rs):ReadsRs w a rs:=by
 intro hne
 rcases h.row.2 with ⟨_,h0⟩ | ⟨g,cap',cur,hv,hb,hg,hr⟩
 ·exact absurd (List.length_eq_zero_iff.1 h0) hne
 ·simp only [Value.slice.injEq] at hv
  obtain ⟨rfl,_,rfl⟩:=hv
  refine ⟨g,0,rfl,fun k hk=>?_⟩
  rw [Nat.zero_add]
  exact ⟨(row_rec h.row rfl k hk).1,(h.each _ (recD_mem rs k hk)).reads⟩
theorem row_setCells {base g n cap sz:Nat} {e:TypeId} (cs:List Value):∀ (pre old post:List Value) (w:World),w.ownsRow base e sz (.slice (some ⟨g,0,none⟩) n cap) n (pre++(old++post))→old.length=cs.length→
  (w.setCells g pre.length cs).ownsRow base e sz (.slice (some ⟨g,0,none⟩) n cap) n (pre++(cs++post))∧w.grownBy (w.setCells g pre.length cs) (some g):=by
 induction cs with
 | nil=>intro pre old post w h hl;obtain rfl:=List.length_eq_zero_iff.1 hl;exact ⟨h,World.grownBy.refl _ _⟩
 | cons c cr ih=>
  intro pre old post w h hl
  obtain ⟨x,r,rfl⟩:∃ x r,old=x::r:=by
   cases old with
   | nil=>simp at hl
   | cons x r=>exact ⟨x,r,rfl⟩
  have hs:=h.stored pre.length c
  rw [List.set_append_right _ _ (Nat.le_refl _),Nat.sub_self] at hs
  simp only [List.cons_append,List.set_cons_zero] at hs
  have:=ih (pre++[c]) r post (w.setCell ⟨g,pre.length,none⟩ c) (by simpa using hs.1) (by simpa using hl)
  simp only [List.length_append,List.length_singleton] at this
  rw [World.setCells]
  exact ⟨by simpa using this.1,grownBy_trans hs.2 this.2⟩
theorem setCells_heap (B:Nat):∀ (vs:List Value) (o:Nat) (w:World),(w.setCells B o vs).heap.size=w.heap.size:=by
 intro vs
 induction vs with
 | nil=>intro o w;rfl
 | cons v r ih=>intro o w;rw [World.setCells,ih];simp
theorem OwnRs.fill {w:World} {lo hi g c:Nat} {A B:List RecA} {z:RecA} (h:OwnRs w lo hi (some ⟨g,0,none⟩) c (A++z::B)) (q:RecA) {l u:Nat} (hq:q.own w l u) (hl:hi≤l) (hlo:lo≤hi) (hu:u≤w.heap.size):
  ∃ W,Hid (w.setCells g (A.length*15) q.cells=W)∧OwnRs W lo (max hi u) (some ⟨g,0,none⟩) c (A++q::B)∧Touch [g] w W∧W.heap.size=w.heap.size:=by
 have hrow:=h.row
 rw [cellsRs_app,cellsRs_cons,List.length_append,List.length_cons] at hrow
 have hg:lo≤g∧g<hi:=⟨(hrow.lt g rfl).1,h.blk g rfl⟩
 obtain ⟨h1,h2⟩:=row_setCells q.cells (cellsRs A) z.cells (cellsRs B) w hrow rfl
 rw [cellsRs_len] at h1 h2
 have ht:Touch [g] w (w.setCells g (A.length*15) q.cells):=Touch.of_grown h2 (fun k hk=>by cases hk;simp)
 have hap:=h.apart
 simp only [List.flatMap_append,List.flatMap_cons,Value.ownBlock,Option.toList,List.singleton_append,List.nodup_cons,List.nodup_append,List.mem_append,not_or] at hap
 obtain ⟨⟨n1,n2,n3⟩,a1,⟨a2,a3,a4⟩,a5⟩:=hap
 have hqb:=hq.blocks_lt
 have hA:∀ x∈A.flatMap RecA.blocks,lo≤x∧x<hi:=fun x hx=>by
  obtain ⟨r,hr,hx⟩:=List.mem_flatMap.1 hx
  exact (h.each r (by simp [hr])).blocks_lt x hx
 have hB:∀ x∈B.flatMap RecA.blocks,lo≤x∧x<hi:=fun x hx=>by
  obtain ⟨r,hr,hx⟩:=List.mem_flatMap.1 hx
  exact (h.each r (by simp [hr])).blocks_lt x hx
 have hsz:=setCells_heap g q.cells (A.length*15) w
 refine ⟨_,rfl,⟨?_,?_,fun k hk=>?_,fun r hr=>?_,?_⟩,ht,hsz⟩
 ·rw [cellsRs_app,cellsRs_cons,List.length_append,List.length_cons]
  exact h1
 ·rw [hsz]
  have:=h.top
  omega
 ·cases hk
  show g<max hi u
  omega
 ·rcases List.mem_append.1 hr with hr | hr
  ·exact ((h.each r (by simp [hr])).touch ht (fun k hk hk'=>n1 (by rw [← List.mem_singleton.1 hk'];exact List.mem_flatMap.2 ⟨r,hr,hk⟩))).widen (Nat.le_refl _) (by omega) (by rw [hsz];have:=h.top;omega)
  ·rcases List.mem_cons.1 hr with rfl | hr
   ·exact (hq.touch ht (fun k hk hk'=>by have:=hqb k hk;have:=List.mem_singleton.1 hk';omega)).widen (by omega) (by omega) (by rw [hsz];have:=h.top;omega)
   ·exact ((h.each r (by simp [hr])).touch ht (fun k hk hk'=>n3 (by rw [← List.mem_singleton.1 hk'];exact List.mem_flatMap.2 ⟨r,hr,hk⟩))).widen (Nat.le_refl _) (by omega) (by rw [hsz];have:=h.top;omega)
 ·simp only [List.flatMap_append,List.flatMap_cons,Value.ownBlock,Option.toList,List.singleton_append,List.nodup_cons,List.nodup_append,List.mem_append,not_or]
  refine ⟨⟨n1,fun hk=>by have:=hqb g hk;omega,n3⟩,a1,⟨hq.apart,a3,fun x hx y hy e=>by have:=hqb x hx;have:=hB y hy;omega⟩,fun x hx y hy e=>?_⟩
  rcases hy with hy | hy
  ·have:=hqb y hy;have:=hA x hx;omega
  ·exact a5 x hx y (.inr hy) e
structure SeatA where
 no:Int
 lsn:Int
 s0:SlotA
 s1:SlotA
 s2:SlotA
 s3:SlotA
 dirty:Bool
 hot:Bool
def SeatA.ss (s:SeatA):List SlotA:=[s.s0,s.s1,s.s2,s.s3]
def SeatA.page (s:SeatA):PageA:=⟨s.lsn,s.ss⟩
structure SeatV where
 no:Int
 lsn:Int
 ss:List SlotV
 dirty:Bool
 hot:Bool
def SeatA.v (s:SeatA):SeatV:=⟨s.no,s.lsn,s.ss.map (·.v),s.dirty,s.hot⟩
def SeatA.cells (s:SeatA):List Value:=.int .i64 s.no::.int .i64 s.lsn::(s.s0.cells++(s.s1.cells++(s.s2.cells++(s.s3.cells++[.bool s.dirty,.bool s.hot]))))
theorem SeatA.cells_page (s:SeatA):s.cells=.int .i64 s.no::(s.page.cells++[.bool s.dirty,.bool s.hot]):=by
 simp [SeatA.cells,SeatA.page,SeatA.ss,PageA.cells,cellsS]
def zeroSt:SeatA:=⟨0,0,zeroS,zeroS,zeroS,zeroS,false,false⟩
def SeatA.reads (w:World) (s:SeatA):Prop:=ReadsS w s.ss
theorem SeatA.reads.below {w w':World} {s:SeatA} (h:s.reads w) (hb:Below w.heap.size w w'):s.reads w':=ReadsS.below h hb
def SeatA.blocks (s:SeatA):List Nat:=s.ss.flatMap SlotA.blocks
def SeatA.own (w:World) (lo hi:Nat) (s:SeatA):Prop:=OwnS w lo hi s.ss
theorem SeatA.own.apart {w:World} {lo hi:Nat} {s:SeatA} (h:s.own w lo hi):s.blocks.Nodup:=OwnS.apart h
theorem SeatA.own.reads {w:World} {lo hi:Nat} {s:SeatA} (h:s.own w lo hi):s.reads w:=OwnS.reads h
theorem SeatA.own.below {w w':World} {lo hi:Nat} {s:SeatA} (h:s.own w lo hi) (hb:Below w.heap.size w w'):s.own w' lo hi:=OwnS.below h hb
theorem SeatA.own.within {w w':World} {lo hi l u:Nat} {s:SeatA} (h:s.own w lo hi) (hw:Within l u w w') (hd:hi≤l∨u≤lo):s.own w' lo hi:=OwnS.within h hw hd
theorem SeatA.own.widen {w:World} {lo hi lo' hi':Nat} {s:SeatA} (h:s.own w lo hi) (h1:lo'≤lo) (h2:hi≤hi') (h3:hi'≤w.heap.size):s.own w lo' hi':=OwnS.widen h h1 h2 h3
theorem SeatA.own.blocks_lt {w:World} {lo hi:Nat} {s:SeatA} (h:s.own w lo hi):∀ k∈s.blocks,lo≤k∧k<hi:=OwnS.blocks_lt h
theorem oneSt (s:SeatA):∀ v∈s.cells,v.oneCell'=true:=by
 intro v hv
 rw [SeatA.cells_page] at hv
 rcases List.mem_cons.1 hv with rfl | h
 ·rfl
 ·rcases List.mem_append.1 h with h | h
  ·exact oneP _ v h
  ·simp only [List.mem_cons,List.not_mem_nil,or_false] at h
   rcases h with rfl | rfl<;>rfl
def cellsSts (rs:List SeatA):List Value:=rs.flatMap SeatA.cells
theorem cellsSt_len (r:SeatA):r.cells.length=20:=rfl
theorem cellsSts_len (rs:List SeatA):(cellsSts rs).length=rs.length*20:=by
 induction rs with
 | nil=>rfl
 | cons s r ih=>simp only [cellsSts,List.flatMap_cons,List.length_append,cellsSt_len,List.length_cons] at *;omega
theorem cellsSts_app (a b:List SeatA):cellsSts (a++b)=cellsSts a++cellsSts b:=by simp [cellsSts]
theorem cellsSts_cons (r:SeatA) (b:List SeatA):cellsSts (r::b)=r.cells++cellsSts b:=by simp [cellsSts]
theorem cellsSts_at (rs:List SeatA) (k j:Nat) (hk:k<rs.length) (hj:j<20):(cellsSts rs)[k*20+j]? =(rs.getD k zeroSt).cells[j]? :=by
 induction rs generalizing k with
 | nil=>simp at hk
 | cons s r ih=>
  rw [cellsSts_cons]
  cases k with
  | zero=>rw [List.getElem?_append_left (by rw [cellsSt_len];omega)];simp
  | succ k=>
   rw [List.getElem?_append_right (by rw [cellsSt_len];omega),cellsSt_len]
   have:=ih k (by simpa using hk)
   rw [show (k+1)*20+j-20=k*20+j by omega,this]
   simp
theorem seatD_mem (rs:List SeatA) (k:Nat) (hk:k<rs.length):rs.getD k zeroSt∈rs:=by
 have e:rs.getD k zeroSt=rs[k]:=by simp [List.getD,hk]
 rw [e]
 exact List.getElem_mem hk
theorem rangeSt_lt {w:World} {b o:Nat} {r:SeatA} (h:w.rangeAt b o r.cells):b<w.heap.size:=block_lt (h 0 _ rfl)
def ReadsSts (w:World) (a:Option Addr) (rs:List SeatA):Prop:=rs≠[]→∃ b off,a=some ⟨b,off,none⟩∧∀ k,k<rs.length→w.rangeAt b (off+k*20) (rs.getD k zeroSt).cells∧(rs.getD k zeroSt).reads w
theorem ReadsSts.nil (w:World) (a:Option Addr):ReadsSts w a []:=fun h=>absurd rfl h
theorem ReadsSts.below {w w':World} {a:Option Addr} {rs:List SeatA} (h:ReadsSts w a rs) (hb:Below w.heap.size w w'):ReadsSts w' a rs:=by
 intro hne
 obtain ⟨b,off,ha,hc⟩:=h hne
 refine ⟨b,off,ha,fun k hk=>?_⟩
 obtain ⟨h0,h1⟩:=hc k hk
 exact ⟨rangeAt_below h0 hb (rangeSt_lt h0),h1.below hb⟩
theorem ReadsSts.cases {w:World} {a:Option Addr} {rs:List SeatA} (h:ReadsSts w a rs):rs=[]∨∃ b off,a=some ⟨b,off,none⟩∧0<rs.length∧∀ k,k<rs.length→w.rangeAt b (off+k*20) (rs.getD k zeroSt).cells∧(rs.getD k zeroSt).reads w:=by
 by_cases e:rs=[]
 ·exact .inl e
 ·obtain ⟨b,off,ha,hc⟩:=h e
  exact .inr ⟨b,off,ha,List.length_pos_iff.2 e,hc⟩
structure OwnSts (w:World) (lo hi:Nat) (a:Option Addr) (c:Nat) (rs:List SeatA):Prop where
 row:w.ownsRow lo 103 20 (.slice a rs.length c) rs.length (cellsSts rs)
 top:hi≤w.heap.size
 blk:∀ k,(Value.slice a rs.length c).ownBlock=some k→k<hi
 each:∀ r∈rs,r.own w lo hi
 apart:((Value.slice a rs.length c).ownBlock.toList++rs.flatMap SeatA.blocks).Nodup
def blocksSts (a:Option Addr) (c:Nat) (rs:List SeatA):List Nat:=(Value.slice a rs.length c).ownBlock.toList++rs.flatMap SeatA.blocks
theorem OwnSts.blocks_lt {w:World} {lo hi:Nat} {a:Option Addr} {c:Nat} {rs:List SeatA} (h:OwnSts w lo hi a c rs):∀ k∈blocksSts a c rs,lo≤k∧k<hi:=by
 intro k hk
 simp only [blocksSts,List.mem_append,List.mem_flatMap,Option.mem_toList] at hk
 rcases hk with h1 | ⟨r,hr,h1⟩
 ·exact ⟨(h.row.lt k h1).1,h.blk k h1⟩
 ·exact (h.each r hr).blocks_lt k h1
theorem SeatA.own.touch {w w':World} {lo hi:Nat} {s:SeatA} {bl:List Nat} (h:s.own w lo hi) (ht:Touch bl w w') (hd:∀ k∈s.blocks,k∉bl):s.own w' lo hi:=
 ⟨fun x hx=>SlotA.touch (h.each x hx) ht (fun k hk=>hd k (List.mem_flatMap.2 ⟨x,hx,hk⟩)),OwnS.apart h⟩
theorem OwnSts.touch {w w':World} {lo hi:Nat} {a:Option Addr} {c:Nat} {rs:List SeatA} {bl:List Nat} (h:OwnSts w lo hi a c rs) (ht:Touch bl w w') (hd:∀ k∈blocksSts a c rs,k∉bl):OwnSts w' lo hi a c rs:=
 ⟨ownsRow_block h.row (fun k hk=>ht.block k (h.row.lt k hk).2 (hd k (List.mem_append.2 (.inl (Option.mem_toList.2 hk))))),Nat.le_trans h.top ht.size,h.blk,fun r hr=>(h.each r hr).touch ht (fun k hk=>hd k (List.mem_append.2 (.inr (List.mem_flatMap.2 ⟨r,hr,hk⟩)))),h.apart⟩
theorem OwnSts.within {w w':World} {lo hi l r:Nat} {a:Option Addr} {c:Nat} {rs:List SeatA} (h:OwnSts w lo hi a c rs) (hw:Within l r w w') (hd:hi≤l∨r≤lo):OwnSts w' lo hi a c rs:=
 ⟨ownsRow_block h.row (fun k hk=>hw.block k (by have:=h.blk k hk;have:=h.top;omega) (by have:=h.blk k hk;have:=(h.row.lt k hk).1;omega)),Nat.le_trans h.top hw.size,h.blk,fun x hx=>(h.each x hx).within hw hd,h.apart⟩
theorem OwnSts.below {w w':World} {lo hi:Nat} {a:Option Addr} {c:Nat} {rs:List SeatA} (h:OwnSts w lo hi a c rs) (hb:Below w.heap.size w w'):OwnSts w' lo hi a c rs:=
 h.within (Within.of_below (lo:=w.heap.size) (hi:=w.heap.size) hb) (.inl h.top)
theorem OwnSts.widen {w:World} {lo hi lo' hi':Nat} {a:Option Addr} {c:Nat} {rs:List SeatA} (h:OwnSts w lo hi a c rs) (h1:lo'≤lo) (h2:hi≤hi') (h3:hi'≤w.heap.size):OwnSts w lo' hi' a c rs:=
 ⟨ownsRow_base h.row (fun k hk=>by have:=(h.row.lt k hk).1;omega),h3,fun k hk=>by have:=h.blk k hk;omega,fun x hx=>(h.each x hx).widen h1 h2 h3,h.apart⟩
theorem ownSts_nil (w:World) (lo hi:Nat) (h:hi≤w.heap.size):OwnSts w lo hi none 0 []:=⟨⟨by simp [cellsSts],.inl ⟨rfl,rfl⟩⟩,h,(fun k hk=>by cases hk),(fun r hr=>by simp at hr),by simp [Value.ownBlock]⟩
theorem OwnSts.nocap {w:World} {lo hi:Nat} {a:Option Addr} {c:Nat} {rs:List SeatA} (h:OwnSts w lo hi a c rs):a=none→c=0:=by
 intro ha
 rcases h.row.2 with ⟨hv,_⟩ | ⟨g,cap,cur,hv,_⟩
 ·simp only [Value.slice.injEq] at hv;exact hv.2.2
 ·simp [ha] at hv
theorem row_seat {w:World} {base g n cap:Nat} {rs:List SeatA} (h:w.ownsRow base 103 20 (.slice (some ⟨g,0,none⟩) n cap) n (cellsSts rs)) (hn:rs.length=n) (k:Nat) (hk:k<n):
  w.rangeAt g (k*20) (rs.getD k zeroSt).cells∧w.there g (k*20) 20:=by
 refine ⟨fun j v hv=>?_,fun j hj=>?_⟩
 ·have hj:j<20:=by have:=(List.getElem?_eq_some_iff.1 hv).1;rwa [cellsSt_len] at this
  rw [h.cellAt (k*20+j) (by omega),cellsSts_at rs k j (by omega) hj,hv]
 ·refine ⟨?_,h.frozenAt _⟩
  rw [h.cellAt (k*20+j) (by omega),cellsSts_at rs k j (by omega) hj,List.getElem?_eq_getElem (by rw [cellsSt_len];omega)]
  rfl
theorem OwnSts.reads {w:World} {lo hi:Nat} {a:Option Addr} {c:Nat} {rs:List SeatA} (h:OwnSts w lo hi a c rs):ReadsSts w a rs:=by
 intro hne
 rcases h.row.2 with ⟨_,h0⟩ | ⟨g,cap',cur,hv,hb,hg,hr⟩
 ·exact absurd (List.length_eq_zero_iff.1 h0) hne
 ·simp only [Value.slice.injEq] at hv
  obtain ⟨rfl,_,rfl⟩:=hv
  refine ⟨g,0,rfl,fun k hk=>?_⟩
  rw [Nat.zero_add]
  exact ⟨(row_seat h.row rfl k hk).1,(h.each _ (seatD_mem rs k hk)).reads⟩
theorem OwnSts.fill {w:World} {lo hi g c:Nat} {A B:List SeatA} {z:SeatA} (h:OwnSts w lo hi (some ⟨g,0,none⟩) c (A++z::B)) (q:SeatA) {l u:Nat} (hq:q.own w l u) (hl:hi≤l) (hlo:lo≤hi) (hu:u≤w.heap.size):
  ∃ W,Hid (w.setCells g (A.length*20) q.cells=W)∧OwnSts W lo (max hi u) (some ⟨g,0,none⟩) c (A++q::B)∧Touch [g] w W∧W.heap.size=w.heap.size:=by
 have hrow:=h.row
 rw [cellsSts_app,cellsSts_cons,List.length_append,List.length_cons] at hrow
 have hg:lo≤g∧g<hi:=⟨(hrow.lt g rfl).1,h.blk g rfl⟩
 obtain ⟨h1,h2⟩:=row_setCells q.cells (cellsSts A) z.cells (cellsSts B) w hrow rfl
 rw [cellsSts_len] at h1 h2
 have ht:Touch [g] w (w.setCells g (A.length*20) q.cells):=Touch.of_grown h2 (fun k hk=>by cases hk;simp)
 have hap:=h.apart
 simp only [List.flatMap_append,List.flatMap_cons,Value.ownBlock,Option.toList,List.singleton_append,List.nodup_cons,List.nodup_append,List.mem_append,not_or] at hap
 obtain ⟨⟨n1,n2,n3⟩,a1,⟨a2,a3,a4⟩,a5⟩:=hap
 have hqb:=hq.blocks_lt
 have hA:∀ x∈A.flatMap SeatA.blocks,lo≤x∧x<hi:=fun x hx=>by
  obtain ⟨r,hr,hx⟩:=List.mem_flatMap.1 hx
  exact (h.each r (by simp [hr])).blocks_lt x hx
 have hB:∀ x∈B.flatMap SeatA.blocks,lo≤x∧x<hi:=fun x hx=>by
  obtain ⟨r,hr,hx⟩:=List.mem_flatMap.1 hx
  exact (h.each r (by simp [hr])).blocks_lt x hx
 have hsz:=setCells_heap g q.cells (A.length*20) w
 refine ⟨_,rfl,⟨?_,?_,fun k hk=>?_,fun r hr=>?_,?_⟩,ht,hsz⟩
 ·rw [cellsSts_app,cellsSts_cons,List.length_append,List.length_cons]
  exact h1
 ·rw [hsz]
  have:=h.top
  omega
 ·cases hk
  show g<max hi u
  omega
 ·rcases List.mem_append.1 hr with hr | hr
  ·exact ((h.each r (by simp [hr])).touch ht (fun k hk hk'=>n1 (by rw [← List.mem_singleton.1 hk'];exact List.mem_flatMap.2 ⟨r,hr,hk⟩))).widen (Nat.le_refl _) (by omega) (by rw [hsz];have:=h.top;omega)
  ·rcases List.mem_cons.1 hr with rfl | hr
   ·exact (hq.touch ht (fun k hk hk'=>by have:=hqb k hk;have:=List.mem_singleton.1 hk';omega)).widen (by omega) (by omega) (by rw [hsz];have:=h.top;omega)
   ·exact ((h.each r (by simp [hr])).touch ht (fun k hk hk'=>n3 (by rw [← List.mem_singleton.1 hk'];exact List.mem_flatMap.2 ⟨r,hr,hk⟩))).widen (Nat.le_refl _) (by omega) (by rw [hsz];have:=h.top;omega)
 ·simp only [List.flatMap_append,List.flatMap_cons,Value.ownBlock,Option.toList,List.singleton_append,List.nodup_cons,List.nodup_append,List.mem_append,not_or]
  refine ⟨⟨n1,fun hk=>by have:=hqb g hk;omega,n3⟩,a1,⟨hq.apart,a3,fun x hx y hy e=>by have:=hqb x hx;have:=hB y hy;omega⟩,fun x hx y hy e=>?_⟩
  rcases hy with hy | hy
  ·have:=hqb y hy;have:=hA x hx;omega
  ·exact a5 x hx y (.inr hy) e
end Go.Proofs.YtcoeamamaifoeaaGreatDoor
namespace Go.Proofs.YtcoeamamaifoeaaGreatDoor
open Go.RowKit Go.Extern.Stop Go.Stop Go.Extern
def ErrT (w:World):Prop:=w.cell? ⟨0,0,none⟩=some (.iface 218 (.agg #[.pointer (some ⟨1,196,none⟩)]))
theorem ErrT.lt {w:World} (h:ErrT w):0<w.heap.size:=by
 unfold ErrT at h
 rcases Nat.lt_or_ge 0 w.heap.size with h0 | h0
 ·exact h0
 ·simp [World.cell?,Array.getElem?_eq_none h0] at h
theorem ErrT.below {w w':World} {n:Nat} (h:ErrT w) (hb:Below n w w') (hn:0<n):ErrT w':=by
 unfold ErrT at h ⊢
 rw [hb.cell (p:=⟨0,0,none⟩) hn]
 exact h
theorem ErrT.keep {w w':World} (h:ErrT w) (hb:Below w.heap.size w w'):ErrT w':=h.below hb h.lt
theorem Tryz.asValueOfP (t:Addr) (w:World):(ReflectliteValue.unpack (.iface 202 (.pointer (some t)))).run Tryz.prog w
  = .ok (.agg #[.pointer (some ⟨1,202,none⟩),.pointer (some ⟨w.heap.size,0,none⟩),.int .u64 150]) (w.alloc (.cells #[.pointer (some t)] 202)):=by kernel_rfl
theorem Tryz.asTypeP (a : Addr) (w : World) : (ReflectliteValue.methodAny (ReflectliteValue.valueError "reflectlite.Value.Type" 0) (fun t _ _ _ => ReflectliteType.toType t) #[.agg #[.pointer (some ⟨1, 202, none⟩), .pointer (some a), .int .u64 150]]).run Tryz.prog w
  = .ok (.iface 218 (.agg #[.pointer (some ⟨1,202,none⟩)])) w:=by kernel_rfl
theorem Tryz.asMethodKind (h : Value) (w : World) : (Go.method 360 218 (.agg #[h]) "Kind").run Tryz.prog w = .ok (189, h) w := by kernel_rfl
theorem Tryz.asKindP (w:World):((ReflectliteType.abiMethod fun t=>(fun a:Nat=>Value.int IntKind.u8 (a:Int)) <$> Rtype.kind t) #[.pointer (some ⟨1,202,none⟩)]).run Tryz.prog w=.ok (.int .u8 22) w:=by kernel_rfl
theorem Tryz.asKindS (w:World):((ReflectliteType.abiMethod fun t=>(fun a:Nat=>Value.int IntKind.u8 (a:Int)) <$> Rtype.kind t) #[.pointer (some ⟨1,200,none⟩)]).run Tryz.prog w=.ok (.int .u8 25) w:=by kernel_rfl
theorem rlm (z:Sem Value) (f:TypeId→Addr→Nat→Nat→Sem Value) (v:Value):
  ReflectliteValue.method z f #[v]=(do match ← ReflectliteValue.parts v with | none=>z | some (t,a,fl)=>f t a fl (fl % 32)):=rfl
theorem Tryz.asPartsP (a:Addr) (w:World):(ReflectliteValue.parts (.agg #[.pointer (some ⟨1,202,none⟩),.pointer (some a),.int .u64 150])).run Tryz.prog w=.ok (some (202,a,150)) w:=by kernel_rfl
theorem Tryz.asIsNilP (a p:Addr) (W:World) (ha:W.cell? a=some (.pointer (some p))):
  (ReflectliteValue.method (ReflectliteValue.valueError "reflectlite.Value.IsNil" 0) ReflectliteValue.isNil #[.agg #[.pointer (some ⟨1, 202, none⟩), .pointer (some a), .int .u64 150]]).run Tryz.prog W = .ok (.bool false) W := by
 rw [rlm]
 simp only [Sem.run_bind,Tryz.asPartsP,Result.andThen]
 simp [ReflectliteValue.isNil,loadVar,isAgg,underlying,Tryz.underlying202,ha,Result.andThen]
theorem Tryz.asMethodElem (h : Value) (w : World) : (Go.method 360 218 (.agg #[h]) "Elem").run Tryz.prog w = .ok (199, .agg #[h]) w := by kernel_rfl
theorem Tryz.asMethodImplements (h : Value) (w : World) : (Go.method 360 218 (.agg #[h]) "Implements").run Tryz.prog w = .ok (200, .agg #[h]) w := by kernel_rfl
theorem Tryz.asMethodAssignableTo (h : Value) (w : World) : (Go.method 360 218 (.agg #[h]) "AssignableTo").run Tryz.prog w = .ok (197, .agg #[h]) w := by kernel_rfl
theorem Tryz.asElemP (w:World):(ReflectliteType.method ReflectliteType.elem #[.agg #[.pointer (some ⟨1,202,none⟩)]]).run Tryz.prog w=.ok (.iface 218 (.agg #[.pointer (some ⟨1,200,none⟩)])) w:=by kernel_rfl
theorem Tryz.asImplementsS (w : World) : (ReflectliteType.relation "Implements" ReflectliteType.implements_ #[.agg #[.pointer (some ⟨1, 200, none⟩)], .iface 218 (.agg #[.pointer (some ⟨1, 196, none⟩)])]).run Tryz.prog w = .ok (.bool true) w := by kernel_rfl
theorem Tryz.asTypeOfS (v:Value) (w:World):(ReflectliteType.typeOf #[.iface 200 v]).run Tryz.prog w=.ok (.iface 218 (.agg #[.pointer (some ⟨1,200,none⟩)])) w:=by kernel_rfl
theorem Tryz.asAssignableS (w : World) : (ReflectliteType.relation "AssignableTo" ReflectliteType.assignableTo #[.agg #[.pointer (some ⟨1, 200, none⟩)], .iface 218 (.agg #[.pointer (some ⟨1, 200, none⟩)])]).run Tryz.prog w = .ok (.bool true) w := by kernel_rfl
theorem Tryz.asValueOfS (s:ByteArray) (w:World):(ReflectliteValue.unpack (.iface 200 (.agg #[.string s]))).run Tryz.prog w
  = .ok (.agg #[.pointer (some ⟨1,200,none⟩),.pointer (some ⟨w.heap.size,0,none⟩),.int .u64 153]) (w.alloc (.cells #[.string s] 200)):=by kernel_rfl
theorem Tryz.asElemOfP (w:World):(Rtype.elem? 202).run Tryz.prog w=.ok (some 200) w:=by kernel_rfl
theorem Tryz.asMkS (p:Addr) (w:World):(ReflectliteValue.mk 200 p ReflectliteValue.flagAddr).run Tryz.prog w=.ok (.agg #[.pointer (some ⟨1,200,none⟩),.pointer (some p),.int .u64 409]) w:=by kernel_rfl
theorem Tryz.asElemV (a p:Addr) (W:World) (ha:W.cell? a=some (.pointer (some p))):
  (ReflectliteValue.method (ReflectliteValue.valueError "reflectlite.Value.Elem" 0) ReflectliteValue.elem #[.agg #[.pointer (some ⟨1, 202, none⟩), .pointer (some a), .int .u64 150]]).run Tryz.prog W
   = .ok (.agg #[.pointer (some ⟨1,200,none⟩),.pointer (some p),.int .u64 409]) W:=by
 rw [rlm]
 simp only [Sem.run_bind,Tryz.asPartsP,Result.andThen]
 simp [ReflectliteValue.elem,loadVar,isAgg,underlying,Tryz.underlying202,ha,Result.andThen,Tryz.asElemOfP,Tryz.asMkS]
theorem rls (v x:Value):ReflectliteValue.set #[v,x]=(do
  let (some (dst,a,fl),some (src,b,_)):=(← ReflectliteValue.parts v,← ReflectliteValue.parts x)
   | unsupported (.noEntry "extern/(internal/reflectlite.Value).Set.zeroValue")
  if fl / ReflectliteValue.flagAddr % 2 == 0 then unsupported (.noEntry "extern/(internal/reflectlite.Value).Set.unaddressable")
  let val ← loadVar src b
  if ← Rtype.directlyAssignable dst src then storeVar dst a val
  else if ← Rtype.implements dst src then
   if (← Rtype.kind src) == 20 then
    match val with
    | .nilIface => unsupported (.noEntry "extern/reflectlite: a nil value of one interface type handed on as a value of another")
    | _=>storeVar dst a val
   else storeVar dst a (.iface src val)
  else panicString ("reflectlite.Set: value of type " ++ (← Rtype.spelt src) ++ " is not assignable to type " ++ (← Rtype.spelt dst))
  pure (.tuple #[])):=rfl
theorem Tryz.asPartsSa (a:Addr) (w:World):(ReflectliteValue.parts (.agg #[.pointer (some ⟨1,200,none⟩),.pointer (some a),.int .u64 409])).run Tryz.prog w=.ok (some (200,a,409)) w:=by kernel_rfl
theorem Tryz.asPartsS (a:Addr) (w:World):(ReflectliteValue.parts (.agg #[.pointer (some ⟨1,200,none⟩),.pointer (some a),.int .u64 153])).run Tryz.prog w=.ok (some (200,a,153)) w:=by kernel_rfl
theorem Tryz.asDirectS (w:World):(Rtype.directlyAssignable 200 200).run Tryz.prog w=.ok true w:=by kernel_rfl
theorem Tryz.asSetS (ta b:Addr) (s:ByteArray) (old:Value) (W:World) (hb:W.cell? b=some (.string s)) (ht:W.cell? ta=some old) (hf:W.frozen? ta=false):
  (ReflectliteValue.set #[.agg #[.pointer (some ⟨1,200,none⟩),.pointer (some ta),.int .u64 409],.agg #[.pointer (some ⟨1,200,none⟩),.pointer (some b),.int .u64 153]]).run Tryz.prog W
   = .ok (.tuple #[]) (W.setCell ta (.string s)):=by
 rw [rls]
 simp only [Sem.run_bind,Tryz.asPartsSa,Tryz.asPartsS,Result.andThen]
 simp [ReflectliteValue.flagAddr,loadVar,loadCells,loadCellsFrom,hb,Result.andThen,Tryz.asDirectS,storeVar,Value.cells,storeCells,Addr.add]
 rw [run_store Tryz.prog W ta _ _ (by rfl)]
 simp [ht,hf]
theorem as_nil (t:Value) (w:World):Calls Tryz.prog 166 #[.nilIface,t] w fun e w'=>e=.returned (.bool false)∧w'=w:=by
 go_enter Tryz.func166,Tryz.ntmps166
 go_wp2
 go_ret
 exact ⟨rfl,rfl⟩
theorem as_hit (s:ByteArray) (t:Addr) (old:Value) (w:World) (hg:w.cell? ⟨0,0,none⟩=some (.iface 218 (.agg #[.pointer (some ⟨1,196,none⟩)]))) (ht0:w.cell? t=some old) (hf0:w.frozen? t=false):
  Calls Tryz.prog 166 #[.iface 200 (.agg #[.string s]),.iface 202 (.pointer (some t))] w fun ev w'=>ev=.returned (.bool true)∧w'=((((w.alloc (.cells #[.pointer (some t)] 202)).alloc (.cells #[.pointer (some ⟨1,202,none⟩),.pointer (some ⟨w.heap.size,0,none⟩),.int .u64 150] 207)).alloc (.cells #[.pointer (some ⟨1,202,none⟩),.pointer (some ⟨w.heap.size,0,none⟩),.int .u64 150] 207)).alloc (.cells #[.string s] 200)).setCell t (.string s):=by
 have h6:=@run_callFunc_extern Tryz.prog 168 _ (fun args=>ReflectliteValue.unpack (args.getD 0 (.tuple #[]))) Tryz.func168 (by kernel_rfl) (by kernel_rfl) (by kernel_rfl) (by kernel_rfl)
 have h7 := @run_callFunc_extern Tryz.prog 169 _ (ReflectliteValue.methodAny (ReflectliteValue.valueError "reflectlite.Value.Type" 0) (fun t _ _ _ => ReflectliteType.toType t)) Tryz.func169 (by kernel_rfl) (by kernel_rfl) (by kernel_rfl) (by kernel_rfl)
 have h8 := @run_callFunc_extern Tryz.prog 170 _ (ReflectliteValue.method (ReflectliteValue.valueError "reflectlite.Value.IsNil" 0) ReflectliteValue.isNil) Tryz.func170 (by kernel_rfl) (by kernel_rfl) (by kernel_rfl) (by kernel_rfl)
 have h27:=@run_callFunc_extern Tryz.prog 189 _ (ReflectliteType.abiMethod fun t=>do pure (.int .u8 (← Rtype.kind t))) Tryz.func189 (by kernel_rfl) (by kernel_rfl) (by kernel_rfl) (by kernel_rfl)
 have h37:=@run_callFunc_extern Tryz.prog 199 _ (ReflectliteType.method ReflectliteType.elem) Tryz.func199 (by kernel_rfl) (by kernel_rfl) (by kernel_rfl) (by kernel_rfl)
 have h38 := @run_callFunc_extern Tryz.prog 200 _ (ReflectliteType.relation "Implements" ReflectliteType.implements_) Tryz.func200 (by kernel_rfl) (by kernel_rfl) (by kernel_rfl) (by kernel_rfl)
 have h10:=@run_callFunc_extern Tryz.prog 172 _ ReflectliteType.typeOf Tryz.func172 (by kernel_rfl) (by kernel_rfl) (by kernel_rfl) (by kernel_rfl)
 have h35 := @run_callFunc_extern Tryz.prog 197 _ (ReflectliteType.relation "AssignableTo" ReflectliteType.assignableTo) Tryz.func197 (by kernel_rfl) (by kernel_rfl) (by kernel_rfl) (by kernel_rfl)
 have h11 := @run_callFunc_extern Tryz.prog 173 _ (ReflectliteValue.method (ReflectliteValue.valueError "reflectlite.Value.Elem" 0) ReflectliteValue.elem) Tryz.func173 (by kernel_rfl) (by kernel_rfl) (by kernel_rfl) (by kernel_rfl)
 have h12:=@run_callFunc_extern Tryz.prog 174 _ ReflectliteValue.set Tryz.func174 (by kernel_rfl) (by kernel_rfl) (by kernel_rfl) (by kernel_rfl)
 have tO:=Tryz.asTypeOfS
 have mA:=Tryz.asMethodAssignableTo
 have a25:=Tryz.asAssignableS
 have v25:=Tryz.asValueOfS
 have f6:=Tryz.asValueOfP
 have f7:=Tryz.asTypeP
 have mK:=Tryz.asMethodKind
 have mE:=Tryz.asMethodElem
 have mI:=Tryz.asMethodImplements
 have k27:=Tryz.asKindP
 have k25:=Tryz.asKindS
 have e27:=Tryz.asElemP
 have i25:=Tryz.asImplementsS
 have n8:=Tryz.asIsNilP ⟨w.heap.size,0,none⟩ t ((w.alloc (.cells #[.pointer (some t)] 202)).alloc (.cells #[.pointer (some ⟨1,202,none⟩),.pointer (some ⟨w.heap.size,0,none⟩),.int .u64 150] 207)) (by simp)
 have hlt:0<w.heap.size:=by
  rcases Nat.lt_or_ge 0 w.heap.size with h0 | h0
  ·exact h0
  ·simp [World.cell?,Array.getElem?_eq_none h0] at hg
 have hg2:((w.alloc (.cells #[.pointer (some t)] 202)).alloc (.cells #[.pointer (some ⟨1,202,none⟩),.pointer (some ⟨w.heap.size,0,none⟩),.int .u64 150] 207)).cell? ⟨0,0,none⟩=some (.iface 218 (.agg #[.pointer (some ⟨1,196,none⟩)])):=by
  rw [World.cell?_alloc_lt _ _ ⟨0,0,none⟩ (Nat.lt_of_lt_of_le hlt (by simp)),World.cell?_alloc_lt _ _ ⟨0,0,none⟩ hlt];exact hg
 have htl:t.block<w.heap.size:=by
  rcases Nat.lt_or_ge t.block w.heap.size with h | h
  ·exact h
  ·simp [World.cell?,Array.getElem?_eq_none h] at ht0
 have el:=Tryz.asElemV ⟨w.heap.size,0,none⟩ t (((w.alloc (.cells #[.pointer (some t)] 202)).alloc (.cells #[.pointer (some ⟨1,202,none⟩),.pointer (some ⟨w.heap.size,0,none⟩),.int .u64 150] 207)).alloc (.cells #[.pointer (some ⟨1,202,none⟩),.pointer (some ⟨w.heap.size,0,none⟩),.int .u64 150] 207)) (by rw [World.cell?_alloc_lt _ _ ⟨w.heap.size,0,none⟩ (by simp;omega)];simp)
 have st:=Tryz.asSetS t ⟨w.heap.size+1+1+1,0,none⟩ s old ((((w.alloc (.cells #[.pointer (some t)] 202)).alloc (.cells #[.pointer (some ⟨1,202,none⟩),.pointer (some ⟨w.heap.size,0,none⟩),.int .u64 150] 207)).alloc (.cells #[.pointer (some ⟨1,202,none⟩),.pointer (some ⟨w.heap.size,0,none⟩),.int .u64 150] 207)).alloc (.cells #[.string s] 200))
  (by rw [World.cell?_alloc_at _ _ _ _ (by simp)];rfl)
  (by rw [World.cell?_alloc_lt _ _ t (by simp;omega),World.cell?_alloc_lt _ _ t (by simp;omega),World.cell?_alloc_lt _ _ t (by simp;omega),World.cell?_alloc_lt _ _ t htl];exact ht0)
  (by rw [World.frozen?_alloc_old _ _ t (by simp;omega),World.frozen?_alloc_old _ _ t (by simp;omega),World.frozen?_alloc_old _ _ t (by simp;omega),World.frozen?_alloc_old _ _ t (Nat.ne_of_lt htl)];exact hf0)
 go_enter Tryz.func166,Tryz.ntmps166
 go_wp2
 refine wp_loop_rounds 1 ?_
 rw [rounds_succ]
 go_wp2
 go_ret
 exact ⟨rfl,rfl⟩
theorem isNo_nil (w:World):Calls Tryz.prog 162 #[.nilIface] w fun e w'=>e=.returned (.bool false)∧Below w.heap.size w w':=by
 go_enter Tryz.func162,Tryz.ntmps162
 go_wp2_with fail
 refine (as_nil _ _).mono ?_
 rintro e w' ⟨rfl,rfl⟩
 go_wp2
 go_ret
 exact ⟨rfl,(Below.refl _ _).alloc (Nat.le_refl _) _⟩
theorem isNo_hit (s:ByteArray) (w:World) (hg:ErrT w):Calls Tryz.prog 162 #[.iface 200 (.agg #[.string s])] w fun e w'=>e=.returned (.bool true)∧Below w.heap.size w w':=by
 have hgA:ErrT (w.alloc (.cells #[.string ⟨#[]⟩] 200)):=hg.keep ((Below.refl _ _).alloc (Nat.le_refl _) _)
 go_enter Tryz.func162,Tryz.ntmps162
 go_wp2_with fail
 refine (as_hit s ⟨w.heap.size,0,none⟩ (.string ⟨#[]⟩) _ hgA (by simp) (by simp)).mono ?_
 rintro e w' ⟨rfl,rfl⟩
 go_wp2
 go_ret
 refine ⟨rfl,?_⟩
 exact (((((Below.refl _ _).alloc (Nat.le_refl _) _).alloc (by simp) _).alloc (by simp;omega) _).alloc (by simp;omega) _).alloc (by simp;omega) _
end Go.Proofs.YtcoeamamaifoeaaGreatDoor