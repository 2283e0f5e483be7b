/- Several texts in one, in their order. -/
import Derived.Test.YtfehemepdoomdaaGreatDoorPCommitx11
import Derived.Test.YtfehemepdoomdaaGreatDoorPCommitx6
import Derived.Test.YtfehemepdoomdaaGreatDoorPCommitx9
import Derived.Test.YtfehemepdoomdaaGreatDoorPCommitx3
import Derived.Test.YtfehemepdoomdaaGreatDoorPCommitx7
import Derived.Deep.Cut
import Derived.Test.YtfehemepdoomdaaGreatDoorPCommitx4
import Derived.Test.YtfehemepdoomdaaGreatDoorPCommitx10
import Derived.Test.YtfehemepdoomdaaGreatDoorPCommitx5
import Derived.Deep.RegionLaw
import Derived.Deep.DrawnRows
import Derived.Test.YtfehemepdoomdaaGreatDoorPCommitx8
import Derived.Test.YtfehemepdoomdaaGreatDoorPCommitx2
import Derived.Test.YtfehemepdoomdaaGreatDoorPCommitx1
import Derived.Deep.MidRow
import Derived.Deep.RegionHeld3
import Derived.RangeFuncNested
import Derived.RangeFuncBound
import Derived.RangeFuncCalls
import Derived.RangeFuncLeaves
import Derived.Shelf.Abstract
import Derived.Shelf.RegionOpen
import Derived.WalkKit
import Derived.OwnWalkIn
import Derived.TacticsInMore
import Derived.LoopNIn
import Derived.LoopIn
import Derived.Sort.CutIn
set_option maxHeartbeats 8000000
set_option maxRecDepth 100000
namespace Go.Proofs.YtfehemepdoomdaaGreatDoor
open Go.ChangeShapes Go.WideShapes Go.ChangeAt Go.RowKit
structure InEng (w:World) (e:EngA):Prop where
 shape:e.shape
 reads:e.reads w
 wide:e.wide
theorem chunks (f:Nat→PageA):∀ (n:Nat) (cs:List Value),cs.length=n*17→(∀ i,i<n→(cs.drop (i*17)).take 17=(f i).cells)→cs=cellsPs ((List.range n).map f):=by
 intro n
 induction n with
 | zero=>intro cs h _;simp only [Nat.zero_mul,List.length_eq_zero_iff] at h;subst h;rfl
 | succ n ih=>
  intro cs h hf
  have h1:=ih (cs.take (n*17)) (by rw [List.length_take];omega) (fun i hi=>by
   rw [List.drop_take,List.take_take,Nat.min_eq_left (by omega)]
   exact hf i (by omega))
  have h2:=hf n (by omega)
  rw [List.take_of_length_le (by rw [List.length_drop];omega)] at h2
  rw [List.range_succ,List.map_append,List.map_singleton,cellsPs_app,cellsPs_cons,← h1,← h2]
  simp [cellsPs]
section
variable {H:Type} {enc:TypeId × Value→H} {w:World} {base:Nat} {spare:Nat→Bool} {held:Bool}
theorem Tryz.cellsHd:Tryz.prog.cellsOf 112=2:=by kernel_rfl
theorem Tryz.cellsHds:Tryz.prog.cellsOf 38=1:=by kernel_rfl
theorem Tryz.cellsLvE:Tryz.prog.cellsOf 37=1:=by kernel_rfl
theorem Tryz.cellsP8:Tryz.prog.cellsOf 30=136:=by kernel_rfl
theorem Tryz.cellsEg:Tryz.prog.cellsOf 40=144:=by kernel_rfl
theorem Tryz.cellsLgE:Tryz.prog.cellsOf 36=2:=by kernel_rfl
theorem trod_hold {fuel:Nat} {cs:List Value} {x:DataW H × List MemPlace} (h:DataW.trod enc Tryz.prog w base spare held fuel 112 cs=some x):∃ t:HoldV,cs=t.cells:=by
 obtain ⟨xs,n,_,_,hlen,hxl,hf⟩:=DataW.trod_struct Tryz.underlying112 h
 rw [Tryz.cellsHd] at hlen
 match cs,hlen with
 | [v0,v1],_=>
  have f0:=hf 0 _ rfl
  have f1:=hf 1 _ rfl
  obtain ⟨y0,hx0⟩:=some_at xs 0 (by rw [hxl];decide)
  obtain ⟨y1,hx1⟩:=some_at xs 1 (by rw [hxl];decide)
  rw [hx0] at f0
  rw [hx1] at f1
  simp only [List.getElem_toArray,List.getElem_cons_zero,List.getElem_cons_succ,Tryz.cellsI,List.drop,List.take] at f0 f1
  obtain ⟨a,e0,_⟩:=trod_num f0
  obtain ⟨b,e1,_⟩:=trod_num f1
  simp only [List.cons.injEq,and_true] at e0 e1
  subst e0 e1
  exact ⟨⟨a,b⟩,rfl⟩
theorem trod_holds {fuel:Nat} {cs:List Value} {x:DataW H × List MemPlace} (h:DataW.trod enc Tryz.prog w base spare held fuel 38 cs=some x):
  ∃ (a:Option Addr) (c:Nat) (ls:List HoldV),cs=[.slice a ls.length c]∧ReadsH w a ls∧ls.length≤maxLen:=by
 rcases DataW.trod_slice Tryz.underlying38 h with ⟨rfl,_⟩ | ⟨a,len,cap,elems,rest,n,_,rfl,_,_,hl,hm,hlen,hel,_,_⟩
 ·exact ⟨none,0,[],rfl,ReadsH.nil _ _,by simp⟩
 rw [Tryz.cellsHd] at hel
 have each:∀ i,i<len→∃ t:HoldV,w.cells? base (a.add (i*2)) 2=some t.cells:=by
  intro i hi
  have hy:=hel i hi
  rw [List.getElem?_eq_getElem (by omega:i<elems.length),Option.bind_eq_some_iff] at hy
  obtain ⟨cs',hcs,hy'⟩:=hy
  obtain ⟨t,e⟩:=trod_hold hy'
  exact ⟨t,by rw [hcs,e]⟩
 obtain ⟨f,hf⟩:∃ f:Nat→HoldV,∀ i,i<len→w.cells? base (a.add (i*2)) 2=some (f i).cells:=by
  refine ⟨fun i=>if h:i<len then (each i h).choose else zeroH,fun i hi=>?_⟩
  simp only [dif_pos hi]
  exact (each i hi).choose_spec
 refine ⟨some a,cap,(List.range len).map f,by simp,?_,by simp;omega⟩
 intro hne
 have hpos:=List.length_pos_iff.2 hne
 simp only [List.length_map,List.length_range] at hpos ⊢
 obtain ⟨b,off,spot⟩:=a
 have c0:=(World.cells?_some (hf 0 hpos)).2.2 0 (by decide)
 have hspot:spot=none:=by simpa [Addr.add] using World.cell?_spot c0
 subst hspot
 refine ⟨b,off,rfl,fun k hk=>?_⟩
 have e:((List.range len).map f).getD k zeroH=f k:=by simp [List.getD,hk]
 rw [e]
 have hc:=(World.cells?_some (hf k hk)).2.2
 have d0:=hc 0 (by decide)
 have d1:=hc 1 (by decide)
 simp only [Addr_add,HoldV.cells] at d0 d1
 exact ⟨by simpa using d0,by simpa using d1⟩
theorem trod_pages {fuel:Nat} {cs:List Value} {x:DataW H × List MemPlace} (h:DataW.trod enc Tryz.prog w base spare held fuel 30 cs=some x) (hl:cs.length=136):
  ∃ ps:List PageA,cs=cellsPs ps∧Disk8 ps∧∀ p∈ps,∀ s∈p.ss,InSlot w s:=by
 obtain ⟨ys,m,_,_,_,hyl,hg⟩:=DataW.trod_array Tryz.underlying30 h
 have each:∀ i,i<8→∃ p:PageA,(cs.drop (i*17)).take 17=p.cells∧p.ss.length=4∧∀ s∈p.ss,InSlot w s:=by
  intro i hi
  have g:=hg i hi
  obtain ⟨y,hy⟩:=some_at ys i (by omega)
  rw [hy,Tryz.cellsPg] at g
  obtain ⟨p,e,h4,_,hs⟩:=trod_page g
  exact ⟨p,e,h4,hs⟩
 obtain ⟨f,hf⟩:∃ f:Nat→PageA,∀ i,i<8→(cs.drop (i*17)).take 17=(f i).cells∧(f i).ss.length=4∧∀ s∈(f i).ss,InSlot w s:=by
  refine ⟨fun i=>if h:i<8 then (each i h).choose else zeroP,fun i hi=>?_⟩
  simp only [dif_pos hi]
  exact (each i hi).choose_spec
 have hm:∀ p∈(List.range 8).map f,∃ i,i<8∧f i=p:=fun p hp=>by
  obtain ⟨i,hi,rfl⟩:=List.mem_map.1 hp
  exact ⟨i,List.mem_range.1 hi,rfl⟩
 refine ⟨(List.range 8).map f,chunks f 8 cs (by omega) (fun i hi=>(hf i hi).1),⟨by simp,fun p hp=>?_⟩,fun p hp=>?_⟩
 ·obtain ⟨i,hi,rfl⟩:=hm p hp
  exact (hf i hi).2.1
 ·obtain ⟨i,hi,rfl⟩:=hm p hp
  exact (hf i hi).2.2
theorem trod_eng {fuel:Nat} {cs:List Value} {x:DataW H × List MemPlace} (h:DataW.trod enc Tryz.prog w base spare held fuel 40 cs=some x):
  ∃ e:EngA,cs=e.cells∧InEng w e:=by
 obtain ⟨xs,n,_,_,hlen,hxl,hf⟩:=DataW.trod_struct Tryz.underlying40 h
 rw [Tryz.cellsEg] at hlen
 obtain ⟨ds,rs,rfl,hds,hrs⟩:∃ ds rs,cs=ds++rs∧ds.length=136∧rs.length=8:=⟨cs.take 136,cs.drop 136,(List.take_append_drop _ _).symm,by rw [List.length_take];omega,by rw [List.length_drop];omega⟩
 match rs,hrs with
 | [v0,v1,v2,v3,v4,v5,v6,v7],_=>
  have f0:=hf 0 _ rfl
  have f1:=hf 1 _ rfl
  have f2:=hf 2 _ rfl
  have f3:=hf 3 _ rfl
  have f4:=hf 4 _ rfl
  have f5:=hf 5 _ rfl
  have f6:=hf 6 _ rfl
  obtain ⟨y0,hx0⟩:=some_at xs 0 (by rw [hxl];decide)
  obtain ⟨y1,hx1⟩:=some_at xs 1 (by rw [hxl];decide)
  obtain ⟨y2,hx2⟩:=some_at xs 2 (by rw [hxl];decide)
  obtain ⟨y3,hx3⟩:=some_at xs 3 (by rw [hxl];decide)
  obtain ⟨y4,hx4⟩:=some_at xs 4 (by rw [hxl];decide)
  obtain ⟨y5,hx5⟩:=some_at xs 5 (by rw [hxl];decide)
  obtain ⟨y6,hx6⟩:=some_at xs 6 (by rw [hxl];decide)
  rw [hx0] at f0
  rw [hx1] at f1
  rw [hx2] at f2
  rw [hx3] at f3
  rw [hx4] at f4
  rw [hx5] at f5
  rw [hx6] at f6
  have dr:∀ k,(ds++[v0,v1,v2,v3,v4,v5,v6,v7]).drop (136+k)=[v0,v1,v2,v3,v4,v5,v6,v7].drop k:=fun k=>by rw [← hds,← List.drop_drop,List.drop_left]
  have d0:=dr 0
  have d2:=dr 2
  have d4:=dr 4
  have d5:=dr 5
  have d6:=dr 6
  have d7:=dr 7
  simp only [Nat.add_zero,Nat.reduceAdd] at d0 d2 d4 d5 d6 d7
  simp only [List.getElem_toArray,List.getElem_cons_zero,List.getElem_cons_succ,Tryz.cellsI,Tryz.cellsB,Tryz.cellsP8,Tryz.cellsPl,Tryz.cellsLgE,Tryz.cellsLvE,Tryz.cellsHds,List.drop_zero] at f0 f1 f2 f3 f4 f5 f6
  rw [← hds,List.take_left] at f0
  rw [d0] at f1
  rw [d2] at f2
  rw [d4] at f3
  rw [d5] at f4
  rw [d6] at f5
  rw [d7] at f6
  simp only [List.drop,List.take] at f1 f2 f3 f4 f5 f6
  obtain ⟨ps,e0,hp8,hps⟩:=trod_pages f0 hds
  obtain ⟨pl,e1,hpl⟩:=trod_pool f1
  obtain ⟨lg,e2,hlg⟩:=trod_log f2
  obtain ⟨aT,cT,ls,e3,hL,lL⟩:=trod_lives f3
  obtain ⟨aH,cH,hs,e4,hH,lH⟩:=trod_holds f4
  obtain ⟨nx,e5,_⟩:=trod_num f5
  obtain ⟨dn,e6,_⟩:=DataW.trod_bool Tryz.underlying4 f6
  simp only [PoolA.cells,LogA.cells,List.cons.injEq,and_true] at e1 e2 e3 e4 e5 e6
  obtain ⟨rfl,rfl⟩:=e1
  obtain ⟨rfl,rfl⟩:=e2
  subst e0 e3 e4 e5 e6
  simp only [maxLen] at lL lH
  refine ⟨⟨ps,pl.seats,pl.a,pl.c,pl.hand,lg,ls,aT,cT,hs,aH,cH,nx,dn⟩,rfl,⟨hp8.eight,hp8.four⟩,⟨fun p hp s hs=>(hps p hp s hs).reads,hpl.reads,hlg.reads,hL,hH⟩,⟨fun p hp s hs=>?_,hpl.short,hlg.short,by show ls.length≤_;omega,by show hs.length≤_;omega⟩⟩
  have h1:=(hps p hp s hs).lI
  have h2:=(hps p hp s hs).lR
  simp only [maxLen] at h1 h2
  omega
theorem open_eng {b0:Nat} {v:Value} {d:DataW H} {ps:List MemPlace} (hval:Value.okWide Tryz.prog w .any b0 40 v) (h:DataW.Trod enc Tryz.prog w base spare held 40 v d ps):
  ∃ e:EngA,v=.agg e.cells.toArray∧InEng w e:=by
 obtain ⟨cs,rfl,hcs⟩:=okWide_struct Tryz.underlying40 hval
 obtain ⟨fuel,hf⟩:=h
 have e:(Value.agg cs).cells.toList=cs.toList:=rfl
 rw [e] at hf
 obtain ⟨r,hc,rest⟩:=trod_eng hf
 refine ⟨r,?_,rest⟩
 congr 1
 rw [← hc]
end
end Go.Proofs.YtfehemepdoomdaaGreatDoor
namespace Go.Proofs.YtfehemepdoomdaaGreatDoor
open Go.RowKit
theorem EngA.short_of {l t:EngA} {m:Nat} (h:t.v=l.v) (hl:l.short m):t.short m:=by
 simp only [EngA.v,EngV.mk.injEq] at h
 obtain ⟨h1,h2,h3,h4,h5,h6,_,_⟩:=h
 refine ⟨fun p hp x hx=>?_,PoolA.short_of (l:=l.poolA) (t:=t.poolA) (by simp only [PoolA.v,PoolV.mk.injEq];exact ⟨h2,h3⟩) hl.pool,LogA.short_of h4 hl.log,by rw [h5];exact hl.txs,by rw [h6];exact hl.holds⟩
 have hm:(p.lsn,p.ss.map (·.v))∈t.disk.map (fun p=>(p.lsn,p.ss.map (·.v))):=List.mem_map.2 ⟨p,hp,rfl⟩
 rw [h1] at hm
 obtain ⟨q,hq,he⟩:=List.mem_map.1 hm
 have hs:q.ss.map (·.v)=p.ss.map (·.v):=(Prod.mk.inj he).2
 have hx':x.v∈p.ss.map (·.v):=List.mem_map.2 ⟨x,hx,rfl⟩
 rw [← hs] at hx'
 obtain ⟨y,hy,hv⟩:=List.mem_map.1 hx'
 rw [← hv]
 exact hl.disk q hq y hy
theorem EngA.short_wide {e:EngA} (h:e.short 1048576):e.short 1099511627776:=
 ⟨fun p hp x hx=>by have:=h.disk p hp x hx;omega,PoolA.short_wide h.pool,LogA.short_wide h.log,by have:=h.txs;omega,by have:=h.holds;omega⟩
theorem l3SameSlot_any (s t:SlotA) (w:World) (hs:s.reads w) (ht:t.reads w) (hls:Fit [s]) (hlt:Fit [t]):
  Calls Tryz.prog 142 #[.agg s.cells.toArray,.agg t.cells.toArray] w fun e w'=>e=.returned (.bool (sameS s.v t.v))∧Below w.heap.size w w':=by
 obtain ⟨h1,h2⟩:=hls s (List.mem_singleton.2 rfl)
 obtain ⟨h3,h4⟩:=hlt t (List.mem_singleton.2 rfl)
 obtain ⟨W,hW,b0,b1,hbW,hsW⟩:=boxes2 w s.cells t.cells 44 44
 have C1:=specSameObj_any s.v.o t.v.o s.aI s.cI s.aR s.cR t.aI t.cI t.aR t.cR W (ReadsO.below hs hbW) (ReadsO.below ht hbW) h1 h2 h3 h4
 have HZ:Hid (sameS s.v t.v=((s.v.has == t.v.has) && sameO s.v.o t.v.o)):=rfl
 generalize sameS s.v t.v=R at*
 simp only [SlotA.cells] at*
 obtain ⟨x0,x1,x2,x3,_⟩:=b0.four
 obtain ⟨y0,y1,y2,y3,_⟩:=b1.four
 clear hsW b0 b1
 cases hb:(s.v.has == t.v.has) with
 | false=>
  have HR:Hid (R=false):=by rw [Hid,HZ.out];simp [hb]
  clear HZ C1
  go_enter Tryz.func142,Tryz.ntmps142
  go_wp2
  go_ret
  exact ⟨ret_bool HR.out.symm,by rw [hW.out];exact hbW⟩
 | true=>
  have HR:Hid (R=sameO s.v.o t.v.o):=by rw [Hid,HZ.out];simp [hb]
  clear HZ
  go_enter Tryz.func142,Tryz.ntmps142
  go_wp2_with fail
  rw [hW.out]
  refine C1.mono ?_
  clear C1 x0 x1 x2 x3 y0 y1 y2 y3
  rintro e w1 ⟨rfl,hb1⟩
  go_wp2
  go_ret
  exact ⟨ret_bool HR.out.symm,hbW.trans (hb1.mono hbW.size)⟩
def sameSs (a b:List SlotV):Bool:=(List.range 4).all fun i=>sameS (a.getD i zeroS.v) (b.getD i zeroS.v)
def samePg (a b:Int × List SlotV):Bool:=sameSs a.2 b.2 && decide (a.1=b.1)
theorem samePg_no {a b:Int × List SlotV} (i:Nat) (hi:i<4) (h:sameS (a.2.getD i zeroS.v) (b.2.getD i zeroS.v)=false):samePg a b=false:=by
 have:sameSs a.2 b.2=false:=by
  rw [sameSs,List.all_eq_false]
  exact ⟨i,List.mem_range.2 hi,by rw [h];decide⟩
 rw [samePg,this,Bool.false_and]
theorem samePg_all {a b:Int × List SlotV} (h:∀ i,i<4→sameS (a.2.getD i zeroS.v) (b.2.getD i zeroS.v)=true):samePg a b=decide (a.1=b.1):=by
 have:sameSs a.2 b.2=true:=by
  rw [sameSs,List.all_eq_true]
  exact fun i hi=>h i (List.mem_range.1 hi)
 rw [samePg,this,Bool.true_and]
theorem slotV_at (ss:List SlotA) (k:Nat):(ss.map (·.v)).getD k zeroS.v=(ss.getD k zeroS).v:=by
 simp only [List.getD,List.getElem?_map]
 cases ss[k]? <;>rfl
theorem slot_infoE (s:SlotA):(Tryz.prog.info? 44).map (·.size)=some s.cells.length:=by show _=some 4;kernel_rfl
theorem oneSlE (s:SlotA):∀ v∈s.cells,v.oneCell'=true:=by
 intro v hv
 simp only [SlotA.cells,List.mem_cons,List.not_mem_nil,or_false] at hv
 rcases hv with rfl | rfl | rfl | rfl<;>rfl
theorem slot_rng {w:World} {B:Nat} {t:TypeId} {n:Int} {ss:List SlotA} (b:Box w B (PageA.cells ⟨n,ss⟩) t) (k:Nat) (hk:k<ss.length):w.rangeAt B (1+k*4) (ss.getD k zeroS).cells:=by
 intro j v hv
 have hj:j<4:=(List.getElem?_eq_some_iff.1 hv).1
 have e:=cellsS_at ss k j hk hj
 refine b.cell (1+k*4+j) v ?_
 show (Value.int .i64 n::cellsS ss)[1+k*4+j]? =some v
 rw [show 1+k*4+j=(k*4+j)+1 by omega,List.getElem?_cons_succ,e]
 exact hv
theorem l7SamePage_any (p q:PageA) (hp:p.ss.length=4) (hq:q.ss.length=4) (w:World) (rp:ReadsS w p.ss) (rq:ReadsS w q.ss) (fp:Fit p.ss) (fq:Fit q.ss):
  Calls Tryz.prog 117 #[.agg p.cells.toArray,.agg q.cells.toArray] w fun e w'=>e=.returned (.bool (samePg (p.lsn,p.ss.map (·.v)) (q.lsn,q.ss.map (·.v))))∧Below w.heap.size w w':=by
 have HNO:Hid (∀ i,i<4→sameS (p.ss.getD i zeroS).v (q.ss.getD i zeroS).v=false→samePg (p.lsn,p.ss.map (·.v)) (q.lsn,q.ss.map (·.v))=false):=fun i hi h=>samePg_no i hi (by rw [slotV_at,slotV_at];exact h)
 have HALL:Hid ((∀ i,i<4→sameS (p.ss.getD i zeroS).v (q.ss.getD i zeroS).v=true)→samePg (p.lsn,p.ss.map (·.v)) (q.lsn,q.ss.map (·.v))=decide (p.lsn=q.lsn)):=fun h=>samePg_all (fun i hi=>by rw [slotV_at,slotV_at];exact h i hi)
 generalize samePg (p.lsn,p.ss.map (·.v)) (q.lsn,q.ss.map (·.v))=RR at*
 obtain ⟨n,ss⟩:=p
 obtain ⟨m,ts⟩:=q
 simp only at*
 obtain ⟨W,hW,b0,b1,hbW,hsW⟩:=boxes2 w (PageA.cells ⟨n,ss⟩) (PageA.cells ⟨m,ts⟩) 47 47
 have HB:Hid (∀ u,Below W.heap.size W u→Box u w.heap.size (PageA.cells ⟨n,ss⟩) 47∧Box u (w.heap.size+1) (PageA.cells ⟨m,ts⟩) 47):=fun u hu=>⟨b0.below hu b0.lt,b1.below hu b1.lt⟩
 clear hsW b0 b1
 go_enter Tryz.func117,Tryz.ntmps117
 go_wp2_with fail
 rw [hW.out]
 clear hW
 go_loopw [5] (fun i wr=>∃ k:Nat,k≤4∧i=.int .i64 (k:Int)∧Hid (∀ i,i<k→sameS (ss.getD i zeroS).v (ts.getD i zeroS).v=true)∧Below W.heap.size W wr) (fun i _=>4-(intOf i).toNat)
 case atStart=>exact ⟨0,Nat.zero_le _,rfl,fun i hi=>by omega,Below.refl _ _⟩
 case round=>
  obtain ⟨k,hk,rfl,hall,hbr⟩:=hrel
  by_cases hlt:k<4
  ·have HR:Hid (∀ u,Below W.heap.size W u→u.rangeAt w.heap.size (1+k*4) (ss.getD k zeroS).cells∧u.rangeAt (w.heap.size+1) (1+k*4) (ts.getD k zeroS).cells):=fun u hu=>⟨slot_rng (HB.out u hu).1 k (by omega),slot_rng (HB.out u hu).2 k (by omega)⟩
   have R1:=rp _ (getD_mem (k:=k) (by omega:k<ss.length))
   have R2:=rq _ (getD_mem (k:=k) (by omega:k<ts.length))
   have F1:=fp _ (getD_mem (k:=k) (by omega:k<ss.length))
   have F2:=fq _ (getD_mem (k:=k) (by omega:k<ts.length))
   have HNK:=HNO.out k hlt
   have HK:Hid (∀ b,sameS (ss.getD k zeroS).v (ts.getD k zeroS).v=b→b=true→∀ i,i<k+1→sameS (ss.getD i zeroS).v (ts.getD i zeroS).v=true):=fun b hb hb2 i hi=>by
    by_cases e:i=k
    ·rw [e,hb];exact hb2
    ·exact hall.out i (by omega)
   have HNK':Hid (_):=HNK
   clear HNK
   generalize ss.getD k zeroS=s at*
   generalize ts.getD k zeroS=t at*
   have hi0:(0:Int)≤(k:Int):=by omega
   have hi4:(k:Int)<4:=by omega
   go_wp2_with fail
   have D0:Below W.heap.size W wr.drew:=hbr.trans ((Below.refl _ _).drew.mono hbr.size)
   refine wp_region_held_drew (S:=fun u=>u.rangeAt w.heap.size (1+k*4) s.cells∧u.rangeAt (w.heap.size+1) (1+k*4) t.cells) (by kernel_rfl) (HR.out _ D0) (fun hHeld=>?_)
   generalize wr.drew=d0 at*
   refine tq 0 (v:=.int .i64 (k:Int)) rfl hHeld ?_
   try simp only [zz]
   refine tq 1 (v:=.pointer (some ⟨w.heap.size,1,none⟩)) rfl hHeld ?_
   try simp only [zz]
   refine tq 2 (v:=.pointer (some ⟨w.heap.size,1+k*4,none⟩)) rfl hHeld ?_
   try simp only [zz]
   refine tk 3 rfl (yieldsIf_load_mid (by rfl) _ _ rfl _ _ rfl (s.cells) _ (fun _ h=>h.1) Tryz.underlying44 rfl (slot_infoE _)) hHeld ?_
   try simp only [zz]
   refine tq 4 (v:=.int .i64 (k:Int)) rfl hHeld ?_
   try simp only [zz]
   refine tq 5 (v:=.pointer (some ⟨w.heap.size+1,1,none⟩)) rfl hHeld ?_
   try simp only [zz]
   refine tq 6 (v:=.pointer (some ⟨w.heap.size+1,1+k*4,none⟩)) rfl hHeld ?_
   try simp only [zz]
   refine tk 7 rfl (yieldsIf_load_mid (by rfl) _ _ rfl _ _ rfl (t.cells) _ (fun _ h=>h.2) Tryz.underlying44 rfl (slot_infoE _)) hHeld ?_
   try simp only [zz]
   refine wpAnyH_ready (rs:=[8]) (by kernel_rfl) (by simp) ?_
   refine AllReadyH.cons rfl (fun K hK=>?_) AllReadyH.nil
   go_simp
   refine (l3SameSlot_any s t _ (ReadsO.below R1 (hbW.trans (D0.mono hbW.size))) (ReadsO.below R2 (hbW.trans (D0.mono hbW.size))) (fun x hx=>by obtain rfl:=List.mem_singleton.1 hx;exact F1) (fun x hx=>by obtain rfl:=List.mem_singleton.1 hx;exact F2)).mono ?_
   rintro e d1 ⟨rfl,hb1⟩
   have D1:Below W.heap.size W d1:=D0.trans (hb1.mono D0.size)
   refine hK.out _ _ (HR.out _ D1) (fun hHeld=>?_)
   clear hK K hb1
   try simp only [zz]
   obtain ⟨bb,hsm⟩:∃ bb,Hid (sameS s.v t.v=bb):=⟨_,rfl⟩
   rw [hsm.out]
   cases bb with
   | true=>
    refine tq 9 (v:=.bool false) rfl hHeld ?_
    try simp only [zz]
    refine wpAnyH_done (by kernel_rfl) ?_ _
    clear hHeld
    go_wp2_with fail
    go_roundw
    case rel=>exact ⟨k+1,by omega,by go_num,HK.out _ hsm.out rfl,D1⟩
    case measure=>simp [intOf];omega
   | false=>
    refine tq 9 (v:=.bool true) rfl hHeld ?_
    try simp only [zz]
    refine wpAnyH_done (by kernel_rfl) ?_ _
    clear hHeld
    have HE:Hid (RR=false∧Below w.heap.size w d1):=⟨HNK'.out hsm.out,hbW.trans (D1.mono hbW.size)⟩
    go_wp2
    go_ret
    exact ⟨ret_bool HE.out.1.symm,HE.out.2⟩
  ·obtain rfl:k=4:=by omega
   have hkk:¬ ((4:Nat):Int)<4:=by omega
   have HE:Hid (RR=decide (n=m)∧Below w.heap.size w wr):=⟨HALL.out hall.out,hbW.trans (hbr.mono hbW.size)⟩
   have x0:=(HB.out _ hbr).1.cell 0 _ rfl
   have y0:=(HB.out _ hbr).2.cell 0 _ rfl
   by_cases hnm:n=m
   ·subst hnm
    go_wp2
    go_ret
    exact ⟨ret_bool (by rw [HE.out.1];simp),HE.out.2⟩
   ·have hne:(n == m)=false:=by simpa using hnm
    go_wp2
    go_ret
    exact ⟨ret_bool (by rw [HE.out.1];simp [hnm]),HE.out.2⟩
theorem implSamePage_any (p q:PageA) (hp:p.ss.length=4) (hq:q.ss.length=4) (w:World) (rp:ReadsS w p.ss) (rq:ReadsS w q.ss) (fp:Fit p.ss) (fq:Fit q.ss):
  Calls Tryz.prog 127 #[.agg p.cells.toArray,.agg q.cells.toArray] w fun e w'=>e=.returned (.bool (samePg (p.lsn,p.ss.map (·.v)) (q.lsn,q.ss.map (·.v))))∧Below w.heap.size w w':=by
 have HNO:Hid (∀ i,i<4→sameS (p.ss.getD i zeroS).v (q.ss.getD i zeroS).v=false→samePg (p.lsn,p.ss.map (·.v)) (q.lsn,q.ss.map (·.v))=false):=fun i hi h=>samePg_no i hi (by rw [slotV_at,slotV_at];exact h)
 have HALL:Hid ((∀ i,i<4→sameS (p.ss.getD i zeroS).v (q.ss.getD i zeroS).v=true)→samePg (p.lsn,p.ss.map (·.v)) (q.lsn,q.ss.map (·.v))=decide (p.lsn=q.lsn)):=fun h=>samePg_all (fun i hi=>by rw [slotV_at,slotV_at];exact h i hi)
 generalize samePg (p.lsn,p.ss.map (·.v)) (q.lsn,q.ss.map (·.v))=RR at*
 obtain ⟨n,ss⟩:=p
 obtain ⟨m,ts⟩:=q
 simp only at*
 obtain ⟨W,hW,b0,b1,hbW,hsW⟩:=boxes2 w (PageA.cells ⟨n,ss⟩) (PageA.cells ⟨m,ts⟩) 47 47
 have HB:Hid (∀ u,Below W.heap.size W u→Box u w.heap.size (PageA.cells ⟨n,ss⟩) 47∧Box u (w.heap.size+1) (PageA.cells ⟨m,ts⟩) 47):=fun u hu=>⟨b0.below hu b0.lt,b1.below hu b1.lt⟩
 clear hsW b0 b1
 have hrg0:W.rangeAt w.heap.size 1 (cellsS ss):=Box.range [.int .i64 n] (cellsS ss) [] (by rw [List.append_nil];exact (HB.out _ (Below.refl _ _)).1)
 have hi16:(Tryz.prog.info? 45).map (·.size)=some (cellsS ss).length:=by rw [cellsS_len,hp];kernel_rfl
 go_enter Tryz.func127,Tryz.ntmps127
 go_wp2_with (first | (guard_target=wpList _ _ _ (Oper.mk (some 8) _ _ _ _ _::_) _ _;refine wpList_load_mid rfl 45 (.tmp 7) rfl w.heap.size 1 rfl (cellsS ss) _ (by rw [hW.out];exact hrg0) Tryz.underlying45 rfl hi16 ?_) | fail)
 rw [hW.out]
 clear hW hrg0 hi16
 go_loopw [9] (fun i wr=>∃ k:Nat,k≤4∧i=.int .i64 (k:Int)∧Hid (∀ i,i<k→sameS (ss.getD i zeroS).v (ts.getD i zeroS).v=true)∧Below W.heap.size W wr) (fun i _=>4-(intOf i).toNat)
 case atStart=>exact ⟨0,Nat.zero_le _,rfl,fun i hi=>by omega,Below.refl _ _⟩
 case round=>
  obtain ⟨k,hk,rfl,hall,hbr⟩:=hrel
  by_cases hlt:k<4
  ·have HR1:Hid (∀ u,Below W.heap.size W u→u.rangeAt (w.heap.size+1) (1+k*4) (ts.getD k zeroS).cells):=fun u hu=>slot_rng (HB.out u hu).2 k (by omega)
   have R1:=rp _ (getD_mem (k:=k) (by omega:k<ss.length))
   have R2:=rq _ (getD_mem (k:=k) (by omega:k<ts.length))
   have F1:=fp _ (getD_mem (k:=k) (by omega:k<ss.length))
   have F2:=fq _ (getD_mem (k:=k) (by omega:k<ts.length))
   have HNK:=HNO.out k hlt
   have HK:Hid (∀ b,sameS (ss.getD k zeroS).v (ts.getD k zeroS).v=b→b=true→∀ i,i<k+1→sameS (ss.getD i zeroS).v (ts.getD i zeroS).v=true):=fun b hb hb2 i hi=>by
    by_cases e:i=k
    ·rw [e,hb];exact hb2
    ·exact hall.out i (by omega)
   have HNK':Hid (_):=HNK
   have hix:=run_index_slot ss hp k hlt
   clear HNK
   generalize ss.getD k zeroS=s at*
   generalize ts.getD k zeroS=t at*
   have hi0:(0:Int)≤(k:Int):=by omega
   have hi4:(k:Int)<4:=by omega
   obtain ⟨ZV,hZV,bZ,hbZ,hsZ⟩:=boxes1 wr [.bool false,.int .i64 0,.slice none 0 0,.slice none 0 0] 44
   obtain ⟨V,hV,bS0,hwS,hsS⟩:=range_fill [] [.bool false,.int .i64 0,.slice none 0 0,.slice none 0 0] s.cells [] (by simpa using bZ) rfl
   have bS:Box V wr.heap.size s.cells 44:=by simpa using bS0
   have HT:Hid (ZV.there wr.heap.size 0 s.cells.toArray.size):=bZ.there 0 _ (by show 0+4≤4;decide)
   have HV:Hid (ZV.setCells wr.heap.size 0 s.cells.toArray.toList=V):=hV.out
   have nb:Below wr.heap.size wr V:=hbZ.trans (hwS.below (Nat.le_refl _) (by omega))
   have D:Below W.heap.size W V:=hbr.trans (nb.mono hbr.size)
   have l6:=bS.lt
   have HR:Hid (∀ u,Below V.heap.size V u→u.rangeAt wr.heap.size 0 s.cells∧u.rangeAt (w.heap.size+1) (1+k*4) t.cells):=fun u hu=>⟨Box.range [] s.cells [] (by simpa using bS.below hu bS.lt),HR1.out u (D.trans (hu.mono D.size))⟩
   clear bZ hbZ hsZ hV bS0 hwS hsS bS
   go_upto_region 4 with (first | (guard_target=wpList _ _ _ (Oper.mk none (Op.store _ (Operand.tmp 6) _) _ _ _ _::_) _ _;refine wpList_store_mid rfl 44 (.tmp 6) (.tmp 12) rfl wr.heap.size 0 s.cells.toArray rfl rfl (by rw [hZV.out];exact HT.out) (by rw [List.size_toArray];exact slot_infoE _) (all_oneCell_toArray (oneSlE s)) ?_) | fail)
   rw [hZV.out,HV.out]
   clear hZV HV HT hix
   have D0:Below V.heap.size V V.drew:=(Below.refl _ _).drew
   refine wp_region_held_drew (S:=fun u=>u.rangeAt wr.heap.size 0 s.cells∧u.rangeAt (w.heap.size+1) (1+k*4) t.cells) (by kernel_rfl) (HR.out _ D0) (fun hHeld=>?_)
   generalize V.drew=d0 at*
   refine tk 0 rfl (yieldsIf_load_mid (by rfl) _ _ rfl _ _ rfl (s.cells) _ (fun _ h=>h.1) Tryz.underlying44 rfl (slot_infoE _)) hHeld ?_
   try simp only [zz]
   refine tq 1 (v:=.int .i64 (k:Int)) rfl hHeld ?_
   try simp only [zz]
   refine tq 2 (v:=.pointer (some ⟨w.heap.size+1,1,none⟩)) rfl hHeld ?_
   try simp only [zz]
   refine tq 3 (v:=.pointer (some ⟨w.heap.size+1,1+k*4,none⟩)) rfl hHeld ?_
   try simp only [zz]
   refine tk 4 rfl (yieldsIf_load_mid (by rfl) _ _ rfl _ _ rfl (t.cells) _ (fun _ h=>h.2) Tryz.underlying44 rfl (slot_infoE _)) hHeld ?_
   try simp only [zz]
   refine wpAnyH_ready (rs:=[5]) (by kernel_rfl) (by simp) ?_
   refine AllReadyH.cons rfl (fun K hK=>?_) AllReadyH.nil
   have RB:Below w.heap.size w d0:=hbW.trans ((D.trans (D0.mono D.size)).mono hbW.size)
   go_simp
   refine (implSameSlot_any s t _ (ReadsO.below R1 RB) (ReadsO.below R2 RB) (fun x hx=>by obtain rfl:=List.mem_singleton.1 hx;exact F1) (fun x hx=>by obtain rfl:=List.mem_singleton.1 hx;exact F2)).mono ?_
   rintro e d1 ⟨rfl,hb1⟩
   have DV:Below V.heap.size V d1:=D0.trans (hb1.mono D0.size)
   have D1:Below W.heap.size W d1:=D.trans (DV.mono D.size)
   refine hK.out _ _ (HR.out _ DV) (fun hHeld=>?_)
   clear hK K hb1
   try simp only [zz]
   obtain ⟨bb,hsm⟩:∃ bb,Hid (sameS s.v t.v=bb):=⟨_,rfl⟩
   rw [hsm.out]
   cases bb with
   | true=>
    refine tq 6 (v:=.bool false) rfl hHeld ?_
    try simp only [zz]
    refine wpAnyH_done (by kernel_rfl) ?_ _
    clear hHeld
    go_wp2_with fail
    go_roundw
    case rel=>exact ⟨k+1,by omega,by go_num,HK.out _ hsm.out rfl,D1⟩
    case measure=>simp [intOf];omega
   | false=>
    refine tq 6 (v:=.bool true) rfl hHeld ?_
    try simp only [zz]
    refine wpAnyH_done (by kernel_rfl) ?_ _
    clear hHeld
    have HE:Hid (RR=false∧Below w.heap.size w d1):=⟨HNK'.out hsm.out,hbW.trans (D1.mono hbW.size)⟩
    go_wp2
    go_ret
    exact ⟨ret_bool HE.out.1.symm,HE.out.2⟩
  ·obtain rfl:k=4:=by omega
   have hkk:¬ ((4:Nat):Int)<4:=by omega
   have HE:Hid (RR=decide (n=m)∧Below w.heap.size w wr):=⟨HALL.out hall.out,hbW.trans (hbr.mono hbW.size)⟩
   have x0:=(HB.out _ hbr).1.cell 0 _ rfl
   have y0:=(HB.out _ hbr).2.cell 0 _ rfl
   by_cases hnm:n=m
   ·subst hnm
    go_wp2
    go_ret
    exact ⟨ret_bool (by rw [HE.out.1];simp),HE.out.2⟩
   ·have hne:(n == m)=false:=by simpa using hnm
    go_wp2
    go_ret
    exact ⟨ret_bool (by rw [HE.out.1];simp [hnm]),HE.out.2⟩
theorem run_append_seat {w:World} (ty:TypeId) (lo hi:Nat) (a:Option Addr) (c:Nat) (rs:List SeatA) (hown:OwnSts w lo hi a c rs)
  (b off:Nat) (sc:Nat) (q:SeatA) (hr:w.rangeAt b off q.cells) (l u:Nat) (hq:q.own w l u) (hl:hi≤l) (hu:u≤w.heap.size)
  (hb:rs.length+1≤68719476736) (hlo:lo≤hi):
  ∃ a' c' w',(Builtin.append_ #[49,49] ty #[.slice a rs.length c,.slice (some ⟨b,off,none⟩) 1 sc]).run Tryz.prog w=.ok (.slice a' (rs++[q]).length c') w'∧OwnSts w' lo w'.heap.size a' c' (rs++[q])∧w.grownBy w' (Value.slice a rs.length c).ownBlock∧
   (∀ k,(Value.slice a' (rs++[q]).length c').ownBlock=some k→(Value.slice a rs.length c).ownBlock=some k∨k=w.heap.size):=by
 obtain ⟨i0,hi0,hz0,hz1,hz2⟩:=info_parts Tryz.infoSeat
 have hqb:=hq.blocks_lt
 have htop:=hown.top
 obtain ⟨v',w',hrun,h1,h2,_,h5⟩:=run_append_own_at (P:=Tryz.prog) w lo 49 ty 144 i0 (.agg zeroSt.cells.toArray) 20 280 Tryz.underlying49 hi0 hz0 hz1 hz2 rfl (by decide) _ _ _ hown.row ⟨b,off,none⟩ 1 sc q.cells (by rfl) (by
  intro j v hj
  rw [Addr_add]
  exact hr j v hj) (oneSt q) (by simp only [maxLen];omega) (by omega) (by omega)
 have e:cellsSts rs++q.cells=cellsSts (rs++[q]):=by rw [cellsSts_app,cellsSts_cons];simp [cellsSts]
 have e2:rs.length+1=(rs++[q]).length:=by simp
 rw [e,e2] at h1
 have sh:∃ a' c',v'=.slice a' (rs++[q]).length c':=by
  rcases h1.2 with ⟨rfl,h0⟩ | ⟨g,cap,cur,rfl,_⟩
  ·simp at h0
  ·exact ⟨_,_,rfl⟩
 obtain ⟨a',c',rfl⟩:=sh
 have hsz:=h2.size
 have ht:Touch (Value.slice a rs.length c).ownBlock.toList w w':=Touch.of_grown h2 (fun k hk=>Option.mem_toList.2 hk)
 have hrow:=h1.lt
 have hold:∀ r∈rs,r.own w' lo w'.heap.size:=fun r hr=>((hown.each r hr).touch ht (fun k hk hk'=>(List.nodup_append.1 hown.apart).2.2 k hk' k (List.mem_flatMap.2 ⟨r,hr,hk⟩) rfl)).widen (Nat.le_refl _) (by omega) (Nat.le_refl _)
 have hnew:q.own w' lo w'.heap.size:=(hq.touch ht (fun k hk hk'=>by have:=hqb k hk;have:=hown.blk k (Option.mem_toList.1 hk');omega)).widen (by omega) (by omega) (Nat.le_refl _)
 refine ⟨a',c',w',hrun,⟨h1,Nat.le_refl _,fun k hk=>(hrow k hk).2,fun r hr=>?_,?_⟩,h2,fun k hk=>h5.elim (fun h5=>.inl (by rw [← h5];exact hk)) (fun h5=>by rw [h5] at hk;exact .inr (Option.some.inj hk).symm)⟩
 ·rcases List.mem_append.1 hr with hr | hr
  ·exact hold r hr
  ·obtain rfl:=List.mem_singleton.1 hr
   exact hnew
 ·rw [List.flatMap_append,List.nodup_append,List.nodup_append]
  have hap:=(List.nodup_append.1 hown.apart).2.1
  have hin:∀ x∈rs.flatMap SeatA.blocks,lo≤x∧x<hi:=fun x hx=>by
   obtain ⟨r,hr,hx⟩:=List.mem_flatMap.1 hx
   exact (hown.each r hr).blocks_lt x hx
  refine ⟨by cases (Value.slice a' (rs++[q]).length c').ownBlock<;>simp,⟨hap,by simpa using hq.apart,fun x hx y hy e=>?_⟩,fun x hx y hy e=>?_⟩
  ·have:=hin x hx
   simp only [List.flatMap_cons,List.flatMap_nil,List.append_nil] at hy
   have:=hqb y hy
   omega
  ·have hx':=Option.mem_toList.1 hx
   subst e
   rcases List.mem_append.1 hy with hy | hy
   ·obtain ⟨r,hr,hy⟩:=List.mem_flatMap.1 hy
    exact rowSt_apart h1 (hold r hr) x hx' hy
   ·simp only [List.flatMap_cons,List.flatMap_nil,List.append_nil] at hy
    exact rowSt_apart h1 hnew x hx' hy
theorem step_append_seat {w:World} {ops:Array Oper} {o:Oper} {act:Act} {K:Act→World→Prop} {Q:Exit→Act→World→Prop} {E:Prop} (hgd:o.guard=none) (s x:Operand)
  (ho:o.op=.call { callee:=.builtin .append,args:=#[s,x],argTypes:=#[49,49] })
  (lo hi:Nat) (a:Option Addr) (c:Nat) (rs:List SeatA) (hs:act.eval s=.slice a rs.length c) (hown:OwnSts w lo hi a c rs)
  (b off:Nat) (sc:Nat) (q:SeatA) (hx:act.eval x=.slice (some ⟨b,off,none⟩) 1 sc) (hr:w.rangeAt b off q.cells) (l u:Nat) (hq:q.own w l u) (hl:hi≤l) (hu:u≤w.heap.size)
  (hb:rs.length+1≤68719476736) (hlo:lo≤hi)
  (h:∀ a' c' w',OwnSts w' lo w'.heap.size a' c' (rs++[q])→w.grownBy w' (Value.slice a rs.length c).ownBlock→(∀ k,(Value.slice a' (rs++[q]).length c').ownBlock=some k→(Value.slice a rs.length c).ownBlock=some k∨k=w.heap.size)→K (act.put o.dst (.slice a' (rs++[q]).length c')) w'):
  if Region.wanted o (yielded ops act.tmps)=true then Oper.wp Tryz.prog o act w K Q else E:=by
 have hw:Region.wanted o (yielded ops act.tmps)=true:=by simp [Region.wanted,hgd]
 rw [if_pos hw]
 obtain ⟨a',c',w',hrun,h2,h3,h4⟩:=run_append_seat (w:=w) o.type lo hi a c rs hown b off sc q hr l u hq hl hu hb hlo
 unfold Oper.wp
 simp [execOp,ho,resolve,invoke,builtin,hs,hx,hrun,Result.andThen]
 have:=h a' c' w' h2 h3 h4
 rw [List.length_append,List.length_singleton] at this
 exact this
end Go.Proofs.YtfehemepdoomdaaGreatDoor
namespace Go.Proofs.YtfehemepdoomdaaGreatDoor
open Go.RowKit
attribute [local go_sem ↓] Go.wp_at_zero Go.wp_at_succ
end Go.Proofs.YtfehemepdoomdaaGreatDoor
namespace Go.Proofs.YtfehemepdoomdaaGreatDoor
open Go.RowKit
theorem seatFrom_at (ss:List SeatV):∀ (no:Int) (b k:Nat),k<ss.length→(ss.getD k zeroStV).no=no→(∀ j,j<k→(ss.getD j zeroStV).no≠no)→seatFrom no ss b=((b+k:Nat):Int):=by
 induction ss with
 | nil=>intro no b k h;simp at h
 | cons s r ih=>
  intro no b k hk he hn
  rw [seatFrom]
  cases k with
  | zero=>simp only [List.getD_cons_zero] at he;rw [if_pos he];simp
  | succ k=>
   have h0:=hn 0 (by omega)
   simp only [List.getD_cons_zero] at h0
   simp only [List.getD_cons_succ] at he
   rw [if_neg h0,ih no (b+1) k (by simpa using hk) he (fun j hj=>by have:=hn (j+1) (by omega);simpa using this)]
   omega
theorem seatFrom_none (ss:List SeatV):∀ (no:Int) (b:Nat),(∀ j,j<ss.length→(ss.getD j zeroStV).no≠no)→seatFrom no ss b= -1:=by
 induction ss with
 | nil=>intro no b _;rfl
 | cons s r ih=>
  intro no b hn
  have h0:=hn 0 (by simp)
  simp only [List.getD_cons_zero] at h0
  rw [seatFrom,if_neg h0,ih no (b+1) (fun j hj=>by have:=hn (j+1) (by simpa using hj);simpa using this)]
theorem seated_at {ss:List SeatV} {no:Int} {k:Nat} (hk:k<ss.length) (he:(ss.getD k zeroStV).no=no) (hn:∀ j,j<k→(ss.getD j zeroStV).no≠no):seatedOf ss no=k:=by
 have:=seatFrom_at ss no 0 k hk he hn
 simpa [seatedOf] using this
theorem seated_none {ss:List SeatV} {no:Int} (hn:∀ j,j<ss.length→(ss.getD j zeroStV).no≠no):seatedOf ss no= -1:=seatFrom_none ss no 0 hn
theorem seated_cases (ss:List SeatV) (no:Int):(∃ k:Nat,k<ss.length∧(ss.getD k zeroStV).no=no∧(∀ j,j<k→(ss.getD j zeroStV).no≠no)∧seatedOf ss no=k)∨((∀ j,j<ss.length→(ss.getD j zeroStV).no≠no)∧seatedOf ss no= -1):=by
 by_cases h:∃ k,k<ss.length∧(ss.getD k zeroStV).no=no
 ·have hm:∃ k,(k<ss.length∧(ss.getD k zeroStV).no=no)∧∀ j,j<k→¬ (j<ss.length∧(ss.getD j zeroStV).no=no):=by
   obtain ⟨k,hk⟩:=h
   induction k using Nat.strongRecOn with
   | _ k ih=>
    by_cases h2:∃ j,j<k∧(j<ss.length∧(ss.getD j zeroStV).no=no)
    ·obtain ⟨j,hj,hp⟩:=h2
     exact ih j hj hp
    ·exact ⟨k,hk,fun j hj hp=>h2 ⟨j,hj,hp⟩⟩
  obtain ⟨k,⟨h1,h2⟩,h3⟩:=hm
  have h4:∀ j,j<k→(ss.getD j zeroStV).no≠no:=fun j hj e=>h3 j hj ⟨by omega,e⟩
  exact .inl ⟨k,h1,h2,h4,seated_at h1 h2 h4⟩
 ·have h2:∀ j,j<ss.length→(ss.getD j zeroStV).no≠no:=fun j hj e=>h ⟨j,hj,e⟩
  exact .inr ⟨h2,seated_none h2⟩
def seatB (s:SeatV):Bool:=inB s.no 0 7 && okP s.lsn s.ss
def freshAt (ss:List SeatV) (i:Nat):Bool:=seatB (ss.getD i zeroStV) && decide (seatedOf ss (ss.getD i zeroStV).no=i)
def okPool (p:PoolV):Bool:=decide (p.seats.length≤3) && (inB p.hand 0 2 && (List.range p.seats.length).all (freshAt p.seats))
theorem okPool_long {p:PoolV} (h:¬ p.seats.length≤3):okPool p=false:=by simp [okPool,h]
theorem okPool_hand {p:PoolV} (h:inB p.hand 0 2=false):okPool p=false:=by simp [okPool,h]
theorem okPool_no {p:PoolV} (k:Nat) (hk:k<p.seats.length) (h:freshAt p.seats k=false):okPool p=false:=by
 have:(List.range p.seats.length).all (freshAt p.seats)=false:=by
  rw [List.all_eq_false]
  exact ⟨k,List.mem_range.2 hk,by simp [h]⟩
 simp [okPool,this]
theorem okPool_yes {p:PoolV} (h1:p.seats.length≤3) (h2:inB p.hand 0 2=true) (h:∀ k,k<p.seats.length→freshAt p.seats k=true):okPool p=true:=by
 have:(List.range p.seats.length).all (freshAt p.seats)=true:=by
  rw [List.all_eq_true]
  exact fun k hk=>h k (List.mem_range.1 hk)
 simp [okPool,this,h1,h2]
theorem okPool_iff {p:PoolV} (h:okPool p=true):p.seats.length≤3∧inB p.hand 0 2=true∧∀ k,k<p.seats.length→freshAt p.seats k=true:=by
 simp only [okPool,Bool.and_eq_true,decide_eq_true_eq,List.all_eq_true] at h
 exact ⟨h.1,h.2.1,fun k hk=>h.2.2 k (List.mem_range.2 hk)⟩
theorem fresh_bad {ss:List SeatV} {i:Nat} (h:seatB (ss.getD i zeroStV)=false):freshAt ss i=false:=by simp only [freshAt,h,Bool.false_and]
theorem fresh_dup {ss:List SeatV} {i k:Nat} (hk:k<i) (hi:i<ss.length) (he:(ss.getD k zeroStV).no=(ss.getD i zeroStV).no):freshAt ss i=false:=by
 have:seatedOf ss (ss.getD i zeroStV).no≠(i:Int):=by
  rcases seated_cases ss (ss.getD i zeroStV).no with ⟨j,h1,h2,h3,h4⟩ | ⟨h1,_⟩
  ·rw [h4]
   intro e
   have:j=i:=by omega
   subst this
   exact h3 k hk he
  ·exact absurd rfl (h1 i hi)
 rw [freshAt,decide_eq_false this,Bool.and_false]
theorem fresh_yes {ss:List SeatV} {i:Nat} (hi:i<ss.length) (hb:seatB (ss.getD i zeroStV)=true) (h:∀ k,k<i→(ss.getD k zeroStV).no≠(ss.getD i zeroStV).no):freshAt ss i=true:=by
 have:=seated_at hi rfl h
 rw [freshAt,hb,decide_eq_true this]
 rfl
def ofTx (tx:Int) (r:RecV):Bool:=(r.tx == tx) && (r.kind != 6)
def chainDown (tx:Int) (rs:List RecV):Nat→List Int
 | 0=>[]
 | k+1=>(if ofTx tx (rs.getD k zeroR.v)=true then [(rs.getD k zeroR.v).lsn] else [])++chainDown tx rs k
def chainOf (l:LogV) (tx:Int):List Int:=chainDown tx l.recs l.recs.length
theorem recD_v (rs:List RecA) (k:Nat):(rs.map RecA.v).getD k zeroR.v=(rs.getD k zeroR).v:=by
 simp only [List.getD,List.getElem?_map]
 cases rs[k]? <;>rfl
theorem chain_step (tx:Int) (rs:List RecA) (k:Nat) (L R:List Int) (h:L++chainDown tx (rs.map RecA.v) (k+1)=R):
  (if ofTx tx (rs.getD k zeroR).v=true then L++[(rs.getD k zeroR).lsn] else L)++chainDown tx (rs.map RecA.v) k=R:=by
 rw [chainDown,recD_v] at h
 by_cases hq:ofTx tx (rs.getD k zeroR).v=true
 ·rw [if_pos hq] at h ⊢;rw [← h,List.append_assoc];rfl
 ·rw [if_neg hq] at h ⊢;rw [← h];rfl
theorem readsI_cell (w:World) (m:Int) (t:TypeId):ReadsI (w.alloc (.cells #[.int .i64 m] t)) (some ⟨w.heap.size,0,none⟩) [m]:=by
 intro _
 refine ⟨w.heap.size,0,rfl,fun i hi=>?_⟩
 have hi0:i=0:=by simp at hi;omega
 subst hi0
 exact (box_new w [.int .i64 m] t).cell 0 _ rfl
theorem all_no {n:Nat} {f:Nat→Bool} (k:Nat) (hk:k<n) (h:f k=false):(List.range n).all f=false:=by
 rw [List.all_eq_false];exact ⟨k,List.mem_range.2 hk,by rw [h];decide⟩
theorem all_yes {n:Nat} {f:Nat→Bool} (h:∀ k,k<n→f k=true):(List.range n).all f=true:=by
 rw [List.all_eq_true];exact fun k hk=>h k (List.mem_range.1 hk)
theorem all_at {n:Nat} {f:Nat→Bool} (h:(List.range n).all f=true) (k:Nat) (hk:k<n):f k=true:=by
 rw [List.all_eq_true] at h;exact h k (List.mem_range.2 hk)
def zpgV:Int × List SlotV:=(0,[])
def diskAt (e:EngV) (i:Nat):Bool:=okP (e.disk.getD i zpgV).1 (e.disk.getD i zpgV).2 && decide ((e.disk.getD i zpgV).1≤e.log.sure)
def diskB (e:EngV):Bool:=(List.range 8).all (diskAt e)
def seatAt (e:EngV) (i:Nat):Bool:=decide ((e.seats.getD i zeroStV).lsn≤(e.log.recs.length:Int)) && ((e.seats.getD i zeroStV).dirty || samePg ((e.seats.getD i zeroStV).lsn,(e.seats.getD i zeroStV).ss) (e.disk.getD (e.seats.getD i zeroStV).no.toNat zpgV))
def seatsB (e:EngV):Bool:=(List.range e.seats.length).all (seatAt e)
def nextAt (e:EngV) (i:Nat):Bool:=decide ((e.log.recs.getD i zeroR.v).tx<e.next)
def nextB (e:EngV):Bool:=(List.range e.log.recs.length).all (nextAt e)
def txAt (e:EngV) (i:Nat):Bool:=inB (e.txs.getD i zeroL).tx 1 (e.next-1) && (!(e.txs.getD i zeroL).aborts && (decide ((e.txs.getD i zeroL).last=lastOf e.log.recs (e.txs.getD i zeroL).tx) && (decide (i=0) || decide ((e.txs.getD (i-1) zeroL).tx<(e.txs.getD i zeroL).tx))))
def txsB (e:EngV):Bool:=(List.range e.txs.length).all (txAt e)
def freshH (hs:List HoldV) (i:Nat):Bool:=(List.range i).all fun k=>decide ((hs.getD k zeroH).oid≠(hs.getD i zeroH).oid)
def holdAt (e:EngV) (i:Nat):Bool:=inB (e.holds.getD i zeroH).oid 1 31 && (decide (0≤liveOf e.txs (e.holds.getD i zeroH).tx) && freshH e.holds i)
def holdsB (e:EngV):Bool:=(List.range e.holds.length).all (holdAt e)
def bareB (e:EngV):Bool:=decide (e.seats.length=0) && (decide (e.txs.length=0) && decide (e.holds.length=0))
def okTxs (e:EngV):Bool:=txsB e && (holdsB e && decide (e.txs.length≤6))
def EngV.poolV (e:EngV):PoolV:=⟨e.seats,e.hand⟩
def okEng (e:EngV):Bool:=okLog e.log && (okPool e.poolV && (inB e.next 1 1001 && (okTxs e && (nextB e && (diskB e && (seatsB e && (!e.down || bareB e)))))))
theorem diskV_at {e:EngA} (h:e.shape) (i:Nat) (hi:i<8):e.v.disk.getD i zpgV=((e.disk.getD i zeroP).lsn,(e.disk.getD i zeroP).ss.map (·.v)):=by
 have hi':i<e.disk.length:=by rw [h.eight];exact hi
 simp [EngA.v,List.getD,hi']
theorem check_tx {r:RecV} (h:okR r=true) (hk:r.kind=6):r.tx=0:=by
 by_cases hz:r.tx=0
 ·exact hz
 ·exfalso
  simp [okR,hk,zeroB,hz] at h
theorem last_chain {l:LogV} (hl:okLog l=true) (tx:Int) (ht:1≤tx):∀ k,k≤l.recs.length→(chainDown tx l.recs k).headD 0=lastFrom tx l.recs k:=by
 obtain ⟨_,_,_,hall⟩:=okLog_yes hl
 intro k
 induction k with
 | zero=>intro _;rfl
 | succ k ih=>
  intro hk
  obtain ⟨h1,h2⟩:=hall k (by omega)
  have e:l.recs.getD k zeroR.v=l.recs.getD k noR:=rfl
  rw [chainDown,lastFrom,e]
  by_cases hx:(l.recs.getD k noR).tx=tx
  ·have hk6:(l.recs.getD k noR).kind≠6:=fun h6=>by have:=check_tx h2 h6;omega
   have ho:ofTx tx (l.recs.getD k noR)=true:=by simp only [ofTx,Bool.and_eq_true,beq_iff_eq,bne_iff_ne];exact ⟨hx,hk6⟩
   rw [if_pos ho,if_pos hx]
   exact h1
  ·have ho:¬ ofTx tx (l.recs.getD k noR)=true:=by simp only [ofTx,Bool.and_eq_true,beq_iff_eq];exact fun h=>hx h.1
   rw [if_neg ho,if_neg hx,List.nil_append]
   exact ih (by omega)
theorem last_head {l:LogV} (hl:okLog l=true) (tx:Int) (ht:1≤tx):(chainOf l tx).headD 0=lastOf l.recs tx:=last_chain hl tx ht _ (Nat.le_refl _)
theorem okEng_next {e:EngV} {k:Nat} (hk:k<e.log.recs.length) (h:nextAt e k=false):okEng e=false:=by
 have:nextB e=false:=all_no k hk h
 simp [okEng,this]
theorem okEng_disk {e:EngV} {k:Nat} (hk:k<8) (h:diskAt e k=false):okEng e=false:=by
 have:diskB e=false:=all_no k hk h
 simp [okEng,this]
theorem okEng_seat {e:EngV} {k:Nat} (hk:k<e.seats.length) (h:seatAt e k=false):okEng e=false:=by
 have:seatsB e=false:=all_no k hk h
 simp [okEng,this]
theorem okEng_all {e:EngV} (h1:okLog e.log=true) (h2:okPool e.poolV=true) (h3:inB e.next 1 1001=true) (h4:okTxs e=true) (h5:∀ k,k<e.log.recs.length→nextAt e k=true) (h6:∀ k,k<8→diskAt e k=true) (h7:∀ k,k<e.seats.length→seatAt e k=true):okEng e=(!e.down || bareB e):=by
 have a:nextB e=true:=all_yes h5
 have b:diskB e=true:=all_yes h6
 have c:seatsB e=true:=all_yes h7
 simp [okEng,h1,h2,h3,h4,a,b,c]
theorem seat_no {e:EngV} (h:okPool e.poolV=true) (k:Nat) (hk:k<e.seats.length):∃ n:Nat,(e.seats.getD k zeroStV).no=n∧n<8:=by
 obtain ⟨_,_,h3⟩:=okPool_iff h
 have:=h3 k hk
 simp only [freshAt,seatB,Bool.and_eq_true] at this
 have hb:=this.1.1
 simp only [inB,decide_eq_true_eq] at hb
 exact ⟨(e.seats.getD k zeroStV).no.toNat,(Int.toNat_of_nonneg hb.1).symm,by have h2:=hb.2;have h1:=hb.1;show (e.poolV.seats.getD k zeroStV).no.toNat<8;omega⟩
theorem seat_rngE {w:World} {a:Option Addr} {ss:List SeatA} (h:ReadsSts w a ss) (k:Nat) (hk:k<ss.length):∃ b off,a=some ⟨b,off,none⟩∧(∀ j,j<ss.length→w.rangeAt b (off+j*20) (ss.getD j zeroSt).cells∧ReadsS w (ss.getD j zeroSt).ss):=by
 obtain ⟨b,off,ha,hh⟩:=h (by intro e;rw [e] at hk;simp at hk)
 exact ⟨b,off,ha,fun j hj=>hh j hj⟩
def mkB (bs:List Bool):List Value:=bs.map Value.bool++List.replicate (4-bs.length) (.bool false)
theorem mkB_set (bs:List Bool) (b:Bool) (h:bs.length<4):(mkB bs).set bs.length (.bool b)=mkB (bs++[b]):=by
 unfold mkB
 rw [List.set_append_right _ _ (by simp)]
 have e:4-bs.length=(4-(bs++[b]).length)+1:=by simp;omega
 rw [e,List.replicate_succ]
 simp
theorem mkB_len (bs:List Bool) (h:bs.length≤4):(mkB bs).length=4:=by simp [mkB];omega
theorem mkB_some (bs:List Bool) (h:bs.length≤4) (k:Nat) (hk:k<4):∃ v,(mkB bs)[k]? =some v:=⟨_,List.getElem?_eq_getElem (by rw [mkB_len bs h];exact hk)⟩
def FourAns (bs:List Bool) (e:Ending):Prop:=∃ c0 c1 c2 c3:Bool,e=.returned (.agg #[.bool c0,.bool c1,.bool c2,.bool c3])∧bs=[c0,c1,c2,c3]
theorem take_snoc (ss:List SlotA) (q:SlotV→Bool) (k:Nat) (h:k<ss.length):(ss.take (k+1)).map (fun s=>q s.v)=(ss.take k).map (fun s=>q s.v)++[q (ss.getD k zeroS).v]:=by
 rw [List.take_add_one,List.map_append]
 simp [List.getD,h]
theorem markSlots_ok (p:PageA) (h4:p.ss.length=4) (w:World) (hg:ErrT w) (hr:ReadsS w p.ss) (hl:Fit p.ss):
  Calls Tryz.prog 145 #[.agg p.cells.toArray,.func (.func 146) #[] #[]] w fun e w'=>FourAns (p.ss.map (fun s=>slotB s.v)) e∧Below w.heap.size w w':=by
 obtain ⟨n,ss⟩:=p
 simp only [PageA.cells] at*
 obtain ⟨W,hW,b0,b1,b2,hbW,hsW⟩:=boxes3 w (.int .i64 n::cellsS ss) [.bool false,.bool false,.bool false,.bool false] [.bool false,.bool false,.bool false,.bool false] 47 185 185
 have b2':Box W (w.heap.size+1+1) (mkB []) 185:=b2
 have hsW':w.heap.size+1+1<W.heap.size:=by omega
 have hrg0:W.rangeAt w.heap.size 1 (cellsS ss):=Box.range [.int .i64 n] (cellsS ss) [] (by simpa using b0)
 have hi0:(Tryz.prog.info? 45).map (·.size)=some (cellsS ss).length:=by rw [cellsS_len,h4];kernel_rfl
 have HX:=run_index_slot ss h4
 have H4:Hid (ss.length=4):=h4
 clear b2 hsW h4
 go_enter Tryz.func145,Tryz.ntmps145
 go_wp2_with (first | (guard_target=wpList _ _ _ (Oper.mk (some 9) _ _ _ _ _::_) _ _;refine wpList_load_mid rfl 45 (.tmp 8) rfl w.heap.size 1 rfl (cellsS ss) _ (by rw [hW.out];exact hrg0) Tryz.underlying45 rfl hi0 ?_) | fail)
 rw [hW.out]
 clear hW hrg0 hi0
 go_loopw [10] (fun i wr=>∃ (k:Nat) (bs:List Bool),i=.int .i64 k∧k≤4∧Hid (bs.length=k∧bs=(ss.take k).map (fun s=>slotB s.v))∧Box wr (w.heap.size+1+1) (mkB bs) 185∧Below (w.heap.size+1+1) W wr)
  (fun i _=>4-(intOf i).toNat)
 case atStart=>exact ⟨0,[],rfl,by omega,⟨rfl,rfl⟩,b2',Below.refl _ _⟩
 case round=>
  obtain ⟨k,bs,rfl,hk,hbs,hbox,hbl⟩:=hrel
  clear b2'
  have b1r:=b1.below hbl (by omega)
  have hsr:=hbl.size
  by_cases hlt:k<4
  ·have hkl:k<ss.length:=by rw [H4.out];exact hlt
   have hx:=HX k hlt
   clear HX
   have hbs4:bs.length≤4:=by have:=hbs.out.1;omega
   have HV:Hid (_=_):=take_snoc ss (fun s=>slotB s) k hkl
   have hgr:=hg.keep (hbW.trans (hbl.mono (by omega)))
   have hrk:=(hr _ (getD_mem hkl)).below (hbW.trans (hbl.mono (by omega)))
   have hlk:Fit [ss.getD k zeroS]:=fun s hs=>by obtain rfl:=List.mem_singleton.1 hs;exact hl _ (getD_mem hkl)
   generalize ss.getD k zeroS=s at*
   simp only [SlotA.cells] at hx
   obtain ⟨W1,hW1,bx,hbx1,hsx1⟩:=boxes1 wr [.bool s.v.has,.int .i64 s.v.o.kind,.slice s.aI s.v.o.ints.length s.cI,.slice s.aR s.v.o.refs.length s.cR] 44
   have hsz:=hbox.lt
   have B1:Below (w.heap.size+1+1) W W1:=hbl.trans (hbx1.mono (by omega))
   go_wp2_with fail
   rw [hW1.out]
   clear hx
   refine (slotOk_any s W1 (hgr.keep hbx1) (hrk.below hbx1) hlk).mono ?_
   rintro e w2 ⟨rfl,hb2⟩
   have hs2:=hb2.size
   have bm2:=(hbox.below hbx1 hsz).below hb2 (by omega)
   obtain ⟨u,hu⟩:=mkB_some bs hbs4 k hlt
   have hc:=bm2.cell k u hu
   have hf:=bm2.frozen k
   obtain ⟨W3,hW3,b3,hw3,hs3⟩:=box_set bm2 k (.bool (slotB s.v))
   have b3':Box W3 (w.heap.size+1+1) (mkB (bs++[slotB s.v])) 185:=by
    have e:=mkB_set bs (slotB s.v) (by have:=hbs.out.1;omega)
    rw [hbs.out.1] at e
    rw [← e];exact b3
   have HB:Hid ((bs++[slotB s.v]).length=k+1∧bs++[slotB s.v]=(ss.take (k+1)).map (fun s=>slotB s.v)):=⟨by have:=hbs.out.1;simp;omega,by rw [HV.out,← hbs.out.2]⟩
   have B3:Below (w.heap.size+1+1) W W3:=(B1.trans (hb2.mono (by omega))).trans (hw3.below (Nat.le_refl _) (by omega))
   clear b3 bm2 hu HV
   go_wp2_with fail
   rw [hW3.out]
   go_roundw
   case rel=>exact ⟨k+1,bs++[slotB s.v],by go_num,by omega,HB,b3',B3⟩
   case measure=>simp [intOf];omega
  ·obtain rfl:k=4:=by omega
   have hkk:¬ ((4:Nat):Int)<4:=by omega
   have HQ:Hid (bs=ss.map (fun s=>slotB s.v)):=by rw [Hid,hbs.out.2,List.take_of_length_le (by rw [H4.out];omega)]
   obtain ⟨c0,c1,c2,c3,rfl⟩:∃ c0 c1 c2 c3,bs=[c0,c1,c2,c3]:=by
    match bs,hbs.out.1 with
    | [c0,c1,c2,c3],_=>exact ⟨c0,c1,c2,c3,rfl⟩
   have hbx:Box wr (w.heap.size+1+1) [.bool c0,.bool c1,.bool c2,.bool c3] 185:=hbox
   obtain ⟨x0,x1,x2,x3,_⟩:=hbx.four
   obtain ⟨y0,y1,y2,y3,f0,f1,f2,f3⟩:=b1r.four
   obtain ⟨WF,hWF,bF,hwF,hsF⟩:=box4_fill b1r (.bool c0) (.bool c1) (.bool c2) (.bool c3)
   have hbF:Below w.heap.size w WF:=(hbW.trans (hbl.mono (by omega))).trans (hwF.below (by omega) (by omega))
   clear hbox hbs
   go_wp2
   rw [hWF.out]
   obtain ⟨q0,q1,q2,q3,_⟩:=bF.four
   exact bodyPost_ret (v:=.agg #[.bool c0,.bool c1,.bool c2,.bool c3]) (by simp [results,Tryz.results145,go_sem,q0,q1,q2,q3]) rfl ⟨⟨c0,c1,c2,c3,rfl,HQ.out.symm⟩,hbF⟩
theorem okP_out {n:Int} {vs:List SlotV} (h:inB n 0 1000000=false):okP n vs=false:=by simp [okP,h]
theorem okP_four {n:Int} {ss:List SlotA} {c0 c1 c2 c3:Bool} (h:inB n 0 1000000=true) (hb:ss.map (fun s=>slotB s.v)=[c0,c1,c2,c3]):okP n (ss.map (·.v))=(c0 && (c1 && (c2 && c3))):=by
 have e:(ss.map (·.v)).map slotB=[c0,c1,c2,c3]:=by rw [List.map_map];exact hb
 have e2:∀ vs:List SlotV,vs.all slotB=(vs.map slotB).all id:=fun vs=>by induction vs with
  | nil=>rfl
  | cons v r ih=>rw [List.all_cons,List.map_cons,List.all_cons,← ih];rfl
 rw [okP,h,Bool.and_true,e2,e]
 simp
theorem run_eq4 (c0 c1 c2 c3:Bool) (w:World):(Op.equalIn 10000 185 (.agg #[.bool c0,.bool c1,.bool c2,.bool c3]) (.agg #[.bool true,.bool true,.bool true,.bool true])).run Tryz.prog w=.ok (c0 && (c1 && (c2 && c3))) w:=by
 cases c0<;>cases c1<;>cases c2<;>cases c3<;>kernel_rfl
theorem implPageOk_any (p:PageA) (h4:p.ss.length=4) (w:World) (hg:ErrT w) (hr:ReadsS w p.ss) (hl:Fit p.ss):
  Calls Tryz.prog 123 #[.agg p.cells.toArray] w fun e w'=>e=.returned (.bool (okP p.lsn (p.ss.map (·.v))))∧Below w.heap.size w w':=by
 obtain ⟨W,hW,b0,b1,hbW,hsW⟩:=boxes2 w p.cells [.bool true,.bool true,.bool true,.bool true] 47 185
 have hc0:∀ w',Below W.heap.size W w'→w'.cell? ⟨w.heap.size,0,none⟩=some (.int .i64 p.lsn):=fun w' hh=>(b0.below hh b0.lt).cell 0 _ rfl
 have hw0:=hc0 W (Below.refl _ _)
 cases hin:inB p.lsn 0 1000000 with
 | false=>
  have HF:Hid (okP p.lsn (p.ss.map (·.v))=false):=okP_out hin
  have hz:=inB_false hin
  clear hin hc0
  generalize okP p.lsn (p.ss.map (·.v))=R at*
  generalize p.lsn=n at*
  rcases hz with h1 | ⟨h1,h2⟩
  ·have h1':decide ((0:Int)≤n)=false:=decide_eq_false (by omega)
   clear h1
   go_enter Tryz.func123,Tryz.ntmps123
   go_wp2_with fail
   rw [hW.out]
   go_quiet (fail)
   go_wp2
   go_ret
   exact ⟨ret_bool HF.out.symm,below_drewN hbW _⟩
  ·have h1':decide ((0:Int)≤n)=true:=decide_eq_true (by omega)
   have h2':decide (n≤1000000)=false:=decide_eq_false (by omega)
   clear h1 h2
   go_enter Tryz.func123,Tryz.ntmps123
   go_wp2_with fail
   rw [hW.out]
   go_quiet (fail)
   go_wp2
   go_ret
   exact ⟨ret_bool HF.out.symm,below_drewN hbW _⟩
 | true=>
  obtain ⟨h1,h2⟩:=inB_true hin
  have h1':(0:Int)≤p.lsn:=by omega
  have h2':p.lsn≤1000000:=by omega
  have HIN:Hid (_=_):=hin
  have HRG:Hid (∀ w',Below W.heap.size W w'→w'.rangeAt w.heap.size 0 p.cells):=fun w' hh=>Box.range [] p.cells [] (by simpa using b0.below hh b0.lt)
  have HRA:Hid (∀ w',Below W.heap.size W w'→w'.rangeAt (w.heap.size+1) 0 [.bool true,.bool true,.bool true,.bool true]):=fun w' hh=>Box.range [] [.bool true,.bool true,.bool true,.bool true] [] (by simpa using b1.below hh b1.lt)
  have HI:Hid ((Tryz.prog.info? 47).map (·.size)=some p.cells.length):=by rw [Hid,page_len p h4];kernel_rfl
  clear hin h1 h2
  go_enter Tryz.func123,Tryz.ntmps123
  go_wp2_with fail
  rw [hW.out]
  refine wp_region_held_drew (S:=fun w'=>w'.cell? ⟨w.heap.size,0,none⟩=some (.int .i64 p.lsn)∧w'.rangeAt w.heap.size 0 p.cells∧w'.rangeAt (w.heap.size+1) 0 [.bool true,.bool true,.bool true,.bool true]) (by kernel_rfl) ?_ (fun hHeld=>?_)
  ·exact ⟨hc0 _ (Below.refl _ _).drew,HRG.out _ (Below.refl _ _).drew,HRA.out _ (Below.refl _ _).drew⟩
  have hd1:decide ((0:Int)≤p.lsn)=true:=decide_eq_true h1'
  have hd2:decide (p.lsn≤1000000)=true:=decide_eq_true h2'
  refine tk 0 (v:=.pointer (some ⟨w.heap.size,0,none⟩)) rfl (Or.inl ⟨by rfl,fun w' hw'=>?_⟩) hHeld ?_
  ·go_simp
  go_simp
  refine tk 1 (v:=.int .i64 p.lsn) rfl (Or.inl ⟨by rfl,fun w' hw'=>?_⟩) hHeld ?_
  ·have q:=hw'.1;go_simp
  go_simp
  refine tk 2 (v:=.bool true) rfl (Or.inl ⟨by rfl,fun w' hw'=>?_⟩) hHeld ?_
  ·go_simp
  go_simp
  refine tk 3 (v:=.bool true) rfl (Or.inl ⟨by rfl,fun w' hw'=>?_⟩) hHeld ?_
  ·go_simp
  go_simp
  refine tk 4 (v:=.pointer (some ⟨w.heap.size,0,none⟩)) rfl (Or.inl ⟨by rfl,fun w' hw'=>?_⟩) hHeld ?_
  ·go_simp
  go_simp
  refine tk 5 (v:=.int .i64 p.lsn) rfl (Or.inl ⟨by rfl,fun w' hw'=>?_⟩) hHeld ?_
  ·have q:=hw'.1;go_simp
  go_simp
  refine tk 6 (v:=.bool true) rfl (Or.inl ⟨by rfl,fun w' hw'=>?_⟩) hHeld ?_
  ·go_simp
  go_simp
  refine tk 7 (v:=.bool true) rfl (Or.inl ⟨by rfl,fun w' hw'=>?_⟩) hHeld ?_
  ·go_simp
  go_simp
  refine tk 8 (v:=.bool true) rfl (Or.inl ⟨by rfl,fun w' hw'=>?_⟩) hHeld ?_
  ·go_simp
  go_simp
  refine tk 9 rfl (yieldsIf_load_mid (by rfl) _ _ rfl _ _ rfl p.cells _ (fun _ h=>h.2.1) Tryz.underlying47 rfl HI.out) hHeld ?_
  go_simp
  refine tk 11 rfl (yieldsIf_load_mid (by rfl) _ _ rfl _ _ rfl [.bool true,.bool true,.bool true,.bool true] _ (fun _ h=>h.2.2) Tryz.underlying185 rfl (by kernel_rfl)) hHeld ?_
  go_simp
  refine wpAnyH_ready (rs:=[10]) (by kernel_rfl) (by simp) ?_
  refine AllReadyH.cons rfl (fun K hK=>?_) AllReadyH.nil
  go_simp
  refine (markSlots_ok p h4 _ (hg.keep hbW.drew) (hr.below hbW.drew) hl).mono ?_
  rintro e w2 ⟨⟨c0,c1,c2,c3,rfl,hcs⟩,hb2⟩
  have B2:Below W.heap.size W w2:=((Below.refl _ _).drew).trans hb2
  have HR:Hid (_=_):=okP_four HIN.out hcs
  clear hcs
  refine hK.out _ _ ⟨hc0 _ B2,HRG.out _ B2,HRA.out _ B2⟩ (fun hHeld=>?_)
  clear hK K
  refine tk 12 (v:=.bool (c0 && (c1 && (c2 && c3)))) rfl (Or.inl ⟨by rfl,fun w' hw'=>?_⟩) hHeld ?_
  ·have q:=run_eq4 c0 c1 c2 c3 w';go_simp
  go_simp
  generalize (c0 && (c1 && (c2 && c3)))=D at*
  refine tk 13 (v:=.bool D) rfl (Or.inl ⟨by rfl,fun w' hw'=>?_⟩) hHeld ?_
  ·go_simp
  go_simp
  refine tk 14 (v:=.bool D) rfl (Or.inl ⟨by rfl,fun w' hw'=>?_⟩) hHeld ?_
  ·go_simp
  go_simp
  refine wpAnyH_done (by kernel_rfl) ?_ _
  go_wp2
  go_ret
  exact ⟨ret_bool HR.out.symm,hbW.trans (B2.mono hbW.size)⟩
theorem implSeated_any (p:PoolA) (no:Int) (w:World) (hr:p.reads w) (hl:p.short 1099511627776):
  Calls Tryz.prog 124 #[.agg p.cells.toArray,.int .i64 no] w fun r w'=>r=.returned (.int .i64 (seatedOf p.v.seats no))∧Below w.heap.size w w':=by
 obtain ⟨ls,hand,a,c⟩:=p
 have hlen:=hl.len
 simp only [PoolA.cells,PoolA.reads,PoolA.v] at*
 obtain ⟨W,hW,b0,hbW,hsW⟩:=boxes1 w [.slice a ls.length c,.int .i64 hand] 51
 have HR:Hid (∀ u,Below W.heap.size W u→ReadsSts u a ls):=fun u hu=>hr.below (hbW.trans (hu.mono hbW.size))
 have HF:Hid (seatFrom no ((ls.map SeatA.v).drop 0) 0=seatedOf (ls.map SeatA.v) no):=rfl
 have HJ:Hid ((Tryz.prog.info? 144).map (·.size)=some 20):=by rw [Hid];kernel_rfl
 generalize seatedOf (ls.map SeatA.v) no=R at*
 clear hsW hr hl
 have x0:=b0.cell 0 _ rfl
 go_enter Tryz.func124,Tryz.ntmps124
 go_upto_region 1 with fail
 rw [hW.out]
 clear hW
 go_wp2_with fail
 clear x0 b0
 go_loopw [10] (fun i wr=>∃ (k:Nat),i=.int .i64 k∧k≤ls.length∧Hid (seatFrom no ((ls.map SeatA.v).drop k) k=R)∧Below W.heap.size W wr)
  (fun i _=>ls.length-(intOf i).toNat)
 case atStart=>exact ⟨0,rfl,by omega,HF,Below.refl _ _⟩
 case round=>
  obtain ⟨k,rfl,hk,hR,hbl⟩:=hrel
  have hrr:=HR.out wr hbl
  have hbT:Below w.heap.size w wr:=hbW.trans (hbl.mono hbW.size)
  by_cases hlt:k<ls.length
  ·obtain ⟨b,off,rfl,hcell⟩:=hrr (by rintro rfl;simp at hlt)
   have HRG:Hid (wr.rangeAt b (off+k*20) (ls.getD k zeroSt).cells):=(hcell k hlt).1
   clear hcell
   have hkk:(k:Int)<(ls.length:Int):=by omega
   have hi0:(0:Int)≤(k:Int):=by omega
   have HR2:Hid ((if (ls.getD k zeroSt).no=no then (k:Int) else seatFrom no ((ls.map SeatA.v).drop (k+1)) (k+1))=R):=by
    have h:=hR.out
    rw [dropSt_at ls k hlt,seatFrom] at h
    exact h
   generalize ls.getD k zeroSt=z at*
   obtain ⟨W1,hW1,b1,hb1,hs1⟩:=boxes1 wr [.int .i64 0,.int .i64 0,.bool false,.int .i64 0,.slice none 0 0,.slice none 0 0,.bool false,.int .i64 0,.slice none 0 0,.slice none 0 0,.bool false,.int .i64 0,.slice none 0 0,.slice none 0 0,.bool false,.int .i64 0,.slice none 0 0,.slice none 0 0,.bool false,.bool false] 144
   obtain ⟨W2,hW2,hw2,hs2,HT2,_,b2⟩:=seat_out z _ rfl b1
   have hB2:Below W.heap.size W W2:=(hbl.trans (hb1.mono hbl.size)).trans (hw2.below hbl.size (by have:=hbl.size;omega))
   have hbT2:Below w.heap.size w W2:=hbW.trans (hB2.mono hbW.size)
   have x0:W2.cell? ⟨wr.heap.size,0,none⟩=some (.int .i64 z.no):=b2.cell 0 _ rfl
   have HW2:Hid (W1.setCells wr.heap.size 0 z.cells.toArray.toList=W2):=hW2.out
   have hOz:=seat_one z
   clear hs1 hs2 b1 b2 hb1 hw2 hW2 hR hbl hbT
   by_cases hq:z.no=no
   ·have HR3:Hid ((k:Int)=R):=by have h:=HR2.out;rw [if_pos hq] at h;exact h
    have hqb:(z.no == no)=true:=by simpa using hq
    clear hq HR2
    go_wp2_with (first | (guard_target=wpList _ _ _ (Oper.mk (some 14) _ _ _ _ _::_) _ _;refine wpList_load_mid rfl 144 (.tmp 13) rfl b (off+k*20) rfl z.cells _ HRG.out Tryz.underlying144 rfl HJ.out ?_) | (guard_target=wpList _ _ _ (Oper.mk none (Op.store _ (Operand.tmp 6) _) _ _ _ _::_) _ _;refine wpList_store_mid rfl 144 (.tmp 6) (.tmp 14) rfl wr.heap.size 0 z.cells.toArray rfl rfl (by rw [hW1.out];exact HT2.out) HJ.out hOz ?_;rw [hW1.out,HW2.out]) | fail)
    go_ret
    exact ⟨ret_int HR3.out,hbT2⟩
   ·have HR3:Hid (seatFrom no ((ls.map SeatA.v).drop (k+1)) (k+1)=R):=by have h:=HR2.out;rw [if_neg hq] at h;exact h
    have hqb:(z.no == no)=false:=by simpa using hq
    clear hq HR2
    go_wp2_with (first | (guard_target=wpList _ _ _ (Oper.mk (some 14) _ _ _ _ _::_) _ _;refine wpList_load_mid rfl 144 (.tmp 13) rfl b (off+k*20) rfl z.cells _ HRG.out Tryz.underlying144 rfl HJ.out ?_) | (guard_target=wpList _ _ _ (Oper.mk none (Op.store _ (Operand.tmp 6) _) _ _ _ _::_) _ _;refine wpList_store_mid rfl 144 (.tmp 6) (.tmp 14) rfl wr.heap.size 0 z.cells.toArray rfl rfl (by rw [hW1.out];exact HT2.out) HJ.out hOz ?_;rw [hW1.out,HW2.out]) | fail)
    go_roundw
    case rel=>exact ⟨k+1,by go_num,by omega,HR3,hB2⟩
    case measure=>simp [intOf];omega
  ·have hkk:¬ (k:Int)<(ls.length:Int):=by omega
   have HR':Hid (-1=R):=by
    have h:=hR.out
    rw [List.drop_eq_nil_of_le (by rw [List.length_map];omega),seatFrom] at h
    exact h
   clear hR
   go_wp2
   go_ret
   exact ⟨ret_int HR'.out,hbT⟩
theorem pageNoOk_any (no:Int) (w:World):Calls Tryz.prog 122 #[.int .i64 no] w fun e w'=>e=.returned (.bool (inB no 0 7))∧w'=w:=by
 by_cases h1:0≤no
 ·by_cases h2:no<8
  ·have HB:Hid (inB no 0 7=true):=by simp [Hid,inB];omega
   go_enter Tryz.func122,Tryz.ntmps122
   go_wp2
   go_ret
   exact ⟨ret_bool HB.out.symm,rfl⟩
  ·have HB:Hid (inB no 0 7=false):=by simp [Hid,inB];omega
   go_enter Tryz.func122,Tryz.ntmps122
   go_wp2
   go_ret
   exact ⟨ret_bool HB.out.symm,rfl⟩
 ·have HB:Hid (inB no 0 7=false):=by simp [Hid,inB];omega
  go_enter Tryz.func122,Tryz.ntmps122
  go_wp2
  go_ret
  exact ⟨ret_bool HB.out.symm,rfl⟩
theorem fresh_v (p:PoolA) (k:Nat):freshAt p.v.seats k=(inB (p.seats.getD k zeroSt).no 0 7 && okP (p.seats.getD k zeroSt).lsn ((p.seats.getD k zeroSt).ss.map (·.v)) && decide (seatedOf p.v.seats (p.seats.getD k zeroSt).no=k)):=by
 rw [freshAt,PoolA.v,seatV_at]
 rfl
theorem implPoolOk_any (p:PoolA) (w:World) (hg:ErrT w) (hr:p.reads w) (hl:p.short 1099511627776):
  Calls Tryz.prog 89 #[.agg p.cells.toArray] w fun e w'=>e=.returned (.bool (okPool p.v))∧Below w.heap.size w w':=by
 have HLEN:Hid (¬ p.seats.length≤3→okPool p.v=false):=fun h=>okPool_long (by simpa [PoolA.v] using h)
 have HHAND:Hid (inB p.hand 0 2=false→okPool p.v=false):=fun h=>okPool_hand h
 have HNO:Hid (∀ k,k<p.seats.length→(inB (p.seats.getD k zeroSt).no 0 7 && okP (p.seats.getD k zeroSt).lsn ((p.seats.getD k zeroSt).ss.map (·.v)) && decide (seatedOf p.v.seats (p.seats.getD k zeroSt).no=k))=false→okPool p.v=false):=fun k hk h=>okPool_no k (by simpa [PoolA.v] using hk) (by rw [fresh_v];exact h)
 have HALL:Hid (p.seats.length≤3→inB p.hand 0 2=true→(∀ k,k<p.seats.length→(inB (p.seats.getD k zeroSt).no 0 7 && okP (p.seats.getD k zeroSt).lsn ((p.seats.getD k zeroSt).ss.map (·.v)) && decide (seatedOf p.v.seats (p.seats.getD k zeroSt).no=k))=true)→okPool p.v=true):=fun h0 h1 h=>okPool_yes (by simpa [PoolA.v] using h0) h1 (fun k hk=>by rw [fresh_v];exact h k (by simpa [PoolA.v] using hk))
 have HST:Hid (∀ no u,Below w.heap.size w u→Calls Tryz.prog 124 #[.agg p.cells.toArray,.int .i64 no] u fun r w'=>r=.returned (.int .i64 (seatedOf p.v.seats no))∧Below u.heap.size u w'):=fun no u hu=>implSeated_any p no u (hr.below hu) hl
 generalize okPool p.v=R at*
 generalize seatedOf p.v.seats=SD at*
 have HS:Hid (∀ k,k<p.seats.length→(p.seats.getD k zeroSt).short 1099511627776):=fun k hk=>hl.at k hk
 have hlen:=hl.len
 obtain ⟨rs,s,a,c⟩:=p
 simp only [PoolA.reads,PoolA.cells] at*
 obtain ⟨W,hW,b0,hbW,hsW⟩:=boxes1 w [.slice a rs.length c,.int .i64 s] 51
 have c0:=b0.cell 0 _ rfl
 have c1:=b0.cell 1 _ rfl
 have HJ:Hid ((Tryz.prog.info? 144).map (·.size)=some 20):=by rw [Hid];kernel_rfl
 clear hl hsW
 have HC:Hid (∀ k,k<rs.length→∃ b off,a=some ⟨b,off,none⟩∧W.rangeAt b (off+k*20) (rs.getD k zeroSt).cells∧(rs.getD k zeroSt).reads W):=fun k hk=>by
  obtain ⟨b,off,ha,hc⟩:=(ReadsSts.below hr hbW) (by intro e;rw [e] at hk;simp at hk)
  exact ⟨b,off,ha,(hc k hk).1,(hc k hk).2⟩
 clear hr
 by_cases h4:rs.length≤3
 case neg=>
  have HR:Hid (R=false):=HLEN.out h4
  clear HLEN HHAND HNO HALL
  go_enter Tryz.func89,Tryz.ntmps89
  go_wp2_with fail
  rw [hW.out]
  go_ret
  exact ⟨ret_bool HR.out.symm,hbW⟩
 case pos=>
  by_cases h5:s<0
  ·have HR:Hid (R=false):=HHAND.out (by simp [inB];omega)
   clear HLEN HHAND HNO HALL
   go_enter Tryz.func89,Tryz.ntmps89
   go_upto_region 1 with fail
   rw [hW.out]
   go_wp2_with fail
   go_ret
   exact ⟨ret_bool HR.out.symm,hbW⟩
  by_cases h6:s<3
  case neg=>
   have HR:Hid (R=false):=HHAND.out (by simp [inB];omega)
   clear HLEN HHAND HNO HALL
   have h6b:3≤s:=by omega
   go_enter Tryz.func89,Tryz.ntmps89
   go_upto_region 1 with fail
   rw [hW.out]
   go_wp2_with fail
   go_ret
   exact ⟨ret_bool HR.out.symm,hbW⟩
  case pos=>
   have HALL2:=HALL.out h4 (by simp [inB];omega)
   have HALL3:Hid _:=HALL2
   clear HALL2 HALL HLEN HHAND
   go_enter Tryz.func89,Tryz.ntmps89
   go_upto_region 1 with fail
   rw [hW.out]
   clear hW
   go_wp2_with fail
   go_loopw [22] (fun i wr=>∃ k:Nat,k≤rs.length∧i=.int .i64 k∧Hid (∀ m,m<k→(inB (rs.getD m zeroSt).no 0 7 && okP (rs.getD m zeroSt).lsn ((rs.getD m zeroSt).ss.map (·.v)) && decide (SD (rs.getD m zeroSt).no=m))=true)∧Below W.heap.size W wr) (fun i _=>rs.length-(intOf i).toNat)
   case atStart=>exact ⟨0,Nat.zero_le _,rfl,fun j hj=>by omega,Below.refl _ _⟩
   case round=>
    obtain ⟨k,hk,rfl,hall,hbl⟩:=hrel
    have hbm:Below w.heap.size w wr:=hbW.trans (hbl.mono hbW.size)
    have HP:Hid (∀ u,Below W.heap.size W u→u.cell? ⟨w.heap.size,0,none⟩=some (.slice a rs.length c)∧u.cell? ⟨w.heap.size,1,none⟩=some (.int .i64 s)):=fun u hu=>⟨(hu.cell (block_lt c0)).trans c0,(hu.cell (block_lt c1)).trans c1⟩
    clear c0 c1
    by_cases hlt:k<rs.length
    ·obtain ⟨b,off,rfl,hcell,hrd⟩:=HC.out k hlt
     have HRG:Hid (wr.rangeAt b (off+k*20) (rs.getD k zeroSt).cells):=rangeSt_below hcell hbl
     have hrdw:=hrd.below hbl
     have hsh:=HS.out k hlt
     have HN:Hid ((inB (rs.getD k zeroSt).no 0 7 && okP (rs.getD k zeroSt).lsn ((rs.getD k zeroSt).ss.map (·.v)) && decide (SD (rs.getD k zeroSt).no=k))=false→R=false):=HNO.out k hlt
     have HY:Hid ((inB (rs.getD k zeroSt).no 0 7 && okP (rs.getD k zeroSt).lsn ((rs.getD k zeroSt).ss.map (·.v)) && decide (SD (rs.getD k zeroSt).no=k))=true→∀ m,m<k+1→(inB (rs.getD m zeroSt).no 0 7 && okP (rs.getD m zeroSt).lsn ((rs.getD m zeroSt).ss.map (·.v)) && decide (SD (rs.getD m zeroSt).no=m))=true):=fun h m hm=>by
      by_cases e:m=k
      ·rw [e];exact h
      ·exact hall.out m (by omega)
     have hkk:(k:Int)<(rs.length:Int):=by omega
     have hk0:(0:Int)≤(k:Int):=by omega
     clear hcell HC HNO hall HS hrd
     generalize rs.getD k zeroSt=y at*
     obtain ⟨W1,hW1,b1,hb1,hs1⟩:=boxes1 wr [.int .i64 0,.int .i64 0,.bool false,.int .i64 0,.slice none 0 0,.slice none 0 0,.bool false,.int .i64 0,.slice none 0 0,.slice none 0 0,.bool false,.int .i64 0,.slice none 0 0,.slice none 0 0,.bool false,.int .i64 0,.slice none 0 0,.slice none 0 0,.bool false,.bool false] 144
     obtain ⟨W2,hW2,hw2,hs2,HT2,_,b2⟩:=seat_out y _ rfl b1
     have hB2':Below wr.heap.size wr W2:=hb1.trans (hw2.below (Nat.le_refl _) (by omega))
     have hB2:Below W.heap.size W W2:=hbl.trans (hB2'.mono hbl.size)
     have hbT2:Below w.heap.size w W2:=hbW.trans (hB2.mono hbW.size)
     have HX:Hid (∀ u,Below W2.heap.size W2 u→u.cell? ⟨wr.heap.size,0,none⟩=some (.int .i64 y.no)∧u.rangeAt wr.heap.size 1 y.page.cells):=fun u hu=>⟨(b2.below hu b2.lt).cell 0 _ rfl,seat_page y (b2.below hu b2.lt)⟩
     have x0:=(HX.out W2 (Below.refl _ _)).1
     have xp:=(HX.out W2 (Below.refl _ _)).2
     have HIP:=Tryz.infoPg y.page rfl
     have C:=implPageOk_any y.page rfl W2 (hg.keep hbT2) (hrdw.below hB2') hsh
     have e2:y.page.lsn=y.lsn:=rfl
     have e3:y.page.ss=y.ss:=rfl
     rw [e2,e3] at C
     have CN:=pageNoOk_any y.no W2
     have HW2:Hid (W1.setCells wr.heap.size 0 y.cells.toArray.toList=W2):=hW2.out
     have hOz:=seat_one y
     clear hs1 hs2 b1 b2 hb1 hw2 hW2 hbl hbm e2 e3 hrdw hsh hB2'
     cases h6:inB y.no 0 7 with
     | false=>
      have HR2:Hid (R=false):=HN.out (by rw [h6];rfl)
      rw [h6] at CN
      clear HN HY C h6 xp
      go_wp2_with (first | (guard_target=wpList _ _ _ (Oper.mk (some 26) _ _ _ _ _::_) _ _;refine wpList_load_mid rfl 144 (.tmp 25) rfl b (off+k*20) rfl y.cells _ HRG.out Tryz.underlying144 rfl HJ.out ?_) | (guard_target=wpList _ _ _ (Oper.mk none (Op.store _ (Operand.tmp 4) _) _ _ _ _::_) _ _;refine wpList_store_mid rfl 144 (.tmp 4) (.tmp 26) rfl wr.heap.size 0 y.cells.toArray rfl rfl (by rw [hW1.out];exact HT2.out) HJ.out hOz ?_;rw [hW1.out,HW2.out]) | fail)
      refine CN.mono ?_
      rintro e u ⟨rfl,hu⟩
      rw [hu]
      clear hu u CN
      go_wp2_with fail
      go_ret
      exact ⟨ret_bool HR2.out.symm,hbT2⟩
     | true=>
      rw [h6,Bool.true_and] at HN HY
      rw [h6] at CN
      clear h6
      cases h7:okP y.lsn (y.ss.map (·.v)) with
      | false=>
       have HR2:Hid (R=false):=HN.out (by rw [h7];rfl)
       rw [h7] at C
       clear HN HY h7
       generalize y.page.cells=pc at*
       go_wp2_with (first | (guard_target=wpList _ _ _ (Oper.mk (some 26) _ _ _ _ _::_) _ _;refine wpList_load_mid rfl 144 (.tmp 25) rfl b (off+k*20) rfl y.cells _ HRG.out Tryz.underlying144 rfl HJ.out ?_) | (guard_target=wpList _ _ _ (Oper.mk none (Op.store _ (Operand.tmp 4) _) _ _ _ _::_) _ _;refine wpList_store_mid rfl 144 (.tmp 4) (.tmp 26) rfl wr.heap.size 0 y.cells.toArray rfl rfl (by rw [hW1.out];exact HT2.out) HJ.out hOz ?_;rw [hW1.out,HW2.out]) | fail)
       refine CN.mono ?_
       rintro e u ⟨rfl,hu⟩
       rw [hu]
       clear hu u CN
       go_wp2_with (first | (guard_target=wpList _ _ _ (Oper.mk (some 33) _ _ _ _ _::_) _ _;refine wpList_load_mid_if (by rfl) 47 (.tmp 32) rfl wr.heap.size 1 rfl pc _ xp Tryz.underlying47 rfl HIP ?_) | fail)
       refine C.mono ?_
       rintro e w1 ⟨rfl,hb1⟩
       go_wp2_with fail
       go_ret
       exact ⟨ret_bool HR2.out.symm,hbT2.trans (hb1.mono hbT2.size)⟩
      | true=>
       rw [h7,Bool.true_and] at HN HY
       rw [h7] at C
       clear h7
       generalize y.page.cells=pc at*
       go_wp2_with (first | (guard_target=wpList _ _ _ (Oper.mk (some 26) _ _ _ _ _::_) _ _;refine wpList_load_mid rfl 144 (.tmp 25) rfl b (off+k*20) rfl y.cells _ HRG.out Tryz.underlying144 rfl HJ.out ?_) | (guard_target=wpList _ _ _ (Oper.mk none (Op.store _ (Operand.tmp 4) _) _ _ _ _::_) _ _;refine wpList_store_mid rfl 144 (.tmp 4) (.tmp 26) rfl wr.heap.size 0 y.cells.toArray rfl rfl (by rw [hW1.out];exact HT2.out) HJ.out hOz ?_;rw [hW1.out,HW2.out]) | fail)
       refine CN.mono ?_
       rintro e u ⟨rfl,hu⟩
       rw [hu]
       clear hu u CN
       go_wp2_with (first | (guard_target=wpList _ _ _ (Oper.mk (some 33) _ _ _ _ _::_) _ _;refine wpList_load_mid_if (by rfl) 47 (.tmp 32) rfl wr.heap.size 1 rfl pc _ xp Tryz.underlying47 rfl HIP ?_) | fail)
       refine C.mono ?_
       rintro e w1 ⟨rfl,hb1⟩
       have B1:Below W.heap.size W w1:=hB2.trans (hb1.mono hB2.size)
       have B1':Below w.heap.size w w1:=hbW.trans (B1.mono hbW.size)
       have CS:=HST.out y.no w1 B1'
       have p0:=(HP.out w1 B1).1
       have p1:=(HP.out w1 B1).2
       clear x0 xp C
       have x0:=(HX.out w1 hb1).1
       clear HX HP HST hB2 hbT2 hb1
       by_cases h8:SD y.no=(k:Int)
       ·have HR2:=HY.out (by simpa using h8)
        have HR3:Hid _:=HR2
        rw [h8] at CS
        have hne:((k:Int) != (k:Int))=false:=by simp
        clear HN HY HR2 h8
        go_wp2_with fail
        refine CS.mono ?_
        rintro e w2 ⟨rfl,hb2⟩
        have B2:Below W.heap.size W w2:=B1.trans (hb2.mono B1.size)
        go_wp2_with fail
        go_roundw
        case rel=>exact ⟨k+1,by omega,by go_num,HR3,B2⟩
        case measure=>simp [intOf];omega
       ·have HR2:Hid (R=false):=HN.out (by simpa using h8)
        have hne:(SD y.no != (k:Int))=true:=by simpa using h8
        clear HN HY h8
        generalize SD y.no=sd at*
        go_wp2_with fail
        refine CS.mono ?_
        rintro e w2 ⟨rfl,hb2⟩
        go_wp2_with fail
        go_ret
        exact ⟨ret_bool HR2.out.symm,B1'.trans (hb2.mono B1'.size)⟩
    ·have HE:Hid (true=R):=(HALL3.out (fun m hm=>hall.out m (by omega))).symm
     clear hall HALL3
     go_wp2
     go_ret
     exact ⟨ret_bool HE.out,hbm⟩
end Go.Proofs.YtfehemepdoomdaaGreatDoor
namespace Go.Proofs.YtfehemepdoomdaaGreatDoor
open Go.RowKit Go.Shelf
theorem stepIn_value {F:Fence} {n:Nat} {P:Program} {ops:Array Oper} {rest:List Oper} {o:Oper} {a:Act} {w w':World} {Q:Exit→Act→World→Prop} {v:Value} (hgd:o.guard=none) (hF:∀ f,F.fn f) (hs:o.semAt F.round a.eval=execOp a.eval o)
  (hrun:(execOp a.eval o).run P w=.ok (.value v) w') (h:wpListIn F n P ops Q rest (a.put o.dst v) w'):wpListIn F n P ops Q (o::rest) a w:=
 wpListIn_plain hgd fun K hK=>⟨fun f _=>hF f,by rw [hs,hrun,Oper.uponIn_value];exact hK _ _ h⟩
theorem stepIn_skip {F:Fence} {n:Nat} {P:Program} {ops:Array Oper} {rest:List Oper} {o:Oper} {a:Act} {w w':World} {Q:Exit→Act→World→Prop} (hgd:o.guard=none) (hF:∀ f,F.fn f) (hs:o.semAt F.round a.eval=execOp a.eval o)
  (hrun:(execOp a.eval o).run P w=.ok .skip w') (h:wpListIn F n P ops Q rest (a.put o.dst undef) w'):wpListIn F n P ops Q (o::rest) a w:=
 wpListIn_plain hgd fun K hK=>⟨fun f _=>hF f,by rw [hs,hrun,Oper.uponIn_skip];exact hK _ _ h⟩
theorem loadIn_mid {F:Fence} {n:Nat} {P:Program} {ops:Array Oper} {rest:List Oper} {op:Oper} {a:Act} {w:World} {Q:Exit→Act→World→Prop} (hgd:op.guard=none) (hF:∀ f,F.fn f) (hs:op.semAt F.round a.eval=execOp a.eval op) (ty:TypeId) (x:Operand) (ho:op.op=.load ty x)
  (b o:Nat) (hx:a.eval x=.pointer (some ⟨b,o,none⟩)) (cs:List Value) (d:TypeDesc) (hc:w.rangeAt b o cs)
  (hu:P.underlying ty=some d) (hd:d.isRow=true) (hi:(P.info? ty).map (·.size)=some cs.length)
  (h:wpListIn F n P ops Q rest (a.put op.dst (.agg cs.toArray)) w):wpListIn F n P ops Q (op::rest) a w:=by
 refine stepIn_value hgd hF hs (v:=.agg cs.toArray) ?_ h
 unfold execOp
 simp only [ho,hx,Instr.loadAt,Instr.sureAddr,Sem.run_bind,Sem.run_pure,Result.andThen_ok,run_loadVar_mid w b o ty cs d hc hu hd hi]
theorem storeIn_mid {F:Fence} {n:Nat} {P:Program} {ops:Array Oper} {rest:List Oper} {op:Oper} {a:Act} {w:World} {Q:Exit→Act→World→Prop} (hgd:op.guard=none) (hF:∀ f,F.fn f) (hs:op.semAt F.round a.eval=execOp a.eval op) (ty:TypeId) (x y:Operand) (ho:op.op=.store ty x y)
  (b o:Nat) (cs:Array Value) (hx:a.eval x=.pointer (some ⟨b,o,none⟩)) (hy:a.eval y=.agg cs) (ht:w.there b o cs.size)
  (hi:(P.info? ty).map (·.size)=some cs.size) (h1:cs.all (·.oneCell')=true)
  (h:wpListIn F n P ops Q rest (a.put op.dst undef) (w.setCells b o cs.toList)):wpListIn F n P ops Q (op::rest) a w:=by
 refine stepIn_skip hgd hF hs ?_ h
 unfold execOp
 simp only [ho,hx,hy,Sem.run_bind,Sem.run_pure,Result.andThen_ok,run_storeAt_mid w b o ty cs ht hi h1]
theorem rangeFunc_here {n:Nat} {P:Program} {g:Operand} {ps:Array Tmp} {assign body:Code} {Q:Exit→Act→World→Prop} {a:Act} {w:World} {gf:Nat} {lb:Array Value} (hg:a.eval g=.func (.func gf) #[] lb) (eg:∀ args w,(callFunc gf args).run P w=.ok (.enter gf args) w)
  (h:∀ (r:Loop) (W1:World),r.state=.ready→r.pending=none→r.tmps=a.tmps→r.params=ps→r.assign=assign→r.body=body→W1.heap[w.heap.size+1]? =some (.loop r)→W1.heap[w.heap.size]? =some (.deferred (some []))→Below w.heap.size w W1→W1.heap.size=w.heap.size+2→
   CallsIn Fence.wide (n-1) P gf (#[.func (.yield (w.heap.size+1)) #[] #[]]++lb) W1 (rangePost Fence.wide n P (w.heap.size+1) Q { a with defers:=[{ target:=.collected w.heap.size,args:=#[] }]++a.defers })):
  (Code.rangeFunc g ps assign body).wpIn Fence.wide n P Q a w:=by
 refine wpIn_rangeFunc ?_
 intro fn _
 obtain ⟨r,hr⟩:∃ r:Loop,({ state:=.ready,pending:=none,fn:=fn,tmps:=a.tmps,params:=ps,assign:=assign,body:=body,defers:=w.heap.size }:Loop)=r:=⟨_,rfl⟩
 obtain ⟨W1,hW1⟩:∃ W1,(w.alloc (.deferred (some []))).alloc (.loop r)=W1:=⟨_,rfl⟩
 have hL:W1.heap[w.heap.size+1]? =some (.loop r):=by
  rw [← hW1]
  have:=World.alloc_heap_new (w.alloc (.deferred (some []))) (.loop r)
  rwa [World.size_alloc] at this
 have hD:W1.heap[w.heap.size]? =some (.deferred (some [])):=by
  rw [← hW1]
  exact (Below.heap_alloc _ _ _ (by simp)).trans (World.alloc_heap_new w _)
 have hB:Below w.heap.size w W1:=by
  rw [← hW1]
  exact ((Below.refl _ w).alloc (Nat.le_refl _) _).alloc (by simp) _
 have hS:W1.heap.size=w.heap.size+2:=by rw [← hW1];simp
 have hc:=h r W1 (by rw [← hr]) (by rw [← hr]) (by rw [← hr]) (by rw [← hr]) (by rw [← hr]) (by rw [← hr]) hL hD hB hS
 refine ⟨w.heap.size+1,[{ target:=.collected w.heap.size,args:=#[] }],W1,{ target:=.fn (.func gf) lb,args:=#[.func (.yield (w.heap.size+1)) #[] #[]] },W1,gf,#[.func (.yield (w.heap.size+1)) #[] #[]]++lb,W1,?_,?_,?_,?_,?_,?_⟩
 ·rw [← hW1,← hr]
  exact run_enterLoop_outer fn a.tmps ps assign body
 ·simp only [resolve,hg]
  simp [go_sem]
 ·intro f' _
  trivial
 ·simp [invoke,go_sem,eg]
 ·intro hh
  have hn:Fence.wide.depth.isSome=false:=rfl
  rw [hn] at hh
  cases hh
 ·exact hc
theorem within_putObj (w:World) (l:Nat) (o:Obj):Within l (l+1) w (w.putObj l o)∧(w.putObj l o).heap.size=w.heap.size:=by
 refine ⟨⟨rfl,rfl,rfl,by simp [World.putObj],fun k _ hn=>World.putObj_heap_other (by omega)⟩,by simp [World.putObj]⟩
theorem yield_here {m:Nat} {P:Program} {l:Nat} {r:Loop} {args:Array Value} {W:World} {R:Ending→World→Prop} (hL:W.heap[l]? =some (.loop r)) (hs:args.size=r.params.size) (hrd:r.state=.ready)
  (h:r.assign.wpIn (Fence.wide.inRound l) m P (Exit.then (fun a1 w1=>w1.heap[l]? =some (.loop r)∧∀ V,V.heap[l]? =some (.loop { r with state:=.busy })→Within l (l+1) w1 V→V.heap.size=w1.heap.size→r.body.wpIn (Fence.wide.inRound l) m P (roundPost P l R) a1 V) (fun _ _ _=>False))
   { tmps:=(r.params.zip args).foldl (fun t (p,v)=>t.setIfInBounds p v) r.tmps,defers:=[] } W):YieldAt Fence.wide m P l args W R:=by
 refine ⟨r.fn,_,r.assign,r.body,run_yield hL hs,roundIn_of_wpIn trivial (wpIn_mono h ?_)⟩
 intro e a1 w1 hp
 cases e with
 | normal=>exact ⟨_,run_beginRound hp.1 hrd,hp.2 _ (World.putObj_heap_same (Array.getElem?_eq_some_iff.1 hp.1).1) (within_putObj w1 l _).1 (within_putObj w1 l _).2⟩
 | exit id=>exact hp.elim
 | goto t=>exact hp.elim
 | ret=>exact hp.elim
 | panic ch=>exact hp.elim
 | outgrown=>exact hp.elim
theorem end_here {P:Program} {l:Nat} {r:Loop} {V:World} (jump:Option Code) (hL:V.heap[l]? =some (.loop r)):
  ∃ X,(Instr.endRound l jump).run P V=.ok (.bool jump.isNone) X∧X.heap[l]? =some (.loop { r with state:=if jump.isNone then .ready else .done,pending:=jump })∧Within l (l+1) V X∧X.heap.size=V.heap.size:=
 ⟨_,run_endRound jump hL,World.putObj_heap_same (Array.getElem?_eq_some_iff.1 hL).1,(within_putObj V l _).1,(within_putObj V l _).2⟩
theorem end_go {P:Program} {l:Nat} {r:Loop} {V:World} (hst:r.state=.ready) (hpd:r.pending=none) (hL:V.heap[l]? =some (.loop { r with state:=.busy })):
  ∃ X,(Instr.endRound l none).run P V=.ok (.bool true) X∧X.heap[l]? =some (.loop r)∧Within l (l+1) V X∧X.heap.size=V.heap.size:=by
 obtain ⟨X,h1,h2,h3,h4⟩:=end_here (P:=P) (r:={ r with state:=.busy }) none hL
 refine ⟨X,h1,?_,h3,h4⟩
 rw [h2]
 cases r
 simp only at hst hpd
 subst hst hpd
 rfl
end Go.Proofs.YtfehemepdoomdaaGreatDoor
namespace Go.Proofs.YtfehemepdoomdaaGreatDoor
open Go.RowKit Go.Shelf
attribute [local go_sem] Oper.semAt_some
theorem append_intsIn {F:Fence} {n:Nat} {w:World} {ops:Array Oper} {rest:List Oper} {o:Oper} {act:Act} {Q:Exit→Act→World→Prop} (hgd:o.guard=none) (hF:∀ f,F.fn f) (hsm:o.semAt F.round act.eval=execOp act.eval o) (s x:Operand)
  (ho:o.op=.call { callee:=.builtin .append,args:=#[s,x],argTypes:=#[22,22] })
  (lo hi:Nat) (a:Option Addr) (c:Nat) (xs:List Int) (hs:act.eval s=.slice a xs.length c) (hown:OwnI w lo hi a c xs)
  (sa:Option Addr) (sc:Nat) (zs:List Int) (hx:act.eval x=.slice sa zs.length sc) (hr:ReadsI w sa zs) (hc:sa=none→sc=0)
  (hb:xs.length+zs.length≤1099511627776) (hlo:lo≤w.heap.size)
  (h:∀ a' c' ys w',Hid (ys=xs++zs)→OwnI w' lo w'.heap.size a' c' ys→w.grownBy w' (Value.slice a xs.length c).ownBlock→(∀ k,(Value.slice a' ys.length c').ownBlock=some k→(Value.slice a xs.length c).ownBlock=some k∨k=w.heap.size)→wpListIn F n Tryz.prog ops Q rest (act.put o.dst (.slice a' ys.length c')) w'):
  wpListIn F n Tryz.prog ops Q (o::rest) act w:=by
 obtain ⟨a',c',ys,w',hrun,h1,h2,h3,h4⟩:=run_append_ints (w:=w) o.type lo hi a c xs hown sa sc zs hr hc hb hlo
 refine stepIn_value hgd hF hsm ?_ (h a' c' ys w' h1 h2 h3 h4)
 unfold execOp
 simp only [ho,resolve,invoke,builtin,Sem.run_bind,Sem.run_pure,Result.andThen_ok,List.map_toArray,List.map_cons,List.map_nil,hs,hx,hrun]
theorem backward_any (a:Option Addr) (n c:Nat) (w:World):
  Calls Tryz.prog 185 #[.slice a n c] w fun e w'=>e=.returned (.func (.func 197) #[] #[.pointer (some ⟨w.heap.size,0,none⟩)])∧w'=w.alloc (.cells #[.slice a n c] 52):=by
 have hmf:∀ (fn:Fn) (first cap:Array Value) (w:World),(Instr.makeFunc fn first cap).run Tryz.prog w=.ok (.func fn first cap) w:=fun _ _ _ _=>rfl
 go_enter Tryz.func185,Tryz.ntmps185
 go_wp2
 go_ret
 exact ⟨rfl,rfl⟩
theorem backward_in (m L B3:Nat) (a:Option Addr) (c:Nat) (rs:List RecA) (hl:rs.length≤1099511627776) (J:Nat→World→Prop)
  (hJ:∀ k W,J k W→Box W B3 [.slice a rs.length c] 52∧ReadsRs W a rs)
  (hY:∀ k W,k<rs.length→J (k+1) W→YieldAt Fence.wide m Tryz.prog L #[.int .i64 (k:Int),.agg (rs.getD k zeroR).cells.toArray] W fun e W'=>e=.returned (.bool true)∧J k W')
  (W:World) (h0:J rs.length W):
  CallsIn Fence.wide (m+1) Tryz.prog 197 #[.func (.yield L) #[] #[],.pointer (some ⟨B3,0,none⟩)] W fun e W'=>(∃ v,e=.returned v)∧J 0 W':=by
 have HI:Hid ((Tryz.prog.info? 99).map (·.size)=some 15):=by rw [Hid];kernel_rfl
 refine callsIn_of_wp Tryz.func197 rfl trivial ?_ rfl
 simp only [Tryz.ntmps197,List.size_toArray,List.length_cons,List.length_nil,Nat.reduceAdd,Nat.reduceSub,Array.replicate_succ,Array.replicate_zero,List.push_toArray,List.append_toArray,List.nil_append,List.cons_append]
 have x0:=(hJ _ _ h0).1.cell 0 _ rfl
 gi_wp2
 clear x0
 gi_loopw [3] (fun i wr=>∃ k:Nat,i=.int .i64 ((k:Int)-1)∧k≤rs.length∧J k wr) (fun i _=>(intOf i+1).toNat)
 case atStart=>exact ⟨rs.length,by go_num,Nat.le_refl _,h0⟩
 case round=>
  obtain ⟨k,rfl,hk,hj⟩:=hrel
  obtain ⟨bx,hrd⟩:=hJ k wr hj
  cases k with
  | zero=>
   gi_wp2
   exact bodyPost_end (results_none rfl _ _ _) rfl ⟨⟨_,rfl⟩,hj⟩
  | succ k=>
   have x0:=bx.cell 0 _ rfl
   obtain ⟨b,off,rfl,hcell⟩:=hrd (by rintro rfl;simp at hk)
   have R3:=(hcell k (by omega)).1
   obtain ⟨fn,tmps,assign,body,hy,hR⟩:=hY k wr (by omega) hj
   have hkk:(k:Int)<(rs.length:Int):=by omega
   have hi0:(0:Int)≤(k:Int):=by omega
   have hk1:((k+1:Nat):Int)-1=(k:Int):=by omega
   rw [hk1]
   clear hcell bx hrd hj
   generalize rs.getD k zeroR=z at*
   gi_wp2_with (first | (guard_target=wpListIn _ _ _ _ _ (Oper.mk (some 16) _ _ _ _ _::_) _ _;refine loadIn_mid rfl (fun _=>trivial) rfl 99 (.tmp 15) rfl b (off+k*15) rfl z.cells _ R3 Tryz.underlying99 rfl HI.out ?_) | fail)
   refine hR.mono ?_
   rintro e W4 ⟨rfl,hj4⟩
   gi_wp2
   go_roundw
   case rel=>exact ⟨k,by go_num,by omega,hj4⟩
   case measure=>simp [intOf]
end Go.Proofs.YtfehemepdoomdaaGreatDoor