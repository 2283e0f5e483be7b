/- Several texts in one, in their order. -/
import Derived.Test.YtnoeobahjbdoiaaPViewx1
import Derived.Test.YtnoeobahjbdoiaaPViewx2
import Derived.Test.YtnoeobahjbdoiaaPViewx3
import Derived.Deep.RegionHeld3
import Derived.Deep.CutRange
set_option maxHeartbeats 8000000
set_option maxRecDepth 100000
namespace Go.Proofs.Ytnoeobahjbdoiaa
open Go.RowKit
def cellsVw (rs:List SlotA):List Value:=rs.flatMap SlotA.cells
theorem cells_lenV (r:SlotA):r.cells.length=4:=rfl
theorem cellsVw_len (rs:List SlotA):(cellsVw rs).length=rs.length*4:=by
 induction rs with
 | nil=>rfl
 | cons s r ih=>simp only [cellsVw,List.flatMap_cons,List.length_append,cells_lenV,List.length_cons] at *;omega
theorem cellsVw_app (a b:List SlotA):cellsVw (a++b)=cellsVw a++cellsVw b:=by simp [cellsVw]
theorem cellsVw_cons (r:SlotA) (b:List SlotA):cellsVw (r::b)=r.cells++cellsVw b:=by simp [cellsVw]
theorem cellsVw_at (rs:List SlotA) (k j:Nat) (hk:k<rs.length) (hj:j<4):(cellsVw rs)[k*4+j]? =(rs.getD k zeroS).cells[j]? :=by
 induction rs generalizing k with
 | nil=>simp at hk
 | cons s r ih=>
  rw [cellsVw_cons]
  cases k with
  | zero=>rw [List.getElem?_append_left (by rw [cells_lenV];omega)];simp
  | succ k=>
   rw [List.getElem?_append_right (by rw [cells_lenV];omega),cells_lenV]
   have:=ih k (by simpa using hk)
   rw [show (k+1)*4+j-4=k*4+j by omega,this]
   simp
theorem slotD_mem (rs:List SlotA) (k:Nat) (hk:k<rs.length):rs.getD k zeroS∈rs:=by
 have e:rs.getD k zeroS=rs[k]:=by simp [List.getD,hk]
 rw [e]
 exact List.getElem_mem hk
theorem rangeAt_belowV {w w':World} {b o n:Nat} {cs:List Value} (h:w.rangeAt b o cs) (hb:Below n w w') (hn:b<n):w'.rangeAt b o cs:=fun j v hv=>(hb.cell (p:=⟨b,o+j,none⟩) hn).trans (h j v hv)
theorem rangeV_lt {w:World} {b o:Nat} {r:SlotA} (h:w.rangeAt b o r.cells):b<w.heap.size:=block_lt (h 0 _ rfl)
def ReadsVw (w:World) (a:Option Addr) (rs:List SlotA):Prop:=rs≠[]→∃ b off,a=some ⟨b,off,none⟩∧∀ k,k<rs.length→w.rangeAt b (off+k*4) (rs.getD k zeroS).cells∧(rs.getD k zeroS).reads w
theorem ReadsVw.cases {w:World} {a:Option Addr} {rs:List SlotA} (h:ReadsVw w a rs):rs=[]∨∃ b off,a=some ⟨b,off,none⟩∧0<rs.length∧∀ k,k<rs.length→w.rangeAt b (off+k*4) (rs.getD k zeroS).cells∧(rs.getD k zeroS).reads w:=by
 by_cases e:rs=[]
 ·exact .inl e
 ·obtain ⟨b,off,ha,hc⟩:=h e
  exact .inr ⟨b,off,ha,List.length_pos_iff.2 e,hc⟩
structure OwnVw (w:World) (lo hi:Nat) (a:Option Addr) (c:Nat) (rs:List SlotA):Prop where
 row:w.ownsRow lo 46 4 (.slice a rs.length c) rs.length (cellsVw rs)
 top:hi≤w.heap.size
 blk:∀ k,(Value.slice a rs.length c).ownBlock=some k→k<hi
 each:∀ r∈rs,r.own w lo hi
 apart:((Value.slice a rs.length c).ownBlock.toList++rs.flatMap SlotA.blocks).Nodup
def blocksVw (a:Option Addr) (c:Nat) (rs:List SlotA):List Nat:=(Value.slice a rs.length c).ownBlock.toList++rs.flatMap SlotA.blocks
theorem OwnVw.blocks_lt {w:World} {lo hi:Nat} {a:Option Addr} {c:Nat} {rs:List SlotA} (h:OwnVw w lo hi a c rs):∀ k∈blocksVw a c rs,lo≤k∧k<hi:=by
 intro k hk
 simp only [blocksVw,List.mem_append,List.mem_flatMap,Option.mem_toList] at hk
 rcases hk with h1 | ⟨r,hr,h1⟩
 ·exact ⟨(h.row.lt k h1).1,h.blk k h1⟩
 ·exact SlotA.blocks_lt (h.each r hr) k h1
theorem OwnVw.touch {w w':World} {lo hi:Nat} {a:Option Addr} {c:Nat} {rs:List SlotA} {bl:List Nat} (h:OwnVw w lo hi a c rs) (ht:Touch bl w w') (hd:∀ k∈blocksVw a c rs,k∉bl):OwnVw w' lo hi a c rs:=
 ⟨ownsRow_block h.row (fun k hk=>ht.block k (h.row.lt k hk).2 (hd k (List.mem_append.2 (.inl (Option.mem_toList.2 hk))))),Nat.le_trans h.top ht.size,h.blk,fun r hr=>SlotA.touch (h.each r hr) ht (fun k hk=>hd k (List.mem_append.2 (.inr (List.mem_flatMap.2 ⟨r,hr,hk⟩)))),h.apart⟩
theorem OwnVw.within {w w':World} {lo hi l r:Nat} {a:Option Addr} {c:Nat} {rs:List SlotA} (h:OwnVw w lo hi a c rs) (hw:Within l r w w') (hd:hi≤l∨r≤lo):OwnVw w' lo hi a c rs:=
 ⟨ownsRow_block h.row (fun k hk=>hw.block k (by have:=h.blk k hk;have:=h.top;omega) (by have:=h.blk k hk;have:=(h.row.lt k hk).1;omega)),Nat.le_trans h.top hw.size,h.blk,fun x hx=>OwnO.within (h.each x hx) hw hd,h.apart⟩
theorem OwnVw.below {w w':World} {lo hi:Nat} {a:Option Addr} {c:Nat} {rs:List SlotA} (h:OwnVw w lo hi a c rs) (hb:Below w.heap.size w w'):OwnVw w' lo hi a c rs:=
 h.within (Within.of_below (lo:=w.heap.size) (hi:=w.heap.size) hb) (.inl h.top)
theorem OwnVw.widen {w:World} {lo hi lo' hi':Nat} {a:Option Addr} {c:Nat} {rs:List SlotA} (h:OwnVw w lo hi a c rs) (h1:lo'≤lo) (h2:hi≤hi') (h3:hi'≤w.heap.size):OwnVw w lo' hi' a c rs:=
 ⟨ownsRow_base h.row (fun k hk=>by have:=(h.row.lt k hk).1;omega),h3,fun k hk=>by have:=h.blk k hk;omega,fun x hx=>OwnO.widen (h.each x hx) h1 h2 h3,h.apart⟩
theorem row_slot {w:World} {base g n cap:Nat} {rs:List SlotA} (h:w.ownsRow base 46 4 (.slice (some ⟨g,0,none⟩) n cap) n (cellsVw rs)) (hn:rs.length=n) (k:Nat) (hk:k<n):
  w.rangeAt g (k*4) (rs.getD k zeroS).cells∧w.there g (k*4) 4:=by
 refine ⟨fun j v hv=>?_,fun j hj=>?_⟩
 ·have hj:j<4:=by have:=(List.getElem?_eq_some_iff.1 hv).1;rwa [cells_lenV] at this
  rw [h.cellAt (k*4+j) (by omega),cellsVw_at rs k j (by omega) hj,hv]
 ·refine ⟨?_,h.frozenAt _⟩
  rw [h.cellAt (k*4+j) (by omega),cellsVw_at rs k j (by omega) hj,List.getElem?_eq_getElem (by rw [cells_lenV];omega)]
  rfl
theorem OwnVw.reads {w:World} {lo hi:Nat} {a:Option Addr} {c:Nat} {rs:List SlotA} (h:OwnVw w lo hi a c rs):ReadsVw w a rs:=by
 intro hne
 rcases h.row.2 with ⟨_,h0⟩ | ⟨g,cap',cur,hv,hb,hg,hr⟩
 ·exact absurd (List.length_eq_zero_iff.1 h0) hne
 ·simp only [Value.slice.injEq] at hv
  obtain ⟨rfl,_,rfl⟩:=hv
  refine ⟨g,0,rfl,fun k hk=>?_⟩
  rw [Nat.zero_add]
  exact ⟨(row_slot h.row rfl k hk).1,OwnO.reads (h.each _ (slotD_mem rs k hk))⟩
theorem row_setCellsV {base g n cap sz:Nat} {e:TypeId} (cs:List Value):∀ (pre old post:List Value) (w:World),w.ownsRow base e sz (.slice (some ⟨g,0,none⟩) n cap) n (pre++(old++post))→old.length=cs.length→
  (w.setCells g pre.length cs).ownsRow base e sz (.slice (some ⟨g,0,none⟩) n cap) n (pre++(cs++post))∧w.grownBy (w.setCells g pre.length cs) (some g):=by
 induction cs with
 | nil=>intro pre old post w h hl;obtain rfl:=List.length_eq_zero_iff.1 hl;exact ⟨h,World.grownBy.refl _ _⟩
 | cons c cr ih=>
  intro pre old post w h hl
  obtain ⟨x,r,rfl⟩:∃ x r,old=x::r:=by
   cases old with
   | nil=>simp at hl
   | cons x r=>exact ⟨x,r,rfl⟩
  have hs:=h.stored pre.length c
  rw [List.set_append_right _ _ (Nat.le_refl _),Nat.sub_self] at hs
  simp only [List.cons_append,List.set_cons_zero] at hs
  have:=ih (pre++[c]) r post (w.setCell ⟨g,pre.length,none⟩ c) (by simpa using hs.1) (by simpa using hl)
  simp only [List.length_append,List.length_singleton] at this
  rw [World.setCells]
  exact ⟨by simpa using this.1,grownBy_trans hs.2 this.2⟩
theorem setCells_heapV (B:Nat):∀ (vs:List Value) (o:Nat) (w:World),(w.setCells B o vs).heap.size=w.heap.size:=by
 intro vs
 induction vs with
 | nil=>intro o w;rfl
 | cons v r ih=>intro o w;rw [World.setCells,ih];simp
theorem OwnVw.fill {w:World} {lo hi g c:Nat} {A B:List SlotA} {z:SlotA} (h:OwnVw w lo hi (some ⟨g,0,none⟩) c (A++z::B)) (q:SlotA) {l u:Nat} (hq:q.own w l u) (hl:hi≤l) (hlo:lo≤hi) (hu:u≤w.heap.size):
  ∃ W,Hid (w.setCells g (A.length*4) q.cells=W)∧OwnVw W lo (max hi u) (some ⟨g,0,none⟩) c (A++q::B)∧Touch [g] w W∧W.heap.size=w.heap.size:=by
 have hrow:=h.row
 rw [cellsVw_app,cellsVw_cons,List.length_append,List.length_cons] at hrow
 have hg:lo≤g∧g<hi:=⟨(hrow.lt g rfl).1,h.blk g rfl⟩
 obtain ⟨h1,h2⟩:=row_setCellsV q.cells (cellsVw A) z.cells (cellsVw B) w hrow rfl
 rw [cellsVw_len] at h1 h2
 have ht:Touch [g] w (w.setCells g (A.length*4) q.cells):=Touch.of_grown h2 (fun k hk=>by cases hk;simp)
 have hap:=h.apart
 simp only [List.flatMap_append,List.flatMap_cons,Value.ownBlock,Option.toList,List.singleton_append,List.nodup_cons,List.nodup_append,List.mem_append,not_or] at hap
 obtain ⟨⟨n1,n2,n3⟩,a1,⟨a2,a3,a4⟩,a5⟩:=hap
 have hqb:=SlotA.blocks_lt hq
 have hA:∀ x∈A.flatMap SlotA.blocks,lo≤x∧x<hi:=fun x hx=>by
  obtain ⟨r,hr,hx⟩:=List.mem_flatMap.1 hx
  exact SlotA.blocks_lt (h.each r (by simp [hr])) x hx
 have hB:∀ x∈B.flatMap SlotA.blocks,lo≤x∧x<hi:=fun x hx=>by
  obtain ⟨r,hr,hx⟩:=List.mem_flatMap.1 hx
  exact SlotA.blocks_lt (h.each r (by simp [hr])) x hx
 have hsz:=setCells_heapV g q.cells (A.length*4) w
 refine ⟨_,rfl,⟨?_,?_,fun k hk=>?_,fun r hr=>?_,?_⟩,ht,hsz⟩
 ·rw [cellsVw_app,cellsVw_cons,List.length_append,List.length_cons]
  exact h1
 ·rw [hsz]
  have:=h.top
  omega
 ·cases hk
  show g<max hi u
  omega
 ·rcases List.mem_append.1 hr with hr | hr
  ·exact (SlotA.touch (h.each r (by simp [hr])) ht (fun k hk hk'=>n1 (by rw [← List.mem_singleton.1 hk'];exact List.mem_flatMap.2 ⟨r,hr,hk⟩))).widen (Nat.le_refl _) (by omega) (by rw [hsz];have:=h.top;omega)
  ·rcases List.mem_cons.1 hr with rfl | hr
   ·exact (SlotA.touch hq ht (fun k hk hk'=>by have:=hqb k hk;have:=List.mem_singleton.1 hk';omega)).widen (by omega) (by omega) (by rw [hsz];have:=h.top;omega)
   ·exact (SlotA.touch (h.each r (by simp [hr])) ht (fun k hk hk'=>n3 (by rw [← List.mem_singleton.1 hk'];exact List.mem_flatMap.2 ⟨r,hr,hk⟩))).widen (Nat.le_refl _) (by omega) (by rw [hsz];have:=h.top;omega)
 ·simp only [List.flatMap_append,List.flatMap_cons,Value.ownBlock,Option.toList,List.singleton_append,List.nodup_cons,List.nodup_append,List.mem_append,not_or]
  refine ⟨⟨n1,fun hk=>by have:=hqb g hk;omega,n3⟩,a1,⟨SlotA.blocks_nodup hq,a3,fun x hx y hy e=>by have:=hqb x hx;have:=hB y hy;omega⟩,fun x hx y hy e=>?_⟩
  rcases hy with hy | hy
  ·have:=hqb y hy;have:=hA x hx;omega
  ·exact a5 x hx y (.inr hy) e
theorem Try.infoSlotV:(Try.prog.info? 46).map (fun i=>(i.zero,i.size,i.bytes))=some (some (.agg zeroS.cells.toArray),4,64):=by kernel_rfl
def SlotA.short (s:SlotA) (m:Nat):Prop:=s.v.o.ints.length≤m∧s.v.o.refs.length≤m
theorem slot_oneV (t:SlotA):t.cells.toArray.all (·.oneCell')=true:=all_oneCell_toArray (by intro v hv;simp only [SlotA.cells,List.mem_cons,List.not_mem_nil,or_false] at hv;rcases hv with rfl | rfl | rfl | rfl<;>rfl)
theorem rep_lenV (n:Nat) (r:SlotA):(List.replicate n r).length=n:=by simp
theorem zero_cellsVw (n:Nat):(madeCells (Value.agg zeroS.cells.toArray).cells (n*4)).toList=cellsVw (List.replicate n zeroS):=by
 apply List.ext_getElem?
 intro i
 by_cases h:i<n*4
 ·have e:=cellsVw_at (List.replicate n zeroS) (i / 4) (i % 4) (by simp;omega) (Nat.mod_lt _ (by omega))
  rw [show i / 4*4+i % 4=i by omega] at e
  rw [e]
  have hg:(List.replicate n zeroS).getD (i / 4) zeroS=zeroS:=by simp [List.getD,show i / 4<n by omega]
  rw [hg]
  simp only [madeCells,Array.toList_map,List.getElem?_map,Array.toList_range,List.getElem?_range h,Option.map_some]
  have hm:i % 4<4:=Nat.mod_lt _ (by omega)
  have hz:∀ j,j<4→some ((Value.agg zeroS.cells.toArray).cells[j]!)=zeroS.cells[j]? :=by
   intro j hj
   rcases (by omega:j=0∨j=1∨j=2∨j=3) with rfl | rfl | rfl | rfl<;>rfl
  exact hz _ hm
 ·rw [List.getElem?_eq_none (by simp [size_madeCells];omega),List.getElem?_eq_none (by rw [cellsVw_len];simp;omega)]
theorem own_zeroVw {w:World} {lo hi g c:Nat} (n:Nat) (h:w.ownsRow lo 46 4 (.slice (some ⟨g,0,none⟩) n c) n (cellsVw (List.replicate n zeroS))) (ht:hi≤w.heap.size) (hg:g<hi):OwnVw w lo hi (some ⟨g,0,none⟩) c (List.replicate n zeroS):=by
 refine ⟨by rw [rep_lenV];exact h,ht,fun k hk=>by cases hk;exact hg,fun r hr=>?_,?_⟩
 ·rw [(List.mem_replicate.1 hr).2]
  exact ⟨ownI_nil _ _ _ ht,ownI_nil _ _ _ ht,fun k hk=>by cases hk⟩
 ·have e:(List.replicate n zeroS).flatMap SlotA.blocks=[]:=by
   rw [List.flatMap_eq_nil_iff]
   intro r hr
   rw [(List.mem_replicate.1 hr).2]
   rfl
  rw [e]
  simp [Value.ownBlock]
theorem range_belowV {w w':World} {b o:Nat} {r:SlotA} (h:w.rangeAt b o r.cells) (hb:Below w.heap.size w w'):w'.rangeAt b o r.cells:=rangeAt_belowV h hb (rangeV_lt h)
theorem mapVw_nil {ts:List SlotA} (h:ts.map SlotA.v=([]:List SlotA).map SlotA.v):ts=[]:=by simpa using h
theorem mapVw_len {rs ts:List SlotA} (h:ts.map SlotA.v=rs.map SlotA.v):ts.length=rs.length:=by simpa using congrArg List.length h
theorem mapVw_at {rs ts:List SlotA} (h:ts.map SlotA.v=rs.map SlotA.v) (k:Nat) (hk:k<rs.length):(ts.getD k zeroS).v=(rs.getD k zeroS).v:=by
 have hk':k<ts.length:=by rw [mapVw_len h];exact hk
 have:=congrArg (fun x=>x[k]?) h
 simpa [List.getD,hk,hk'] using this
theorem eqSlotS_same (a b:Option Addr) (ca cb:Nat) (rs ts:List SlotA) (he:ts.map SlotA.v=rs.map SlotA.v) (w:World) (ha:ReadsVw w a rs) (hb:ReadsVw w b ts) (hl:rs.length≤1099511627776) (hs:∀ r∈rs,r.short 1099511627776):
  Calls Try.prog 8 #[.slice a rs.length ca,.slice b ts.length cb] w fun e w'=>e=.returned (.bool true)∧Below w.heap.size w w':=by
 rcases ha.cases with rfl | ⟨b1,o1,rfl,hpos,hc1⟩
 ·obtain rfl:=mapVw_nil he
  go_enter Try.func8,Try.ntmps8
  go_wp2
  refine wp_loop_rounds 1 ?_
  rw [rounds_succ]
  go_wp2
  go_ret
  exact ⟨rfl,Below.refl _ _⟩
 ·have hlen:=mapVw_len he
  rcases hb.cases with rfl | ⟨b2,o2,rfl,_,hc2⟩
  ·simp at hlen;omega
  ·have HV:Hid (∀ k,k<rs.length→(ts.getD k zeroS).v=(rs.getD k zeroS).v):=fun k hk=>mapVw_at he k hk
   have HS:Hid (∀ k,k<rs.length→(rs.getD k zeroS).short 1099511627776):=fun k hk=>hs _ (slotD_mem rs k hk)
   have HI:Hid ((Try.prog.info? 46).map (·.size)=some 4):=by rw [Hid];kernel_rfl
   have hu:=Try.underlying46
   rw [hlen] at hc2 ⊢
   clear he hs hlen
   go_enter Try.func8,Try.ntmps8
   go_wp2
   go_loopw [5] (fun i wr=>∃ k:Nat,k≤rs.length∧i=.int .i64 k∧Below w.heap.size w wr) (fun i _=>rs.length-(intOf i).toNat)
   case atStart=>exact ⟨0,Nat.zero_le _,rfl,Below.refl _ _⟩
   case round=>
    obtain ⟨k,hk,rfl,hbl⟩:=hrel
    by_cases hlt:k<rs.length
    ·obtain ⟨h1,r1⟩:=hc1 k hlt
     obtain ⟨h2,r2⟩:=hc2 k hlt
     have hv:=HV.out k hlt
     have hsh:=HS.out k hlt
     clear hc1 hc2
     generalize rs.getD k zeroS=z at*
     generalize ts.getD k zeroS=y at*
     have HR:Hid (∀ w1,Below w.heap.size w w1→w1.rangeAt b1 (o1+k*4) z.cells∧w1.rangeAt b2 (o2+k*4) y.cells):=fun w1 hh=>⟨range_belowV h1 hh,range_belowV h2 hh⟩
     have HD:Hid (∀ w1,Below w.heap.size w w1→z.reads w1∧y.reads w1):=fun w1 hh=>⟨ReadsO.below r1 hh,ReadsO.below r2 hh⟩
     clear h1 h2 r1 r2
     go_wp2_with fail
     refine wp_region_held_drew (S:=fun w'=>w'.rangeAt b1 (o1+k*4) z.cells∧w'.rangeAt b2 (o2+k*4) y.cells) (by kernel_rfl) ?_ (fun hHeld=>?_)
     ·exact HR.out _ hbl.drew
     refine tq 0 (v:=.slice (some ⟨b1,o1,none⟩) rs.length ca) rfl hHeld ?_
     try simp only [zz]
     refine tq 1 (v:=.int .i64 k) rfl hHeld ?_
     try simp only [zz]
     refine tq 2 (v:=.pointer (some ⟨b1,o1+k*4,none⟩)) rfl hHeld ?_
     try simp only [zz]
     refine tk 3 rfl (yieldsIf_load_mid (by rfl) _ _ rfl _ _ rfl z.cells _ (fun _ h=>h.1) Try.underlying46 rfl HI.out) hHeld ?_
     try simp only [zz]
     refine tq 4 (v:=.slice (some ⟨b2,o2,none⟩) rs.length cb) rfl hHeld ?_
     try simp only [zz]
     refine tq 5 (v:=.int .i64 k) rfl hHeld ?_
     try simp only [zz]
     refine tq 6 (v:=.pointer (some ⟨b2,o2+k*4,none⟩)) rfl hHeld ?_
     try simp only [zz]
     refine tk 7 rfl (yieldsIf_load_mid (by rfl) _ _ rfl _ _ rfl y.cells _ (fun _ h=>h.2) Try.underlying46 rfl HI.out) hHeld ?_
     try simp only [zz]
     refine wpAnyH_ready (rs:=[8]) (by kernel_rfl) (by simp) ?_
     refine AllReadyH.cons rfl (fun K hK=>?_) AllReadyH.nil
     go_simp
     refine (eqSlot_same z y hv _ (HD.out _ hbl.drew).1 (HD.out _ hbl.drew).2 hsh.1 hsh.2).mono ?_
     rintro e w2 ⟨rfl,hb2⟩
     have hw2:Below w.heap.size w w2:=(hbl.drew).trans (hb2.mono hbl.size)
     refine hK.out _ _ (HR.out _ hw2) (fun hHeld=>?_)
     clear hK K
     try simp only [zz]
     refine tq 9 (v:=.bool false) rfl hHeld ?_
     try simp only [zz]
     refine wpAnyH_done (by kernel_rfl) ?_ _
     go_wp2_with fail
     go_roundw
     case rel=>exact ⟨k+1,by omega,by go_num,hw2⟩
     case measure=>simp [intOf];omega
    ·go_wp2
     go_ret
     exact ⟨rfl,hbl⟩
end Go.Proofs.Ytnoeobahjbdoiaa
namespace Go.Proofs.Ytnoeobahjbdoiaa
open Go.RowKit
def markV1 (s:SlotA) (k:Int):SlotA:=⟨⟨(k % 3 == 0),⟨k+1,marksI (k+1+1) s.v.o.ints.length,marksI (k+1+1+s.v.o.ints.length) s.v.o.refs.length⟩⟩,s.aI,s.cI,s.aR,s.cR⟩
def countV1 (s:SlotA):Nat:=2+s.v.o.ints.length+s.v.o.refs.length
theorem markV1_blocks (r:SlotA) (k:Int):(markV1 r k).blocks=r.blocks:=by simp [markV1,SlotA.blocks,marksI_len]
theorem ownsRow_atV {w:World} {base:Nat} {e:TypeId} {size n:Nat} {v:Value} {xs:List Value} (h:w.ownsRow base e size v n xs) {k:Nat} (hk:v.ownBlock=some k):∃ cur,w.heap[k]? =some (.cells cur e (0,0)):=by
 rcases h.2 with ⟨rfl,_⟩ | ⟨g,cap,cur,rfl,_,hg,_⟩
 ·cases hk
 ·cases hk
  exact ⟨cur,hg⟩
theorem row_apartV {w:World} {base lo hi n:Nat} {v:Value} {xs:List Value} {r:SlotA} (h:w.ownsRow base 46 4 v n xs) (hr:r.own w lo hi):∀ k,v.ownBlock=some k→k∉r.blocks:=by
 intro k hk hm
 have no:∀ {b2 s2 n2:Nat} {e2:TypeId} {v2:Value} {x2:List Value},w.ownsRow b2 e2 s2 v2 n2 x2→v2.ownBlock=some k→e2=46:=by
  intro b2 s2 n2 e2 v2 x2 h2 hk2
  obtain ⟨c1,h1⟩:=ownsRow_atV h hk
  obtain ⟨c2,h3⟩:=ownsRow_atV h2 hk2
  rw [h1] at h3
  simp only [Option.some.injEq,Obj.cells.injEq] at h3
  exact h3.2.1.symm
 simp only [SlotA.blocks,List.mem_append,Option.mem_toList] at hm
 rcases hm with h1 | h1
 ·have:=no hr.ints.1 h1;cases this
 ·have:=no hr.refs.1 h1;cases this
def markVs:List SlotA→Int→List SlotA
 | [],_=>[]
 | r::t,k=>markV1 r k::markVs t (k+countV1 r)
def countVs:List SlotA→Nat
 | []=>0
 | r::t=>countV1 r+countVs t
theorem markVs_len (rs:List SlotA):∀ k,(markVs rs k).length=rs.length:=by
 induction rs with
 | nil=>intro k;rfl
 | cons x r ih=>intro k;simp [markVs,ih]
theorem markVs_app (A B:List SlotA):∀ k,markVs (A++B) k=markVs A k++markVs B (k+countVs A):=by
 induction A with
 | nil=>intro k;simp [markVs,countVs]
 | cons x r ih=>
  intro k
  simp only [List.cons_append,markVs,ih,countVs]
  congr 3
  omega
theorem countVs_app (A B:List SlotA):countVs (A++B)=countVs A+countVs B:=by
 induction A with
 | nil=>simp [countVs]
 | cons x r ih=>simp only [List.cons_append,countVs,ih];omega
theorem slots_splitV (rs:List SlotA) (j:Nat) (h:j<rs.length):rs.drop j=rs.getD j zeroS::rs.drop (j+1)∧rs.take (j+1)=rs.take j++[rs.getD j zeroS]:=by
 have e:rs.getD j zeroS=rs[j]:=by simp [List.getD,h]
 exact ⟨by rw [List.drop_eq_getElem_cons h,e],by rw [List.take_succ_eq_append_getElem h,e]⟩
def halfVs (rs:List SlotA) (k:Int) (j:Nat):List SlotA:=markVs (rs.take j) k++rs.drop j
theorem halfVs_len (rs:List SlotA) (k:Int) (j:Nat) (h:j≤rs.length):(halfVs rs k j).length=rs.length:=by simp [halfVs,markVs_len];omega
theorem halfVs_at (rs:List SlotA) (k:Int) (j:Nat) (h:j<rs.length):halfVs rs k j=markVs (rs.take j) k++rs.getD j zeroS::rs.drop (j+1):=by rw [halfVs,(slots_splitV rs j h).1]
theorem halfVs_next (rs:List SlotA) (k:Int) (j:Nat) (h:j<rs.length):halfVs rs k (j+1)=markVs (rs.take j) k++markV1 (rs.getD j zeroS) (k+countVs (rs.take j))::rs.drop (j+1):=by
 rw [halfVs,(slots_splitV rs j h).2,markVs_app]
 simp [markVs]
theorem countVs_next (rs:List SlotA) (j:Nat) (h:j<rs.length):countVs (rs.take (j+1))=countVs (rs.take j)+countV1 (rs.getD j zeroS):=by
 rw [(slots_splitV rs j h).2,countVs_app]
 simp [countVs]
theorem countVs_le (rs:List SlotA) (j:Nat):countVs (rs.take j)≤countVs rs:=by
 have:countVs rs=countVs (rs.take j)+countVs (rs.drop j):=by rw [← countVs_app,List.take_append_drop]
 omega
def RowV (w:World) (base g n cap:Nat) (pre cs post:List Value):Prop:=w.ownsRow base 46 4 (.slice (some ⟨g,0,none⟩) n cap) n (pre++(cs++post))
theorem RowV.cell {w:World} {base g n cap j:Nat} {pre cs post:List Value} (h:RowV w base g n cap pre cs post) (hp:pre.length=j*4) (hc:cs.length=4) (i:Nat) (v:Value) (hv:cs[i]? =some v):w.cell? ⟨g,j*4+i,none⟩=some v:=by
 have hi:i<4:=by have:=(List.getElem?_eq_some_iff.1 hv).1;omega
 have hl:=h.1
 rw [List.length_append,List.length_append] at hl
 rw [World.ownsRow.cellAt h (j*4+i) (by omega),List.getElem?_append_right (by omega),List.getElem?_append_left (by omega),show j*4+i-pre.length=i by omega]
 exact hv
theorem RowV.frozen {w:World} {base g n cap:Nat} {pre cs post:List Value} (h:RowV w base g n cap pre cs post) (i:Nat):w.frozen? ⟨g,i,none⟩=false:=World.ownsRow.frozenAt h i
theorem RowV.set {w:World} {base g n cap j:Nat} {pre cs post:List Value} (h:RowV w base g n cap pre cs post) (hp:pre.length=j*4) (hc:cs.length=4) (i:Nat) (hi:i<4) (v:Value):RowV (w.setCell ⟨g,j*4+i,none⟩ v) base g n cap pre (cs.set i v) post∧w.grownBy (w.setCell ⟨g,j*4+i,none⟩ v) (some g):=by
 have:=World.ownsRow.stored h (j*4+i) v
 rw [List.set_append_right _ _ (by omega),show j*4+i-pre.length=i by omega,List.set_append_left _ _ (by omega)] at this
 exact this
theorem RowV.block {w w':World} {base g n cap:Nat} {pre cs post:List Value} (h:RowV w base g n cap pre cs post) (hb:w'.heap[g]? =w.heap[g]?):RowV w' base g n cap pre cs post:=ownsRow_block h (fun k hk=>by cases hk;exact hb)
theorem RowV.keep {w w':World} {base g n cap:Nat} {pre cs post:List Value} {bl:List Nat} (h:RowV w base g n cap pre cs post) (ht:Touch bl w w') (hd:g∉bl):RowV w' base g n cap pre cs post:=h.block (ht.block g (World.ownsRow.lt h g rfl).2 hd)
theorem markIntS_touchV (lo hi:Nat) (a:Option Addr) (cap:Nat) (k0:Int) (xs:List Int) (w:World) (ho:OwnI w lo hi a cap xs) (h0:0≤k0) (hl:k0+xs.length≤4611686018427387904):
  Calls Try.prog 38 #[.slice a xs.length cap,.int .i64 k0] w fun e w'=>e=.returned (.int .i64 (k0+xs.length))∧OwnI w' lo hi a cap (marksI k0 xs.length)∧Touch (Value.slice a xs.length cap).ownBlock.toList w w':=by
 refine (markIntS_any lo a cap k0 xs w ho.1 h0 hl).mono ?_
 rintro e w' ⟨rfl,h1,h2⟩
 exact ⟨rfl,⟨by rw [marksI_len];exact h1,Nat.le_trans ho.2.1 h2.size,by rw [marksI_len];exact ho.2.2⟩,Touch.of_grown h2 (fun j hj=>Option.mem_toList.2 hj)⟩
theorem OwnI.keepV {w w':World} {lo hi:Nat} {a:Option Addr} {c:Nat} {ns:List Int} {bl:List Nat} (h:OwnI w lo hi a c ns) (ht:Touch bl w w') (hd:∀ k,k∈(Value.slice a ns.length c).ownBlock.toList→k∉bl):OwnI w' lo hi a c ns:=h.touch ht (fun k hk=>hd k (Option.mem_toList.2 hk))
theorem OwnVw.replace {w w':World} {lo hi g c:Nat} {A B:List SlotA} {z y:SlotA} (h:OwnVw w lo hi (some ⟨g,0,none⟩) c (A++z::B)) (ht:Touch (g::z.blocks) w w') (hrow:RowV w' lo g (A++z::B).length c (cellsVw A) y.cells (cellsVw B)) (hy:y.own w' lo hi) (hb:y.blocks=z.blocks):OwnVw w' lo hi (some ⟨g,0,none⟩) c (A++y::B):=by
 have hap:=h.apart
 simp only [List.flatMap_append,List.flatMap_cons,Value.ownBlock,Option.toList,List.singleton_append,List.nodup_cons,List.nodup_append,List.mem_append,not_or] at hap
 obtain ⟨⟨n1,n2,n3⟩,a1,⟨a2,a3,a4⟩,a5⟩:=hap
 refine ⟨?_,Nat.le_trans h.top ht.size,fun k hk=>by cases hk;exact h.blk g rfl,fun r hr=>?_,?_⟩
 ·have e:(A++y::B).length=(A++z::B).length:=by simp
  rw [e,cellsVw_app,cellsVw_cons]
  exact hrow
 ·rcases List.mem_append.1 hr with hr | hr
  ·refine SlotA.touch (h.each r (by simp [hr])) ht (fun k hk hk'=>?_)
   have hm:k∈A.flatMap SlotA.blocks:=List.mem_flatMap.2 ⟨r,hr,hk⟩
   rcases List.mem_cons.1 hk' with rfl | hk'
   ·exact n1 hm
   ·exact a5 k hm k (.inl hk') rfl
  ·rcases List.mem_cons.1 hr with rfl | hr
   ·exact hy
   ·refine SlotA.touch (h.each r (by simp [hr])) ht (fun k hk hk'=>?_)
    have hm:k∈B.flatMap SlotA.blocks:=List.mem_flatMap.2 ⟨r,hr,hk⟩
    rcases List.mem_cons.1 hk' with rfl | hk'
    ·exact n3 hm
    ·exact a4 k hk' k hm rfl
 ·have:=h.apart
  simp only [List.flatMap_append,List.flatMap_cons] at this ⊢
  rw [hb]
  exact this
theorem markVs_at (rs:List SlotA) (k:Int) (j:Nat) (h:j<rs.length):(markVs rs k).getD j zeroS=markV1 (rs.getD j zeroS) (k+countVs (rs.take j)):=by
 have e:markVs rs k=markVs (rs.take j) k++markVs (rs.drop j) (k+countVs (rs.take j)):=by rw [← markVs_app,List.take_append_drop]
 have hl:(markVs (rs.take j) k).length=j:=by rw [markVs_len,List.length_take];omega
 rw [e,(slots_splitV rs j h).1,markVs]
 simp [List.getD,hl]
theorem markSlotS_touch (lo hi:Nat) (a:Option Addr) (cap:Nat) (k0:Int) (rs:List SlotA) (w:World) (ho:OwnVw w lo hi a cap rs) (hl:∀ r∈rs,r.short 1099511627776) (h0:0≤k0) (hk:k0+countVs rs≤1152921504606846976):
  Calls Try.prog 11 #[.slice a rs.length cap,.int .i64 k0] w fun e w'=>e=.returned (.int .i64 (k0+countVs rs))∧OwnVw w' lo hi a cap (markVs rs k0)∧Touch (blocksVw a cap rs) w w':=by
 rcases ho.row.2 with ⟨hv,h00⟩ | ⟨g,cap',cur,hv,hg,hgg,hr⟩
 ·simp only [Value.slice.injEq] at hv
  obtain ⟨rfl,_,rfl⟩:=hv
  obtain rfl:=List.length_eq_zero_iff.1 h00
  go_enter Try.func11,Try.ntmps11
  go_wp2
  refine wp_loop_rounds 1 ?_
  rw [rounds_succ]
  go_wp2
  go_ret
  exact ⟨by simp [countVs],ho,Touch.refl _ _⟩
 ·simp only [Value.slice.injEq] at hv
  obtain ⟨rfl,_,rfl⟩:=hv
  have hlm:rs.length≤maxLen:=Nat.le_trans hr.1 hr.2.1
  simp only [maxLen] at hlm
  clear hgg hr
  have HH:Hid (halfVs rs k0 0=rs∧halfVs rs k0 rs.length=markVs rs k0):=⟨by simp [halfVs,markVs],by simp [halfVs]⟩
  have HST:Hid (OwnVw w lo hi (some ⟨g,0,none⟩) cap (halfVs rs k0 0)):=by rw [HH.out.1];exact ho
  have HSH:Hid (∀ j,j<rs.length→(rs.getD j zeroS).short 1099511627776):=fun j hj=>hl _ (slotD_mem rs j hj)
  have HSUB:Hid (∀ j,j<rs.length→∀ k∈g::(rs.getD j zeroS).blocks,k∈blocksVw (some ⟨g,0,none⟩) cap rs):=fun j hj k hk=>by
   rcases List.mem_cons.1 hk with rfl | hk
   ·exact List.mem_append.2 (.inl (by simp [Value.ownBlock]))
   ·exact List.mem_append.2 (.inr (List.mem_flatMap.2 ⟨_,slotD_mem rs j hj,hk⟩))
  clear ho hl
  go_enter Try.func11,Try.ntmps11
  go_wp2
  go_loopw [1,5] (fun kk i wr=>∃ j:Nat,j≤rs.length∧i=.int .i64 j∧kk=.int .i64 (k0+countVs (rs.take j))∧Hid (OwnVw wr lo hi (some ⟨g,0,none⟩) cap (halfVs rs k0 j))∧Touch (blocksVw (some ⟨g,0,none⟩) cap rs) w wr)
   (fun _ i _=>rs.length-(intOf i).toNat)
  case atStart=>exact ⟨0,Nat.zero_le _,rfl,by simp [countVs],HST,Touch.refl _ _⟩
  case round=>
   obtain ⟨j,hj,rfl,rfl,hown,htw⟩:=hrel
   clear HST
   by_cases hlt:j<rs.length
   ·have hsh:=HSH.out j hlt
    have hsub:=HSUB.out j hlt
    have hcn:=countVs_next rs j hlt
    have hcl:=countVs_le rs (j+1)
    have ho:=hown.out
    rw [halfVs_at rs k0 j hlt] at ho
    have hlen:=halfVs_len rs k0 j hj
    rw [halfVs_at rs k0 j hlt] at hlen
    have HN:Hid (halfVs rs k0 (j+1)=_):=halfVs_next rs k0 j hlt
    have hA:(cellsVw (markVs (rs.take j) k0)).length=j*4:=by rw [cellsVw_len,markVs_len,List.length_take];congr 1;omega
    have HCN:Hid (k0+countVs (rs.take (j+1))=k0+countVs (rs.take j)+countV1 (rs.getD j zeroS)):=by rw [Hid,hcn];omega
    have hkb:0≤k0+(countVs (rs.take j):Int)∧k0+(countVs (rs.take j):Int)+countV1 (rs.getD j zeroS)≤1152921504606846976:=⟨by omega,by omega⟩
    clear hcn hcl hown hk h0
    generalize k0+(countVs (rs.take j):Int)=kk at*
    generalize markVs (rs.take j) k0=A at*
    generalize rs.drop (j+1)=B at*
    generalize rs.getD j zeroS=z at*
    have hz:z.own wr lo hi:=ho.each z (List.mem_append.2 (.inr (List.mem_cons.2 (.inl rfl))))
    have HG:Hid (g∉z.blocks):=row_apartV ho.row hz g rfl
    have HGN:Hid (g∉(Value.slice z.aI z.v.o.ints.length z.cI).ownBlock.toList∧g∉(Value.slice z.aR z.v.o.refs.length z.cR).ownBlock.toList):=by
     have:=HG.out
     simp only [SlotA.blocks,List.mem_append,not_or] at this
     exact this
    have HAP:Hid (∀ k,k∈(Value.slice z.aI z.v.o.ints.length z.cI).ownBlock.toList→k∉(Value.slice z.aR z.v.o.refs.length z.cR).ownBlock.toList):=by
     have:=SlotA.blocks_nodup hz
     simp only [SlotA.blocks,List.nodup_append] at this
     exact fun k h1 h2=>this.2.2 k h1 k h2 rfl
    have HM:Hid ((∀ k∈(Value.slice z.aI z.v.o.ints.length z.cI).ownBlock.toList,k∈g::z.blocks)∧(∀ k∈(Value.slice z.aR z.v.o.refs.length z.cR).ownBlock.toList,k∈g::z.blocks)):=⟨fun k h=>List.mem_cons.2 (.inr (List.mem_append.2 (.inl h))),fun k h=>List.mem_cons.2 (.inr (List.mem_append.2 (.inr h)))⟩
    have row:RowV wr lo g rs.length cap (cellsVw A) z.cells (cellsVw B):=by
     have:=ho.row
     rw [hlen,cellsVw_app,cellsVw_cons] at this
     exact this
    have hI:=hz.ints
    have hR:=hz.refs
    have hcz:countV1 z=2+z.v.o.ints.length+z.v.o.refs.length:=rfl
    have HGB:Hid (∀ k∈[g],k∈g::z.blocks):=fun k hk=>List.mem_cons.2 (.inl (List.mem_singleton.1 hk))
    have HNG:Hid (∀ (L:List Nat),g∉L→∀ k,k∈L→k∉[g]):=fun L hg k hk hk'=>hg (by rw [← List.mem_singleton.1 hk'];exact hk)
    clear hz
    simp only [SlotA.cells] at row
    have x0:wr.cell? ⟨g,j*4,none⟩=_:=row.cell hA rfl 0 _ rfl
    have x1:=row.cell hA rfl 1 _ rfl
    have f0:wr.frozen? ⟨g,j*4,none⟩=false:=row.frozen _
    have f1:=row.frozen (j*4+1)
    obtain ⟨a0,g0⟩:=row.set hA rfl 0 (by omega) (.bool (kk % 3 == 0))
    obtain ⟨a1,g1⟩:=a0.set hA rfl 1 (by omega) (.int .i64 (kk+1))
    have t1:Touch [g] wr _:=Touch.of_grown (grownBy_trans g0 g1) (fun k hk=>by cases hk;simp)
    obtain ⟨W1,hW1⟩:∃ W1,Hid ((wr.setCell ⟨g,j*4,none⟩ (.bool (kk % 3 == 0))).setCell ⟨g,j*4+1,none⟩ (.int .i64 (kk+1))=W1):=⟨_,rfl⟩
    have row1:RowV W1 lo g rs.length cap (cellsVw A) [.bool (kk % 3 == 0),.int .i64 (kk+1),.slice z.aI z.v.o.ints.length z.cI,.slice z.aR z.v.o.refs.length z.cR] (cellsVw B):=by rw [← hW1.out];exact a1
    have t1':Touch [g] wr W1:=by rw [← hW1.out];exact t1
    have HT:Hid (Touch (g::z.blocks) wr W1):=t1'.mono HGB.out
    have I1:=hI.keepV t1' (HNG.out _ HGN.out.1)
    have R1:=hR.keepV t1' (HNG.out _ HGN.out.2)
    clear t1 t1' hI hR row a0 a1 g0 g1
    go_upto_region 8 with fail
    rw [hW1.out]
    clear hW1 x0 x1 f0 f1
    have y2:=row1.cell hA rfl 2 _ rfl
    have C:=markIntS_touchV lo hi z.aI z.cI (kk+1+1) z.v.o.ints W1 I1 (by omega) (by omega)
    go_wp2_with fail
    refine C.mono ?_
    clear C y2
    rintro e w2 ⟨rfl,mI,t2⟩
    have row2:=row1.keep t2 HGN.out.1
    have HT2:Hid (Touch (g::z.blocks) wr w2):=HT.out.trans (t2.mono HM.out.1)
    have R2:=R1.keepV t2 (fun k hk h=>HAP.out k h hk)
    clear I1 R1 t2 row1 HT
    have y3:=row2.cell hA rfl 3 _ rfl
    have C:=markIntS_touchV lo hi z.aR z.cR (kk+1+1+z.v.o.ints.length) z.v.o.refs w2 R2 (by omega) (by omega)
    go_wp2_with fail
    refine C.mono ?_
    clear C y3
    rintro e w3 ⟨rfl,mR,t3⟩
    have row3:=row2.keep t3 HGN.out.2
    have HT3:Touch (g::z.blocks) wr w3:=HT2.out.trans (t3.mono HM.out.2)
    have mI3:=mI.keepV t3 (fun k hk h=>HAP.out k (by rw [marksI_len] at hk;exact hk) h)
    have HEND:Hid (OwnVw w3 lo hi (some ⟨g,0,none⟩) cap (halfVs rs k0 (j+1))∧Touch (blocksVw (some ⟨g,0,none⟩) cap rs) w w3):=by
     refine ⟨?_,htw.trans (HT3.mono hsub)⟩
     rw [HN.out]
     refine ho.replace HT3 ?_ ⟨mI3,mR,fun k hk hk'=>?_⟩ (markV1_blocks _ _)
     ·rw [hlen]
      simp only [markV1,SlotA.cells,marksI_len]
      exact row3
     ·have h1:(Value.slice z.aI z.v.o.ints.length z.cI).ownBlock=some k:=by
       have:=hk
       simpa only [markV1,marksI_len] using this
      have h2:(Value.slice z.aR z.v.o.refs.length z.cR).ownBlock=some k:=by
       have:=hk'
       simpa only [markV1,marksI_len] using this
      exact HAP.out k (Option.mem_toList.2 h1) (Option.mem_toList.2 h2)
    have HNUM:Hid (k0+(countVs (rs.take (j+1)):Int)=kk+1+1+z.v.o.ints.length+z.v.o.refs.length):=by rw [Hid,HCN.out,hcz];omega
    clear mI mI3 mR t3 row2 row3 HT2 HT3 ho htw R2 HCN HN
    go_wp2_with fail
    go_roundw
    case rel=>exact ⟨j+1,by omega,by go_num,by rw [HNUM.out],HEND.out.1,HEND.out.2⟩
    case measure=>simp [intOf];omega
   ·have HE:Hid (OwnVw wr lo hi (some ⟨g,0,none⟩) cap (markVs rs k0)∧k0+(countVs (rs.take j):Int)=k0+countVs rs):=by
     have e:j=rs.length:=by omega
     have:=hown.out
     rw [e,HH.out.2] at this
     exact ⟨this,by rw [e,List.take_length]⟩
    rw [HE.out.2]
    go_wp2
    go_ret
    exact ⟨rfl,HE.out.1,htw⟩
theorem heldSlotS_any (a:Option Addr) (cap:Nat) (k0:Int) (rs:List SlotA) (w:World) (hr:ReadsVw w a (markVs rs k0)) (h0:0≤k0) (hk:k0+countVs rs≤1152921504606846976) (hlm:rs.length≤9223372036854775807):
  Calls Try.prog 12 #[.slice a rs.length cap,.int .i64 k0] w fun e w'=>e=.returned (.int .i64 (k0+countVs rs))∧w'=w:=by
 have hml:=markVs_len rs k0
 rcases hr.cases with h | ⟨b,off,rfl,hpos,hcell⟩
 ·have h':=congrArg List.length h
  rw [hml] at h'
  obtain rfl:=List.length_eq_zero_iff.1 h'
  go_enter Try.func12,Try.ntmps12
  go_wp2
  refine wp_loop_rounds 1 ?_
  rw [rounds_succ]
  go_wp2
  go_ret
  exact ⟨by simp [countVs],rfl⟩
 ·rw [hml] at hpos hcell
  go_enter Try.func12,Try.ntmps12
  go_wp2
  go_loop [1,5] (fun kk i=>∃ j:Nat,j≤rs.length∧i=.int .i64 j∧kk=.int .i64 (k0+countVs (rs.take j))) (fun _ i=>rs.length-(intOf i).toNat)
  case atStart=>exact ⟨0,Nat.zero_le _,rfl,by simp [countVs]⟩
  case round=>
   obtain ⟨j,hj,rfl,rfl⟩:=hrel
   by_cases hlt:j<rs.length
   ·obtain ⟨hc,hrd⟩:=hcell j hlt
    have hcn:=countVs_next rs j hlt
    have hcl:=countVs_le rs (j+1)
    rw [markVs_at rs k0 j hlt] at hc hrd
    have HCN:Hid (k0+countVs (rs.take (j+1))=k0+countVs (rs.take j)+countV1 (rs.getD j zeroS)):=by rw [Hid,hcn];omega
    have hkb:0≤k0+(countVs (rs.take j):Int)∧k0+(countVs (rs.take j):Int)+countV1 (rs.getD j zeroS)≤1152921504606846976:=⟨by omega,by omega⟩
    clear hcn hcl hk h0 hcell hpos hr hml
    generalize k0+(countVs (rs.take j):Int)=kk at*
    generalize rs.getD j zeroS=z at*
    have hcz:countV1 z=2+z.v.o.ints.length+z.v.o.refs.length:=rfl
    have x0:w.cell? ⟨b,off+j*4,none⟩=some (.bool (kk % 3 == 0)):=hc 0 _ rfl
    have x1:w.cell? ⟨b,off+j*4+1,none⟩=some (.int .i64 (kk+1)):=hc 1 _ rfl
    have x2:w.cell? ⟨b,off+j*4+2,none⟩=some (.slice z.aI z.v.o.ints.length z.cI):=(hc 2 _ rfl).trans (by simp only [markV1,marksI_len])
    have x3:w.cell? ⟨b,off+j*4+3,none⟩=some (.slice z.aR z.v.o.refs.length z.cR):=(hc 3 _ rfl).trans (by simp only [markV1,marksI_len])
    have C1:=heldIntS_any z.aI z.cI (kk+1+1) z.v.o.ints.length w (ReadsO.ints hrd) (by omega) (by omega)
    have C2:=heldIntS_any z.aR z.cR (kk+1+1+z.v.o.ints.length) z.v.o.refs.length w (ReadsO.refs hrd) (by omega) (by omega)
    have HNUM:Hid (k0+(countVs (rs.take (j+1)):Int)=kk+1+1+z.v.o.ints.length+z.v.o.refs.length):=by rw [Hid,HCN.out,hcz];omega
    clear hc hrd HCN
    go_wp2_with fail
    refine C1.mono ?_
    clear C1 x0 x1 x2
    rintro e w1 ⟨rfl,h1⟩
    rw [h1]
    clear h1 w1
    go_wp2_with fail
    refine C2.mono ?_
    clear C2 x3
    rintro e w1 ⟨rfl,h1⟩
    rw [h1]
    clear h1 w1
    go_wp2_with fail
    go_round
    case rel=>exact ⟨j+1,by omega,by go_num,by rw [HNUM.out]⟩
    case measure=>simp [intOf];omega
   ·have HE:Hid (k0+(countVs (rs.take j):Int)=k0+countVs rs):=by
     have e:j=rs.length:=by omega
     rw [Hid,e,List.take_length]
    rw [HE.out]
    go_wp2
    go_ret
    exact ⟨rfl,rfl⟩
end Go.Proofs.Ytnoeobahjbdoiaa