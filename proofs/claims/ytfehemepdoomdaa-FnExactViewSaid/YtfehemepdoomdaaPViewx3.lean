/- Several texts in one, in their order. -/
import Derived.Test.YtfehemepdoomdaaPViewx2
import Derived.Deep.RegionHeld3
import Derived.Test.YtfehemepdoomdaaPViewx1
import Derived.Deep.QuietTactic
import Derived.BigQuiet
set_option maxHeartbeats 8000000
set_option maxRecDepth 100000
namespace Go.Proofs.Ytfehemepdoomdaa
open Go.RowKit
theorem toLive_any (l:LiveV) (w:World):
  Calls Try.prog 49 #[.agg l.cells.toArray] w fun e w'=>e=.returned (.agg l.cells.toArray)∧Below w.heap.size w w':=by
 obtain ⟨x,y,z⟩:=l
 simp only [LiveV.cells]
 obtain ⟨W,hW,b0,b1,b2,hbW,hsW⟩:=boxes3 w [.int .i64 x,.int .i64 y,.bool z] [.int .i64 x,.int .i64 y,.bool z] [.int .i64 x,.int .i64 y,.bool z] 105 103 103
 obtain ⟨q0,q1,q2,_⟩:=b1.three
 clear b0 b2 hsW
 go_enter Try.func49,Try.ntmps49
 go_wp2
 rw [hW.out]
 exact bodyPost_ret (v:=.agg #[.int .i64 x,.int .i64 y,.bool z]) (by simp [results,Try.results49,go_sem,q0,q1,q2]) rfl ⟨rfl,hbW⟩
theorem zero_cellsL (n:Nat):(madeCells #[.int .i64 0,.int .i64 0,.bool false] (n*3)).toList=cellsL (List.replicate n zeroL):=by
 apply List.ext_getElem?
 intro i
 by_cases h:i<n*3
 ·have e:=cellsL_at (List.replicate n zeroL) (i / 3) (i % 3) (by simp;omega) (Nat.mod_lt _ (by omega))
  rw [show i / 3*3+i % 3=i by omega] at e
  rw [e]
  have hg:(List.replicate n zeroL).getD (i / 3) zeroL=zeroL:=by simp [List.getD,show i / 3<n by omega]
  rw [hg]
  simp only [madeCells,Array.toList_map,List.getElem?_map,Array.toList_range,List.getElem?_range h,Option.map_some,LiveV.cells,zeroL]
  have:i % 3<3:=Nat.mod_lt _ (by omega)
  show some (#[Value.int .i64 0,.int .i64 0,.bool false][i % 3]!)=_
  rcases (by omega:i % 3=0∨i % 3=1∨i % 3=2) with h' | h' | h'<;>rw [h']<;>rfl
 ·rw [List.getElem?_eq_none (by simp [size_madeCells];omega),List.getElem?_eq_none (by rw [cellsL_len];simp;omega)]
theorem made_live (n:Nat):(madeCells (Value.agg #[.int .i64 0,.int .i64 0,.bool false]).cells (n*3)).toList=cellsL (List.replicate n zeroL):=zero_cellsL n
def partL (ls:List LiveV) (k:Nat):List LiveV:=ls.take k++List.replicate (ls.length-k) zeroL
theorem partL_len (ls:List LiveV) (k:Nat) (h:k≤ls.length):(partL ls k).length=ls.length:=by simp [partL];omega
theorem partL_all (ls:List LiveV):partL ls ls.length=ls:=by simp [partL]
theorem partL_none (ls:List LiveV):partL ls 0=List.replicate ls.length zeroL:=by simp [partL]
theorem partL_set (ls:List LiveV) (k:Nat) (h:k<ls.length):(partL ls k).set k (ls.getD k zeroL)=partL ls (k+1):=by
 unfold partL
 rw [List.set_append,if_neg (by simp;omega),List.take_succ_eq_append_getElem h]
 have e:ls.length-k=(ls.length-(k+1))+1:=by omega
 have e2:k-(List.take k ls).length=0:=by simp;omega
 rw [e2,e,List.replicate_succ,List.set_cons_zero]
 simp only [List.getD,h,List.getElem?_eq_getElem,Option.getD_some,List.append_assoc,List.singleton_append]
theorem Try.infoLive:(Try.prog.info? 103).map (fun i=>(i.zero,i.size,i.bytes))=some (some (.agg #[.int .i64 0,.int .i64 0,.bool false]),3,24):=by kernel_rfl
theorem toLiveS_any (a:Option Addr) (cap:Nat) (ls:List LiveV) (w:World) (hr:ReadsL w a ls) (hl:ls.length≤1099511627776):
  Calls Try.prog 23 #[.slice a ls.length cap] w fun e w'=>∃ a' c',e=.returned (.slice a' ls.length c')∧OwnL w' w.heap.size w'.heap.size a' c' ls∧Below w.heap.size w w':=by
 obtain ⟨i0,hi,hz0,hz1,hz2⟩:=info_parts Try.infoLive
 rcases hr.cases with rfl | ⟨b,off,rfl,hpos,hcell⟩
 ·go_enter Try.func23,Try.ntmps23
  go_wp2_with (at_make;refine wpList_make_full _ rfl _ _ 57 rfl w.heap.size 103 i0 (.agg #[.int .i64 0,.int .i64 0,.bool false]) 3 Try.underlying57 hi hz0 hz1 _ _ _ _ 0 rfl rfl (by simp) (by simp) (by omega) (by simp [maxLen]) (Nat.le_refl _) ?_)
  intro w0 hown0 hgrow0
  go_wp2
  refine wp_loop_rounds 1 ?_
  rw [rounds_succ]
  go_wp2
  go_ret
  have ho:w0.ownsRow w.heap.size 103 3 (.slice (some ⟨w.heap.size,0,none⟩) 0 0) 0 (cellsL []):=by
   have e:=made_live 0
   simp only [List.replicate_zero] at e
   rw [← e]
   exact hown0
  exact ⟨_,_,rfl,⟨ho,Nat.le_refl _,fun k hk=>(ho.lt k hk).2⟩,(Below.refl _ _).grown hgrow0 (Nat.le_refl _) (fun k h=>by cases h)⟩
 ·have hbB:b<w.heap.size:=block_lt (hcell 0 hpos).1
  go_enter Try.func23,Try.ntmps23
  go_wp2_with (at_make;refine wpList_make_full _ rfl _ _ 57 rfl w.heap.size 103 i0 (.agg #[.int .i64 0,.int .i64 0,.bool false]) 3 Try.underlying57 hi hz0 hz1 _ _ _ _ ls.length rfl rfl rfl rfl (by rw [hz2];omega) (by simp [maxLen];omega) (Nat.le_refl _) ?_)
  intro w0 hown0 hgrow0
  have hown1:w0.ownsRow w.heap.size 103 3 (.slice (some ⟨w.heap.size,0,none⟩) ls.length ls.length) ls.length (cellsL (partL ls 0)):=by
   rw [partL_none,← made_live]
   exact hown0
  have hb0:Below w.heap.size w w0:=(Below.refl _ _).grown hgrow0 (Nat.le_refl _) (fun k h=>by cases h)
  clear hown0 hgrow0
  go_wp2
  go_loopw [4] (fun i wr=>∃ k:Nat,k≤ls.length∧i=.int .i64 k∧wr.ownsRow w.heap.size 103 3 (.slice (some ⟨w.heap.size,0,none⟩) ls.length ls.length) ls.length (cellsL (partL ls k))∧Below w.heap.size w wr)
   (fun i _=>ls.length-(intOf i).toNat)
  case atStart=>exact ⟨0,Nat.zero_le _,rfl,hown1,hb0⟩
  case round=>
   obtain ⟨k,hk,rfl,hown,hnx⟩:=hrel
   by_cases hlt:k<ls.length
   ·obtain ⟨c0,c1,c2⟩:=hcell k hlt
    have d0:wr.cell? ⟨b,off+k*3,none⟩=_:=(hnx.cell (by exact hbB)).trans c0
    have d1:wr.cell? ⟨b,off+k*3+1,none⟩=_:=(hnx.cell (by exact hbB)).trans c1
    have d2:wr.cell? ⟨b,off+k*3+2,none⟩=_:=(hnx.cell (by exact hbB)).trans c2
    have hp:=partL_len ls k hk
    have HSET:Hid ((partL ls k).set k (ls.getD k zeroL)=partL ls (k+1)):=partL_set ls k hlt
    clear c0 c1 c2 hcell hown1 hb0
    generalize ls.getD k zeroL=z at*
    have C:=toLive_any z wr
    simp only [LiveV.cells] at C
    go_wp2_with fail
    refine C.mono ?_
    clear C d0 d1 d2
    rintro e w1 ⟨rfl,hb1⟩
    have hownA:=ownsRow_block hown (fun j hj=>hb1.block j (hown.lt j hj).2)
    obtain ⟨x0,x1,x2,hfz⟩:=row_live hownA hp k hlt
    have f0:=hfz (k*3)
    have f1:=hfz (k*3+1)
    have f2:=hfz (k*3+2)
    obtain ⟨W2,hW2,ho2,hg2⟩:=row_store hownA hp k hlt z
    rw [HSET.out] at ho2
    have hB2:Below w.heap.size w W2:=(hnx.trans (hb1.mono hnx.size)).grown hg2 (by have:=hnx.size;have:=hb1.size;omega) (fun j hj=>by cases hj;omega)
    have HH:Hid (_∧_):=⟨ho2,hB2⟩
    clear ho2 hB2 hg2 hfz hownA hown hb1 hnx HSET
    generalize (partL ls k).getD k zeroL=old at*
    go_wp2_with fail
    rw [hW2.out]
    go_roundw
    case rel=>exact ⟨k+1,by omega,by go_num,HH.out.1,HH.out.2⟩
    case measure=>simp [intOf];omega
   ·have HE:Hid (wr.ownsRow w.heap.size 103 3 (.slice (some ⟨w.heap.size,0,none⟩) ls.length ls.length) ls.length (cellsL ls)):=by
     have e:k=ls.length:=by omega
     rw [e,partL_all] at hown
     exact hown
    go_wp2
    go_ret
    exact ⟨_,_,rfl,⟨HE.out,Nat.le_refl _,fun k hk=>(HE.out.lt k hk).2⟩,hnx⟩
theorem eqLive_same (l:LiveV) (w:World):
  Calls Try.prog 57 #[.agg l.cells.toArray,.agg l.cells.toArray] w fun e w'=>e=.returned (.bool true)∧Below w.heap.size w w':=by
 obtain ⟨x,y,z⟩:=l
 simp only [LiveV.cells]
 obtain ⟨W,hW,b0,b1,hbW,hsW⟩:=boxes2 w [.int .i64 x,.int .i64 y,.bool z] [.int .i64 x,.int .i64 y,.bool z] 103 103
 clear b0 b1 hsW
 go_enter Try.func57,Try.ntmps57
 go_wp2
 rw [hW.out]
 go_ret
 exact ⟨rfl,hbW⟩
theorem eqLiveS_same (a b:Option Addr) (ca cb:Nat) (ls:List LiveV) (w:World) (ha:ReadsL w a ls) (hb:ReadsL w b ls) (hl:ls.length≤1099511627776):
  Calls Try.prog 32 #[.slice a ls.length ca,.slice b ls.length cb] w fun e w'=>e=.returned (.bool true)∧Below w.heap.size w w':=by
 rcases ha.cases with rfl | ⟨b1,o1,rfl,hpos,hc1⟩
 ·go_enter Try.func32,Try.ntmps32
  go_wp2
  refine wp_loop_rounds 1 ?_
  rw [rounds_succ]
  go_wp2
  go_ret
  exact ⟨rfl,Below.refl _ _⟩
 ·rcases hb.cases with rfl | ⟨b2,o2,rfl,_,hc2⟩
  ·simp at hpos
  ·go_enter Try.func32,Try.ntmps32
   go_wp2
   go_loopw [5] (fun i wr=>∃ k:Nat,k≤ls.length∧i=.int .i64 k∧Below w.heap.size w wr) (fun i _=>ls.length-(intOf i).toNat)
   case atStart=>exact ⟨0,Nat.zero_le _,rfl,Below.refl _ _⟩
   case round=>
    obtain ⟨k,hk,rfl,hbl⟩:=hrel
    by_cases hlt:k<ls.length
    ·have h1:=hc1 k hlt
     have h2:=hc2 k hlt
     clear hc1 hc2
     generalize ls.getD k zeroL=z at*
     have HS:Hid (∀ w1,Below w.heap.size w w1→(w1.cell? ⟨b1,o1+k*3,none⟩=some (.int .i64 z.tx)∧w1.cell? ⟨b1,o1+k*3+1,none⟩=some (.int .i64 z.last)∧w1.cell? ⟨b1,o1+k*3+2,none⟩=some (.bool z.aborts))∧(w1.cell? ⟨b2,o2+k*3,none⟩=some (.int .i64 z.tx)∧w1.cell? ⟨b2,o2+k*3+1,none⟩=some (.int .i64 z.last)∧w1.cell? ⟨b2,o2+k*3+2,none⟩=some (.bool z.aborts))):=fun w1 hh=>
      ⟨⟨(hh.cell (block_lt h1.1)).trans h1.1,(hh.cell (block_lt h1.2.1)).trans h1.2.1,(hh.cell (block_lt h1.2.2)).trans h1.2.2⟩,(hh.cell (block_lt h2.1)).trans h2.1,(hh.cell (block_lt h2.2.1)).trans h2.2.1,(hh.cell (block_lt h2.2.2)).trans h2.2.2⟩
     have hh:=HS.out wr hbl
     clear h1 h2
     go_wp2_with fail
     go_region_held3 (fun w1=>(w1.cell? ⟨b1,o1+k*3,none⟩=some (.int .i64 z.tx)∧w1.cell? ⟨b1,o1+k*3+1,none⟩=some (.int .i64 z.last)∧w1.cell? ⟨b1,o1+k*3+2,none⟩=some (.bool z.aborts))∧(w1.cell? ⟨b2,o2+k*3,none⟩=some (.int .i64 z.tx)∧w1.cell? ⟨b2,o2+k*3+1,none⟩=some (.int .i64 z.last)∧w1.cell? ⟨b2,o2+k*3+2,none⟩=some (.bool z.aborts)))
      (first | exact HS.out _ hw2 | go_keep | fail)
      ((first | (go_at_call 57;refine (eqLive_same z _).mono ?_;rintro e w2 ⟨rfl,hb2⟩;have hw2:Below w.heap.size w w2:=(hbl.drew).trans (hb2.mono hbl.size)) | fail))
     all_goals
      go_wp2_with fail
      go_roundw
      case rel=>exact ⟨k+1,by omega,by go_num,hw2⟩
      case measure=>simp [intOf];omega
    ·go_wp2
     go_ret
     exact ⟨rfl,hbl⟩
structure RecV where
 lsn:Int
 tx:Int
 prev:Int
 kind:Int
 oid:Int
 bf:SlotV
 af:SlotV
 next:Int
 txs:List LiveV
structure RecA where
 lsn:Int
 tx:Int
 prev:Int
 kind:Int
 oid:Int
 bf:SlotA
 af:SlotA
 next:Int
 txs:List LiveV
 aL:Option Addr
 cL:Nat
def RecA.v (r:RecA):RecV:=⟨r.lsn,r.tx,r.prev,r.kind,r.oid,r.bf.v,r.af.v,r.next,r.txs⟩
def RecA.cells (r:RecA):List Value:=[.int .i64 r.lsn,.int .i64 r.tx,.int .i64 r.prev,.int .i64 r.kind,.int .i64 r.oid,.bool r.bf.v.has,.int .i64 r.bf.v.o.kind,.slice r.bf.aI r.bf.v.o.ints.length r.bf.cI,.slice r.bf.aR r.bf.v.o.refs.length r.bf.cR,.bool r.af.v.has,.int .i64 r.af.v.o.kind,.slice r.af.aI r.af.v.o.ints.length r.af.cI,.slice r.af.aR r.af.v.o.refs.length r.af.cR,.int .i64 r.next,.slice r.aL r.txs.length r.cL]
structure RecA.reads (w:World) (r:RecA):Prop where
 bf:r.bf.reads w
 af:r.af.reads w
 txs:ReadsL w r.aL r.txs
theorem RecA.reads.below {w w':World} {r:RecA} (h:r.reads w) (hb:Below w.heap.size w w'):r.reads w':=⟨ReadsO.below h.bf hb,ReadsO.below h.af hb,h.txs.below hb⟩
def RecA.blocks (r:RecA):List Nat:=r.bf.blocks++(r.af.blocks++(Value.slice r.aL r.txs.length r.cL).ownBlock.toList)
structure RecA.own (w:World) (lo hi:Nat) (r:RecA):Prop where
 bf:r.bf.own w lo hi
 af:r.af.own w lo hi
 txs:OwnL w lo hi r.aL r.cL r.txs
 apart:r.blocks.Nodup
theorem RecA.own.reads {w:World} {lo hi:Nat} {r:RecA} (h:r.own w lo hi):r.reads w:=⟨OwnO.reads h.bf,OwnO.reads h.af,h.txs.reads⟩
theorem RecA.own.within {w w':World} {lo hi l u:Nat} {r:RecA} (h:r.own w lo hi) (hw:Within l u w w') (hd:hi≤l∨u≤lo):r.own w' lo hi:=⟨OwnO.within h.bf hw hd,OwnO.within h.af hw hd,h.txs.within hw hd,h.apart⟩
theorem RecA.own.widen {w:World} {lo hi lo' hi':Nat} {r:RecA} (h:r.own w lo hi) (h1:lo'≤lo) (h2:hi≤hi') (h3:hi'≤w.heap.size):r.own w lo' hi':=⟨OwnO.widen h.bf h1 h2 h3,OwnO.widen h.af h1 h2 h3,h.txs.widen h1 h2 h3,h.apart⟩
theorem rec_apart {w:World} {a b c d:Nat} {s t:SlotA} {aL:Option Addr} {cL:Nat} {ls:List LiveV} (hs:s.own w a b) (ht:t.own w b c) (hl:OwnL w c d aL cL ls) (hbc:b≤c):
  (s.blocks++(t.blocks++(Value.slice aL ls.length cL).ownBlock.toList)).Nodup:=by
 rw [List.nodup_append,List.nodup_append]
 refine ⟨SlotA.blocks_nodup hs,⟨SlotA.blocks_nodup ht,by cases (Value.slice aL ls.length cL).ownBlock<;>simp,?_⟩,?_⟩
 ·intro x hx y hy e
  have h1:=(SlotA.blocks_lt ht x hx)
  have h2:=(hl.lt y (Option.mem_toList.1 hy))
  omega
 ·intro x hx y hy e
  have h1:=(SlotA.blocks_lt hs x hx)
  rcases List.mem_append.1 hy with h | h
  ·have h2:=(SlotA.blocks_lt ht y h);omega
  ·have h2:=(hl.lt y (Option.mem_toList.1 h))
   omega
theorem oneR (r:RecA):∀ v∈r.cells,v.oneCell'=true:=by
 intro v hv
 simp only [RecA.cells,List.mem_cons,List.not_mem_nil,or_false] at hv
 rcases hv with rfl | rfl | rfl | rfl | rfl | rfl | rfl | rfl | rfl | rfl | rfl | rfl | rfl | rfl | rfl<;>rfl
theorem box_quad {w:World} {B:Nat} {l:List Value} {t:TypeId} (b:Box w B l t) (i0 i1 i2 i3:Nat) (v0 v1 v2 v3:Value):
  ∃ W,Hid ((((w.setCell ⟨B,i0,none⟩ v0).setCell ⟨B,i1,none⟩ v1).setCell ⟨B,i2,none⟩ v2).setCell ⟨B,i3,none⟩ v3=W)∧Box W B ((((l.set i0 v0).set i1 v1).set i2 v2).set i3 v3) t∧Within B (B+1) w W∧W.heap.size=w.heap.size:=by
 refine ⟨_,rfl,(((b.set i0 v0).set i1 v1).set i2 v2).set i3 v3,?_,?_⟩
 ·exact (((within_set w B i0 v0 (by omega)).trans (within_set _ B i1 v1 (by omega))).trans (within_set _ B i2 v2 (by omega))).trans (within_set _ B i3 v3 (by omega))
 ·simp
theorem toRec_own (r:RecA) (w:World) (hr:r.reads w) (hlb:r.bf.v.o.ints.length≤1099511627776∧r.bf.v.o.refs.length≤1099511627776) (hla:r.af.v.o.ints.length≤1099511627776∧r.af.v.o.refs.length≤1099511627776) (hlt:r.txs.length≤1099511627776):
  Calls Try.prog 67 #[.agg r.cells.toArray] w fun e w'=>∃ t:RecA,e=.returned (.agg t.cells.toArray)∧Hid (t.v=r.v)∧t.own w' w.heap.size w'.heap.size∧Below w.heap.size w w':=by
 obtain ⟨W,hW,b0,b1,b2,hbW,hsW⟩:=boxes3 w [.int .i64 r.lsn,.int .i64 r.tx,.int .i64 r.prev,.int .i64 r.kind,.int .i64 r.oid,.bool r.bf.v.has,.int .i64 r.bf.v.o.kind,.slice r.bf.aI r.bf.v.o.ints.length r.bf.cI,.slice r.bf.aR r.bf.v.o.refs.length r.bf.cR,.bool r.af.v.has,.int .i64 r.af.v.o.kind,.slice r.af.aI r.af.v.o.ints.length r.af.cI,.slice r.af.aR r.af.v.o.refs.length r.af.cR,.int .i64 r.next,.slice r.aL r.txs.length r.cL] [.int .i64 0,.int .i64 0,.int .i64 0,.int .i64 0,.int .i64 0,.bool false,.int .i64 0,.slice none 0 0,.slice none 0 0,.bool false,.int .i64 0,.slice none 0 0,.slice none 0 0,.int .i64 0,.slice none 0 0] [.int .i64 r.lsn,.int .i64 r.tx,.int .i64 r.prev,.int .i64 r.kind,.int .i64 r.oid,.bool false,.int .i64 0,.slice none 0 0,.slice none 0 0,.bool false,.int .i64 0,.slice none 0 0,.slice none 0 0,.int .i64 0,.slice none 0 0] 126 130 130
 have hs0:w.heap.size+1+1<W.heap.size:=by omega
 clear hsW
 have C1:=toSlot_own r.bf W (ReadsO.below hr.bf hbW) hlb.1 hlb.2
 simp only [RecA.cells]
 simp only [SlotA.cells] at C1
 go_enter Try.func67,Try.ntmps67
 go_wp2_with fail
 rw [hW.out]
 clear hW
 refine C1.mono ?_
 clear C1
 rintro e w1 ⟨t1,rfl,hv1,ho1,hb1⟩
 have b01:=b0.below hb1 b0.lt
 have b11:=b1.below hb1 b1.lt
 have b21:=b2.below hb1 b2.lt
 have hs1:=hb1.size
 clear b0 b1 b2
 have x5:=b21.cell 5 _ rfl
 have xf5:=b21.frozen 5
 have x6:=b21.cell 6 _ rfl
 have xf6:=b21.frozen 6
 have x7:=b21.cell 7 _ rfl
 have xf7:=b21.frozen 7
 have x8:=b21.cell 8 _ rfl
 have xf8:=b21.frozen 8
 obtain ⟨W2,hW2,b22,hw2,hs2⟩:=box_quad b21 5 6 7 8 (.bool t1.v.has) (.int .i64 t1.v.o.kind) (.slice t1.aI t1.v.o.ints.length t1.cI) (.slice t1.aR t1.v.o.refs.length t1.cR)
 simp only [List.set] at b22
 have b02:=b01.within hw2 (by omega)
 have b12:=b11.within hw2 (by omega)
 have y9:=b01.cell 9 _ rfl
 have y10:=b01.cell 10 _ rfl
 have y11:=b01.cell 11 _ rfl
 have y12:=b01.cell 12 _ rfl
 have hB2:Below w.heap.size w W2:=(hbW.trans (hb1.mono (by omega))).trans (hw2.below (by omega) (by omega))
 have ho2:=OwnO.within ho1 hw2 (.inr (by omega))
 have C2:=toSlot_own r.af W2 (ReadsO.below hr.af hB2) hla.1 hla.2
 simp only [SlotA.cells] at C2
 clear b21 b01 b11 hw2 ho1
 go_wp2_with fail
 rw [hW2.out]
 refine C2.mono ?_
 clear C2 x5 x6 x7 x8 xf5 xf6 xf7 xf8 y9 y10 y11 y12 hW2
 rintro e w3 ⟨t2,rfl,hv2,ho3,hb3⟩
 have b03:=b02.below hb3 b02.lt
 have b13:=b12.below hb3 b12.lt
 have b23:=b22.below hb3 b22.lt
 have hs3:=hb3.size
 have ho23:=OwnO.below ho2 hb3
 clear b02 b12 b22 ho2
 have x9:=b23.cell 9 _ rfl
 have xf9:=b23.frozen 9
 have x10:=b23.cell 10 _ rfl
 have xf10:=b23.frozen 10
 have x11:=b23.cell 11 _ rfl
 have xf11:=b23.frozen 11
 have x12:=b23.cell 12 _ rfl
 have xf12:=b23.frozen 12
 have x13:=b23.cell 13 _ rfl
 have xf13:=b23.frozen 13
 have y13:=b03.cell 13 _ rfl
 have y14:=b03.cell 14 _ rfl
 obtain ⟨W4,hW4,b24,hw4,hs4⟩:=box_quad b23 9 10 11 12 (.bool t2.v.has) (.int .i64 t2.v.o.kind) (.slice t2.aI t2.v.o.ints.length t2.cI) (.slice t2.aR t2.v.o.refs.length t2.cR)
 simp only [List.set] at b24
 obtain ⟨W5,hW5,b25,hw5,hs5⟩:=box_set b24 13 (.int .i64 r.next)
 simp only [List.set] at b25
 have b15:=(b13.within hw4 (by omega)).within hw5 (by omega)
 have hB5:Below w.heap.size w W5:=((hB2.trans (hb3.mono (by omega))).trans (hw4.below (by omega) (by omega))).trans (hw5.below (by omega) (by omega))
 have hoA5:=OwnO.within (OwnO.within ho23 hw4 (.inr (by omega))) hw5 (.inr (by omega))
 have hoB5:=OwnO.within (OwnO.within ho3 hw4 (.inr (by omega))) hw5 (.inr (by omega))
 have C3:=toLiveS_any r.aL r.cL r.txs W5 (hr.txs.below hB5) hlt
 clear b23 b03 b13 hw4 hw5 b24 ho3 ho23 hb3
 go_wp2_with fail
 rw [hW4.out,hW5.out]
 refine C3.mono ?_
 clear C3 x9 x10 x11 x12 x13 xf9 xf10 xf11 xf12 xf13 y13 y14 hW4 hW5
 rintro e w6 ⟨aL,cL,rfl,ho6,hb6⟩
 have b16:=b15.below hb6 b15.lt
 have b26:=b25.below hb6 b25.lt
 have hs6:=hb6.size
 have hoA6:=OwnO.below hoA5 hb6
 have hoB6:=OwnO.below hoB5 hb6
 have HAP:Hid ((t1.blocks++(t2.blocks++(Value.slice aL r.txs.length cL).ownBlock.toList)).Nodup):=rec_apart (c:=W5.heap.size) (OwnO.widen hoA6 (Nat.le_refl _) (show _≤W2.heap.size by omega) (by omega)) (OwnO.widen hoB6 (Nat.le_refl _) (show _≤W5.heap.size by omega) (by omega)) ho6 (by omega)
 clear b15 b25 hoA5 hoB5
 obtain ⟨W7,hW7,b27,hw7,hs7⟩:=box_set b26 14 (.slice aL r.txs.length cL)
 simp only [List.set] at b27
 have b17:=b16.within hw7 (by omega)
 let t:RecA:=⟨r.lsn,r.tx,r.prev,r.kind,r.oid,t1,t2,r.next,r.txs,aL,cL⟩
 have b27':Box W7 (w.heap.size+1+1) ([]++(t.cells++[])) 130:=by simpa [t,RecA.cells] using b27
 have htl:t.cells.length=15:=rfl
 obtain ⟨WF,hWF,bF,hwF,hsF⟩:=range_fill [] [.int .i64 0,.int .i64 0,.int .i64 0,.int .i64 0,.int .i64 0,.bool false,.int .i64 0,.slice none 0 0,.slice none 0 0,.bool false,.int .i64 0,.slice none 0 0,.slice none 0 0,.int .i64 0,.slice none 0 0] t.cells [] (by simpa using b17) (by rw [htl];rfl)
 have hr7:W7.rangeAt (w.heap.size+1+1) 0 t.cells:=Box.range [] t.cells [] b27'
 have htF:W7.there (w.heap.size+1) 0 t.cells.toArray.size:=b17.there 0 _ (by simp [htl])
 have hrF:WF.rangeAt (w.heap.size+1) 0 t.cells:=Box.range [] t.cells [] bF
 have hi7:(Try.prog.info? 130).map (·.size)=some t.cells.length:=by rw [htl];kernel_rfl
 have hlF:=run_loadVar_mid (P:=Try.prog) WF (w.heap.size+1) 0 130 t.cells _ hrF Try.underlying130 rfl hi7
 have h1P:=all_oneCell_toArray (oneR t)
 have hbF:Below w.heap.size w WF:=((hB5.trans (hb6.mono (by omega))).trans (hw7.below (by omega) (by omega))).trans (hwF.below (by omega) (by omega))
 have hoF:t.own WF w.heap.size WF.heap.size:=⟨OwnO.widen (OwnO.within (OwnO.within hoA6 hw7 (.inr (by omega))) hwF (.inr (by omega))) (by omega) (by omega) (Nat.le_refl _),OwnO.widen (OwnO.within (OwnO.within hoB6 hw7 (.inr (by omega))) hwF (.inr (by omega))) (by omega) (by omega) (Nat.le_refl _),((ho6.within hw7 (.inr (by omega))).within hwF (.inr (by omega))).widen (by omega) (by omega) (Nat.le_refl _),HAP.out⟩
 have hvF:t.v=r.v:=by simp only [t,RecA.v,hv1.out,hv2.out]
 have HF:Hid (_∧_∧_∧_):=⟨hlF,hbF,hoF,hvF⟩
 have HA:Hid (_∧_):=⟨hr7,htF⟩
 have HI:Hid (_∧_):=⟨hi7,h1P⟩
 have HWF:Hid (W7.setCells (w.heap.size+1) 0 t.cells=WF):=hWF
 have x14:=b26.cell 14 _ rfl
 have f14:=b26.frozen 14
 clear hlF hbF hoF hvF hr7 htF hrF hi7 h1P hWF bF hwF hsF b27 b27' b17 hw7 hs7 b16 b26 hoA6 hoB6 ho6 hb6 hB5 htl HAP
 clear_value t
 go_wp2_with (first | (guard_target=wpList _ _ _ (Oper.mk (some 34) _ _ _ _ _::_) _ _;refine wpList_load_mid rfl 130 (.tmp 3) rfl (w.heap.size+1+1) 0 rfl t.cells _ (by rw [hW7.out];exact HA.out.1) Try.underlying130 rfl HI.out.1 ?_) | (guard_target=wpList _ _ _ (Oper.mk none (Op.store _ (Operand.tmp 2) _) _ _ _ _::_) _ _;refine wpList_store_mid rfl 130 (.tmp 2) (.tmp 34) rfl (w.heap.size+1) 0 t.cells.toArray rfl rfl (by rw [hW7.out];exact HA.out.2) (by rw [List.size_toArray];exact HI.out.1) HI.out.2 ?_) | fail)
 rw [hW7.out,HWF.out]
 exact bodyPost_ret (v:=.agg t.cells.toArray) (results_one Try.results67 rfl HF.out.1) rfl ⟨t,rfl,HF.out.2.2.2,HF.out.2.2.1,HF.out.2.1⟩
def szOf (n:Nat) (left:Int):Int:=if left-n<0 then -1 else left-n
theorem szIntS_any (a:Option Addr) (c n:Nat) (left:Int) (w:World) (hn:n≤9223372036854775807) (h0:0≤left∧left≤1048576):
  Calls Try.prog 79 #[.slice a n c,.int .i64 left] w fun e w'=>e=.returned (.int .i64 (szOf n left))∧w'=w:=by
 by_cases h:left-n<0
 ·have HS:Hid (szOf n left= -1):=by unfold szOf;rw [Hid,if_pos h]
  go_enter Try.func79,Try.ntmps79
  go_wp2
  go_ret
  exact ⟨ret_int HS.out.symm,rfl⟩
 ·have HS:Hid (szOf n left=left-n):=by unfold szOf;rw [Hid,if_neg h]
  go_enter Try.func79,Try.ntmps79
  go_wp2
  go_ret
  exact ⟨ret_int HS.out.symm,rfl⟩
def szObjOf (o:ObjV) (left:Int):Int:=if left-o.ints.length<0 then -1 else if left-o.ints.length-o.refs.length<0 then -1 else left-o.ints.length-o.refs.length
theorem szObj_any (o:ObjV) (aI:Option Addr) (cI:Nat) (aR:Option Addr) (cR:Nat) (left:Int) (w:World) (hnI:o.ints.length≤9223372036854775807) (hnR:o.refs.length≤9223372036854775807) (h0:0≤left∧left≤1048576):
  Calls Try.prog 76 #[.agg #[.int .i64 o.kind,.slice aI o.ints.length cI,.slice aR o.refs.length cR],.int .i64 left] w fun e w'=>e=.returned (.int .i64 (szObjOf o left))∧Below w.heap.size w w':=by
 obtain ⟨k,ints,refs⟩:=o
 simp only at*
 obtain ⟨W,hW,b0,hbW,hsW⟩:=boxes1 w [.int .i64 k,.slice aI ints.length cI,.slice aR refs.length cR] 24
 have c2:=b0.cell 2 _ rfl
 by_cases h:left-ints.length<0
 ·have HS:Hid (szObjOf ⟨k,ints,refs⟩ left= -1):=by unfold szObjOf;rw [Hid,if_pos h]
  have HZ:Hid (szOf ints.length left= -1):=by unfold szOf;rw [Hid,if_pos h]
  go_enter Try.func76,Try.ntmps76
  go_wp2_with fail
  rw [hW.out]
  refine (szIntS_any aI cI ints.length left W hnI h0).mono ?_
  rintro e w' ⟨rfl,rfl⟩
  rw [HZ.out]
  go_wp2
  go_ret
  exact ⟨ret_int HS.out.symm,hbW⟩
 ·have HZ:Hid (szOf ints.length left=left-ints.length):=by unfold szOf;rw [Hid,if_neg h]
  have hn1:¬ left<ints.length:=by omega
  by_cases h2:left-ints.length-refs.length<0
  ·have HS:Hid (szObjOf ⟨k,ints,refs⟩ left= -1):=by unfold szObjOf;rw [Hid,if_neg h,if_pos h2]
   have HZ2:Hid (szOf refs.length (left-ints.length)= -1):=by unfold szOf;rw [Hid,if_pos h2]
   go_enter Try.func76,Try.ntmps76
   go_wp2_with fail
   rw [hW.out]
   refine (szIntS_any aI cI ints.length left W hnI h0).mono ?_
   rintro e w' ⟨rfl,rfl⟩
   rw [HZ.out]
   go_wp2_with fail
   refine (szIntS_any aR cR refs.length (left-ints.length) _ hnR (by omega)).mono ?_
   rintro e w' ⟨rfl,rfl⟩
   rw [HZ2.out]
   go_wp2
   go_ret
   exact ⟨ret_int HS.out.symm,hbW⟩
  ·have HS:Hid (szObjOf ⟨k,ints,refs⟩ left=left-ints.length-refs.length):=by unfold szObjOf;rw [Hid,if_neg h,if_neg h2]
   have HZ2:Hid (szOf refs.length (left-ints.length)=left-ints.length-refs.length):=by unfold szOf;rw [Hid,if_neg h2]
   go_enter Try.func76,Try.ntmps76
   go_wp2_with fail
   rw [hW.out]
   refine (szIntS_any aI cI ints.length left W hnI h0).mono ?_
   rintro e w' ⟨rfl,rfl⟩
   rw [HZ.out]
   go_wp2_with fail
   refine (szIntS_any aR cR refs.length (left-ints.length) _ hnR (by omega)).mono ?_
   rintro e w' ⟨rfl,rfl⟩
   rw [HZ2.out]
   go_wp2
   go_ret
   exact ⟨ret_int HS.out.symm,hbW⟩
def SzAns (ss:List SlotA) (left z:Int):Prop:=z<0∨(0≤z∧z≤left∧∀ s∈ss,s.v.o.ints.length≤1048576∧s.v.o.refs.length≤1048576)
theorem szAns_obj (s:SlotA) (left:Int) (h:0≤left∧left≤1048576):SzAns [s] left (szObjOf s.v.o left):=by
 unfold SzAns szObjOf
 split
 ·exact .inl (by omega)
 ·split
  ·exact .inl (by omega)
  ·exact .inr ⟨by omega,by omega,by intro t ht;obtain rfl:=List.mem_singleton.1 ht;omega⟩
def Small (ss:List SlotA):Prop:=∀ s∈ss,s.v.o.ints.length≤9223372036854775807∧s.v.o.refs.length≤9223372036854775807
theorem szSlot_any (s:SlotA) (left:Int) (w:World) (hn:Small [s]) (h0:0≤left∧left≤1048576):
  Calls Try.prog 73 #[.agg s.cells.toArray,.int .i64 left] w fun e w'=>∃ z,e=.returned (.int .i64 z)∧SzAns [s] left z∧Below w.heap.size w w':=by
 have HA:Hid _:=szAns_obj s left h0
 obtain ⟨h1,h2⟩:=hn s (List.mem_singleton.2 rfl)
 obtain ⟨W,hW,b0,hbW,hsW⟩:=boxes1 w s.cells 26
 simp only [SlotA.cells] at*
 go_enter Try.func73,Try.ntmps73
 go_wp2_with fail
 rw [hW.out]
 refine (szObj_any s.v.o s.aI s.cI s.aR s.cR left W h1 h2 h0).mono ?_
 rintro e w1 ⟨rfl,hb1⟩
 generalize szObjOf s.v.o left=z at*
 clear hsW
 by_cases hz:z<0
 ·go_wp2
  go_ret
  exact ⟨-1,rfl,.inl (by omega),hbW.trans (hb1.mono hbW.size)⟩
 ·go_wp2
  go_ret
  exact ⟨z,rfl,HA.out,hbW.trans (hb1.mono hbW.size)⟩
theorem szSlotA4_any (ss:List SlotA) (h4:ss.length=4) (left:Int) (w:World) (hn:Small ss) (h0:0≤left∧left≤1048576):
  Calls Try.prog 62 #[.agg (cellsS ss).toArray,.int .i64 left] w fun e w'=>∃ z,e=.returned (.int .i64 z)∧SzAns ss left z∧Below w.heap.size w w':=by
 obtain ⟨W,hW,b0,hbW,hsW⟩:=boxes1 w (cellsS ss) 27
 have H4:Hid (ss.length=4):=h4
 clear hsW h4
 go_enter Try.func62,Try.ntmps62
 go_wp2_with fail
 rw [hW.out]
 clear hW
 go_loopw [1,5] (fun l i wr=>∃ (k:Nat) (z:Int),i=.int .i64 k∧l=.int .i64 z∧k≤4∧(0≤z∧z≤left)∧Hid (∀ s∈ss.take k,s.v.o.ints.length≤1048576∧s.v.o.refs.length≤1048576)∧Below W.heap.size W wr)
  (fun _ i _=>4-(RowKit.intOf i).toNat)
 case atStart=>exact ⟨0,left,rfl,rfl,by omega,by omega,by intro s hs;simp at hs,Below.refl _ _⟩
 case round=>
  obtain ⟨k,z,rfl,rfl,hk,hz,hsm,hbl⟩:=hrel
  have b0r:=b0.below hbl b0.lt
  by_cases hlt:k<4
  ·have hkl:k<ss.length:=by rw [H4.out];exact hlt
   obtain ⟨c0,c1,c2,c3,_⟩:=b0r.slot k hkl
   have hnk:Small [ss.getD k zeroS]:=fun s hs=>by obtain rfl:=List.mem_singleton.1 hs;exact hn _ (getD_mem hkl)
   have HV:Hid (∀ s∈ss.take (k+1),s∈ss.take k∨s=ss.getD k zeroS):=by
    intro s hs
    rw [List.take_add_one,List.mem_append] at hs
    rcases hs with hs | hs
    ·exact .inl hs
    ·right
     simp only [List.getD,hkl,List.getElem?_eq_getElem,Option.toList_some,List.mem_singleton] at hs ⊢
     simpa using hs
   generalize ss.getD k zeroS=s at*
   go_wp2_with fail
   refine (szSlot_any s z wr hnk (by omega)).mono ?_
   clear c0 c1 c2 c3
   rintro e w1 ⟨z1,rfl,hz1,hb1⟩
   rcases hz1 with hneg | ⟨hp,hle,hs1⟩
   ·go_wp2
    go_ret
    exact ⟨-1,rfl,.inl (by omega),(hbW.trans (hbl.mono hbW.size)).trans (hb1.mono (Nat.le_trans hbW.size hbl.size))⟩
   ·have hz1n:¬ z1<0:=by omega
    have HS:Hid (∀ s∈ss.take (k+1),s.v.o.ints.length≤1048576∧s.v.o.refs.length≤1048576):=by
     intro t ht
     rcases HV.out t ht with h | rfl
     ·exact hsm.out t h
     ·exact hs1 _ (List.mem_singleton.2 rfl)
    clear hs1 HV
    go_wp2_with fail
    go_roundw
    case rel=>exact ⟨k+1,z1,by go_num,rfl,by omega,by omega,HS,hbl.trans (hb1.mono hbl.size)⟩
    case measure=>simp [RowKit.intOf];omega
  ·have hkk:¬ (k:Int)<4:=by omega
   have HS:Hid (∀ s∈ss,s.v.o.ints.length≤1048576∧s.v.o.refs.length≤1048576):=by
    have h:=hsm.out
    rw [List.take_of_length_le (by rw [H4.out];omega)] at h
    exact h
   go_wp2
   go_ret
   exact ⟨z,rfl,.inr ⟨hz.1,hz.2,HS.out⟩,hbW.trans (hbl.mono hbW.size)⟩
theorem szPage_any (p:PageA) (h4:p.ss.length=4) (left:Int) (w:World) (hn:Small p.ss) (h0:0≤left∧left≤1048576):
  Calls Try.prog 41 #[.agg p.cells.toArray,.int .i64 left] w fun e w'=>∃ z,e=.returned (.int .i64 z)∧SzAns p.ss left z∧Below w.heap.size w w':=by
 obtain ⟨n,ss⟩:=p
 simp only [PageA.cells] at*
 obtain ⟨W,hW,b0,hbW,hsW⟩:=boxes1 w (.int .i64 n::cellsS ss) 29
 have hrg0:W.rangeAt w.heap.size 1 (cellsS ss):=Box.range [.int .i64 n] (cellsS ss) [] (by simpa using b0)
 have hi0:(Try.prog.info? 27).map (·.size)=some (cellsS ss).length:=by rw [cellsS_len,h4];kernel_rfl
 go_enter Try.func41,Try.ntmps41
 go_wp2_with (first | (guard_target=wpList _ _ _ (Oper.mk (some 6) _ _ _ _ _::_) _ _;refine wpList_load_mid rfl 27 (.tmp 5) rfl w.heap.size 1 rfl (cellsS ss) _ (by rw [hW.out];exact hrg0) Try.underlying27 rfl hi0 ?_) | fail)
 rw [hW.out]
 clear hW hrg0 hi0 hsW
 refine (szSlotA4_any ss h4 left W hn h0).mono ?_
 rintro e w1 ⟨z,rfl,hz,hb1⟩
 have HZ:Hid _:=hz
 clear hz
 by_cases hneg:z<0
 ·go_wp2
  go_ret
  exact ⟨-1,rfl,.inl (by omega),hbW.trans (hb1.mono hbW.size)⟩
 ·go_wp2
  go_ret
  exact ⟨z,rfl,HZ.out,hbW.trans (hb1.mono hbW.size)⟩
theorem szLiveS_any (a:Option Addr) (c n:Nat) (left:Int) (w:World) (hn:n≤9223372036854775807) (h0:0≤left∧left≤1048576):
  Calls Try.prog 16 #[.slice a n c,.int .i64 left] w fun e w'=>e=.returned (.int .i64 (szOf n left))∧w'=w:=by
 by_cases h:left-n<0
 ·have HS:Hid (szOf n left= -1):=by unfold szOf;rw [Hid,if_pos h]
  go_enter Try.func16,Try.ntmps16
  go_wp2
  go_ret
  exact ⟨ret_int HS.out.symm,rfl⟩
 ·have HS:Hid (szOf n left=left-n):=by unfold szOf;rw [Hid,if_neg h]
  go_enter Try.func16,Try.ntmps16
  go_wp2
  go_ret
  exact ⟨ret_int HS.out.symm,rfl⟩
structure RecA.short (r:RecA) (m:Nat):Prop where
 bf:r.bf.v.o.ints.length≤m∧r.bf.v.o.refs.length≤m
 af:r.af.v.o.ints.length≤m∧r.af.v.o.refs.length≤m
 txs:r.txs.length≤m
theorem szRec_any (r:RecA) (left:Int) (w:World) (hn:r.short 9223372036854775807) (h0:0≤left∧left≤1048576):
  Calls Try.prog 64 #[.agg r.cells.toArray,.int .i64 left] w fun e w'=>∃ z,e=.returned (.int .i64 z)∧(z<0∨(0≤z∧z≤left∧r.short 1048576))∧Below w.heap.size w w':=by
 obtain ⟨W,hW,b0,hbW,hsW⟩:=boxes1 w r.cells 126
 have hb0:Below w.heap.size w W:=hbW
 have C1:=szSlot_any r.bf left W (by intro s hs;obtain rfl:=List.mem_singleton.1 hs;exact hn.bf) h0
 have hnl:=hn.txs
 have hna:Small [r.af]:=by intro s hs;obtain rfl:=List.mem_singleton.1 hs;exact hn.af
 clear hsW hn
 simp only [RecA.cells] at*
 simp only [SlotA.cells] at C1
 go_enter Try.func64,Try.ntmps64
 go_wp2_with fail
 rw [hW.out]
 clear hW
 refine C1.mono ?_
 clear C1
 rintro e w1 ⟨z1,rfl,hz1,hb1⟩
 have b01:=b0.below hb1 b0.lt
 have B1:Below w.heap.size w w1:=hbW.trans (hb1.mono hbW.size)
 clear b0 hb1 hbW
 rcases hz1 with hz | ⟨hz0,hzl,hs1⟩
 ·go_wp2
  go_ret
  exact ⟨-1,rfl,.inl (by omega),B1⟩
 have hzn:¬ z1<0:=by omega
 have c9:=b01.cell 9 _ rfl
 have c10:=b01.cell 10 _ rfl
 have c11:=b01.cell 11 _ rfl
 have c12:=b01.cell 12 _ rfl
 have C2:=szSlot_any r.af z1 w1 hna (by omega)
 simp only [SlotA.cells] at C2
 go_wp2_with fail
 refine C2.mono ?_
 clear C2 c9 c10 c11 c12
 rintro e w2 ⟨z2,rfl,hz2,hb2⟩
 have b02:=b01.below hb2 b01.lt
 have B2:Below w.heap.size w w2:=B1.trans (hb2.mono B1.size)
 clear b01 hb2 B1
 rcases hz2 with hz | ⟨hz20,hz2l,hs2⟩
 ·go_wp2
  go_ret
  exact ⟨-1,rfl,.inl (by omega),B2⟩
 have hzn2:¬ z2<0:=by omega
 have c14:=b02.cell 14 _ rfl
 have C3:=szLiveS_any r.aL r.cL r.txs.length z2 w2 hnl (by omega)
 go_wp2_with fail
 refine C3.mono ?_
 clear C3 c14
 rintro e w3 ⟨rfl,rfl⟩
 by_cases h:z2-r.txs.length<0
 ·have HS:Hid (szOf r.txs.length z2= -1):=by unfold szOf;rw [Hid,if_pos h]
  rw [HS.out]
  go_wp2
  go_ret
  exact ⟨-1,rfl,.inl (by omega),B2⟩
 ·have HS:Hid (szOf r.txs.length z2=z2-r.txs.length):=by unfold szOf;rw [Hid,if_neg h]
  have HR:Hid (r.short 1048576):=⟨hs1 _ (List.mem_singleton.2 rfl),hs2 _ (List.mem_singleton.2 rfl),by omega⟩
  rw [HS.out]
  go_wp2
  go_ret
  exact ⟨z2-r.txs.length,rfl,.inr ⟨by omega,by omega,HR.out⟩,B2⟩
theorem eqRec_same (r t:RecA) (he:t.v=r.v) (w:World) (hr:r.reads w) (ht:t.reads w) (hl:r.short 1099511627776):
  Calls Try.prog 71 #[.agg r.cells.toArray,.agg t.cells.toArray] w fun e w'=>e=.returned (.bool true)∧Below w.heap.size w w':=by
 obtain ⟨W,hW,b0,b1,hbW,hsW⟩:=boxes2 w r.cells t.cells 130 130
 simp only [RecA.v,RecV.mk.injEq] at he
 obtain ⟨e1,e2,e3,e4,e5,e6,e7,e8,e9⟩:=he
 have C1:=eqSlot_same r.bf t.bf e6 W (ReadsO.below hr.bf hbW) (ReadsO.below ht.bf hbW) hl.bf.1 hl.bf.2
 have HL:Hid (_∧_):=⟨hl.af,hl.txs⟩
 have HR:Hid (_∧_):=⟨hr,ht⟩
 have HE:Hid (_∧_):=⟨e7,e9⟩
 clear hsW hl hr ht e6 e7 e9
 simp only [RecA.cells] at*
 simp only [SlotA.cells] at C1
 simp only [e1,e2,e3,e4,e5,e8] at b1 hW ⊢
 clear e1 e2 e3 e4 e5 e8
 go_enter Try.func71,Try.ntmps71
 go_wp2_with fail
 rw [hW.out]
 clear hW
 refine C1.mono ?_
 clear C1
 rintro e w1 ⟨rfl,hb1⟩
 have b01:=b0.below hb1 b0.lt
 have b11:=b1.below hb1 b1.lt
 have B1:Below w.heap.size w w1:=hbW.trans (hb1.mono hbW.size)
 clear b0 b1 hb1 hbW
 have c9:=b01.cell 9 _ rfl
 have d9:=b11.cell 9 _ rfl
 have c10:=b01.cell 10 _ rfl
 have d10:=b11.cell 10 _ rfl
 have c11:=b01.cell 11 _ rfl
 have d11:=b11.cell 11 _ rfl
 have c12:=b01.cell 12 _ rfl
 have d12:=b11.cell 12 _ rfl
 have C2:=eqSlot_same r.af t.af HE.out.1 w1 (ReadsO.below HR.out.1.af B1) (ReadsO.below HR.out.2.af B1) HL.out.1.1 HL.out.1.2
 simp only [SlotA.cells] at C2
 go_wp2_with fail
 refine C2.mono ?_
 clear C2
 rintro e w2 ⟨rfl,hb2⟩
 have b02:=b01.below hb2 b01.lt
 have b12:=b11.below hb2 b11.lt
 have B2:Below w.heap.size w w2:=B1.trans (hb2.mono B1.size)
 clear b01 b11 hb2 B1 c9 d9 c10 d10 c11 d11 c12 d12
 have c13:=b02.cell 13 _ rfl
 have d13:=b12.cell 13 _ rfl
 have c14:=b02.cell 14 _ rfl
 have d14:=b12.cell 14 _ rfl
 have C3:=eqLiveS_same r.aL t.aL r.cL t.cL r.txs w2 (HR.out.1.txs.below B2) (by have:=HR.out.2.txs.below B2;rw [HE.out.2] at this;exact this) HL.out.2
 have hte:t.txs.length=r.txs.length:=by rw [HE.out.2]
 rw [hte] at d14
 go_wp2_with fail
 refine C3.mono ?_
 clear C3
 rintro e w3 ⟨rfl,hb3⟩
 go_wp2
 go_ret
 exact ⟨rfl,B2.trans (hb3.mono B2.size)⟩
theorem toPage_own (p:PageA) (h4:p.ss.length=4) (w:World) (hr:ReadsS w p.ss) (hl:∀ s∈p.ss,s.v.o.ints.length≤1099511627776∧s.v.o.refs.length≤1099511627776):
  Calls Try.prog 46 #[.agg p.cells.toArray] w fun e w'=>∃ ts:List SlotA,e=.returned (.agg (PageA.cells ⟨p.lsn,ts⟩).toArray)∧Hid (ts.map (·.v)=p.ss.map (·.v))∧OwnS w' w.heap.size w'.heap.size ts∧Below w.heap.size w w':=by
 obtain ⟨n,ss⟩:=p
 simp only [PageA.cells] at*
 obtain ⟨W,hW,b0,b1,b2,hbW,hsW⟩:=boxes3 w (.int .i64 n::cellsS ss) [.int .i64 0,.bool false,.int .i64 0,.slice none 0 0,.slice none 0 0,.bool false,.int .i64 0,.slice none 0 0,.slice none 0 0,.bool false,.int .i64 0,.slice none 0 0,.slice none 0 0,.bool false,.int .i64 0,.slice none 0 0,.slice none 0 0] [.int .i64 n,.bool false,.int .i64 0,.slice none 0 0,.slice none 0 0,.bool false,.int .i64 0,.slice none 0 0,.slice none 0 0,.bool false,.int .i64 0,.slice none 0 0,.slice none 0 0,.bool false,.int .i64 0,.slice none 0 0,.slice none 0 0] 29 49 49
 have b1':Box W (w.heap.size+1) ([]++((.int .i64 0::cellsS zero4)++[])) 49:=b1
 have b2':Box W (w.heap.size+1+1) ([.int .i64 n]++(cellsS zero4++[])) 49:=b2
 have hsW':w.heap.size+1+1<W.heap.size:=by omega
 clear b1 b2 hsW
 have hc0:=(box_new w (.int .i64 n::cellsS ss) 29).cell 0 _ rfl
 have hrg0:W.rangeAt w.heap.size 1 (cellsS ss):=Box.range [.int .i64 n] (cellsS ss) [] (by simpa using b0)
 have hi0:(Try.prog.info? 27).map (·.size)=some (cellsS ss).length:=by rw [cellsS_len,h4];kernel_rfl
 go_enter Try.func46,Try.ntmps46
 go_wp2_with (first | (guard_target=wpList _ _ _ (Oper.mk (some 8) _ _ _ _ _::_) _ _;refine wpList_load_mid rfl 27 (.tmp 7) rfl w.heap.size 1 rfl (cellsS ss) _ (by rw [hW.out];exact hrg0) Try.underlying27 rfl hi0 ?_) | fail)
 rw [hW.out]
 clear hW hrg0 hi0 hc0
 refine (toSlotA4_own ss h4 W (hr.below hbW) hl).mono ?_
 rintro e w1 ⟨ts,rfl,hv,ho,hb1⟩
 have htl:ts.length=4:=by have:=congrArg List.length hv.out;simp only [List.length_map] at this;omega
 have hs1:=hb1.size
 have b11:=b1'.below hb1 b1'.lt
 have b21:=b2'.below hb1 b2'.lt
 obtain ⟨W2,hW2,b22,hw2,hs2⟩:=range_fill [.int .i64 n] (cellsS zero4) (cellsS ts) [] b21 (by rw [cellsS_len,cellsS_len,htl];rfl)
 have hW2':w1.setCells (w.heap.size+1+1) 1 (cellsS ts)=W2:=hW2.out
 have b12:=b11.within hw2 (by omega)
 obtain ⟨WF,hWF,bF,hwF,hsF⟩:=range_fill [] (.int .i64 0::cellsS zero4) (.int .i64 n::cellsS ts) [] b12 (by simp only [List.length_cons,cellsS_len,htl];rfl)
 have hWF':W2.setCells (w.heap.size+1) 0 (.int .i64 n::cellsS ts)=WF:=hWF.out
 have ht2:w1.there (w.heap.size+1+1) 1 (cellsS ts).toArray.size:=b21.there 1 _ (by simp only [List.size_toArray,cellsS_len,htl,List.length_append,List.length_cons,List.length_nil];decide)
 have hr2:W2.rangeAt (w.heap.size+1+1) 0 (.int .i64 n::cellsS ts):=Box.range [] (.int .i64 n::cellsS ts) [] (by simpa using b22)
 have htF:W2.there (w.heap.size+1) 0 (.int .i64 n::cellsS ts).toArray.size:=b12.there 0 _ (by simp only [List.size_toArray,cellsS_len,htl,List.length_append,List.length_cons,List.length_nil];decide)
 have hrF:WF.rangeAt (w.heap.size+1) 0 (.int .i64 n::cellsS ts):=Box.range [] (.int .i64 n::cellsS ts) [] (by simpa using bF)
 have hi4:(Try.prog.info? 47).map (·.size)=some (cellsS ts).toArray.size:=by rw [List.size_toArray,cellsS_len,htl];kernel_rfl
 have hi7:(Try.prog.info? 49).map (·.size)=some (.int .i64 n::cellsS ts).length:=by rw [List.length_cons,cellsS_len,htl];kernel_rfl
 have h1S:=all_oneCell_toArray (oneS ts)
 have h1P:=all_oneCell_toArray (oneP ⟨n,ts⟩)
 simp only [PageA.cells] at h1P
 have hlF:=run_loadVar_mid (P:=Try.prog) WF (w.heap.size+1) 0 49 (.int .i64 n::cellsS ts) _ hrF Try.underlying49 rfl hi7
 have hbF:Below w.heap.size w WF:=((hbW.trans (hb1.mono (by omega))).trans (hw2.below (by omega) (by omega))).trans (hwF.below (by omega) (by omega))
 have hoF:OwnS WF w.heap.size WF.heap.size ts:=((ho.within hw2 (.inr (by omega))).within hwF (.inr (by omega))).widen (by omega) (by omega) (Nat.le_refl _)
 have HF:Hid (_∧_∧_):=⟨hlF,hbF,hoF⟩
 have HA:Hid (_∧_∧_):=⟨ht2,hr2,htF⟩
 have HI:Hid (_∧_):=⟨hi4,hi7⟩
 have HO:Hid (_∧_):=⟨h1S,h1P⟩
 have HW2:Hid (_=_):=hW2'
 have HWF:Hid (_=_):=hWF'
 clear hlF hbF hoF ht2 hr2 htF hi4 hi7 h1S h1P hW2' hWF' hrF hs2 hsF hw2 hwF b22 b12 b11 b21 bF hW2 hWF b0 b1' b2' hb1 hbW htl
 go_wp2_with (first | (guard_target=wpList _ _ _ (Oper.mk none (Op.store _ (Operand.tmp 10) _) _ _ _ _::_) _ _;refine wpList_store_mid rfl 47 (.tmp 10) (.tmp 9) rfl (w.heap.size+1+1) 1 (cellsS ts).toArray rfl rfl HA.out.1 HI.out.1 HO.out.1 ?_) | (guard_target=wpList _ _ _ (Oper.mk (some 11) _ _ _ _ _::_) _ _;refine wpList_load_mid rfl 49 (.tmp 3) rfl (w.heap.size+1+1) 0 rfl (.int .i64 n::cellsS ts) _ (by rw [HW2.out];exact HA.out.2.1) Try.underlying49 rfl HI.out.2 ?_) | (guard_target=wpList _ _ _ (Oper.mk none (Op.store _ (Operand.tmp 2) _) _ _ _ _::_) _ _;refine wpList_store_mid rfl 49 (.tmp 2) (.tmp 11) rfl (w.heap.size+1) 0 (.int .i64 n::cellsS ts).toArray rfl rfl (by rw [HW2.out];exact HA.out.2.2) (by rw [List.size_toArray];exact HI.out.2) HO.out.2 ?_) | fail)
 rw [HW2.out,HWF.out]
 exact bodyPost_ret (v:=.agg (.int .i64 n::cellsS ts).toArray) (results_one Try.results46 rfl HF.out.1) rfl ⟨ts,rfl,hv,HF.out.2.2,HF.out.2.1⟩
structure HoldV where
 tx:Int
 oid:Int
def HoldV.cells (l:HoldV):List Value:=[.int .i64 l.tx,.int .i64 l.oid]
def zeroH:HoldV:=⟨0,0⟩
def cellsH (ls:List HoldV):List Value:=ls.flatMap HoldV.cells
theorem cellsH_len (ls:List HoldV):(cellsH ls).length=ls.length*2:=by
 induction ls with
 | nil=>rfl
 | cons s r ih=>simp only [cellsH,List.flatMap_cons,List.length_append,HoldV.cells,List.length_cons,List.length_nil] at *;omega
theorem cellsH_at (ls:List HoldV) (k j:Nat) (hk:k<ls.length) (hj:j<2):(cellsH ls)[k*2+j]? =(ls.getD k zeroH).cells[j]? :=by
 induction ls generalizing k with
 | nil=>simp at hk
 | cons s r ih=>
  have e:cellsH (s::r)=s.cells++cellsH r:=by simp [cellsH]
  have l3:s.cells.length=2:=rfl
  rw [e]
  cases k with
  | zero=>rw [List.getElem?_append_left (by rw [l3];omega)];simp
  | succ k=>
   rw [List.getElem?_append_right (by rw [l3];omega),l3]
   have:=ih k (by simpa using hk)
   rw [show (k+1)*2+j-2=k*2+j by omega,this]
   simp
theorem cellsH_set (ls:List HoldV) (k:Nat) (hk:k<ls.length) (t:HoldV):
  ((cellsH ls).set (k*2) (.int .i64 t.tx)).set (k*2+1) (.int .i64 t.oid)=cellsH (ls.set k t):=by
 induction ls generalizing k with
 | nil=>simp at hk
 | cons s r ih=>
  cases k with
  | zero=>simp [cellsH,HoldV.cells]
  | succ k=>
   have:=ih k (by simpa using hk)
   have e2:∀ x,cellsH (s::x)=s.cells++cellsH x:=fun x=>by simp [cellsH]
   have l3:s.cells.length=2:=rfl
   rw [e2,List.set_append_right _ _ (by rw [l3];omega),List.set_append_right _ _ (by rw [l3];omega),l3,show (k+1)*2-2=k*2 by omega,show (k+1)*2+1-2=k*2+1 by omega,this,List.set_cons_succ,e2]
def ReadsH (w:World) (a:Option Addr) (ls:List HoldV):Prop:=ls≠[]→∃ b off,a=some ⟨b,off,none⟩∧∀ k,k<ls.length→w.cell? ⟨b,off+k*2,none⟩=some (.int .i64 (ls.getD k zeroH).tx)∧w.cell? ⟨b,off+k*2+1,none⟩=some (.int .i64 (ls.getD k zeroH).oid)
theorem ReadsH.nil (w:World) (a:Option Addr):ReadsH w a []:=fun h=>absurd rfl h
theorem ReadsH.below {w w':World} {a:Option Addr} {ls:List HoldV} (h:ReadsH w a ls) (hb:Below w.heap.size w w'):ReadsH w' a ls:=by
 intro hne
 obtain ⟨b,off,ha,hc⟩:=h hne
 refine ⟨b,off,ha,fun k hk=>?_⟩
 obtain ⟨h0,h1⟩:=hc k hk
 have hlt:=block_lt h0
 exact ⟨by rw [hb.cell (p:=⟨b,off+k*2,none⟩) hlt];exact h0,by rw [hb.cell (p:=⟨b,off+k*2+1,none⟩) hlt];exact h1⟩
theorem ReadsH.cases {w:World} {a:Option Addr} {ls:List HoldV} (h:ReadsH w a ls):ls=[]∨∃ b off,a=some ⟨b,off,none⟩∧0<ls.length∧∀ k,k<ls.length→w.cell? ⟨b,off+k*2,none⟩=some (.int .i64 (ls.getD k zeroH).tx)∧w.cell? ⟨b,off+k*2+1,none⟩=some (.int .i64 (ls.getD k zeroH).oid):=by
 by_cases e:ls=[]
 ·exact .inl e
 ·obtain ⟨b,off,ha,hc⟩:=h e
  exact .inr ⟨b,off,ha,List.length_pos_iff.2 e,hc⟩
def OwnH (w:World) (lo hi:Nat) (a:Option Addr) (c:Nat) (ls:List HoldV):Prop:=
 w.ownsRow lo 107 2 (.slice a ls.length c) ls.length (cellsH ls)∧hi≤w.heap.size∧∀ k,(Value.slice a ls.length c).ownBlock=some k→k<hi
theorem OwnH.lt {w:World} {lo hi:Nat} {a:Option Addr} {c:Nat} {ls:List HoldV} (h:OwnH w lo hi a c ls):∀ k,(Value.slice a ls.length c).ownBlock=some k→lo≤k∧k<hi:=fun k hk=>⟨(h.1.lt k hk).1,h.2.2 k hk⟩
theorem OwnH.touch {w w':World} {lo hi:Nat} {a:Option Addr} {c:Nat} {ls:List HoldV} {bl:List Nat} (h:OwnH w lo hi a c ls) (ht:Touch bl w w') (hd:∀ k,(Value.slice a ls.length c).ownBlock=some k→k∉bl):OwnH w' lo hi a c ls:=
 ⟨ownsRow_block h.1 (fun k hk=>ht.block k (h.1.lt k hk).2 (hd k hk)),Nat.le_trans h.2.1 ht.size,h.2.2⟩
theorem OwnH.within {w w':World} {lo hi l r:Nat} {a:Option Addr} {c:Nat} {ls:List HoldV} (h:OwnH w lo hi a c ls) (hw:Within l r w w') (hd:hi≤l∨r≤lo):OwnH w' lo hi a c ls:=
 ⟨ownsRow_block h.1 (fun k hk=>hw.block k (by have:=h.2.2 k hk;have:=h.2.1;omega) (by have:=h.lt k hk;omega)),Nat.le_trans h.2.1 hw.size,h.2.2⟩
theorem OwnH.below {w w':World} {lo hi:Nat} {a:Option Addr} {c:Nat} {ls:List HoldV} (h:OwnH w lo hi a c ls) (hb:Below w.heap.size w w'):OwnH w' lo hi a c ls:=
 h.within (Within.of_below (lo:=w.heap.size) (hi:=w.heap.size) hb) (.inl h.2.1)
theorem OwnH.widen {w:World} {lo hi lo' hi':Nat} {a:Option Addr} {c:Nat} {ls:List HoldV} (h:OwnH w lo hi a c ls) (h1:lo'≤lo) (h2:hi≤hi') (h3:hi'≤w.heap.size):OwnH w lo' hi' a c ls:=
 ⟨ownsRow_base h.1 (fun k hk=>by have:=h.lt k hk;omega),h3,fun k hk=>by have:=h.lt k hk;omega⟩
theorem row_hold {w:World} {base g n cap:Nat} {ls:List HoldV} (h:w.ownsRow base 107 2 (.slice (some ⟨g,0,none⟩) n cap) n (cellsH ls)) (hn:ls.length=n) (k:Nat) (hk:k<n):
  w.cell? ⟨g,k*2,none⟩=some (.int .i64 (ls.getD k zeroH).tx)∧w.cell? ⟨g,k*2+1,none⟩=some (.int .i64 (ls.getD k zeroH).oid)∧(∀ i,w.frozen? ⟨g,i,none⟩=false):=by
 have a0:=cellsH_at ls k 0 (by omega) (by omega)
 have a1:=cellsH_at ls k 1 (by omega) (by omega)
 simp only [HoldV.cells,Nat.add_zero,List.getElem?_cons_zero,List.getElem?_cons_succ] at a0 a1
 exact ⟨by rw [h.cellAt (k*2) (by omega)];exact a0,by rw [h.cellAt (k*2+1) (by omega)];exact a1,fun i=>h.frozenAt i⟩
theorem row_storeH {w:World} {base g n cap:Nat} {ls:List HoldV} (h:w.ownsRow base 107 2 (.slice (some ⟨g,0,none⟩) n cap) n (cellsH ls)) (hn:ls.length=n) (k:Nat) (hk:k<n) (t:HoldV):
  ∃ W,Hid ((w.setCell ⟨g,k*2,none⟩ (.int .i64 t.tx)).setCell ⟨g,k*2+1,none⟩ (.int .i64 t.oid)=W)∧W.ownsRow base 107 2 (.slice (some ⟨g,0,none⟩) n cap) n (cellsH (ls.set k t))∧w.grownBy W (some g):=by
 have s1:=h.stored (k*2) (.int .i64 t.tx)
 have s2:=s1.1.stored (k*2+1) (.int .i64 t.oid)
 refine ⟨_,rfl,?_,grownBy_trans s1.2 s2.2⟩
 have:=s2.1
 rw [cellsH_set ls k (by omega) t] at this
 exact this
theorem OwnH.reads {w:World} {lo hi:Nat} {a:Option Addr} {c:Nat} {ls:List HoldV} (h:OwnH w lo hi a c ls):ReadsH w a ls:=by
 intro hne
 rcases h.1.2 with ⟨_,h0⟩ | ⟨g,cap',cur,hv,hb,hg,hr⟩
 ·exact absurd (List.length_eq_zero_iff.1 h0) hne
 ·simp only [Value.slice.injEq] at hv
  obtain ⟨rfl,_,rfl⟩:=hv
  refine ⟨g,0,rfl,fun k hk=>?_⟩
  obtain ⟨a0,a1,_⟩:=row_hold h.1 rfl k hk
  rw [Nat.zero_add]
  exact ⟨a0,a1⟩
theorem Try.infoHold:(Try.prog.info? 107).map (fun i=>(i.zero,i.size,i.bytes))=some (some (.agg #[.int .i64 0,.int .i64 0]),2,16):=by kernel_rfl
theorem toHold_any (l:HoldV) (w:World):
  Calls Try.prog 50 #[.agg l.cells.toArray] w fun e w'=>e=.returned (.agg l.cells.toArray)∧Below w.heap.size w w':=by
 obtain ⟨x,y⟩:=l
 simp only [HoldV.cells]
 obtain ⟨W,hW,b0,b1,b2,hbW,hsW⟩:=boxes3 w [.int .i64 x,.int .i64 y] [.int .i64 x,.int .i64 y] [.int .i64 x,.int .i64 y] 109 107 107
 have q0:=b1.cell 0 _ rfl
 have q1:=b1.cell 1 _ rfl
 clear b0 b2 hsW
 go_enter Try.func50,Try.ntmps50
 go_wp2
 rw [hW.out]
 exact bodyPost_ret (v:=.agg #[.int .i64 x,.int .i64 y]) (by simp [results,Try.results50,go_sem,q0,q1]) rfl ⟨rfl,hbW⟩
theorem zero_cellsH (n:Nat):(madeCells #[.int .i64 0,.int .i64 0] (n*2)).toList=cellsH (List.replicate n zeroH):=by
 apply List.ext_getElem?
 intro i
 by_cases h:i<n*2
 ·have e:=cellsH_at (List.replicate n zeroH) (i / 2) (i % 2) (by simp;omega) (Nat.mod_lt _ (by omega))
  rw [show i / 2*2+i % 2=i by omega] at e
  rw [e]
  have hg:(List.replicate n zeroH).getD (i / 2) zeroH=zeroH:=by simp [List.getD,show i / 2<n by omega]
  rw [hg]
  simp only [madeCells,Array.toList_map,List.getElem?_map,Array.toList_range,List.getElem?_range h,Option.map_some,HoldV.cells,zeroH]
  have:i % 2<2:=Nat.mod_lt _ (by omega)
  show some (#[Value.int .i64 0,.int .i64 0][i % 2]!)=_
  rcases (by omega:i % 2=0∨i % 2=1) with h' | h'<;>rw [h']<;>rfl
 ·rw [List.getElem?_eq_none (by simp [size_madeCells];omega),List.getElem?_eq_none (by rw [cellsH_len];simp;omega)]
theorem made_hold (n:Nat):(madeCells (Value.agg #[.int .i64 0,.int .i64 0]).cells (n*2)).toList=cellsH (List.replicate n zeroH):=zero_cellsH n
def partH (ls:List HoldV) (k:Nat):List HoldV:=ls.take k++List.replicate (ls.length-k) zeroH
theorem partH_len (ls:List HoldV) (k:Nat) (h:k≤ls.length):(partH ls k).length=ls.length:=by simp [partH];omega
theorem partH_all (ls:List HoldV):partH ls ls.length=ls:=by simp [partH]
theorem partH_none (ls:List HoldV):partH ls 0=List.replicate ls.length zeroH:=by simp [partH]
theorem partH_set (ls:List HoldV) (k:Nat) (h:k<ls.length):(partH ls k).set k (ls.getD k zeroH)=partH ls (k+1):=by
 unfold partH
 rw [List.set_append,if_neg (by simp;omega),List.take_succ_eq_append_getElem h]
 have e:ls.length-k=(ls.length-(k+1))+1:=by omega
 have e2:k-(List.take k ls).length=0:=by simp;omega
 rw [e2,e,List.replicate_succ,List.set_cons_zero]
 simp only [List.getD,h,List.getElem?_eq_getElem,Option.getD_some,List.append_assoc,List.singleton_append]
theorem toHoldS_any (a:Option Addr) (cap:Nat) (ls:List HoldV) (w:World) (hr:ReadsH w a ls) (hl:ls.length≤1099511627776):
  Calls Try.prog 24 #[.slice a ls.length cap] w fun e w'=>∃ a' c',e=.returned (.slice a' ls.length c')∧OwnH w' w.heap.size w'.heap.size a' c' ls∧Below w.heap.size w w':=by
 obtain ⟨i0,hi,hz0,hz1,hz2⟩:=info_parts Try.infoHold
 rcases hr.cases with rfl | ⟨b,off,rfl,hpos,hcell⟩
 ·go_enter Try.func24,Try.ntmps24
  go_wp2_with (at_make;refine wpList_make_full _ rfl _ _ 58 rfl w.heap.size 107 i0 (.agg #[.int .i64 0,.int .i64 0]) 2 Try.underlying58 hi hz0 hz1 _ _ _ _ 0 rfl rfl (by simp) (by simp) (by omega) (by simp [maxLen]) (Nat.le_refl _) ?_)
  intro w0 hown0 hgrow0
  go_wp2
  refine wp_loop_rounds 1 ?_
  rw [rounds_succ]
  go_wp2
  go_ret
  have ho:w0.ownsRow w.heap.size 107 2 (.slice (some ⟨w.heap.size,0,none⟩) 0 0) 0 (cellsH []):=by
   have e:=made_hold 0
   simp only [List.replicate_zero] at e
   rw [← e]
   exact hown0
  exact ⟨_,_,rfl,⟨ho,Nat.le_refl _,fun k hk=>(ho.lt k hk).2⟩,(Below.refl _ _).grown hgrow0 (Nat.le_refl _) (fun k h=>by cases h)⟩
 ·have hbB:b<w.heap.size:=block_lt (hcell 0 hpos).1
  go_enter Try.func24,Try.ntmps24
  go_wp2_with (at_make;refine wpList_make_full _ rfl _ _ 58 rfl w.heap.size 107 i0 (.agg #[.int .i64 0,.int .i64 0]) 2 Try.underlying58 hi hz0 hz1 _ _ _ _ ls.length rfl rfl rfl rfl (by rw [hz2];omega) (by simp [maxLen];omega) (Nat.le_refl _) ?_)
  intro w0 hown0 hgrow0
  have hown1:w0.ownsRow w.heap.size 107 2 (.slice (some ⟨w.heap.size,0,none⟩) ls.length ls.length) ls.length (cellsH (partH ls 0)):=by
   rw [partH_none,← made_hold]
   exact hown0
  have hb0:Below w.heap.size w w0:=(Below.refl _ _).grown hgrow0 (Nat.le_refl _) (fun k h=>by cases h)
  clear hown0 hgrow0
  go_wp2
  go_loopw [4] (fun i wr=>∃ k:Nat,k≤ls.length∧i=.int .i64 k∧wr.ownsRow w.heap.size 107 2 (.slice (some ⟨w.heap.size,0,none⟩) ls.length ls.length) ls.length (cellsH (partH ls k))∧Below w.heap.size w wr)
   (fun i _=>ls.length-(intOf i).toNat)
  case atStart=>exact ⟨0,Nat.zero_le _,rfl,hown1,hb0⟩
  case round=>
   obtain ⟨k,hk,rfl,hown,hnx⟩:=hrel
   by_cases hlt:k<ls.length
   ·obtain ⟨c0,c1⟩:=hcell k hlt
    have d0:wr.cell? ⟨b,off+k*2,none⟩=_:=(hnx.cell (by exact hbB)).trans c0
    have d1:wr.cell? ⟨b,off+k*2+1,none⟩=_:=(hnx.cell (by exact hbB)).trans c1
    have hp:=partH_len ls k hk
    have HSET:Hid ((partH ls k).set k (ls.getD k zeroH)=partH ls (k+1)):=partH_set ls k hlt
    clear c0 c1 hcell hown1 hb0
    generalize ls.getD k zeroH=z at*
    have C:=toHold_any z wr
    simp only [HoldV.cells] at C
    go_wp2_with fail
    refine C.mono ?_
    clear C d0 d1
    rintro e w1 ⟨rfl,hb1⟩
    have hownA:=ownsRow_block hown (fun j hj=>hb1.block j (hown.lt j hj).2)
    obtain ⟨x0,x1,hfz⟩:=row_hold hownA hp k hlt
    have f0:=hfz (k*2)
    have f1:=hfz (k*2+1)
    obtain ⟨W2,hW2,ho2,hg2⟩:=row_storeH hownA hp k hlt z
    rw [HSET.out] at ho2
    have hB2:Below w.heap.size w W2:=(hnx.trans (hb1.mono hnx.size)).grown hg2 (by have:=hnx.size;have:=hb1.size;omega) (fun j hj=>by cases hj;omega)
    have HH:Hid (_∧_):=⟨ho2,hB2⟩
    clear ho2 hB2 hg2 hfz hownA hown hb1 hnx HSET
    generalize (partH ls k).getD k zeroH=old at*
    go_wp2_with fail
    rw [hW2.out]
    go_roundw
    case rel=>exact ⟨k+1,by omega,by go_num,HH.out.1,HH.out.2⟩
    case measure=>simp [intOf];omega
   ·have HE:Hid (wr.ownsRow w.heap.size 107 2 (.slice (some ⟨w.heap.size,0,none⟩) ls.length ls.length) ls.length (cellsH ls)):=by
     have e:k=ls.length:=by omega
     rw [e,partH_all] at hown
     exact hown
    go_wp2
    go_ret
    exact ⟨_,_,rfl,⟨HE.out,Nat.le_refl _,fun k hk=>(HE.out.lt k hk).2⟩,hnx⟩
theorem eqHold_same (l:HoldV) (w:World):
  Calls Try.prog 58 #[.agg l.cells.toArray,.agg l.cells.toArray] w fun e w'=>e=.returned (.bool true)∧Below w.heap.size w w':=by
 obtain ⟨x,y⟩:=l
 simp only [HoldV.cells]
 obtain ⟨W,hW,b0,b1,hbW,hsW⟩:=boxes2 w [.int .i64 x,.int .i64 y] [.int .i64 x,.int .i64 y] 107 107
 clear b0 b1 hsW
 go_enter Try.func58,Try.ntmps58
 go_wp2
 rw [hW.out]
 go_ret
 exact ⟨rfl,hbW⟩
theorem eqHoldS_same (a b:Option Addr) (ca cb:Nat) (ls:List HoldV) (w:World) (ha:ReadsH w a ls) (hb:ReadsH w b ls) (hl:ls.length≤1099511627776):
  Calls Try.prog 33 #[.slice a ls.length ca,.slice b ls.length cb] w fun e w'=>e=.returned (.bool true)∧Below w.heap.size w w':=by
 rcases ha.cases with rfl | ⟨b1,o1,rfl,hpos,hc1⟩
 ·go_enter Try.func33,Try.ntmps33
  go_wp2
  refine wp_loop_rounds 1 ?_
  rw [rounds_succ]
  go_wp2
  go_ret
  exact ⟨rfl,Below.refl _ _⟩
 ·rcases hb.cases with rfl | ⟨b2,o2,rfl,_,hc2⟩
  ·simp at hpos
  ·go_enter Try.func33,Try.ntmps33
   go_wp2
   go_loopw [5] (fun i wr=>∃ k:Nat,k≤ls.length∧i=.int .i64 k∧Below w.heap.size w wr) (fun i _=>ls.length-(intOf i).toNat)
   case atStart=>exact ⟨0,Nat.zero_le _,rfl,Below.refl _ _⟩
   case round=>
    obtain ⟨k,hk,rfl,hbl⟩:=hrel
    by_cases hlt:k<ls.length
    ·have h1:=hc1 k hlt
     have h2:=hc2 k hlt
     clear hc1 hc2
     generalize ls.getD k zeroH=z at*
     have HS:Hid (∀ w1,Below w.heap.size w w1→(w1.cell? ⟨b1,o1+k*2,none⟩=some (.int .i64 z.tx)∧w1.cell? ⟨b1,o1+k*2+1,none⟩=some (.int .i64 z.oid))∧(w1.cell? ⟨b2,o2+k*2,none⟩=some (.int .i64 z.tx)∧w1.cell? ⟨b2,o2+k*2+1,none⟩=some (.int .i64 z.oid))):=fun w1 hh=>
      ⟨⟨(hh.cell (block_lt h1.1)).trans h1.1,(hh.cell (block_lt h1.2)).trans h1.2⟩,(hh.cell (block_lt h2.1)).trans h2.1,(hh.cell (block_lt h2.2)).trans h2.2⟩
     have hh:=HS.out wr hbl
     clear h1 h2
     go_wp2_with fail
     go_region_held3 (fun w1=>(w1.cell? ⟨b1,o1+k*2,none⟩=some (.int .i64 z.tx)∧w1.cell? ⟨b1,o1+k*2+1,none⟩=some (.int .i64 z.oid))∧(w1.cell? ⟨b2,o2+k*2,none⟩=some (.int .i64 z.tx)∧w1.cell? ⟨b2,o2+k*2+1,none⟩=some (.int .i64 z.oid)))
      (first | exact HS.out _ hw2 | go_keep | fail)
      ((first | (go_at_call 58;refine (eqHold_same z _).mono ?_;rintro e w2 ⟨rfl,hb2⟩;have hw2:Below w.heap.size w w2:=(hbl.drew).trans (hb2.mono hbl.size)) | fail))
     all_goals
      go_wp2_with fail
      go_roundw
      case rel=>exact ⟨k+1,by omega,by go_num,hw2⟩
      case measure=>simp [intOf];omega
    ·go_wp2
     go_ret
     exact ⟨rfl,hbl⟩
def markH1 (k0:Int) (i:Nat):HoldV:=⟨k0+2*i,k0+2*i+1⟩
def marksH (k0:Int) (n:Nat):List HoldV:=(List.range n).map fun i:Nat=>markH1 k0 i
theorem marksH_len (k0:Int) (n:Nat):(marksH k0 n).length=n:=by simp [marksH]
theorem marksH_succ (k0:Int) (n:Nat):marksH k0 (n+1)=marksH k0 n++[markH1 k0 n]:=by simp [marksH,List.range_succ]
def markedH (k0:Int) (xs:List HoldV) (k:Nat):List HoldV:=marksH k0 k++xs.drop k
theorem markedH_len (k0:Int) (xs:List HoldV) (k:Nat) (h:k≤xs.length):(markedH k0 xs k).length=xs.length:=by simp [markedH,marksH_len];omega
theorem markedH_set (k0:Int) (xs:List HoldV) (k:Nat) (h:k<xs.length):(markedH k0 xs k).set k (markH1 k0 k)=markedH k0 xs (k+1):=by
 unfold markedH
 rw [List.set_append,if_neg (by rw [marksH_len];omega),marksH_len,Nat.sub_self,marksH_succ,List.drop_eq_getElem_cons h,List.set_cons_zero]
 simp
theorem markedH_all (k0:Int) (xs:List HoldV):markedH k0 xs xs.length=marksH k0 xs.length:=by simp [markedH]
theorem markHoldS_any (base:Nat) (a:Option Addr) (cap:Nat) (k0:Int) (xs:List HoldV) (w:World)
  (hown:w.ownsRow base 107 2 (.slice a xs.length cap) xs.length (cellsH xs)) (h0:0≤k0) (hl:k0+2*xs.length≤4611686018427387904):
  Calls Try.prog 38 #[.slice a xs.length cap,.int .i64 k0] w fun e w'=>e=.returned (.int .i64 (k0+2*xs.length))∧
   w'.ownsRow base 107 2 (.slice a xs.length cap) xs.length (cellsH (marksH k0 xs.length))∧w.grownBy w' (Value.slice a xs.length cap).ownBlock:=by
 have hlen:=hown.1
 rcases hown.2 with ⟨hv,h00⟩ | ⟨g,cap',cur,hv,hg,hgg,hr⟩
 ·simp only [Value.slice.injEq] at hv
  obtain ⟨rfl,h00',rfl⟩:=hv
  obtain rfl:=List.length_eq_zero_iff.1 h00
  go_enter Try.func38,Try.ntmps38
  go_wp2
  refine wp_loop_rounds 1 ?_
  rw [rounds_succ]
  go_wp2
  go_ret
  exact ⟨by simp,hown,World.grownBy.refl _ _⟩
 ·simp only [Value.slice.injEq] at hv
  obtain ⟨rfl,_,rfl⟩:=hv
  clear hgg hr hlen
  have hM:w.ownsRow base 107 2 (.slice (some ⟨g,0,none⟩) xs.length cap) xs.length (cellsH (markedH k0 xs 0)):=by simpa [markedH,marksH] using hown
  clear hown
  go_enter Try.func38,Try.ntmps38
  go_wp2
  go_loopw [1,5] (fun kk i wr=>∃ k:Nat,k≤xs.length∧i=.int .i64 k∧kk=.int .i64 (k0+2*k)∧wr.ownsRow base 107 2 (.slice (some ⟨g,0,none⟩) xs.length cap) xs.length (cellsH (markedH k0 xs k))∧w.grownBy wr (some g))
   (fun _ i _=>xs.length-(intOf i).toNat)
  case atStart=>exact ⟨0,Nat.zero_le _,rfl,by simp,hM,World.grownBy.refl _ _⟩
  case round=>
   obtain ⟨k,hk,rfl,rfl,hown,hgr⟩:=hrel
   clear hM
   by_cases hlt:k<xs.length
   ·have hp:=markedH_len k0 xs k hk
    obtain ⟨x0,x1,hfz⟩:=row_hold hown hp k hlt
    have f0:=hfz (k*2)
    have f1:=hfz (k*2+1)
    obtain ⟨W2,hW2,ho2,hg2⟩:=row_storeH hown hp k hlt (markH1 k0 k)
    rw [markedH_set k0 xs k hlt] at ho2
    have HH:Hid (_∧_):=⟨ho2,grownBy_trans hgr hg2⟩
    clear ho2 hg2 hfz hown hgr
    generalize (markedH k0 xs k).getD k zeroH=old at*
    simp only [markH1] at hW2
    go_wp2
    rw [hW2.out]
    go_roundw
    case rel=>exact ⟨k+1,by omega,by go_num,by go_num,HH.out.1,HH.out.2⟩
    case measure=>simp [intOf];omega
   ·have HE:Hid (wr.ownsRow base 107 2 (.slice (some ⟨g,0,none⟩) xs.length cap) xs.length (cellsH (marksH k0 xs.length))∧k=xs.length):=by
     have e:k=xs.length:=by omega
     rw [e,markedH_all] at hown
     exact ⟨hown,e⟩
    go_wp2
    go_ret
    exact ⟨ret_int (by have:=HE.out.2;omega),HE.out.1,hgr⟩
theorem markHoldS_own (lo hi:Nat) (a:Option Addr) (cap:Nat) (k0:Int) (xs:List HoldV) (w:World) (ho:OwnH w lo hi a cap xs) (h0:0≤k0) (hl:k0+2*xs.length≤4611686018427387904):
  Calls Try.prog 38 #[.slice a xs.length cap,.int .i64 k0] w fun e w'=>e=.returned (.int .i64 (k0+2*xs.length))∧
   OwnH w' lo hi a cap (marksH k0 xs.length)∧Touch (Value.slice a xs.length cap).ownBlock.toList w w':=by
 refine (markHoldS_any lo a cap k0 xs w ho.1 h0 hl).mono ?_
 rintro e w' ⟨rfl,h1,h2⟩
 refine ⟨rfl,⟨by rw [marksH_len];exact h1,Nat.le_trans ho.2.1 h2.size,by rw [marksH_len];exact ho.2.2⟩,Touch.of_grown h2 (fun j hj=>Option.mem_toList.2 hj)⟩
end Go.Proofs.Ytfehemepdoomdaa
namespace Go.Proofs.Ytfehemepdoomdaa
open Go.RowKit
end Go.Proofs.Ytfehemepdoomdaa