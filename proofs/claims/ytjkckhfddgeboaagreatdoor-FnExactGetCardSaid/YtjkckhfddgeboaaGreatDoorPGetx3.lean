/- Several texts in one, in their order. -/
import Derived.Test.YtjkckhfddgeboaaGreatDoorPGetx2
import Derived.Deep.RegionHeld3
import Derived.Test.YtjkckhfddgeboaaGreatDoorPGetx1
import Derived.Deep.QuietTactic
import Derived.BigQuiet
set_option maxHeartbeats 8000000
set_option maxRecDepth 100000
namespace Go.Proofs.YtjkckhfddgeboaaGreatDoor
open Go.RowKit
theorem Cf (l:qC) (w:World):
  Calls Tryz.prog 217 #[.agg l.cells.toArray] w fun e w'=>e=.returned (.agg l.cells.toArray)∧Below w.heap.size w w':=by
 obtain ⟨x,y,z⟩:=l;simp only [qC.cells];obtain ⟨W,hW,b0,b1,b2,hbW,qp⟩:=yn w [.int .i64 x,.int .i64 y,.bool z] [.int .i64 x,.int .i64 y,.bool z] [.int .i64 x,.int .i64 y,.bool z] 242 118 118;obtain ⟨q0,q1,q2,_⟩:=b1.three;clear b0 b2 qp;go_enter Tryz.func217,Tryz.ntmps217;go_wp2;rw [hW.out];exact bodyPost_ret (v:=.agg #[.int .i64 x,.int .i64 y,.bool z]) (by simp [results,Tryz.results217,go_sem,q0,q1,q2]) rfl ⟨rfl,hbW⟩
theorem Dn (n:Nat):(madeCells #[.int .i64 0,.int .i64 0,.bool false] (n*3)).toList=jD (List.replicate n qA):=by
 apply List.ext_getElem?
 intro i;by_cases h:i<n*3
 ·have e:=Q5 (List.replicate n qA) (i / 3) (i % 3) (by simp;omega) (Nat.mod_lt _ (by omega));rw [show i / 3*3+i % 3=i by omega] at e;rw [e];have hg:(List.replicate n qA).getD (i / 3) qA=qA:=by simp [List.getD,show i / 3<n by omega]
  rw [hg];simp only [madeCells,Array.toList_map,List.getElem?_map,Array.toList_range,List.getElem?_range h,Option.map_some,qC.cells,qA];have:i % 3<3:=Nat.mod_lt _ (by omega);show some (#[Value.int .i64 0,.int .i64 0,.bool false][i % 3]!)=_;rcases (by omega:i % 3=0∨i % 3=1∨i % 3=2) with h' | h' | h'<;>rw [h']<;>rfl
 ·rw [List.getElem?_eq_none (by simp [size_madeCells];omega),List.getElem?_eq_none (by rw [Js];simp;omega)]
theorem GA (n:Nat):(madeCells (Value.agg #[.int .i64 0,.int .i64 0,.bool false]).cells (n*3)).toList=jD (List.replicate n qA):=Dn n
def uQ (ls:List qC) (k:Nat):List qC:=ls.take k++List.replicate (ls.length-k) qA
theorem SG (ls:List qC) (k:Nat) (h:k≤ls.length):(uQ ls k).length=ls.length:=by simp [uQ];omega
theorem SH (ls:List qC):uQ ls ls.length=ls:=by simp [uQ]
theorem Cg (ls:List qC):uQ ls 0=List.replicate ls.length qA:=by simp [uQ]
theorem SI (ls:List qC) (k:Nat) (h:k<ls.length):(uQ ls k).set k (ls.getD k qA)=uQ ls (k+1):=by
 unfold uQ;rw [List.set_append,if_neg (by simp;omega),List.take_succ_eq_append_getElem h];have e:ls.length-k=(ls.length-(k+1))+1:=by omega
 have e2:k-(List.take k ls).length=0:=by simp;omega
 rw [e2,e,List.replicate_succ,List.set_cons_zero];simp only [List.getD,h,List.getElem?_eq_getElem,Option.getD_some,List.append_assoc,List.singleton_append]
theorem Tryz.Wd:(Tryz.prog.info? 118).map (fun i=>(i.zero,i.size,i.bytes))=some (some (.agg #[.int .i64 0,.int .i64 0,.bool false]),3,24):=by kernel_rfl
theorem UO (a:Option Addr) (cap:Nat) (ls:List qC) (w:World) (hr:jW w a ls) (hl:ls.length≤1099511627776):
  Calls Tryz.prog 113 #[.slice a ls.length cap] w fun e w'=>∃ a' c',e=.returned (.slice a' ls.length c')∧OwnL w' w.heap.size w'.heap.size a' c' ls∧Below w.heap.size w w':=by
 obtain ⟨i0,hi,hz0,hz1,hz2⟩:=info_parts Tryz.Wd;rcases hr.cases with rfl | ⟨b,off,rfl,hpos,hcell⟩
 ·go_enter Tryz.func113,Tryz.ntmps113;go_wp2_with (at_make;refine wpList_make_full _ rfl _ _ 39 rfl w.heap.size 118 i0 (.agg #[.int .i64 0,.int .i64 0,.bool false]) 3 Tryz.underlying39 hi hz0 hz1 _ _ _ _ 0 rfl rfl (by simp) (by simp) (by omega) (by simp [maxLen]) (Nat.le_refl _) ?_);intro w0 hown0 j5;go_wp2;refine wp_loop_rounds 1 ?_;rw [rounds_succ];go_wp2;go_ret;have ho:w0.ownsRow w.heap.size 118 3 (.slice (some ⟨w.heap.size,0,none⟩) 0 0) 0 (jD []):=by
   have e:=GA 0;simp only [List.replicate_zero] at e;rw [← e];exact hown0
  exact ⟨_,_,rfl,⟨ho,Nat.le_refl _,fun k hk=>(ho.lt k hk).2⟩,(Below.refl _ _).grown j5 (Nat.le_refl _) (fun k h=>by cases h)⟩
 ·have JJ:b<w.heap.size:=block_lt (hcell 0 hpos).1;go_enter Tryz.func113,Tryz.ntmps113;go_wp2_with (at_make;refine wpList_make_full _ rfl _ _ 39 rfl w.heap.size 118 i0 (.agg #[.int .i64 0,.int .i64 0,.bool false]) 3 Tryz.underlying39 hi hz0 hz1 _ _ _ _ ls.length rfl rfl rfl rfl (by rw [hz2];omega) (by simp [maxLen];omega) (Nat.le_refl _) ?_);intro w0 hown0 j5;have hown1:w0.ownsRow w.heap.size 118 3 (.slice (some ⟨w.heap.size,0,none⟩) ls.length ls.length) ls.length (jD (uQ ls 0)):=by
   rw [Cg,← GA];exact hown0
  have hb0:Below w.heap.size w w0:=(Below.refl _ _).grown j5 (Nat.le_refl _) (fun k h=>by cases h);clear hown0 j5;go_wp2;go_loopw [4] (fun i wr=>∃ k:Nat,k≤ls.length∧i=.int .i64 k∧wr.ownsRow w.heap.size 118 3 (.slice (some ⟨w.heap.size,0,none⟩) ls.length ls.length) ls.length (jD (uQ ls k))∧Below w.heap.size w wr)
   (fun i _=>ls.length-(intOf i).toNat)
  case atStart=>exact ⟨0,Nat.zero_le _,rfl,hown1,hb0⟩
  case round=>
   obtain ⟨k,hk,rfl,hown,hnx⟩:=hrel;by_cases hlt:k<ls.length
   ·obtain ⟨c0,c1,c2⟩:=hcell k hlt;have d0:wr.cell? ⟨b,off+k*3,none⟩=_:=(hnx.cell (by exact JJ)).trans c0;have d1:wr.cell? ⟨b,off+k*3+1,none⟩=_:=(hnx.cell (by exact JJ)).trans c1;have d2:wr.cell? ⟨b,off+k*3+2,none⟩=_:=(hnx.cell (by exact JJ)).trans c2;have hp:=SG ls k hk;have NV:Hid ((uQ ls k).set k (ls.getD k qA)=uQ ls (k+1)):=SI ls k hlt;clear c0 c1 c2 hcell hown1 hb0;generalize ls.getD k qA=z at*
    have C:=Cf z wr;simp only [qC.cells] at C;go_wp2_with fail;refine C.mono ?_;clear C d0 d1 d2;rintro e w1 ⟨rfl,hb1⟩;have ZE:=jE hown (fun j hj=>hb1.block j (hown.lt j hj).2);obtain ⟨x0,x1,x2,hfz⟩:=Wt ZE hp k hlt;have f0:=hfz (k*3);have f1:=hfz (k*3+1);have f2:=hfz (k*3+2);obtain ⟨W2,hW2,ho2,hg2⟩:=GD ZE hp k hlt z;rw [NV.out] at ho2;have hB2:Below w.heap.size w W2:=(hnx.trans (hb1.mono hnx.size)).grown hg2 (by have:=hnx.size;have:=hb1.size;omega) (fun j hj=>by cases hj;omega);have HH:Hid (_∧_):=⟨ho2,hB2⟩;clear ho2 hB2 hg2 hfz ZE hown hb1 hnx NV;generalize (uQ ls k).getD k qA=old at*
    go_wp2_with fail;rw [hW2.out];go_roundw
    case rel=>exact ⟨k+1,by omega,by go_num,HH.out.1,HH.out.2⟩
    case measure=>simp [intOf];omega
   ·have HE:Hid (wr.ownsRow w.heap.size 118 3 (.slice (some ⟨w.heap.size,0,none⟩) ls.length ls.length) ls.length (jD ls)):=by
     have e:k=ls.length:=by omega
     rw [e,SH] at hown;exact hown
    go_wp2;go_ret;exact ⟨_,_,rfl,⟨HE.out,Nat.le_refl _,fun k hk=>(HE.out.lt k hk).2⟩,hnx⟩
theorem Dp (l:qC) (w:World):
  Calls Tryz.prog 222 #[.agg l.cells.toArray,.agg l.cells.toArray] w fun e w'=>e=.returned (.bool true)∧Below w.heap.size w w':=by
 obtain ⟨x,y,z⟩:=l;simp only [qC.cells];obtain ⟨W,hW,b0,b1,hbW,qp⟩:=jf w [.int .i64 x,.int .i64 y,.bool z] [.int .i64 x,.int .i64 y,.bool z] 118 118;clear b0 b1 qp;go_enter Tryz.func222,Tryz.ntmps222;go_wp2;rw [hW.out];go_ret;exact ⟨rfl,hbW⟩
theorem VZ (a b:Option Addr) (ca cb:Nat) (ls:List qC) (w:World) (ha:jW w a ls) (hb:jW w b ls) (hl:ls.length≤1099511627776):
  Calls Tryz.prog 119 #[.slice a ls.length ca,.slice b ls.length cb] w fun e w'=>e=.returned (.bool true)∧Below w.heap.size w w':=by
 rcases ha.cases with rfl | ⟨b1,o1,rfl,hpos,hc1⟩
 ·go_enter Tryz.func119,Tryz.ntmps119;go_wp2;refine wp_loop_rounds 1 ?_;rw [rounds_succ];go_wp2;go_ret;exact ⟨rfl,Below.refl _ _⟩
 ·rcases hb.cases with rfl | ⟨b2,o2,rfl,_,hc2⟩
  ·simp at hpos
  ·go_enter Tryz.func119,Tryz.ntmps119;go_wp2;go_loopw [5] (fun i wr=>∃ k:Nat,k≤ls.length∧i=.int .i64 k∧Below w.heap.size w wr) (fun i _=>ls.length-(intOf i).toNat)
   case atStart=>exact ⟨0,Nat.zero_le _,rfl,Below.refl _ _⟩
   case round=>
    obtain ⟨k,hk,rfl,hbl⟩:=hrel;by_cases hlt:k<ls.length
    ·have h1:=hc1 k hlt;have h2:=hc2 k hlt;clear hc1 hc2;generalize ls.getD k qA=z at*
     have HS:Hid (∀ w1,Below w.heap.size w w1→(w1.cell? ⟨b1,o1+k*3,none⟩=some (.int .i64 z.tx)∧w1.cell? ⟨b1,o1+k*3+1,none⟩=some (.int .i64 z.last)∧w1.cell? ⟨b1,o1+k*3+2,none⟩=some (.bool z.aborts))∧(w1.cell? ⟨b2,o2+k*3,none⟩=some (.int .i64 z.tx)∧w1.cell? ⟨b2,o2+k*3+1,none⟩=some (.int .i64 z.last)∧w1.cell? ⟨b2,o2+k*3+2,none⟩=some (.bool z.aborts))):=fun w1 hh=>
      ⟨⟨(hh.cell (block_lt h1.1)).trans h1.1,(hh.cell (block_lt h1.2.1)).trans h1.2.1,(hh.cell (block_lt h1.2.2)).trans h1.2.2⟩,(hh.cell (block_lt h2.1)).trans h2.1,(hh.cell (block_lt h2.2.1)).trans h2.2.1,(hh.cell (block_lt h2.2.2)).trans h2.2.2⟩
     have hh:=HS.out wr hbl;clear h1 h2;go_wp2_with fail
     go_region_held3 (fun w1=>(w1.cell? ⟨b1,o1+k*3,none⟩=some (.int .i64 z.tx)∧w1.cell? ⟨b1,o1+k*3+1,none⟩=some (.int .i64 z.last)∧w1.cell? ⟨b1,o1+k*3+2,none⟩=some (.bool z.aborts))∧(w1.cell? ⟨b2,o2+k*3,none⟩=some (.int .i64 z.tx)∧w1.cell? ⟨b2,o2+k*3+1,none⟩=some (.int .i64 z.last)∧w1.cell? ⟨b2,o2+k*3+2,none⟩=some (.bool z.aborts)))
      (first | exact HS.out _ hw2 | go_keep | fail)
      ((first | (go_at_call 222;refine (Dp z _).mono ?_;rintro e w2 ⟨rfl,hb2⟩;have hw2:Below w.heap.size w w2:=(hbl.drew).trans (hb2.mono hbl.size)) | fail))
     all_goals
      go_wp2_with fail;go_roundw
      case rel=>exact ⟨k+1,by omega,by go_num,hw2⟩
      case measure=>simp [intOf];omega
    ·go_wp2;go_ret;exact ⟨rfl,hbl⟩
structure QW where
 lsn:Int
 tx:Int
 prev:Int
 kind:Int
 oid:Int
 bf:jy
 af:jy
 next:Int
 txs:List qC
structure qg where
 lsn:Int
 tx:Int
 prev:Int
 kind:Int
 oid:Int
 bf:qf
 af:qf
 next:Int
 txs:List qC
 aL:Option Addr
 cL:Nat
def qg.v (r:qg):QW:=⟨r.lsn,r.tx,r.prev,r.kind,r.oid,r.bf.v,r.af.v,r.next,r.txs⟩
def qg.cells (r:qg):List Value:=[.int .i64 r.lsn,.int .i64 r.tx,.int .i64 r.prev,.int .i64 r.kind,.int .i64 r.oid,.bool r.bf.v.has,.int .i64 r.bf.v.o.kind,.slice r.bf.aI r.bf.v.o.ints.length r.bf.cI,.slice r.bf.aR r.bf.v.o.refs.length r.bf.cR,.bool r.af.v.has,.int .i64 r.af.v.o.kind,.slice r.af.aI r.af.v.o.ints.length r.af.cI,.slice r.af.aR r.af.v.o.refs.length r.af.cR,.int .i64 r.next,.slice r.aL r.txs.length r.cL]
structure qg.reads (w:World) (r:qg):Prop where
 bf:r.bf.reads w
 af:r.af.reads w
 txs:jW w r.aL r.txs
theorem qg.reads.below {w w':World} {r:qg} (h:r.reads w) (hb:Below w.heap.size w w'):r.reads w':=⟨qQ.below h.bf hb,qQ.below h.af hb,h.txs.below hb⟩
def qg.blocks (r:qg):List Nat:=r.bf.blocks++(r.af.blocks++(Value.slice r.aL r.txs.length r.cL).ownBlock.toList)
structure qg.own (w:World) (lo hi:Nat) (r:qg):Prop where
 bf:r.bf.own w lo hi
 af:r.af.own w lo hi
 txs:OwnL w lo hi r.aL r.cL r.txs
 apart:r.blocks.Nodup
theorem qg.own.reads {w:World} {lo hi:Nat} {r:qg} (h:r.own w lo hi):r.reads w:=⟨OwnO.reads h.bf,OwnO.reads h.af,h.txs.reads⟩
theorem qg.own.below {w w':World} {lo hi:Nat} {r:qg} (h:r.own w lo hi) (hb:Below w.heap.size w w'):r.own w' lo hi:=⟨OwnO.below h.bf hb,OwnO.below h.af hb,h.txs.below hb,h.apart⟩
theorem qg.own.within {w w':World} {lo hi l u:Nat} {r:qg} (h:r.own w lo hi) (hw:Within l u w w') (hd:hi≤l∨u≤lo):r.own w' lo hi:=⟨OwnO.within h.bf hw hd,OwnO.within h.af hw hd,h.txs.within hw hd,h.apart⟩
theorem qg.own.widen {w:World} {lo hi lo' hi':Nat} {r:qg} (h:r.own w lo hi) (h1:lo'≤lo) (h2:hi≤hi') (h3:hi'≤w.heap.size):r.own w lo' hi':=⟨OwnO.widen h.bf h1 h2 h3,OwnO.widen h.af h1 h2 h3,h.txs.widen h1 h2 h3,h.apart⟩
theorem VH {w:World} {a b c d:Nat} {s t:qf} {aL:Option Addr} {cL:Nat} {ls:List qC} (hs:s.own w a b) (ht:t.own w b c) (hl:OwnL w c d aL cL ls) (hbc:b≤c):
  (s.blocks++(t.blocks++(Value.slice aL ls.length cL).ownBlock.toList)).Nodup:=by
 rw [List.nodup_append,List.nodup_append];refine ⟨qf.Xv hs,⟨qf.Xv ht,by cases (Value.slice aL ls.length cL).ownBlock<;>simp,?_⟩,?_⟩
 ·intro x hx y hy e;have h1:=(qf.ql ht x hx);have h2:=(hl.lt y (Option.mem_toList.1 hy));omega
 ·intro x hx y hy e;have h1:=(qf.ql hs x hx);rcases List.mem_append.1 hy with h | h
  ·have h2:=(qf.ql ht y h);omega
  ·have h2:=(hl.lt y (Option.mem_toList.1 h));omega
theorem ZB (r:qg):∀ v∈r.cells,v.oneCell'=true:=by
 intro v hv;simp only [qg.cells,List.mem_cons,List.not_mem_nil,or_false] at hv;rcases hv with rfl | rfl | rfl | rfl | rfl | rfl | rfl | rfl | rfl | rfl | rfl | rfl | rfl | rfl | rfl<;>rfl
theorem JY {w:World} {B:Nat} {l:List Value} {t:TypeId} (b:Box w B l t) (i0 i1 i2 i3:Nat) (v0 v1 v2 v3:Value):
  ∃ W,Hid ((((w.setCell ⟨B,i0,none⟩ v0).setCell ⟨B,i1,none⟩ v1).setCell ⟨B,i2,none⟩ v2).setCell ⟨B,i3,none⟩ v3=W)∧Box W B ((((l.set i0 v0).set i1 v1).set i2 v2).set i3 v3) t∧Within B (B+1) w W∧W.heap.size=w.heap.size:=by
 refine ⟨_,rfl,(((b.set i0 v0).set i1 v1).set i2 v2).set i3 v3,?_,?_⟩
 ·exact (((jh w B i0 v0 (by omega)).trans (jh _ B i1 v1 (by omega))).trans (jh _ B i2 v2 (by omega))).trans (jh _ B i3 v3 (by omega))
 ·simp
theorem toRec_own (r:qg) (w:World) (hr:r.reads w) (hlb:r.bf.v.o.ints.length≤1099511627776∧r.bf.v.o.refs.length≤1099511627776) (hla:r.af.v.o.ints.length≤1099511627776∧r.af.v.o.refs.length≤1099511627776) (hlt:r.txs.length≤1099511627776):
  Calls Tryz.prog 287 #[.agg r.cells.toArray] w fun e w'=>∃ t:qg,e=.returned (.agg t.cells.toArray)∧Hid (t.v=r.v)∧t.own w' w.heap.size w'.heap.size∧Below w.heap.size w w':=by
 obtain ⟨W,hW,b0,b1,b2,hbW,qp⟩:=yn w [.int .i64 r.lsn,.int .i64 r.tx,.int .i64 r.prev,.int .i64 r.kind,.int .i64 r.oid,.bool r.bf.v.has,.int .i64 r.bf.v.o.kind,.slice r.bf.aI r.bf.v.o.ints.length r.bf.cI,.slice r.bf.aR r.bf.v.o.refs.length r.bf.cR,.bool r.af.v.has,.int .i64 r.af.v.o.kind,.slice r.af.aI r.af.v.o.ints.length r.af.cI,.slice r.af.aR r.af.v.o.refs.length r.af.cR,.int .i64 r.next,.slice r.aL r.txs.length r.cL] [.int .i64 0,.int .i64 0,.int .i64 0,.int .i64 0,.int .i64 0,.bool false,.int .i64 0,.slice none 0 0,.slice none 0 0,.bool false,.int .i64 0,.slice none 0 0,.slice none 0 0,.int .i64 0,.slice none 0 0] [.int .i64 r.lsn,.int .i64 r.tx,.int .i64 r.prev,.int .i64 r.kind,.int .i64 r.oid,.bool false,.int .i64 0,.slice none 0 0,.slice none 0 0,.bool false,.int .i64 0,.slice none 0 0,.slice none 0 0,.int .i64 0,.slice none 0 0] 306 189 189;have hs0:w.heap.size+1+1<W.heap.size:=by omega
 clear qp;have C1:=Zw r.bf W (qQ.below hr.bf hbW) hlb.1 hlb.2;simp only [qg.cells];simp only [qf.cells] at C1;go_enter Tryz.func287,Tryz.ntmps287;go_wp2_with fail;rw [hW.out];clear hW;refine C1.mono ?_;clear C1;rintro e w1 ⟨t1,rfl,hv1,ho1,hb1⟩;have b01:=b0.below hb1 b0.lt;have b11:=b1.below hb1 b1.lt;have zU:=b2.below hb1 b2.lt;have hs1:=hb1.size;clear b0 b1 b2;have x5:=zU.cell 5 _ rfl;have Ic:=zU.frozen 5;have x6:=zU.cell 6 _ rfl;have Ie:=zU.frozen 6;have x7:=zU.cell 7 _ rfl;have Ig:=zU.frozen 7;have x8:=zU.cell 8 _ rfl;have Ih:=zU.frozen 8;obtain ⟨W2,hW2,QH,hw2,hs2⟩:=JY zU 5 6 7 8 (.bool t1.v.has) (.int .i64 t1.v.o.kind) (.slice t1.aI t1.v.o.ints.length t1.cI) (.slice t1.aR t1.v.o.refs.length t1.cR);simp only [List.set] at QH;have b02:=b01.within hw2 (by omega);have b12:=b11.within hw2 (by omega);have y9:=b01.cell 9 _ rfl;have Vi:=b01.cell 10 _ rfl;have YQ:=b01.cell 11 _ rfl;have YR:=b01.cell 12 _ rfl;have hB2:Below w.heap.size w W2:=(hbW.trans (hb1.mono (by omega))).trans (hw2.below (by omega) (by omega));have ho2:=OwnO.within ho1 hw2 (.inr (by omega));have C2:=Zw r.af W2 (qQ.below hr.af hB2) hla.1 hla.2;simp only [qf.cells] at C2;clear zU b01 b11 hw2 ho1;go_wp2_with fail;rw [hW2.out];refine C2.mono ?_;clear C2 x5 x6 x7 x8 Ic Ie Ig Ih y9 Vi YQ YR hW2;rintro e w3 ⟨t2,rfl,hv2,ho3,hb3⟩;have JO:=b02.below hb3 b02.lt;have b13:=b12.below hb3 b12.lt;have zh:=QH.below hb3 QH.lt;have hs3:=hb3.size;have M5:=OwnO.below ho2 hb3;clear b02 b12 QH ho2;have x9:=zh.cell 9 _ rfl;have Ii:=zh.frozen 9;have kJ:=zh.cell 10 _ rfl;have aJ:=zh.frozen 10;have xy:=zh.cell 11 _ rfl;have aK:=zh.frozen 11;have xz:=zh.cell 12 _ rfl;have aM:=zh.frozen 12;have xG:=zh.cell 13 _ rfl;have qdT:=zh.frozen 13;have y13:=JO.cell 13 _ rfl;have WO:=JO.cell 14 _ rfl;obtain ⟨W4,vg,Nu,hw4,hs4⟩:=JY zh 9 10 11 12 (.bool t2.v.has) (.int .i64 t2.v.o.kind) (.slice t2.aI t2.v.o.ints.length t2.cI) (.slice t2.aR t2.v.o.refs.length t2.cR);simp only [List.set] at Nu;obtain ⟨W5,uM,oP,Kq,hs5⟩:=jB Nu 13 (.int .i64 r.next);simp only [List.set] at oP;have b15:=(b13.within hw4 (by omega)).within Kq (by omega);have ZR:Below w.heap.size w W5:=((hB2.trans (hb3.mono (by omega))).trans (hw4.below (by omega) (by omega))).trans (Kq.below (by omega) (by omega));have M6:=OwnO.within (OwnO.within M5 hw4 (.inr (by omega))) Kq (.inr (by omega));have M7:=OwnO.within (OwnO.within ho3 hw4 (.inr (by omega))) Kq (.inr (by omega));have C3:=UO r.aL r.cL r.txs W5 (hr.txs.below ZR) hlt;clear zh JO b13 hw4 Kq Nu ho3 M5 hb3;go_wp2_with fail;rw [vg.out,uM.out];refine C3.mono ?_;clear C3 x9 kJ xy xz xG Ii aJ aK aM qdT y13 WO vg uM;rintro e w6 ⟨aL,cL,rfl,LP,hb6⟩;have b16:=b15.below hb6 b15.lt;have oQ:=oP.below hb6 oP.lt;have hs6:=hb6.size;have XB:=OwnO.below M6 hb6;have XC:=OwnO.below M7 hb6;have zX:Hid ((t1.blocks++(t2.blocks++(Value.slice aL r.txs.length cL).ownBlock.toList)).Nodup):=VH (c:=W5.heap.size) (OwnO.widen XB (Nat.le_refl _) (show _≤W2.heap.size by omega) (by omega)) (OwnO.widen XC (Nat.le_refl _) (show _≤W5.heap.size by omega) (by omega)) LP (by omega)
 clear b15 oP M6 M7;obtain ⟨W7,JP,LQ,hw7,hs7⟩:=jB oQ 14 (.slice aL r.txs.length cL);simp only [List.set] at LQ;have b17:=b16.within hw7 (by omega)
 let t:qg:=⟨r.lsn,r.tx,r.prev,r.kind,r.oid,t1,t2,r.next,r.txs,aL,cL⟩
 have LV:Box W7 (w.heap.size+1+1) ([]++(t.cells++[])) 189:=by simpa [t,qg.cells] using LQ
 have htl:t.cells.length=15:=rfl;obtain ⟨WF,qF,bF,hwF,qN⟩:=jb [] [.int .i64 0,.int .i64 0,.int .i64 0,.int .i64 0,.int .i64 0,.bool false,.int .i64 0,.slice none 0 0,.slice none 0 0,.bool false,.int .i64 0,.slice none 0 0,.slice none 0 0,.int .i64 0,.slice none 0 0] t.cells [] (by simpa using b17) (by rw [htl];rfl);have hr7:W7.rangeAt (w.heap.size+1+1) 0 t.cells:=Box.range [] t.cells [] LV;have SK:W7.there (w.heap.size+1) 0 t.cells.toArray.size:=b17.there 0 _ (by simp [htl]);have YX:WF.rangeAt (w.heap.size+1) 0 t.cells:=Box.range [] t.cells [] bF;have NW:(Tryz.prog.info? 189).map (·.size)=some t.cells.length:=by rw [htl];kernel_rfl
 have MV:=run_loadVar_mid (P:=Tryz.prog) WF (w.heap.size+1) 0 189 t.cells _ YX Tryz.underlying189 rfl NW;have fP:=all_oneCell_toArray (ZB t);have xM:Below w.heap.size w WF:=((ZR.trans (hb6.mono (by omega))).trans (hw7.below (by omega) (by omega))).trans (hwF.below (by omega) (by omega));have xY:t.own WF w.heap.size WF.heap.size:=⟨OwnO.widen (OwnO.within (OwnO.within XB hw7 (.inr (by omega))) hwF (.inr (by omega))) (by omega) (by omega) (Nat.le_refl _),OwnO.widen (OwnO.within (OwnO.within XC hw7 (.inr (by omega))) hwF (.inr (by omega))) (by omega) (by omega) (Nat.le_refl _),((LP.within hw7 (.inr (by omega))).within hwF (.inr (by omega))).widen (by omega) (by omega) (Nat.le_refl _),zX.out⟩;have hvF:t.v=r.v:=by simp only [t,qg.v,hv1.out,hv2.out]
 have HF:Hid (_∧_∧_∧_):=⟨MV,xM,xY,hvF⟩;have HA:Hid (_∧_):=⟨hr7,SK⟩;have HI:Hid (_∧_):=⟨NW,fP⟩;have zK:Hid (W7.setCells (w.heap.size+1) 0 t.cells=WF):=qF;have xm:=oQ.cell 14 _ rfl;have f14:=oQ.frozen 14;clear MV xM xY hvF hr7 SK YX NW fP qF bF hwF qN LQ LV b17 hw7 hs7 b16 oQ XB XC LP hb6 ZR htl zX
 clear_value t
 go_wp2_with (first | (guard_target=wpList _ _ _ (Oper.mk (some 34) _ _ _ _ _::_) _ _;refine wpList_load_mid rfl 189 (.tmp 3) rfl (w.heap.size+1+1) 0 rfl t.cells _ (by rw [JP.out];exact HA.out.1) Tryz.underlying189 rfl HI.out.1 ?_) | (guard_target=wpList _ _ _ (Oper.mk none (Op.store _ (Operand.tmp 2) _) _ _ _ _::_) _ _;refine wpList_store_mid rfl 189 (.tmp 2) (.tmp 34) rfl (w.heap.size+1) 0 t.cells.toArray rfl rfl (by rw [JP.out];exact HA.out.2) (by rw [List.size_toArray];exact HI.out.1) HI.out.2 ?_) | fail);rw [JP.out,zK.out];exact bodyPost_ret (v:=.agg t.cells.toArray) (jk Tryz.results287 rfl HF.out.1) rfl ⟨t,rfl,HF.out.2.2.2,HF.out.2.2.1,HF.out.2.1⟩
def yj (n:Nat) (left:Int):Int:=if left-n<0 then -1 else left-n
theorem JC (a:Option Addr) (c n:Nat) (left:Int) (w:World) (hn:n≤9223372036854775807) (h0:0≤left∧left≤1048576):
  Calls Tryz.prog 135 #[.slice a n c,.int .i64 left] w fun e w'=>e=.returned (.int .i64 (yj n left))∧w'=w:=by
 by_cases h:left-n<0
 ·have HS:Hid (yj n left= -1):=by unfold yj;rw [Hid,if_pos h]
  go_enter Tryz.func135,Tryz.ntmps135;go_wp2;go_ret;exact ⟨ja HS.out.symm,rfl⟩
 ·have HS:Hid (yj n left=left-n):=by unfold yj;rw [Hid,if_neg h]
  go_enter Tryz.func135,Tryz.ntmps135;go_wp2;go_ret;exact ⟨ja HS.out.symm,rfl⟩
def uJ (o:xk) (left:Int):Int:=if left-o.ints.length<0 then -1 else if left-o.ints.length-o.refs.length<0 then -1 else left-o.ints.length-o.refs.length
theorem SL (o:xk) (aI:Option Addr) (cI:Nat) (aR:Option Addr) (cR:Nat) (left:Int) (w:World) (UR:o.ints.length≤9223372036854775807) (hnR:o.refs.length≤9223372036854775807) (h0:0≤left∧left≤1048576):
  Calls Tryz.prog 40 #[.agg #[.int .i64 o.kind,.slice aI o.ints.length cI,.slice aR o.refs.length cR],.int .i64 left] w fun e w'=>e=.returned (.int .i64 (uJ o left))∧Below w.heap.size w w':=by
 obtain ⟨k,ints,refs⟩:=o;simp only at*
 obtain ⟨W,hW,b0,hbW,qp⟩:=qx w [.int .i64 k,.slice aI ints.length cI,.slice aR refs.length cR] 61;have c2:=b0.cell 2 _ rfl;by_cases h:left-ints.length<0
 ·have HS:Hid (uJ ⟨k,ints,refs⟩ left= -1):=by unfold uJ;rw [Hid,if_pos h]
  have HZ:Hid (yj ints.length left= -1):=by unfold yj;rw [Hid,if_pos h]
  go_enter Tryz.func40,Tryz.ntmps40;go_wp2_with fail;rw [hW.out];refine (JC aI cI ints.length left W UR h0).mono ?_;rintro e w' ⟨rfl,rfl⟩;rw [HZ.out];go_wp2;go_ret;exact ⟨ja HS.out.symm,hbW⟩
 ·have HZ:Hid (yj ints.length left=left-ints.length):=by unfold yj;rw [Hid,if_neg h]
  have hn1:¬ left<ints.length:=by omega
  by_cases h2:left-ints.length-refs.length<0
  ·have HS:Hid (uJ ⟨k,ints,refs⟩ left= -1):=by unfold uJ;rw [Hid,if_neg h,if_pos h2]
   have HZ2:Hid (yj refs.length (left-ints.length)= -1):=by unfold yj;rw [Hid,if_pos h2]
   go_enter Tryz.func40,Tryz.ntmps40;go_wp2_with fail;rw [hW.out];refine (JC aI cI ints.length left W UR h0).mono ?_;rintro e w' ⟨rfl,rfl⟩;rw [HZ.out];go_wp2_with fail;refine (JC aR cR refs.length (left-ints.length) _ hnR (by omega)).mono ?_;rintro e w' ⟨rfl,rfl⟩;rw [HZ2.out];go_wp2;go_ret;exact ⟨ja HS.out.symm,hbW⟩
  ·have HS:Hid (uJ ⟨k,ints,refs⟩ left=left-ints.length-refs.length):=by unfold uJ;rw [Hid,if_neg h,if_neg h2]
   have HZ2:Hid (yj refs.length (left-ints.length)=left-ints.length-refs.length):=by unfold yj;rw [Hid,if_neg h2]
   go_enter Tryz.func40,Tryz.ntmps40;go_wp2_with fail;rw [hW.out];refine (JC aI cI ints.length left W UR h0).mono ?_;rintro e w' ⟨rfl,rfl⟩;rw [HZ.out];go_wp2_with fail;refine (JC aR cR refs.length (left-ints.length) _ hnR (by omega)).mono ?_;rintro e w' ⟨rfl,rfl⟩;rw [HZ2.out];go_wp2;go_ret;exact ⟨ja HS.out.symm,hbW⟩
def mU (ss:List qf) (left z:Int):Prop:=z<0∨(0≤z∧z≤left∧∀ s∈ss,s.v.o.ints.length≤1048576∧s.v.o.refs.length≤1048576)
theorem SN (s:qf) (left:Int) (h:0≤left∧left≤1048576):mU [s] left (uJ s.v.o left):=by
 unfold mU uJ;split
 ·exact .inl (by omega)
 ·split
  ·exact .inl (by omega)
  ·exact .inr ⟨by omega,by omega,by intro t ht;obtain rfl:=List.mem_singleton.1 ht;omega⟩
def Small (ss:List qf):Prop:=∀ s∈ss,s.v.o.ints.length≤9223372036854775807∧s.v.o.refs.length≤9223372036854775807
theorem ZF (s:qf) (left:Int) (w:World) (hn:Small [s]) (h0:0≤left∧left≤1048576):
  Calls Tryz.prog 27 #[.agg s.cells.toArray,.int .i64 left] w fun e w'=>∃ z,e=.returned (.int .i64 z)∧mU [s] left z∧Below w.heap.size w w':=by
 have HA:Hid _:=SN s left h0;obtain ⟨h1,h2⟩:=hn s (List.mem_singleton.2 rfl);obtain ⟨W,hW,b0,hbW,qp⟩:=qx w s.cells 63;simp only [qf.cells] at*
 go_enter Tryz.func27,Tryz.ntmps27;go_wp2_with fail;rw [hW.out];refine (SL s.v.o s.aI s.cI s.aR s.cR left W h1 h2 h0).mono ?_;rintro e w1 ⟨rfl,hb1⟩;generalize uJ s.v.o left=z at*
 clear qp;by_cases hz:z<0
 ·go_wp2;go_ret;exact ⟨-1,rfl,.inl (by omega),hbW.trans (hb1.mono hbW.size)⟩
 ·go_wp2;go_ret;exact ⟨z,rfl,HA.out,hbW.trans (hb1.mono hbW.size)⟩
theorem NY (ss:List qf) (h4:ss.length=4) (left:Int) (w:World) (hn:Small ss) (h0:0≤left∧left≤1048576):
  Calls Tryz.prog 282 #[.agg (cellsS ss).toArray,.int .i64 left] w fun e w'=>∃ z,e=.returned (.int .i64 z)∧mU ss left z∧Below w.heap.size w w':=by
 obtain ⟨W,hW,b0,hbW,qp⟩:=qx w (cellsS ss) 64;have H4:Hid (ss.length=4):=h4;clear qp h4;go_enter Tryz.func282,Tryz.ntmps282;go_wp2_with fail;rw [hW.out];clear hW;go_loopw [1,5] (fun l i wr=>∃ (k:Nat) (z:Int),i=.int .i64 k∧l=.int .i64 z∧k≤4∧(0≤z∧z≤left)∧Hid (∀ s∈ss.take k,s.v.o.ints.length≤1048576∧s.v.o.refs.length≤1048576)∧Below W.heap.size W wr)
  (fun _ i _=>4-(RowKit.intOf i).toNat)
 case atStart=>exact ⟨0,left,rfl,rfl,by omega,by omega,by intro s hs;simp at hs,Below.refl _ _⟩
 case round=>
  obtain ⟨k,z,rfl,rfl,hk,hz,hsm,hbl⟩:=hrel;have ZQ:=b0.below hbl b0.lt;by_cases hlt:k<4
  ·have hkl:k<ss.length:=by rw [H4.out];exact hlt
   obtain ⟨c0,c1,c2,c3,_⟩:=ZQ.slot k hkl;have hnk:Small [ss.getD k qh]:=fun s hs=>by obtain rfl:=List.mem_singleton.1 hs;exact hn _ (jV hkl)
   have HV:Hid (∀ s∈ss.take (k+1),s∈ss.take k∨s=ss.getD k qh):=by
    intro s hs;rw [List.take_add_one,List.mem_append] at hs;rcases hs with hs | hs
    ·exact .inl hs
    ·right;simp only [List.getD,hkl,List.getElem?_eq_getElem,Option.toList_some,List.mem_singleton] at hs ⊢
     simpa using hs
   generalize ss.getD k qh=s at*
   go_wp2_with fail;refine (ZF s z wr hnk (by omega)).mono ?_;clear c0 c1 c2 c3;rintro e w1 ⟨z1,rfl,hz1,hb1⟩;rcases hz1 with hneg | ⟨hp,hle,hs1⟩
   ·go_wp2;go_ret;exact ⟨-1,rfl,.inl (by omega),(hbW.trans (hbl.mono hbW.size)).trans (hb1.mono (Nat.le_trans hbW.size hbl.size))⟩
   ·have qfK:¬ z1<0:=by omega
    have HS:Hid (∀ s∈ss.take (k+1),s.v.o.ints.length≤1048576∧s.v.o.refs.length≤1048576):=by
     intro t ht;rcases HV.out t ht with h | rfl
     ·exact hsm.out t h
     ·exact hs1 _ (List.mem_singleton.2 rfl)
    clear hs1 HV;go_wp2_with fail;go_roundw
    case rel=>exact ⟨k+1,z1,by go_num,rfl,by omega,by omega,HS,hbl.trans (hb1.mono hbl.size)⟩
    case measure=>simp [RowKit.intOf];omega
  ·have hkk:¬ (k:Int)<4:=by omega
   have HS:Hid (∀ s∈ss,s.v.o.ints.length≤1048576∧s.v.o.refs.length≤1048576):=by
    have h:=hsm.out;rw [List.take_of_length_le (by rw [H4.out];omega)] at h;exact h
   go_wp2;go_ret;exact ⟨z,rfl,.inr ⟨hz.1,hz.2,HS.out⟩,hbW.trans (hbl.mono hbW.size)⟩
theorem mH (p:qw) (h4:p.ss.length=4) (left:Int) (w:World) (hn:Small p.ss) (h0:0≤left∧left≤1048576):
  Calls Tryz.prog 210 #[.agg p.cells.toArray,.int .i64 left] w fun e w'=>∃ z,e=.returned (.int .i64 z)∧mU p.ss left z∧Below w.heap.size w w':=by
 obtain ⟨n,ss⟩:=p;simp only [qw.cells] at*
 obtain ⟨W,hW,b0,hbW,qp⟩:=qx w (.int .i64 n::cellsS ss) 66;have hrg0:W.rangeAt w.heap.size 1 (cellsS ss):=Box.range [.int .i64 n] (cellsS ss) [] (by simpa using b0);have hi0:(Tryz.prog.info? 64).map (·.size)=some (cellsS ss).length:=by rw [jq,h4];kernel_rfl
 go_enter Tryz.func210,Tryz.ntmps210;go_wp2_with (first | (guard_target=wpList _ _ _ (Oper.mk (some 6) _ _ _ _ _::_) _ _;refine wpList_load_mid rfl 64 (.tmp 5) rfl w.heap.size 1 rfl (cellsS ss) _ (by rw [hW.out];exact hrg0) Tryz.underlying64 rfl hi0 ?_) | fail);rw [hW.out];clear hW hrg0 hi0 qp;refine (NY ss h4 left W hn h0).mono ?_;rintro e w1 ⟨z,rfl,hz,hb1⟩;have HZ:Hid _:=hz;clear hz;by_cases hneg:z<0
 ·go_wp2;go_ret;exact ⟨-1,rfl,.inl (by omega),hbW.trans (hb1.mono hbW.size)⟩
 ·go_wp2;go_ret;exact ⟨z,rfl,HZ.out,hbW.trans (hb1.mono hbW.size)⟩
theorem UQ (a:Option Addr) (c n:Nat) (left:Int) (w:World) (hn:n≤9223372036854775807) (h0:0≤left∧left≤1048576):
  Calls Tryz.prog 104 #[.slice a n c,.int .i64 left] w fun e w'=>e=.returned (.int .i64 (yj n left))∧w'=w:=by
 by_cases h:left-n<0
 ·have HS:Hid (yj n left= -1):=by unfold yj;rw [Hid,if_pos h]
  go_enter Tryz.func104,Tryz.ntmps104;go_wp2;go_ret;exact ⟨ja HS.out.symm,rfl⟩
 ·have HS:Hid (yj n left=left-n):=by unfold yj;rw [Hid,if_neg h]
  go_enter Tryz.func104,Tryz.ntmps104;go_wp2;go_ret;exact ⟨ja HS.out.symm,rfl⟩
structure qg.short (r:qg) (m:Nat):Prop where
 bf:r.bf.v.o.ints.length≤m∧r.bf.v.o.refs.length≤m
 af:r.af.v.o.ints.length≤m∧r.af.v.o.refs.length≤m
 txs:r.txs.length≤m
theorem Rv (r:qg) (left:Int) (w:World) (hn:r.short 9223372036854775807) (h0:0≤left∧left≤1048576):
  Calls Tryz.prog 284 #[.agg r.cells.toArray,.int .i64 left] w fun e w'=>∃ z,e=.returned (.int .i64 z)∧(z<0∨(0≤z∧z≤left∧r.short 1048576))∧Below w.heap.size w w':=by
 obtain ⟨W,hW,b0,hbW,qp⟩:=qx w r.cells 306;have hb0:Below w.heap.size w W:=hbW;have C1:=ZF r.bf left W (by intro s hs;obtain rfl:=List.mem_singleton.1 hs;exact hn.bf) h0;have hnl:=hn.txs;have hna:Small [r.af]:=by intro s hs;obtain rfl:=List.mem_singleton.1 hs;exact hn.af
 clear qp hn;simp only [qg.cells] at*
 simp only [qf.cells] at C1;go_enter Tryz.func284,Tryz.ntmps284;go_wp2_with fail;rw [hW.out];clear hW;refine C1.mono ?_;clear C1;rintro e w1 ⟨z1,rfl,hz1,hb1⟩;have b01:=b0.below hb1 b0.lt;have B1:Below w.heap.size w w1:=hbW.trans (hb1.mono hbW.size);clear b0 hb1 hbW;rcases hz1 with hz | ⟨hz0,hzl,hs1⟩
 ·go_wp2;go_ret;exact ⟨-1,rfl,.inl (by omega),B1⟩
 have hzn:¬ z1<0:=by omega
 have c9:=b01.cell 9 _ rfl;have c10:=b01.cell 10 _ rfl;have c11:=b01.cell 11 _ rfl;have c12:=b01.cell 12 _ rfl;have C2:=ZF r.af z1 w1 hna (by omega);simp only [qf.cells] at C2;go_wp2_with fail;refine C2.mono ?_;clear C2 c9 c10 c11 c12;rintro e w2 ⟨z2,rfl,hz2,hb2⟩;have b02:=b01.below hb2 b01.lt;have B2:Below w.heap.size w w2:=B1.trans (hb2.mono B1.size);clear b01 hb2 B1;rcases hz2 with hz | ⟨Lx,qfL,hs2⟩
 ·go_wp2;go_ret;exact ⟨-1,rfl,.inl (by omega),B2⟩
 have qfM:¬ z2<0:=by omega
 have c14:=b02.cell 14 _ rfl;have C3:=UQ r.aL r.cL r.txs.length z2 w2 hnl (by omega);go_wp2_with fail;refine C3.mono ?_;clear C3 c14;rintro e w3 ⟨rfl,rfl⟩;by_cases h:z2-r.txs.length<0
 ·have HS:Hid (yj r.txs.length z2= -1):=by unfold yj;rw [Hid,if_pos h]
  rw [HS.out];go_wp2;go_ret;exact ⟨-1,rfl,.inl (by omega),B2⟩
 ·have HS:Hid (yj r.txs.length z2=z2-r.txs.length):=by unfold yj;rw [Hid,if_neg h]
  have HR:Hid (r.short 1048576):=⟨hs1 _ (List.mem_singleton.2 rfl),hs2 _ (List.mem_singleton.2 rfl),by omega⟩;rw [HS.out];go_wp2;go_ret;exact ⟨z2-r.txs.length,rfl,.inr ⟨by omega,by omega,HR.out⟩,B2⟩
theorem Bi (r t:qg) (he:t.v=r.v) (w:World) (hr:r.reads w) (ht:t.reads w) (hl:r.short 1099511627776):
  Calls Tryz.prog 290 #[.agg r.cells.toArray,.agg t.cells.toArray] w fun e w'=>e=.returned (.bool true)∧Below w.heap.size w w':=by
 obtain ⟨W,hW,b0,b1,hbW,qp⟩:=jf w r.cells t.cells 189 189;simp only [qg.v,QW.mk.injEq] at he;obtain ⟨e1,e2,e3,e4,e5,e6,e7,e8,e9⟩:=he;have C1:=uH r.bf t.bf e6 W (qQ.below hr.bf hbW) (qQ.below ht.bf hbW) hl.bf.1 hl.bf.2;have HL:Hid (_∧_):=⟨hl.af,hl.txs⟩;have HR:Hid (_∧_):=⟨hr,ht⟩;have HE:Hid (_∧_):=⟨e7,e9⟩;clear qp hl hr ht e6 e7 e9;simp only [qg.cells] at*
 simp only [qf.cells] at C1;simp only [e1,e2,e3,e4,e5,e8] at b1 hW ⊢;clear e1 e2 e3 e4 e5 e8;go_enter Tryz.func290,Tryz.ntmps290;go_wp2_with fail;rw [hW.out];clear hW;refine C1.mono ?_;clear C1;rintro e w1 ⟨rfl,hb1⟩;have b01:=b0.below hb1 b0.lt;have b11:=b1.below hb1 b1.lt;have B1:Below w.heap.size w w1:=hbW.trans (hb1.mono hbW.size);clear b0 b1 hb1 hbW;have c9:=b01.cell 9 _ rfl;have d9:=b11.cell 9 _ rfl;have c10:=b01.cell 10 _ rfl;have d10:=b11.cell 10 _ rfl;have c11:=b01.cell 11 _ rfl;have d11:=b11.cell 11 _ rfl;have c12:=b01.cell 12 _ rfl;have d12:=b11.cell 12 _ rfl;have C2:=uH r.af t.af HE.out.1 w1 (qQ.below HR.out.1.af B1) (qQ.below HR.out.2.af B1) HL.out.1.1 HL.out.1.2;simp only [qf.cells] at C2;go_wp2_with fail;refine C2.mono ?_;clear C2;rintro e w2 ⟨rfl,hb2⟩;have b02:=b01.below hb2 b01.lt;have b12:=b11.below hb2 b11.lt;have B2:Below w.heap.size w w2:=B1.trans (hb2.mono B1.size);clear b01 b11 hb2 B1 c9 d9 c10 d10 c11 d11 c12 d12;have c13:=b02.cell 13 _ rfl;have d13:=b12.cell 13 _ rfl;have c14:=b02.cell 14 _ rfl;have d14:=b12.cell 14 _ rfl;have C3:=VZ r.aL t.aL r.cL t.cL r.txs w2 (HR.out.1.txs.below B2) (by have:=HR.out.2.txs.below B2;rw [HE.out.2] at this;exact this) HL.out.2;have hte:t.txs.length=r.txs.length:=by rw [HE.out.2]
 rw [hte] at d14;go_wp2_with fail;refine C3.mono ?_;clear C3;rintro e w3 ⟨rfl,hb3⟩;go_wp2;go_ret;exact ⟨rfl,B2.trans (hb3.mono B2.size)⟩
theorem oZ {xs ys:List Int} (j:Nat) (h:xs.getD j 0≠ys.getD j 0):decide (xs=ys)=false:=by
 rw [decide_eq_false_iff_not];intro e;exact h (by rw [e])
theorem SQ {xs ys:List Int} (h:xs.length≠ys.length):decide (xs=ys)=false:=by
 rw [decide_eq_false_iff_not];intro e;exact h (by rw [e])
theorem SS {xs ys:List Int} (hl:xs.length=ys.length) (h:∀ t,t<xs.length→xs.getD t 0=ys.getD t 0):decide (xs=ys)=true:=by
 rw [decide_eq_true_eq];apply List.ext_getElem hl;intro i h1 h2;have:=h i h1
 simpa [List.getD,h1,h2] using this
theorem Zg (a b:Option Addr) (ca cb:Nat) (xs ys:List Int) (w:World) (ha:ky w a xs) (hb:ky w b ys) (hl:xs.length≤1099511627776) (hl2:ys.length≤1099511627776):
  Calls Tryz.prog 281 #[.slice a xs.length ca,.slice b ys.length cb] w fun e w'=>e=.returned (.bool (decide (xs=ys)))∧∃ n,w'=w.drewN n:=by
 by_cases hle:xs.length=ys.length
 case neg=>
  have HE:Hid (_=_):=SQ hle;have Vh:((xs.length:Int) == (ys.length:Int))=false:=by simp;omega
  go_enter Tryz.func281,Tryz.ntmps281;go_wp2;go_ret;exact ⟨qd HE.out.symm,0,rfl⟩
 case pos=>
 have HL:Hid (xs.length=ys.length):=hle;have Vh:((xs.length:Int) == (ys.length:Int))=true:=by simp;omega
 rcases ha.cases with rfl | ⟨b1,o1,rfl,hpos,hc1⟩
 ·obtain rfl:ys=[]:=List.length_eq_zero_iff.1 (by simpa using hle.symm);have HE:Hid (decide (([]:List Int)=[])=true):=by simp [Hid]
  clear hle Vh HL;go_enter Tryz.func281,Tryz.ntmps281;go_wp2;refine wp_loop_rounds 1 ?_;rw [rounds_succ];go_wp2;go_ret;exact ⟨qd HE.out.symm,0,rfl⟩
 ·rcases hb.cases with rfl | ⟨b2,o2,rfl,_,hc2⟩
  ·simp at hle;simp [hle] at hpos
  ·clear hle;go_enter Tryz.func281,Tryz.ntmps281;go_wp2;go_loopw [5] (fun i wr=>∃ k:Nat,k≤xs.length∧i=.int .i64 k∧Hid (∀ t,t<k→xs.getD t 0=ys.getD t 0)∧∃ n,wr=w.drewN n) (fun i _=>xs.length-(RowKit.intOf i).toNat)
   case atStart=>exact ⟨0,Nat.zero_le _,rfl,fun t ht=>by omega,0,rfl⟩
   case round=>
    obtain ⟨k,hk,rfl,hall,n,rfl⟩:=hrel;by_cases hlt:k<xs.length
    ·have h1:=hc1 k hlt;have h2:=hc2 k (by have:=HL.out;omega);have hlt2:(k:Int)<(ys.length:Int):=by have:=HL.out;omega
     clear hc1 hc2;by_cases hz:xs.getD k 0=ys.getD k 0
     ·have HN:Hid (∀ t,t<k+1→xs.getD t 0=ys.getD t 0):=by
       intro t ht;by_cases e:t=k
       ·rw [e];exact hz
       ·exact hall.out t (by omega)
      rw [← hz] at h2;clear hz;generalize xs.getD k 0=z at*
      go_wp2
      go_quiet (fail)
      go_wp2;go_roundw
      case rel=>exact ⟨k+1,by omega,by go_num,HN,_,rfl⟩
      case measure=>simp [RowKit.intOf];omega
     ·have HE:Hid (_=_):=oZ k hz;have hzb:(xs.getD k 0 == ys.getD k 0)=false:=by simpa using hz
      clear hz;generalize xs.getD k 0=z at*
      generalize ys.getD k 0=y at*
      go_wp2
      go_quiet (fail)
      go_wp2;go_ret;exact ⟨qd HE.out.symm,n+nq,by first | rfl | simp⟩
    ·have HE:Hid (_=_):=SS HL.out (fun t ht=>hall.out t (by omega));go_wp2;go_ret;exact ⟨qd HE.out.symm,n,rfl⟩
def yK (a b:xk):Bool:=decide (a.kind=b.kind) && (decide (a.ints=b.ints) && decide (a.refs=b.refs))
theorem Yp (o p:xk) (aI:Option Addr) (cI:Nat) (aR:Option Addr) (cR:Nat) (bI:Option Addr) (dI:Nat) (bR:Option Addr) (dR:Nat) (w:World) (ha:qQ w aI cI aR cR o) (hb:qQ w bI dI bR dR p) (h1:o.ints.length≤1099511627776) (h2:o.refs.length≤1099511627776) (h3:p.ints.length≤1099511627776) (h4:p.refs.length≤1099511627776):
  Calls Tryz.prog 209 #[.agg #[.int .i64 o.kind,.slice aI o.ints.length cI,.slice aR o.refs.length cR],.agg #[.int .i64 p.kind,.slice bI p.ints.length dI,.slice bR p.refs.length dR]] w fun e w'=>e=.returned (.bool (yK o p))∧Below w.heap.size w w':=by
 obtain ⟨k,ints,refs⟩:=o;obtain ⟨k',Qq,refs'⟩:=p;obtain ⟨Gh,Gi,_,_⟩:=ha;obtain ⟨Gj,hbR,_,_⟩:=hb;simp only at*
 obtain ⟨W,hW,b0,b1,hbW,qp⟩:=jf w [.int .i64 k,.slice aI ints.length cI,.slice aR refs.length cR] [.int .i64 k',.slice bI Qq.length dI,.slice bR refs'.length dR] 26 26;by_cases hk:k=k'
 case neg=>
  have HE:Hid (yK ⟨k,ints,refs⟩ ⟨k',Qq,refs'⟩=false):=by simp [Hid,yK,hk]
  have hkb:(k == k')=false:=by simpa using hk
  clear hk;go_enter Tryz.func209,Tryz.ntmps209;go_wp2;go_ret;exact ⟨qd HE.out.symm,by rw [hW.out];exact hbW⟩
 case pos=>
 subst hk;have HE:Hid (yK ⟨k,ints,refs⟩ ⟨k,Qq,refs'⟩=(decide (ints=Qq) && decide (refs=refs'))):=by simp [Hid,yK]
 go_enter Tryz.func209,Tryz.ntmps209;go_wp2_with fail;rw [hW.out];refine (Zg aI bI cI dI ints Qq W (Gh.below hbW) (Gj.below hbW) h1 h3).mono ?_;rintro e w1 ⟨rfl,n1,rfl⟩;have c0:=(b0.drewN n1).cell 2 _ rfl;have c1:=(b1.drewN n1).cell 2 _ rfl;have hb1:Below w.heap.size w (W.drewN n1):=below_drewN hbW n1;cases hd:decide (ints=Qq) with
 | false=>
  rw [hd] at HE;clear hd;go_wp2;go_ret;exact ⟨qd (by rw [HE.out];rfl),hb1⟩
 | true=>
  rw [hd] at HE;clear hd;go_wp2_with fail;refine (Zg aR bR cR dR refs refs' (W.drewN n1) (Gi.below hb1) (hbR.below hb1) h2 h4).mono ?_;rintro e w2 ⟨rfl,n2,rfl⟩;generalize decide (refs=refs')=D at*
  go_wp2;go_ret;exact ⟨qd (by rw [HE.out];rfl),below_drewN hbW (n1+n2)⟩
def jC (v:jy):Bool:=if v.has then false else yK v.o ⟨0,[],[]⟩
theorem il {v:jy} (h:v.has=true):jC v=false:=by unfold jC;rw [if_pos h]
theorem iq {v:jy} (h:v.has=false):jC v=yK v.o ⟨0,[],[]⟩:=by unfold jC;rw [if_neg (by rw [h];decide)]
theorem yI (s:qf) (w:World) (hr:s.reads w) (hl:Fit [s]):
  Calls Tryz.prog 251 #[.agg s.cells.toArray,.agg #[.bool false,.int .i64 0,.slice none 0 0,.slice none 0 0]] w fun e w'=>e=.returned (.bool (jC s.v))∧Below w.heap.size w w':=by
 obtain ⟨h1,h2⟩:=hl s (List.mem_singleton.2 rfl);obtain ⟨W,hW,b0,b1,hbW,qp⟩:=jf w s.cells [.bool false,.int .i64 0,.slice none 0 0,.slice none 0 0] 28 28;have hr':s.reads W:=qQ.below hr hbW;obtain ⟨⟨h,o⟩,aI,cI,aR,cR⟩:=s;simp only [qf.cells,qf.reads] at*
 clear qp;cases h with
 | true=>
  have HE:Hid (jC ⟨true,o⟩=false):=il rfl;generalize jC ⟨true,o⟩=R at*
  go_enter Tryz.func251,Tryz.ntmps251;go_wp2;go_ret;exact ⟨qd HE.out.symm,by rw [hW.out];exact hbW⟩
 | false=>
  have C1:=Yp o ⟨0,[],[]⟩ aI cI aR cR none 0 none 0 W hr' ⟨ky.nil _ _,ky.nil _ _,fun _=>rfl,fun _=>rfl⟩ h1 h2 (by simp) (by simp);simp only [List.length_nil] at C1;have HE:Hid (jC ⟨false,o⟩=yK o ⟨0,[],[]⟩):=iq rfl;generalize jC ⟨false,o⟩=R at*
  generalize yK o ⟨0,[],[]⟩=R2 at*
  go_enter Tryz.func251,Tryz.ntmps251;go_wp2_with fail;rw [hW.out];refine C1.mono ?_;rintro e w1 ⟨rfl,hb1⟩;go_wp2;go_ret;exact ⟨qd HE.out.symm,hbW.trans (hb1.mono hbW.size)⟩
def ku (r:QW) (tx oid bf next txs:Bool):Bool:=(tx || (decide (r.tx=0) && decide (r.prev=0))) && (oid || (decide (r.oid=0) && jC r.af)) && (bf || jC r.bf) && (next || decide (r.next=0)) && (txs || decide (r.txs.length=0))
theorem NZ (r:qg) (w:World) (hr:r.reads w) (hl:r.short 1099511627776):
  Calls Tryz.prog 315 #[.agg r.cells.toArray,.bool false,.bool false,.bool false,.bool false,.bool true] w fun e w'=>e=.returned (.bool (ku r.v false false false false true))∧Below w.heap.size w w':=by
 obtain ⟨W,hW,b0,b1,hbW,qp⟩:=jf w r.cells [.bool false,.int .i64 0,.slice none 0 0,.slice none 0 0] 189 28;have CB:∀ u,Below w.heap.size w u→_:=fun u hu=>yI r.bf u (qQ.below hr.bf hu) (fun s hs=>by obtain rfl:=List.mem_singleton.1 hs;exact hl.bf)
 have CA:∀ u,Below w.heap.size w u→_:=fun u hu=>yI r.af u (qQ.below hr.af hu) (fun s hs=>by obtain rfl:=List.mem_singleton.1 hs;exact hl.af)
 have HZ:Hid (ku r.v false false false false true=((false || (decide (r.tx=0) && decide (r.prev=0))) && (false || (decide (r.oid=0) && jC r.af.v)) && (false || jC r.bf.v) && (false || decide (r.next=0)) && (true || decide (r.txs.length=0)))):=rfl;generalize ku r.v false false false false true=R at*
 simp only [qg.cells] at*
 simp only [qf.cells] at CA CB;clear qp hr hl;by_cases vS:r.tx=0
 case neg=>
  have HR:Hid (R=false):=by rw [Hid,HZ.out];simp [vS]
  have Ur:(r.tx == 0)=false:=by simp;exact vS
  clear HZ vS;go_enter Tryz.func315,Tryz.ntmps315;go_wp2;rw [hW.out];go_ret;exact ⟨qd HR.out.symm,hbW⟩
 case pos=>
 by_cases zl:r.prev=0
 case neg=>
  have HR:Hid (R=false):=by rw [Hid,HZ.out];simp [vS,zl]
  have Ur:(r.tx == 0)=true:=by simp;exact vS
  have Zh:(r.prev == 0)=false:=by simp;exact zl
  clear HZ vS zl;go_enter Tryz.func315,Tryz.ntmps315;go_wp2;rw [hW.out];go_ret;exact ⟨qd HR.out.symm,hbW⟩
 case pos=>
 by_cases kS:r.oid=0
 case neg=>
  have HR:Hid (R=false):=by rw [Hid,HZ.out];simp [vS,zl,kS]
  have Ur:(r.tx == 0)=true:=by simp;exact vS
  have Zh:(r.prev == 0)=true:=by simp;exact zl
  have QM:(r.oid == 0)=false:=by simp;exact kS
  clear HZ vS zl kS;go_enter Tryz.func315,Tryz.ntmps315;go_wp2;rw [hW.out];go_ret;exact ⟨qd HR.out.symm,hbW⟩
 case pos=>
 by_cases uo:jC r.af.v=true
 case neg=>
  have HR:Hid (R=false):=by rw [Hid,HZ.out];simp [vS,zl,kS,uo]
  have Ur:(r.tx == 0)=true:=by simp;exact vS
  have Zh:(r.prev == 0)=true:=by simp;exact zl
  have QM:(r.oid == 0)=true:=by simp;exact kS
  have Ch:jC r.af.v=false:=by simpa using uo
  clear HZ vS zl kS;go_enter Tryz.func315,Tryz.ntmps315;go_wp2_with fail;rw [hW.out];clear hW;refine (CA W hbW).mono ?_;rintro e wJ ⟨rfl,hb_af⟩;rw [Ch];have yE:Below w.heap.size w wJ:=(hbW).trans (hb_af.mono (hbW).size);have b0_af:=b0.below hb_af (b0).lt;have b1_af:=b1.below hb_af (b1).lt;have Yq:=b0_af.cell 5 _ rfl;have Yr:=b0_af.cell 6 _ rfl;have Yt:=b0_af.cell 7 _ rfl;have Yu:=b0_af.cell 8 _ rfl;have Kw:=b0_af.cell 13 _ rfl;have Ky:=b0_af.cell 14 _ rfl;have Yv:=b1_af.cell 0 _ rfl;have Yw:=b1_af.cell 1 _ rfl;have Yx:=b1_af.cell 2 _ rfl;have Yy:=b1_af.cell 3 _ rfl;go_wp2;go_ret;exact ⟨qd HR.out.symm,yE⟩
 case pos=>
 by_cases vk:jC r.bf.v=true
 case neg=>
  have HR:Hid (R=false):=by rw [Hid,HZ.out];simp [vS,zl,kS,uo,vk]
  have Ur:(r.tx == 0)=true:=by simp;exact vS
  have Zh:(r.prev == 0)=true:=by simp;exact zl
  have QM:(r.oid == 0)=true:=by simp;exact kS
  have mV:jC r.bf.v=false:=by simpa using vk
  clear HZ vS zl kS;go_enter Tryz.func315,Tryz.ntmps315;go_wp2_with fail;rw [hW.out];clear hW;refine (CA W hbW).mono ?_;rintro e wJ ⟨rfl,hb_af⟩;rw [uo];have yE:Below w.heap.size w wJ:=(hbW).trans (hb_af.mono (hbW).size);have b0_af:=b0.below hb_af (b0).lt;have b1_af:=b1.below hb_af (b1).lt;have Yq:=b0_af.cell 5 _ rfl;have Yr:=b0_af.cell 6 _ rfl;have Yt:=b0_af.cell 7 _ rfl;have Yu:=b0_af.cell 8 _ rfl;have Kw:=b0_af.cell 13 _ rfl;have Ky:=b0_af.cell 14 _ rfl;have Yv:=b1_af.cell 0 _ rfl;have Yw:=b1_af.cell 1 _ rfl;have Yx:=b1_af.cell 2 _ rfl;have Yy:=b1_af.cell 3 _ rfl;go_wp2_with fail;refine (CB wJ yE).mono ?_;rintro e uq ⟨rfl,hb_bf⟩;rw [mV];have uu:Below w.heap.size w uq:=(yE).trans (hb_bf.mono (yE).size);have xJ:=b0_af.below hb_bf (b0_af).lt;have Xa:=b1_af.below hb_bf (b1_af).lt;have JD:=xJ.cell 13 _ rfl;have JE:=xJ.cell 14 _ rfl;go_wp2;go_ret;exact ⟨qd HR.out.symm,uu⟩
 case pos=>
 by_cases xn:r.next=0
 case neg=>
  have HR:Hid (R=false):=by rw [Hid,HZ.out];simp [vS,zl,kS,uo,vk,xn]
  have Ur:(r.tx == 0)=true:=by simp;exact vS
  have Zh:(r.prev == 0)=true:=by simp;exact zl
  have QM:(r.oid == 0)=true:=by simp;exact kS
  have J6:(r.next == 0)=false:=by simp;exact xn
  clear HZ vS zl kS xn;go_enter Tryz.func315,Tryz.ntmps315;go_wp2_with fail;rw [hW.out];clear hW;refine (CA W hbW).mono ?_;rintro e wJ ⟨rfl,hb_af⟩;rw [uo];have yE:Below w.heap.size w wJ:=(hbW).trans (hb_af.mono (hbW).size);have b0_af:=b0.below hb_af (b0).lt;have b1_af:=b1.below hb_af (b1).lt;have Yq:=b0_af.cell 5 _ rfl;have Yr:=b0_af.cell 6 _ rfl;have Yt:=b0_af.cell 7 _ rfl;have Yu:=b0_af.cell 8 _ rfl;have Kw:=b0_af.cell 13 _ rfl;have Ky:=b0_af.cell 14 _ rfl;have Yv:=b1_af.cell 0 _ rfl;have Yw:=b1_af.cell 1 _ rfl;have Yx:=b1_af.cell 2 _ rfl;have Yy:=b1_af.cell 3 _ rfl;go_wp2_with fail;refine (CB wJ yE).mono ?_;rintro e uq ⟨rfl,hb_bf⟩;rw [vk];have uu:Below w.heap.size w uq:=(yE).trans (hb_bf.mono (yE).size);have xJ:=b0_af.below hb_bf (b0_af).lt;have Xa:=b1_af.below hb_bf (b1_af).lt;have JD:=xJ.cell 13 _ rfl;have JE:=xJ.cell 14 _ rfl;go_wp2;go_ret;exact ⟨qd HR.out.symm,uu⟩
 case pos=>
 have HR:Hid (R=true):=by rw [Hid,HZ.out];simp [vS,zl,kS,uo,vk,xn]
 have Ur:(r.tx == 0)=true:=by simp;exact vS
 have Zh:(r.prev == 0)=true:=by simp;exact zl
 have QM:(r.oid == 0)=true:=by simp;exact kS
 have J6:(r.next == 0)=true:=by simp;exact xn
 clear HZ vS zl kS xn;go_enter Tryz.func315,Tryz.ntmps315;go_wp2_with fail;rw [hW.out];clear hW;refine (CA W hbW).mono ?_;rintro e wJ ⟨rfl,hb_af⟩;rw [uo];have yE:Below w.heap.size w wJ:=(hbW).trans (hb_af.mono (hbW).size);have b0_af:=b0.below hb_af (b0).lt;have b1_af:=b1.below hb_af (b1).lt;have Yq:=b0_af.cell 5 _ rfl;have Yr:=b0_af.cell 6 _ rfl;have Yt:=b0_af.cell 7 _ rfl;have Yu:=b0_af.cell 8 _ rfl;have Kw:=b0_af.cell 13 _ rfl;have Ky:=b0_af.cell 14 _ rfl;have Yv:=b1_af.cell 0 _ rfl;have Yw:=b1_af.cell 1 _ rfl;have Yx:=b1_af.cell 2 _ rfl;have Yy:=b1_af.cell 3 _ rfl;go_wp2_with fail;refine (CB wJ yE).mono ?_;rintro e uq ⟨rfl,hb_bf⟩;rw [vk];have uu:Below w.heap.size w uq:=(yE).trans (hb_bf.mono (yE).size);have xJ:=b0_af.below hb_bf (b0_af).lt;have Xa:=b1_af.below hb_bf (b1_af).lt;have JD:=xJ.cell 13 _ rfl;have JE:=xJ.cell 14 _ rfl;go_wp2;go_ret;exact ⟨qd HR.out.symm,uu⟩
theorem Ci (r:qg) (w:World) (hr:r.reads w) (hl:r.short 1099511627776):
  Calls Tryz.prog 315 #[.agg r.cells.toArray,.bool true,.bool true,.bool true,.bool false,.bool false] w fun e w'=>e=.returned (.bool (ku r.v true true true false false))∧Below w.heap.size w w':=by
 obtain ⟨W,hW,b0,b1,hbW,qp⟩:=jf w r.cells [.bool false,.int .i64 0,.slice none 0 0,.slice none 0 0] 189 28;have CB:∀ u,Below w.heap.size w u→_:=fun u hu=>yI r.bf u (qQ.below hr.bf hu) (fun s hs=>by obtain rfl:=List.mem_singleton.1 hs;exact hl.bf)
 have CA:∀ u,Below w.heap.size w u→_:=fun u hu=>yI r.af u (qQ.below hr.af hu) (fun s hs=>by obtain rfl:=List.mem_singleton.1 hs;exact hl.af)
 have HZ:Hid (ku r.v true true true false false=((true || (decide (r.tx=0) && decide (r.prev=0))) && (true || (decide (r.oid=0) && jC r.af.v)) && (true || jC r.bf.v) && (false || decide (r.next=0)) && (false || decide (r.txs.length=0)))):=rfl;generalize ku r.v true true true false false=R at*
 simp only [qg.cells] at*
 simp only [qf.cells] at CA CB;clear qp hr hl;by_cases xn:r.next=0
 case neg=>
  have HR:Hid (R=false):=by rw [Hid,HZ.out];simp [xn]
  have J6:(r.next == 0)=false:=by simp;exact xn
  clear HZ xn;go_enter Tryz.func315,Tryz.ntmps315;go_wp2;rw [hW.out];go_ret;exact ⟨qd HR.out.symm,hbW⟩
 case pos=>
 by_cases h_txs:r.txs.length=0
 case neg=>
  have HR:Hid (R=false):=by rw [Hid,HZ.out];simp [xn,h_txs]
  have J6:(r.next == 0)=true:=by simp;exact xn
  have Ub:((r.txs.length:Int) == 0)=false:=by simp;exact fun e=>h_txs (by rw [e];rfl)
  clear HZ xn h_txs;go_enter Tryz.func315,Tryz.ntmps315;go_wp2;rw [hW.out];go_ret;exact ⟨qd HR.out.symm,hbW⟩
 case pos=>
 have HR:Hid (R=true):=by rw [Hid,HZ.out];simp [xn,h_txs]
 have J6:(r.next == 0)=true:=by simp;exact xn
 have Ub:((r.txs.length:Int) == 0)=true:=by simp;exact List.length_eq_zero_iff.1 h_txs
 clear HZ xn h_txs;go_enter Tryz.func315,Tryz.ntmps315;go_wp2;rw [hW.out];go_ret;exact ⟨qd HR.out.symm,hbW⟩
theorem Dq (r:qg) (w:World) (hr:r.reads w) (hl:r.short 1099511627776):
  Calls Tryz.prog 315 #[.agg r.cells.toArray,.bool true,.bool true,.bool false,.bool true,.bool false] w fun e w'=>e=.returned (.bool (ku r.v true true false true false))∧Below w.heap.size w w':=by
 obtain ⟨W,hW,b0,b1,hbW,qp⟩:=jf w r.cells [.bool false,.int .i64 0,.slice none 0 0,.slice none 0 0] 189 28;have CB:∀ u,Below w.heap.size w u→_:=fun u hu=>yI r.bf u (qQ.below hr.bf hu) (fun s hs=>by obtain rfl:=List.mem_singleton.1 hs;exact hl.bf)
 have CA:∀ u,Below w.heap.size w u→_:=fun u hu=>yI r.af u (qQ.below hr.af hu) (fun s hs=>by obtain rfl:=List.mem_singleton.1 hs;exact hl.af)
 have HZ:Hid (ku r.v true true false true false=((true || (decide (r.tx=0) && decide (r.prev=0))) && (true || (decide (r.oid=0) && jC r.af.v)) && (false || jC r.bf.v) && (true || decide (r.next=0)) && (false || decide (r.txs.length=0)))):=rfl;generalize ku r.v true true false true false=R at*
 simp only [qg.cells] at*
 simp only [qf.cells] at CA CB;clear qp hr hl;by_cases vk:jC r.bf.v=true
 case neg=>
  have HR:Hid (R=false):=by rw [Hid,HZ.out];simp [vk]
  have mV:jC r.bf.v=false:=by simpa using vk
  clear HZ ;go_enter Tryz.func315,Tryz.ntmps315;go_wp2_with fail;rw [hW.out];clear hW;refine (CB W hbW).mono ?_;rintro e uq ⟨rfl,hb_bf⟩;rw [mV];have uu:Below w.heap.size w uq:=(hbW).trans (hb_bf.mono (hbW).size);have xJ:=b0.below hb_bf (b0).lt;have Xa:=b1.below hb_bf (b1).lt;have JD:=xJ.cell 13 _ rfl;have JE:=xJ.cell 14 _ rfl;go_wp2;go_ret;exact ⟨qd HR.out.symm,uu⟩
 case pos=>
 by_cases h_txs:r.txs.length=0
 case neg=>
  have HR:Hid (R=false):=by rw [Hid,HZ.out];simp [vk,h_txs]
  have Ub:((r.txs.length:Int) == 0)=false:=by simp;exact fun e=>h_txs (by rw [e];rfl)
  clear HZ h_txs;go_enter Tryz.func315,Tryz.ntmps315;go_wp2_with fail;rw [hW.out];clear hW;refine (CB W hbW).mono ?_;rintro e uq ⟨rfl,hb_bf⟩;rw [vk];have uu:Below w.heap.size w uq:=(hbW).trans (hb_bf.mono (hbW).size);have xJ:=b0.below hb_bf (b0).lt;have Xa:=b1.below hb_bf (b1).lt;have JD:=xJ.cell 13 _ rfl;have JE:=xJ.cell 14 _ rfl;go_wp2;go_ret;exact ⟨qd HR.out.symm,uu⟩
 case pos=>
 have HR:Hid (R=true):=by rw [Hid,HZ.out];simp [vk,h_txs]
 have Ub:((r.txs.length:Int) == 0)=true:=by simp;exact List.length_eq_zero_iff.1 h_txs
 clear HZ h_txs;go_enter Tryz.func315,Tryz.ntmps315;go_wp2_with fail;rw [hW.out];clear hW;refine (CB W hbW).mono ?_;rintro e uq ⟨rfl,hb_bf⟩;rw [vk];have uu:Below w.heap.size w uq:=(hbW).trans (hb_bf.mono (hbW).size);have xJ:=b0.below hb_bf (b0).lt;have Xa:=b1.below hb_bf (b1).lt;have JD:=xJ.cell 13 _ rfl;have JE:=xJ.cell 14 _ rfl;go_wp2;go_ret;exact ⟨qd HR.out.symm,uu⟩
theorem Cj (r:qg) (w:World) (hr:r.reads w) (hl:r.short 1099511627776):
  Calls Tryz.prog 315 #[.agg r.cells.toArray,.bool true,.bool false,.bool false,.bool false,.bool false] w fun e w'=>e=.returned (.bool (ku r.v true false false false false))∧Below w.heap.size w w':=by
 obtain ⟨W,hW,b0,b1,hbW,qp⟩:=jf w r.cells [.bool false,.int .i64 0,.slice none 0 0,.slice none 0 0] 189 28;have CB:∀ u,Below w.heap.size w u→_:=fun u hu=>yI r.bf u (qQ.below hr.bf hu) (fun s hs=>by obtain rfl:=List.mem_singleton.1 hs;exact hl.bf)
 have CA:∀ u,Below w.heap.size w u→_:=fun u hu=>yI r.af u (qQ.below hr.af hu) (fun s hs=>by obtain rfl:=List.mem_singleton.1 hs;exact hl.af)
 have HZ:Hid (ku r.v true false false false false=((true || (decide (r.tx=0) && decide (r.prev=0))) && (false || (decide (r.oid=0) && jC r.af.v)) && (false || jC r.bf.v) && (false || decide (r.next=0)) && (false || decide (r.txs.length=0)))):=rfl;generalize ku r.v true false false false false=R at*
 simp only [qg.cells] at*
 simp only [qf.cells] at CA CB;clear qp hr hl;by_cases kS:r.oid=0
 case neg=>
  have HR:Hid (R=false):=by rw [Hid,HZ.out];simp [kS]
  have QM:(r.oid == 0)=false:=by simp;exact kS
  clear HZ kS;go_enter Tryz.func315,Tryz.ntmps315;go_wp2;rw [hW.out];go_ret;exact ⟨qd HR.out.symm,hbW⟩
 case pos=>
 by_cases uo:jC r.af.v=true
 case neg=>
  have HR:Hid (R=false):=by rw [Hid,HZ.out];simp [kS,uo]
  have QM:(r.oid == 0)=true:=by simp;exact kS
  have Ch:jC r.af.v=false:=by simpa using uo
  clear HZ kS;go_enter Tryz.func315,Tryz.ntmps315;go_wp2_with fail;rw [hW.out];clear hW;refine (CA W hbW).mono ?_;rintro e wJ ⟨rfl,hb_af⟩;rw [Ch];have yE:Below w.heap.size w wJ:=(hbW).trans (hb_af.mono (hbW).size);have b0_af:=b0.below hb_af (b0).lt;have b1_af:=b1.below hb_af (b1).lt;have Yq:=b0_af.cell 5 _ rfl;have Yr:=b0_af.cell 6 _ rfl;have Yt:=b0_af.cell 7 _ rfl;have Yu:=b0_af.cell 8 _ rfl;have Kw:=b0_af.cell 13 _ rfl;have Ky:=b0_af.cell 14 _ rfl;have Yv:=b1_af.cell 0 _ rfl;have Yw:=b1_af.cell 1 _ rfl;have Yx:=b1_af.cell 2 _ rfl;have Yy:=b1_af.cell 3 _ rfl;go_wp2;go_ret;exact ⟨qd HR.out.symm,yE⟩
 case pos=>
 by_cases vk:jC r.bf.v=true
 case neg=>
  have HR:Hid (R=false):=by rw [Hid,HZ.out];simp [kS,uo,vk]
  have QM:(r.oid == 0)=true:=by simp;exact kS
  have mV:jC r.bf.v=false:=by simpa using vk
  clear HZ kS;go_enter Tryz.func315,Tryz.ntmps315;go_wp2_with fail;rw [hW.out];clear hW;refine (CA W hbW).mono ?_;rintro e wJ ⟨rfl,hb_af⟩;rw [uo];have yE:Below w.heap.size w wJ:=(hbW).trans (hb_af.mono (hbW).size);have b0_af:=b0.below hb_af (b0).lt;have b1_af:=b1.below hb_af (b1).lt;have Yq:=b0_af.cell 5 _ rfl;have Yr:=b0_af.cell 6 _ rfl;have Yt:=b0_af.cell 7 _ rfl;have Yu:=b0_af.cell 8 _ rfl;have Kw:=b0_af.cell 13 _ rfl;have Ky:=b0_af.cell 14 _ rfl;have Yv:=b1_af.cell 0 _ rfl;have Yw:=b1_af.cell 1 _ rfl;have Yx:=b1_af.cell 2 _ rfl;have Yy:=b1_af.cell 3 _ rfl;go_wp2_with fail;refine (CB wJ yE).mono ?_;rintro e uq ⟨rfl,hb_bf⟩;rw [mV];have uu:Below w.heap.size w uq:=(yE).trans (hb_bf.mono (yE).size);have xJ:=b0_af.below hb_bf (b0_af).lt;have Xa:=b1_af.below hb_bf (b1_af).lt;have JD:=xJ.cell 13 _ rfl;have JE:=xJ.cell 14 _ rfl;go_wp2;go_ret;exact ⟨qd HR.out.symm,uu⟩
 case pos=>
 by_cases xn:r.next=0
 case neg=>
  have HR:Hid (R=false):=by rw [Hid,HZ.out];simp [kS,uo,vk,xn]
  have QM:(r.oid == 0)=true:=by simp;exact kS
  have J6:(r.next == 0)=false:=by simp;exact xn
  clear HZ kS xn;go_enter Tryz.func315,Tryz.ntmps315;go_wp2_with fail;rw [hW.out];clear hW;refine (CA W hbW).mono ?_;rintro e wJ ⟨rfl,hb_af⟩;rw [uo];have yE:Below w.heap.size w wJ:=(hbW).trans (hb_af.mono (hbW).size);have b0_af:=b0.below hb_af (b0).lt;have b1_af:=b1.below hb_af (b1).lt;have Yq:=b0_af.cell 5 _ rfl;have Yr:=b0_af.cell 6 _ rfl;have Yt:=b0_af.cell 7 _ rfl;have Yu:=b0_af.cell 8 _ rfl;have Kw:=b0_af.cell 13 _ rfl;have Ky:=b0_af.cell 14 _ rfl;have Yv:=b1_af.cell 0 _ rfl;have Yw:=b1_af.cell 1 _ rfl;have Yx:=b1_af.cell 2 _ rfl;have Yy:=b1_af.cell 3 _ rfl;go_wp2_with fail;refine (CB wJ yE).mono ?_;rintro e uq ⟨rfl,hb_bf⟩;rw [vk];have uu:Below w.heap.size w uq:=(yE).trans (hb_bf.mono (yE).size);have xJ:=b0_af.below hb_bf (b0_af).lt;have Xa:=b1_af.below hb_bf (b1_af).lt;have JD:=xJ.cell 13 _ rfl;have JE:=xJ.cell 14 _ rfl;go_wp2;go_ret;exact ⟨qd HR.out.symm,uu⟩
 case pos=>
 by_cases h_txs:r.txs.length=0
 case neg=>
  have HR:Hid (R=false):=by rw [Hid,HZ.out];simp [kS,uo,vk,xn,h_txs]
  have QM:(r.oid == 0)=true:=by simp;exact kS
  have J6:(r.next == 0)=true:=by simp;exact xn
  have Ub:((r.txs.length:Int) == 0)=false:=by simp;exact fun e=>h_txs (by rw [e];rfl)
  clear HZ kS xn h_txs;go_enter Tryz.func315,Tryz.ntmps315;go_wp2_with fail;rw [hW.out];clear hW;refine (CA W hbW).mono ?_;rintro e wJ ⟨rfl,hb_af⟩;rw [uo];have yE:Below w.heap.size w wJ:=(hbW).trans (hb_af.mono (hbW).size);have b0_af:=b0.below hb_af (b0).lt;have b1_af:=b1.below hb_af (b1).lt;have Yq:=b0_af.cell 5 _ rfl;have Yr:=b0_af.cell 6 _ rfl;have Yt:=b0_af.cell 7 _ rfl;have Yu:=b0_af.cell 8 _ rfl;have Kw:=b0_af.cell 13 _ rfl;have Ky:=b0_af.cell 14 _ rfl;have Yv:=b1_af.cell 0 _ rfl;have Yw:=b1_af.cell 1 _ rfl;have Yx:=b1_af.cell 2 _ rfl;have Yy:=b1_af.cell 3 _ rfl;go_wp2_with fail;refine (CB wJ yE).mono ?_;rintro e uq ⟨rfl,hb_bf⟩;rw [vk];have uu:Below w.heap.size w uq:=(yE).trans (hb_bf.mono (yE).size);have xJ:=b0_af.below hb_bf (b0_af).lt;have Xa:=b1_af.below hb_bf (b1_af).lt;have JD:=xJ.cell 13 _ rfl;have JE:=xJ.cell 14 _ rfl;go_wp2;go_ret;exact ⟨qd HR.out.symm,uu⟩
 case pos=>
 have HR:Hid (R=true):=by rw [Hid,HZ.out];simp [kS,uo,vk,xn,h_txs]
 have QM:(r.oid == 0)=true:=by simp;exact kS
 have J6:(r.next == 0)=true:=by simp;exact xn
 have Ub:((r.txs.length:Int) == 0)=true:=by simp;exact List.length_eq_zero_iff.1 h_txs
 clear HZ kS xn h_txs;go_enter Tryz.func315,Tryz.ntmps315;go_wp2_with fail;rw [hW.out];clear hW;refine (CA W hbW).mono ?_;rintro e wJ ⟨rfl,hb_af⟩;rw [uo];have yE:Below w.heap.size w wJ:=(hbW).trans (hb_af.mono (hbW).size);have b0_af:=b0.below hb_af (b0).lt;have b1_af:=b1.below hb_af (b1).lt;have Yq:=b0_af.cell 5 _ rfl;have Yr:=b0_af.cell 6 _ rfl;have Yt:=b0_af.cell 7 _ rfl;have Yu:=b0_af.cell 8 _ rfl;have Kw:=b0_af.cell 13 _ rfl;have Ky:=b0_af.cell 14 _ rfl;have Yv:=b1_af.cell 0 _ rfl;have Yw:=b1_af.cell 1 _ rfl;have Yx:=b1_af.cell 2 _ rfl;have Yy:=b1_af.cell 3 _ rfl;go_wp2_with fail;refine (CB wJ yE).mono ?_;rintro e uq ⟨rfl,hb_bf⟩;rw [vk];have uu:Below w.heap.size w uq:=(yE).trans (hb_bf.mono (yE).size);have xJ:=b0_af.below hb_bf (b0_af).lt;have Xa:=b1_af.below hb_bf (b1_af).lt;have JD:=xJ.cell 13 _ rfl;have JE:=xJ.cell 14 _ rfl;go_wp2;go_ret;exact ⟨qd HR.out.symm,uu⟩
def yJ (lsn:Int) (ls:List qC):Nat→Bool
 | 0=>inB (ls.getD 0 qA).tx 1 1000 && inB (ls.getD 0 qA).last 1 (lsn-1)
 | k+1=>inB (ls.getD (k+1) qA).tx 1 1000 && inB (ls.getD (k+1) qA).last 1 (lsn-1) && decide ((ls.getD k qA).tx<(ls.getD (k+1) qA).tx)
def kZ (lsn:Int) (ls:List qC):Bool:=(List.range ls.length).all (yJ lsn ls) && decide (ls.length≤20)
theorem GG {lsn:Int} {ls:List qC} (k:Nat) (hk:k<ls.length) (h:yJ lsn ls k=false):kZ lsn ls=false:=by
 have:(List.range ls.length).all (yJ lsn ls)=false:=by
  rw [List.all_eq_false];exact ⟨k,List.mem_range.2 hk,by rw [h];decide⟩
 simp [kZ,this]
theorem mW {lsn:Int} {ls:List qC} (h:∀ k,k<ls.length→yJ lsn ls k=true):kZ lsn ls=decide (ls.length≤20):=by
 have:(List.range ls.length).all (yJ lsn ls)=true:=by
  rw [List.all_eq_true];exact fun k hk=>h k (List.mem_range.1 hk)
 simp [kZ,this]
theorem Dr (r:qg) (w:World) (hr:jW w r.aL r.txs) (hl:r.txs.length≤1099511627776) (hn:1≤r.lsn∧r.lsn≤1000000):
  Calls Tryz.prog 316 #[.agg r.cells.toArray] w fun e w'=>e=.returned (.bool (kZ r.lsn r.txs))∧Below w.heap.size w w':=by
 obtain ⟨W,hW,b0,hbW,qp⟩:=qx w r.cells 189;have jP:Hid (∀ k,k<r.txs.length→yJ r.lsn r.txs k=false→kZ r.lsn r.txs=false):=fun k hk h=>GG k hk h
 have JQ:Hid ((∀ k,k<r.txs.length→yJ r.lsn r.txs k=true)→kZ r.lsn r.txs=decide (r.txs.length≤20)):=fun h=>mW h
 generalize kZ r.lsn r.txs=R at*
 have hc0:=b0.cell 0 _ rfl;have iw:=b0.cell 14 _ rfl;simp only [qg.cells] at hW ⊢;clear qp b0;generalize r.lsn=lsn at*
 generalize r.txs=ls at*
 generalize r.aL=aL at*
 have hr':=hr.below hbW;clear hr;go_enter Tryz.func316,Tryz.ntmps316;go_wp2_with fail;rw [hW.out];clear hW;go_loopw [3] (fun i wr=>∃ k:Nat,k≤ls.length∧i=.int .i64 k∧Hid (∀ j,j<k→yJ lsn ls j=true)∧Below W.heap.size W wr) (fun i _=>ls.length-(intOf i).toNat)
 case atStart=>exact ⟨0,Nat.zero_le _,rfl,fun j hj=>by omega,Below.refl _ _⟩
 case round=>
  obtain ⟨k,hk,rfl,hall,hbl⟩:=hrel;have ve:Below w.heap.size w wr:=hbW.trans (hbl.mono hbW.size);have r0:=(hbl.cell (block_lt hc0)).trans hc0;have r14:=(hbl.cell (block_lt iw)).trans iw;have hrr:=hr'.below hbl;clear hc0 iw hr';by_cases hlt:k<ls.length
  ·obtain ⟨b,off,rfl,hcell⟩:=hrr (by intro e;rw [e] at hlt;simp at hlt);obtain ⟨c0,c1,_⟩:=hcell k hlt;cases k with
   | zero=>
    clear hcell;simp only [Nat.zero_mul,Nat.add_zero] at c0 c1;have HL:Hid (yJ lsn ls 0=(inB (ls.getD 0 qA).tx 1 1000 && inB (ls.getD 0 qA).last 1 (lsn-1))):=rfl;generalize ls.getD 0 qA=z at*
    cases h1:inB z.tx 1 1000 with
    | false=>
     have HR:Hid (R=false):=jP.out 0 hlt (by rw [HL.out,h1];rfl);clear HL jP JQ;go_wp2
     go_quiet ((go_at_call 80;exact Calls.quiet_of_same (jd _ _ _ _)))
     go_wp2;go_ret;exact ⟨qd HR.out.symm,by first | exact below_drewN ve _ | exact ve⟩
    | true=>
     cases h2:inB z.last 1 (lsn-1) with
     | false=>
      have HR:Hid (R=false):=jP.out 0 hlt (by rw [HL.out,h1,h2];rfl);clear HL jP JQ;go_wp2
      go_quiet ((go_at_call 80;exact Calls.quiet_of_same (jd _ _ _ _)))
      go_wp2;go_ret;exact ⟨qd HR.out.symm,by first | exact below_drewN ve _ | exact ve⟩
     | true=>
      have HR:Hid (∀ j,j<1→yJ lsn ls j=true):=fun j hj=>by
       obtain rfl:j=0:=by omega
       rw [HL.out,h1,h2];rfl
      clear HL jP JQ;go_wp2
      go_quiet ((go_at_call 80;exact Calls.quiet_of_same (jd _ _ _ _)))
      go_wp2;go_roundw
      case rel=>exact ⟨1,by omega,by go_num,HR,by first | exact below_drewN hbl _ | exact hbl⟩
      case measure=>simp [intOf];omega
   | succ j=>
    obtain ⟨d0,_,_⟩:=hcell j (by omega);clear hcell;have HL:Hid (yJ lsn ls (j+1)=(inB (ls.getD (j+1) qA).tx 1 1000 && inB (ls.getD (j+1) qA).last 1 (lsn-1) && decide ((ls.getD j qA).tx<(ls.getD (j+1) qA).tx))):=rfl;generalize ls.getD (j+1) qA=z at*
    generalize ls.getD j qA=p at*
    cases h1:inB z.tx 1 1000 with
    | false=>
     have HR:Hid (R=false):=jP.out (j+1) hlt (by rw [HL.out,h1];rfl);clear HL jP JQ;go_wp2
     go_quiet ((go_at_call 80;exact Calls.quiet_of_same (jd _ _ _ _)))
     go_wp2;go_ret;exact ⟨qd HR.out.symm,by first | exact below_drewN ve _ | exact ve⟩
    | true=>
     cases h2:inB z.last 1 (lsn-1) with
     | false=>
      have HR:Hid (R=false):=jP.out (j+1) hlt (by rw [HL.out,h1,h2];rfl);clear HL jP JQ;go_wp2
      go_quiet ((go_at_call 80;exact Calls.quiet_of_same (jd _ _ _ _)))
      go_wp2;go_ret;exact ⟨qd HR.out.symm,by first | exact below_drewN ve _ | exact ve⟩
     | true=>
      by_cases h3:p.tx<z.tx
      case neg=>
       have HR:Hid (R=false):=jP.out (j+1) hlt (by rw [HL.out,h1,h2,decide_eq_false h3];rfl);have h3b:decide (z.tx≤p.tx)=true:=by simpa using h3
       clear HL jP JQ;go_wp2
       go_quiet ((go_at_call 80;exact Calls.quiet_of_same (jd _ _ _ _)))
       go_wp2;go_ret;exact ⟨qd HR.out.symm,by first | exact below_drewN ve _ | exact ve⟩
      case pos=>
       have HR:Hid (∀ i,i<j+1+1→yJ lsn ls i=true):=fun i hi=>by
        by_cases e:i=j+1
        ·rw [e,HL.out,h1,h2,decide_eq_true h3];rfl
        ·exact hall.out i (by omega)
       have h3b:decide (z.tx≤p.tx)=false:=by simpa using h3
       clear HL jP JQ;go_wp2
       go_quiet ((go_at_call 80;exact Calls.quiet_of_same (jd _ _ _ _)))
       go_wp2;go_roundw
       case rel=>exact ⟨j+1+1,by omega,by go_num,HR,by first | exact below_drewN hbl _ | exact hbl⟩
       case measure=>simp [intOf];omega
  ·have HR:Hid (R=decide ((ls.length:Int)≤20)):=by
    rw [Hid,JQ.out (fun j hj=>hall.out j (by omega))];simp only [decide_eq_decide];omega
   clear jP JQ;go_wp2;go_ret;exact ⟨qd HR.out.symm,ve⟩
theorem Box.Me {w:World} {B:Nat} {v:Value} {ss:List qf} {t:TypeId} (b:Box w B (v::cellsS ss) t) (k:Nat) (hk:k<ss.length):
  w.cell? ⟨B,1+k*4,none⟩=some (.bool (ss.getD k qh).v.has)∧w.cell? ⟨B,1+k*4+1,none⟩=some (.int .i64 (ss.getD k qh).v.o.kind)∧
  w.cell? ⟨B,1+k*4+2,none⟩=some (.slice (ss.getD k qh).aI (ss.getD k qh).v.o.ints.length (ss.getD k qh).cI)∧w.cell? ⟨B,1+k*4+3,none⟩=some (.slice (ss.getD k qh).aR (ss.getD k qh).v.o.refs.length (ss.getD k qh).cR)∧
  (∀ i,w.frozen? ⟨B,i,none⟩=false):=by
 have key:∀ j,j<4→(v::cellsS ss)[1+k*4+j]? =(ss.getD k qh).cells[j]? :=fun j hj=>by
  rw [show 1+k*4+j=(k*4+j)+1 by omega,List.getElem?_cons_succ];exact u7 ss k j hk hj
 exact ⟨b.cell _ _ (key 0 (by omega)),b.cell _ _ (key 1 (by omega)),b.cell _ _ (key 2 (by omega)),b.cell _ _ (key 3 (by omega)),fun i=>b.frozen i⟩
theorem iy (o:xk) (a b c:Bool) (h1:decide (o.kind=0)=a) (h2:decide (o.ints.length=0)=b) (h3:decide (o.refs.length=0)=c):qE ⟨false,o⟩=(a && (b && c)):=by
 rw [← h1,← h2,← h3];rfl
theorem ZG (s:qf) (w:World) (hr:s.reads w) (hl:Fit [s]):
  Calls Tryz.prog 107 #[.agg s.cells.toArray] w fun e w'=>e=.returned (.bool (qE s.v))∧Below w.heap.size w w':=by
 obtain ⟨h1,h2⟩:=hl s (List.mem_singleton.2 rfl);obtain ⟨W,hW,b0,hbW,qp⟩:=qx w s.cells 28;have hr':s.reads W:=qQ.below hr hbW;obtain ⟨⟨h,o⟩,aI,cI,aR,cR⟩:=s;simp only [qf.cells,qf.reads] at*
 cases h with
 | true=>
  have C1:=Hy o aI cI aR cR W hr' (by omega) (by omega);have HE:Hid (qE ⟨true,o⟩=okB o):=Gz rfl;generalize qE ⟨true,o⟩=R at*
  go_enter Tryz.func107,Tryz.ntmps107;go_wp2_with fail;rw [hW.out];refine C1.mono ?_;rintro e w1 ⟨rfl,hb1⟩;go_wp2;go_ret;exact ⟨qd HE.out.symm,hbW.trans (hb1.mono hbW.size)⟩
 | false=>
  have HE:=iy o;generalize qE ⟨false,o⟩=R at*
  obtain ⟨k,ints,refs⟩:=o;obtain ⟨x0,x1,x2,x3,_⟩:=b0.four;simp only at*
  by_cases hk:k=0
  case neg=>
   have HR:Hid (R=false):=HE false _ _ (decide_eq_false hk) rfl rfl;have hkb:(k == 0)=false:=by simpa using hk
   clear HE hk;go_enter Tryz.func107,Tryz.ntmps107;go_wp2;go_ret;exact ⟨qd HR.out.symm,by rw [hW.out];exact hbW⟩
  case pos=>
  subst hk;by_cases hi:ints.length=0
  case neg=>
   have HR:Hid (R=false):=HE true false _ (decide_eq_true rfl) (decide_eq_false hi) rfl;have hib:((ints.length:Int) == 0)=false:=by simp;exact fun e=>hi (by rw [e];rfl)
   clear HE hi;go_enter Tryz.func107,Tryz.ntmps107;go_wp2;go_ret;exact ⟨qd HR.out.symm,by rw [hW.out];exact hbW⟩
  case pos=>
  by_cases hj:refs.length=0
  case neg=>
   have HR:Hid (R=false):=HE true true false (decide_eq_true rfl) (decide_eq_true hi) (decide_eq_false hj);have hib:((ints.length:Int) == 0)=true:=by simp;exact List.length_eq_zero_iff.1 hi
   have hjb:((refs.length:Int) == 0)=false:=by simp;exact fun e=>hj (by rw [e];rfl)
   clear HE hi hj;go_enter Tryz.func107,Tryz.ntmps107;go_wp2;go_ret;exact ⟨qd HR.out.symm,by rw [hW.out];exact hbW⟩
  case pos=>
   have HR:Hid (R=true):=HE true true true (decide_eq_true rfl) (decide_eq_true hi) (decide_eq_true hj);have hib:((ints.length:Int) == 0)=true:=by simp;exact List.length_eq_zero_iff.1 hi
   have hjb:((refs.length:Int) == 0)=true:=by simp;exact List.length_eq_zero_iff.1 hj
   clear HE hi hj;go_enter Tryz.func107,Tryz.ntmps107;go_wp2;go_ret;exact ⟨qd HR.out.symm,by rw [hW.out];exact hbW⟩
theorem LW {n:Int} {ss:List qf} (k:Nat) (hk:k<ss.length) (h:qE (ss.getD k qh).v=false):ze n (ss.map (·.v))=false:=by
 have:(ss.map (·.v)).all qE=false:=by
  rw [List.all_eq_false];exact ⟨(ss.getD k qh).v,List.mem_map.2 ⟨_,jV hk,rfl⟩,by rw [h];decide⟩
 simp [ze,this]
theorem A8 {n:Int} {ss:List qf} (h:∀ j,j<ss.length→qE (ss.getD j qh).v=true):ze n (ss.map (·.v))=inB n 0 1000000:=by
 have:(ss.map (·.v)).all qE=true:=by
  rw [List.all_eq_true];intro v hv;obtain ⟨s,hs,rfl⟩:=List.mem_map.1 hv;obtain ⟨j,hj,rfl⟩:=List.getElem_of_mem hs;have:=h j hj
  simpa [List.getD,hj] using this
 simp [ze,this]
theorem Qr (p:qw) (h4:p.ss.length=4) (w:World) (hr:jK w p.ss) (hl:Fit p.ss):
  Calls Tryz.prog 169 #[.agg p.cells.toArray] w fun e w'=>e=.returned (.bool (ze p.lsn (p.ss.map (·.v))))∧Below w.heap.size w w':=by
 obtain ⟨n,ss⟩:=p;simp only [qw.cells] at*
 obtain ⟨W,hW,b0,hbW,qp⟩:=qx w (.int .i64 n::cellsS ss) 31;have H4:Hid (ss.length=4):=h4;have jP:Hid (∀ k,k<ss.length→qE (ss.getD k qh).v=false→ze n (ss.map (·.v))=false):=fun k hk h=>LW k hk h
 have JQ:Hid ((∀ j,j<ss.length→qE (ss.getD j qh).v=true)→ze n (ss.map (·.v))=inB n 0 1000000):=fun h=>A8 h
 generalize ze n (ss.map (·.v))=R at*
 clear qp h4;go_enter Tryz.func169,Tryz.ntmps169;go_wp2_with fail;rw [hW.out];clear hW;go_loopw [3] (fun i wr=>∃ (k:Nat),i=.int .i64 k∧k≤4∧Hid (∀ j,j<k→qE (ss.getD j qh).v=true)∧Below W.heap.size W wr)
  (fun i _=>4-(RowKit.intOf i).toNat)
 case atStart=>exact ⟨0,rfl,by omega,fun j hj=>by omega,Below.refl _ _⟩
 case round=>
  obtain ⟨k,rfl,hk,hall,hbl⟩:=hrel;have ZQ:=b0.below hbl b0.lt;have Jv:Below w.heap.size w wr:=hbW.trans (hbl.mono hbW.size);by_cases hlt:k<4
  ·have hkl:k<ss.length:=by rw [H4.out];exact hlt
   obtain ⟨c0,c1,c2,c3,_⟩:=ZQ.Me k hkl;have hi0:(0:Int)≤(k:Int):=by omega
   have hi4:(k:Int)<4:=by omega
   have YV:=(hr _ (jV hkl)).below Jv;have hlk:Fit [ss.getD k qh]:=fun s hs=>by obtain rfl:=List.mem_singleton.1 hs;exact hl _ (jV hkl)
   have C:=ZG (ss.getD k qh) wr YV hlk;simp only [qf.cells] at C;cases hz:qE (ss.getD k qh).v with
   | false=>
    have HR:Hid (R=false):=jP.out k hkl hz;rw [hz] at C;clear hz;generalize ss.getD k qh=s at*
    go_wp2_with fail;refine C.mono ?_;rintro e w1 ⟨rfl,hb1⟩;go_wp2;go_ret;exact ⟨qd HR.out.symm,Jv.trans (hb1.mono Jv.size)⟩
   | true=>
    have HN:Hid (∀ j,j<k+1→qE (ss.getD j qh).v=true):=by
     intro j hj;by_cases e:j=k
     ·rw [e];exact hz
     ·exact hall.out j (by omega)
    rw [hz] at C;clear hz YV hlk;generalize hs:ss.getD k qh=s at*
    clear hs;go_wp2_with fail;refine C.mono ?_;rintro e w1 ⟨rfl,hb1⟩;clear C;go_wp2_with fail;go_roundw
    case rel=>exact ⟨k+1,by go_num,by omega,HN,hbl.trans (hb1.mono hbl.size)⟩
    case measure=>simp [RowKit.intOf];omega
  ·have hkk:¬ (k:Int)<4:=by omega
   have HR:Hid (R=inB n 0 1000000):=JQ.out (fun j hj=>hall.out j (by rw [H4.out] at hj;omega));have c0:=ZQ.cell 0 _ rfl;go_wp2_with fail;refine (jd _ _ _ _).mono ?_;rintro e w' ⟨rfl,rfl⟩;go_wp2;go_ret;exact ⟨qd HR.out.symm,Jv⟩
def xN (r:QW):Bool:=
 inB r.lsn 1 1000000 && (qE r.bf && (qE r.af &&
  (if r.kind == 6 then ku r false false false false true && kZ r.lsn r.txs
   else inB r.tx 1 1000 && (inB r.prev 0 (r.lsn-1) &&
   (if r.kind == 1 then ku r true true true false false && inB r.oid 1 31
    else if r.kind == 4 then ku r true true false true false && (inB r.oid 1 31 && inB r.next 0 (r.lsn-1))
    else if r.kind == 2 then ku r true false false false false
    else if r.kind == 3 then ku r true false false false false
    else if r.kind == 5 then ku r true false false false false
    else false)))))
theorem Wu {x l m:Int} (h:inB x l m=true):l≤x∧x≤m:=by simpa [inB] using h
theorem fifteen {w:World} {B:Nat} {x0 x1 x2 x3 x4 x5 x6 x7 x8 x9 kJ xy xz xG xm:Value} {t:TypeId} (b:Box w B [x0,x1,x2,x3,x4,x5,x6,x7,x8,x9,kJ,xy,xz,xG,xm] t):
  w.cell? ⟨B,0,none⟩=some x0∧w.cell? ⟨B,1,none⟩=some x1∧w.cell? ⟨B,2,none⟩=some x2∧w.cell? ⟨B,3,none⟩=some x3∧w.cell? ⟨B,4,none⟩=some x4∧w.cell? ⟨B,5,none⟩=some x5∧w.cell? ⟨B,6,none⟩=some x6∧w.cell? ⟨B,7,none⟩=some x7∧w.cell? ⟨B,8,none⟩=some x8∧w.cell? ⟨B,9,none⟩=some x9∧w.cell? ⟨B,10,none⟩=some kJ∧w.cell? ⟨B,11,none⟩=some xy∧w.cell? ⟨B,12,none⟩=some xz∧w.cell? ⟨B,13,none⟩=some xG∧w.cell? ⟨B,14,none⟩=some xm:=
 ⟨b.cell 0 _ rfl,b.cell 1 _ rfl,b.cell 2 _ rfl,b.cell 3 _ rfl,b.cell 4 _ rfl,b.cell 5 _ rfl,b.cell 6 _ rfl,b.cell 7 _ rfl,b.cell 8 _ rfl,b.cell 9 _ rfl,b.cell 10 _ rfl,b.cell 11 _ rfl,b.cell 12 _ rfl,b.cell 13 _ rfl,b.cell 14 _ rfl⟩
theorem GZ (r:qg) (w:World) (hr:r.reads w) (hl:r.short 1099511627776):
  Calls Tryz.prog 250 #[.agg r.cells.toArray] w fun e w'=>e=.returned (.bool (xN r.v))∧Below w.heap.size w w':=by
 obtain ⟨W,hW,b0,hbW,qp⟩:=qx w r.cells 189;have HB:Hid (∀ u,Below w.heap.size w u→Calls _ _ _ _ _):=fun u hu=>ZG r.bf u (qQ.below hr.bf hu) (fun s hs=>by obtain rfl:=List.mem_singleton.1 hs;exact hl.bf)
 have HA:Hid (∀ u,Below w.heap.size w u→Calls _ _ _ _ _):=fun u hu=>ZG r.af u (qQ.below hr.af hu) (fun s hs=>by obtain rfl:=List.mem_singleton.1 hs;exact hl.af)
 have HC:Hid (∀ u,Below w.heap.size w u→Calls _ _ _ _ _):=fun u hu=>NZ r u (hr.below hu) hl
 have HS:Hid (∀ u,Below w.heap.size w u→Calls _ _ _ _ _):=fun u hu=>Ci r u (hr.below hu) hl
 have HK:Hid (∀ u,Below w.heap.size w u→Calls _ _ _ _ _):=fun u hu=>Dq r u (hr.below hu) hl
 have HE:Hid (∀ u,Below w.heap.size w u→Calls _ _ _ _ _):=fun u hu=>Cj r u (hr.below hu) hl
 have HL:Hid (∀ u,Below w.heap.size w u→1≤r.lsn∧r.lsn≤1000000→Calls _ _ _ _ _):=fun u hu hn=>Dr r u (hr.txs.below hu) hl.txs hn
 have HX:Hid (∀ u,Below W.heap.size W u→Box u w.heap.size r.cells 189):=fun u hu=>b0.below hu b0.lt
 have HZ:Hid (xN r.v=(inB r.lsn 1 1000000 && (qE r.bf.v && (qE r.af.v &&
  (if r.kind == 6 then ku r.v false false false false true && kZ r.lsn r.txs
   else inB r.tx 1 1000 && (inB r.prev 0 (r.lsn-1) &&
   (if r.kind == 1 then ku r.v true true true false false && inB r.oid 1 31
    else if r.kind == 4 then ku r.v true true false true false && (inB r.oid 1 31 && inB r.next 0 (r.lsn-1))
    else if r.kind == 2 then ku r.v true false false false false
    else if r.kind == 3 then ku r.v true false false false false
    else if r.kind == 5 then ku r.v true false false false false
    else false)))))) ):=rfl
 generalize xN r.v=R at*
 clear qp hr hl b0;simp only [qg.cells,qf.cells] at*
 go_enter Tryz.func250,Tryz.ntmps250;go_wp2_with fail;rw [hW.out];clear hW;obtain ⟨x0,x1,x2,x3,x4,x5,x6,x7,x8,x9,kJ,xy,xz,xG,xm⟩:=fifteen (HX.out W (Below.refl _ _));have BW:Below W.heap.size W W:=Below.refl _ _;refine (jd _ _ _ W).mono ?_;rintro e u ⟨rfl,hu⟩;rw [hu];clear hu u;cases h0:inB r.lsn 1 1000000 with
 | false=>
  have HR:Hid (R=false):=by rw [Hid,HZ.out];simp [h0]
  clear HZ;go_wp2;go_ret;exact ⟨qd HR.out.symm,hbW⟩
 | true=>
  have hn:=Wu h0;go_wp2_with fail;refine (HB.out W hbW).mono ?_;clear x0 x1 x2 x3 x4 x5 x6 x7 x8 x9 kJ xy xz xG xm;rintro e u1 ⟨rfl,hb_u1⟩;have b_u1:Below w.heap.size w u1:=(hbW).trans (hb_u1.mono (hbW).size);have l_u1:Below W.heap.size W u1:=(BW).trans (hb_u1.mono (BW).size);obtain ⟨x0,x1,x2,x3,x4,x5,x6,x7,x8,x9,kJ,xy,xz,xG,xm⟩:=fifteen (HX.out u1 l_u1);clear hb_u1;cases h1:qE r.bf.v with
  | false=>
   have HR:Hid (R=false):=by rw [Hid,HZ.out];simp [h0,h1]
   clear HZ;go_wp2;go_ret;exact ⟨qd HR.out.symm,b_u1⟩
  | true=>
   go_wp2_with fail;refine (HA.out u1 b_u1).mono ?_;clear x0 x1 x2 x3 x4 x5 x6 x7 x8 x9 kJ xy xz xG xm;rintro e u2 ⟨rfl,hb_u2⟩;have b_u2:Below w.heap.size w u2:=(b_u1).trans (hb_u2.mono (b_u1).size);have l_u2:Below W.heap.size W u2:=(l_u1).trans (hb_u2.mono (l_u1).size);obtain ⟨x0,x1,x2,x3,x4,x5,x6,x7,x8,x9,kJ,xy,xz,xG,xm⟩:=fifteen (HX.out u2 l_u2);clear hb_u2;cases h2:qE r.af.v with
   | false=>
    have HR:Hid (R=false):=by rw [Hid,HZ.out];simp [h0,h1,h2]
    clear HZ;go_wp2;go_ret;exact ⟨qd HR.out.symm,b_u2⟩
   | true=>
    cases QN:(r.kind == 6) with
    | true=>
     go_wp2_with fail;refine (HC.out u2 b_u2).mono ?_;clear x0 x1 x2 x3 x4 x5 x6 x7 x8 x9 kJ xy xz xG xm;rintro e u3 ⟨rfl,hb_u3⟩;have b_u3:Below w.heap.size w u3:=(b_u2).trans (hb_u3.mono (b_u2).size);have l_u3:Below W.heap.size W u3:=(l_u2).trans (hb_u3.mono (l_u2).size);obtain ⟨x0,x1,x2,x3,x4,x5,x6,x7,x8,x9,kJ,xy,xz,xG,xm⟩:=fifteen (HX.out u3 l_u3);clear hb_u3;cases h3:ku r.v false false false false true with
     | false=>
      have HR:Hid (R=false):=by rw [Hid,HZ.out];simp [h0,h1,h2,QN,h3]
      clear HZ;go_wp2;go_ret;exact ⟨qd HR.out.symm,b_u3⟩
     | true=>
      go_wp2_with fail;refine (HL.out u3 b_u3 hn).mono ?_;clear x0 x1 x2 x3 x4 x5 x6 x7 x8 x9 kJ xy xz xG xm;rintro e u4 ⟨rfl,hb_u4⟩;have LX:Below w.heap.size w u4:=(b_u3).trans (hb_u4.mono (b_u3).size);have qdU:Below W.heap.size W u4:=(l_u3).trans (hb_u4.mono (l_u3).size);obtain ⟨x0,x1,x2,x3,x4,x5,x6,x7,x8,x9,kJ,xy,xz,xG,xm⟩:=fifteen (HX.out u4 qdU);clear hb_u4;cases h4:kZ r.lsn r.txs with
      | false=>
       have HR:Hid (R=false):=by rw [Hid,HZ.out];simp [h0,h1,h2,QN,h3,h4]
       clear HZ;go_wp2;go_ret;exact ⟨qd HR.out.symm,LX⟩
      | true=>
       have HR:Hid (R=true):=by rw [Hid,HZ.out];simp [h0,h1,h2,QN,h3,h4]
       clear HZ;go_wp2;go_ret;exact ⟨qd HR.out.symm,LX⟩
    | false=>
     go_wp2_with fail;refine (jd _ _ _ u2).mono ?_;rintro e v ⟨rfl,hv⟩;rw [hv];clear hv v;cases h3:inB r.tx 1 1000 with
     | false=>
      have HR:Hid (R=false):=by rw [Hid,HZ.out];simp [h0,h1,h2,QN,h3]
      clear HZ;go_wp2;go_ret;exact ⟨qd HR.out.symm,b_u2⟩
     | true=>
      go_wp2_with fail;refine (jd _ _ _ u2).mono ?_;rintro e v ⟨rfl,hv⟩;rw [hv];clear hv v;cases h4:inB r.prev 0 (r.lsn-1) with
      | false=>
       have HR:Hid (R=false):=by rw [Hid,HZ.out];simp [h0,h1,h2,QN,h3,h4]
       clear HZ;go_wp2;go_ret;exact ⟨qd HR.out.symm,b_u2⟩
      | true=>
       cases hk1:(r.kind == 1) with
       | true=>
        go_wp2_with fail;refine (HS.out u2 b_u2).mono ?_;clear x0 x1 x2 x3 x4 x5 x6 x7 x8 x9 kJ xy xz xG xm;rintro e u3 ⟨rfl,hb_u3⟩;have b_u3:Below w.heap.size w u3:=(b_u2).trans (hb_u3.mono (b_u2).size);have l_u3:Below W.heap.size W u3:=(l_u2).trans (hb_u3.mono (l_u2).size);obtain ⟨x0,x1,x2,x3,x4,x5,x6,x7,x8,x9,kJ,xy,xz,xG,xm⟩:=fifteen (HX.out u3 l_u3);clear hb_u3;cases h5:ku r.v true true true false false with
        | false=>
         have HR:Hid (R=false):=by rw [Hid,HZ.out];simp [h0,h1,h2,QN,h3,h4,hk1,h5]
         clear HZ;go_wp2;go_ret;exact ⟨qd HR.out.symm,b_u3⟩
        | true=>
         go_wp2_with fail;refine (jd _ _ _ u3).mono ?_;rintro e v ⟨rfl,hv⟩;rw [hv];clear hv v;cases h6:inB r.oid 1 31 with
         | false=>
          have HR:Hid (R=false):=by rw [Hid,HZ.out];simp [h0,h1,h2,QN,h3,h4,hk1,h5,h6]
          clear HZ;go_wp2;go_ret;exact ⟨qd HR.out.symm,b_u3⟩
         | true=>
          have HR:Hid (R=true):=by rw [Hid,HZ.out];simp [h0,h1,h2,QN,h3,h4,hk1,h5,h6]
          clear HZ;go_wp2;go_ret;exact ⟨qd HR.out.symm,b_u3⟩
       | false=>
        cases hk4:(r.kind == 4) with
        | true=>
         go_wp2_with fail;refine (HK.out u2 b_u2).mono ?_;clear x0 x1 x2 x3 x4 x5 x6 x7 x8 x9 kJ xy xz xG xm;rintro e u3 ⟨rfl,hb_u3⟩;have b_u3:Below w.heap.size w u3:=(b_u2).trans (hb_u3.mono (b_u2).size);have l_u3:Below W.heap.size W u3:=(l_u2).trans (hb_u3.mono (l_u2).size);obtain ⟨x0,x1,x2,x3,x4,x5,x6,x7,x8,x9,kJ,xy,xz,xG,xm⟩:=fifteen (HX.out u3 l_u3);clear hb_u3;cases h5:ku r.v true true false true false with
         | false=>
          have HR:Hid (R=false):=by rw [Hid,HZ.out];simp [h0,h1,h2,QN,h3,h4,hk1,hk4,h5]
          clear HZ;go_wp2;go_ret;exact ⟨qd HR.out.symm,b_u3⟩
         | true=>
          go_wp2_with fail;refine (jd _ _ _ u3).mono ?_;rintro e v ⟨rfl,hv⟩;rw [hv];clear hv v;cases h6:inB r.oid 1 31 with
          | false=>
           have HR:Hid (R=false):=by rw [Hid,HZ.out];simp [h0,h1,h2,QN,h3,h4,hk1,hk4,h5,h6]
           clear HZ;go_wp2;go_ret;exact ⟨qd HR.out.symm,b_u3⟩
          | true=>
           go_wp2_with fail;refine (jd _ _ _ u3).mono ?_;rintro e v ⟨rfl,hv⟩;rw [hv];clear hv v;cases h7:inB r.next 0 (r.lsn-1) with
           | false=>
            have HR:Hid (R=false):=by rw [Hid,HZ.out];simp [h0,h1,h2,QN,h3,h4,hk1,hk4,h5,h6,h7]
            clear HZ;go_wp2;go_ret;exact ⟨qd HR.out.symm,b_u3⟩
           | true=>
            have HR:Hid (R=true):=by rw [Hid,HZ.out];simp [h0,h1,h2,QN,h3,h4,hk1,hk4,h5,h6,h7]
            clear HZ;go_wp2;go_ret;exact ⟨qd HR.out.symm,b_u3⟩
        | false=>
         cases hk2:(r.kind == 2) with
         | true=>
          go_wp2_with fail;refine (HE.out u2 b_u2).mono ?_;clear x0 x1 x2 x3 x4 x5 x6 x7 x8 x9 kJ xy xz xG xm;rintro e u3 ⟨rfl,hb_u3⟩;have b_u3:Below w.heap.size w u3:=(b_u2).trans (hb_u3.mono (b_u2).size);have l_u3:Below W.heap.size W u3:=(l_u2).trans (hb_u3.mono (l_u2).size);obtain ⟨x0,x1,x2,x3,x4,x5,x6,x7,x8,x9,kJ,xy,xz,xG,xm⟩:=fifteen (HX.out u3 l_u3);clear hb_u3;cases h5:ku r.v true false false false false with
          | false=>
           have HR:Hid (R=false):=by rw [Hid,HZ.out];simp [h0,h1,h2,QN,h3,h4,hk1,hk4,hk2,h5]
           clear HZ;go_wp2;go_ret;exact ⟨qd HR.out.symm,b_u3⟩
          | true=>
           have HR:Hid (R=true):=by rw [Hid,HZ.out];simp [h0,h1,h2,QN,h3,h4,hk1,hk4,hk2,h5]
           clear HZ;go_wp2;go_ret;exact ⟨qd HR.out.symm,b_u3⟩
         | false=>
          cases hk3:(r.kind == 3) with
          | true=>
           go_wp2_with fail;refine (HE.out u2 b_u2).mono ?_;clear x0 x1 x2 x3 x4 x5 x6 x7 x8 x9 kJ xy xz xG xm;rintro e u3 ⟨rfl,hb_u3⟩;have b_u3:Below w.heap.size w u3:=(b_u2).trans (hb_u3.mono (b_u2).size);have l_u3:Below W.heap.size W u3:=(l_u2).trans (hb_u3.mono (l_u2).size);obtain ⟨x0,x1,x2,x3,x4,x5,x6,x7,x8,x9,kJ,xy,xz,xG,xm⟩:=fifteen (HX.out u3 l_u3);clear hb_u3;cases h5:ku r.v true false false false false with
           | false=>
            have HR:Hid (R=false):=by rw [Hid,HZ.out];simp [h0,h1,h2,QN,h3,h4,hk1,hk4,hk2,hk3,h5]
            clear HZ;go_wp2;go_ret;exact ⟨qd HR.out.symm,b_u3⟩
           | true=>
            have HR:Hid (R=true):=by rw [Hid,HZ.out];simp [h0,h1,h2,QN,h3,h4,hk1,hk4,hk2,hk3,h5]
            clear HZ;go_wp2;go_ret;exact ⟨qd HR.out.symm,b_u3⟩
          | false=>
           cases hk5:(r.kind == 5) with
           | true=>
            go_wp2_with fail;refine (HE.out u2 b_u2).mono ?_;clear x0 x1 x2 x3 x4 x5 x6 x7 x8 x9 kJ xy xz xG xm;rintro e u3 ⟨rfl,hb_u3⟩;have b_u3:Below w.heap.size w u3:=(b_u2).trans (hb_u3.mono (b_u2).size);have l_u3:Below W.heap.size W u3:=(l_u2).trans (hb_u3.mono (l_u2).size);obtain ⟨x0,x1,x2,x3,x4,x5,x6,x7,x8,x9,kJ,xy,xz,xG,xm⟩:=fifteen (HX.out u3 l_u3);clear hb_u3;cases h5:ku r.v true false false false false with
            | false=>
             have HR:Hid (R=false):=by rw [Hid,HZ.out];simp [h0,h1,h2,QN,h3,h4,hk1,hk4,hk2,hk3,hk5,h5]
             clear HZ;go_wp2;go_ret;exact ⟨qd HR.out.symm,b_u3⟩
            | true=>
             have HR:Hid (R=true):=by rw [Hid,HZ.out];simp [h0,h1,h2,QN,h3,h4,hk1,hk4,hk2,hk3,hk5,h5]
             clear HZ;go_wp2;go_ret;exact ⟨qd HR.out.symm,b_u3⟩
           | false=>
            have HR:Hid (R=false):=by rw [Hid,HZ.out];simp [h0,h1,h2,QN,h3,h4,hk1,hk4,hk2,hk3,hk5]
            clear HZ;go_wp2;go_ret;exact ⟨qd HR.out.symm,b_u2⟩
end Go.Proofs.YtjkckhfddgeboaaGreatDoor
namespace Go.Proofs.YtjkckhfddgeboaaGreatDoor
open Go.RowKit
end Go.Proofs.YtjkckhfddgeboaaGreatDoor