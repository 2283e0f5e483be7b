/- Several texts in one, in their order. -/
import Derived.Test.YtfehemepdoomdaaPViewx5
import Derived.Deep.RegionLaw
import Derived.Deep.DrawnRows
import Derived.Test.YtfehemepdoomdaaPViewx4
import Derived.Test.YtfehemepdoomdaaPViewx3
import Derived.Test.YtfehemepdoomdaaPViewx1
import Derived.Test.YtfehemepdoomdaaPViewx2
import Derived.Deep.QuietTactic
import Derived.BigQuiet
import Derived.Deep.Cut
import Derived.Deep.CutRange
import Derived.Deep.LoopGhost
import Derived.Deep.MidRow
import Derived.Laws.Tables
import Derived.Deep.RegionHeld3
set_option maxHeartbeats 8000000
set_option maxRecDepth 100000
namespace Go.Proofs.Ytfehemepdoomdaa
open Go.ChangeShapes Go.WideShapes Go.ChangeAt Go.RowKit
structure InLog (w:World) (l:LogA):Prop where
 recs:ReadsRs w l.a l.recs
 each:∀ r∈l.recs,InRec w r
 len:l.recs.length≤maxLen
 num:InI64 l.sure
theorem InLog.short {w:World} {l:LogA} (h:InLog w l):l.short 9223372036854775807:=⟨by have:=h.len;simp only [maxLen] at this;omega,fun r hr=>(h.each r hr).short⟩
section
variable {H:Type} {enc:TypeId × Value→H} {w:World} {base:Nat} {spare:Nat→Bool} {held:Bool}
theorem Try.cellsRcs:Try.prog.cellsOf 34=1:=by kernel_rfl
theorem Try.cellsLg:Try.prog.cellsOf 36=2:=by kernel_rfl
theorem trod_recs {fuel:Nat} {cs:List Value} {x:DataW H × List MemPlace} (h:DataW.trod enc Try.prog w base spare held fuel 34 cs=some x):
  ∃ (a:Option Addr) (c:Nat) (rs:List RecA),cs=[.slice a rs.length c]∧ReadsRs w a rs∧(∀ r∈rs,InRec w r)∧rs.length≤maxLen:=by
 rcases DataW.trod_slice Try.underlying34 h with ⟨rfl,_⟩ | ⟨a,len,cap,elems,rest,n,_,rfl,_,_,hl,hm,hlen,hel,_,_⟩
 ·exact ⟨none,0,[],rfl,ReadsRs.nil _ _,fun r hr=>by simp at hr,by simp⟩
 rw [Try.cellsRc] at hel
 have each:∀ i,i<len→∃ t:RecA,w.cells? base (a.add (i*15)) 15=some t.cells∧InRec w t:=by
  intro i hi
  have hy:=hel i hi
  rw [List.getElem?_eq_getElem (by omega:i<elems.length),Option.bind_eq_some_iff] at hy
  obtain ⟨cs',hcs,hy'⟩:=hy
  obtain ⟨t,e,ht⟩:=trod_rec hy'
  exact ⟨t,by rw [hcs,e],ht⟩
 obtain ⟨f,hf⟩:∃ f:Nat→RecA,∀ i,i<len→w.cells? base (a.add (i*15)) 15=some (f i).cells∧InRec w (f i):=by
  refine ⟨fun i=>if h:i<len then (each i h).choose else zeroR,fun i hi=>?_⟩
  simp only [dif_pos hi]
  exact (each i hi).choose_spec
 refine ⟨some a,cap,(List.range len).map f,by simp,?_,?_,by simp;omega⟩
 ·intro hne
  have hpos:=List.length_pos_iff.2 hne
  simp only [List.length_map,List.length_range] at hpos ⊢
  obtain ⟨b,off,spot⟩:=a
  have c0:=(World.cells?_some (hf 0 hpos).1).2.2 0 (by decide)
  have hspot:spot=none:=by simpa [Addr.add] using World.cell?_spot c0
  subst hspot
  refine ⟨b,off,rfl,fun k hk=>?_⟩
  have e:((List.range len).map f).getD k zeroR=f k:=by simp [List.getD,hk]
  rw [e]
  have hc:=(World.cells?_some (hf k hk).1).2.2
  refine ⟨fun j v hv=>?_,(hf k hk).2.reads⟩
  have hj:j<15:=by have:=(List.getElem?_eq_some_iff.1 hv).1;rwa [cellsR_len] at this
  have d:=hc j (by simpa using hj)
  simp only [Addr_add] at d
  rw [d,hv]
 ·intro r hr
  obtain ⟨k,hk,rfl⟩:=List.mem_map.1 hr
  exact (hf k (List.mem_range.1 hk)).2
theorem trod_log {fuel:Nat} {cs:List Value} {x:DataW H × List MemPlace} (h:DataW.trod enc Try.prog w base spare held fuel 36 cs=some x):
  ∃ l:LogA,cs=l.cells∧InLog w l:=by
 obtain ⟨xs,n,_,_,hlen,hxl,hf⟩:=DataW.trod_struct Try.underlying36 h
 rw [Try.cellsLg] at hlen
 match cs,hlen with
 | [v0,v1],_=>
  have f0:=hf 0 _ rfl
  have f1:=hf 1 _ rfl
  obtain ⟨y0,hx0⟩:=some_at xs 0 (by rw [hxl];decide)
  rw [hx0] at f0
  obtain ⟨y1,hx1⟩:=some_at xs 1 (by rw [hxl];decide)
  rw [hx1] at f1
  simp only [List.getElem_toArray,List.getElem_cons_zero,List.getElem_cons_succ,Try.cellsI,Try.cellsRcs,List.drop,List.take] at f0 f1
  obtain ⟨a,c,rs,e0,h0,h1,h2⟩:=trod_recs f0
  obtain ⟨m,e1,w1⟩:=trod_num f1
  simp only [List.cons.injEq,and_true] at e0 e1
  subst e0 e1
  exact ⟨⟨rs,m,a,c⟩,rfl,h0,h1,h2,w1⟩
theorem open_log {b0:Nat} {v:Value} {d:DataW H} {ps:List MemPlace} (hval:Value.okWide Try.prog w .any b0 36 v) (h:DataW.Trod enc Try.prog w base spare held 36 v d ps):
  ∃ l:LogA,v=.agg l.cells.toArray∧InLog w l:=by
 obtain ⟨cs,rfl,hcs⟩:=okWide_struct Try.underlying36 hval
 obtain ⟨fuel,hf⟩:=h
 have e:(Value.agg cs).cells.toList=cs.toList:=rfl
 rw [e] at hf
 obtain ⟨r,hc,rest⟩:=trod_log hf
 refine ⟨r,?_,rest⟩
 congr 1
 apply Array.toList_inj.1
 rw [hc]
end
end Go.Proofs.Ytfehemepdoomdaa
namespace Go.Proofs.Ytfehemepdoomdaa
open Go.RowKit
theorem LogA.reads.below {w w':World} {l:LogA} (h:l.reads w) (hb:Below w.heap.size w w'):l.reads w':=ReadsRs.below h hb
theorem LogA.own.below {w w':World} {lo hi:Nat} {l:LogA} (h:l.own w lo hi) (hb:Below w.heap.size w w'):l.own w' lo hi:=OwnRs.below h hb
theorem LogA.own.within {w w':World} {lo hi a b:Nat} {l:LogA} (h:l.own w lo hi) (hw:Within a b w w') (hd:hi≤a∨b≤lo):l.own w' lo hi:=OwnRs.within h hw hd
theorem LogA.own.widen {w:World} {lo hi lo' hi':Nat} {l:LogA} (h:l.own w lo hi) (h1:lo'≤lo) (h2:hi≤hi') (h3:hi'≤w.heap.size):l.own w lo' hi':=OwnRs.widen h h1 h2 h3
def LogA.blocks (l:LogA):List Nat:=blocksRs l.a l.c l.recs
theorem LogA.own.blocks_lt {w:World} {lo hi:Nat} {l:LogA} (h:l.own w lo hi):∀ k∈l.blocks,lo≤k∧k<hi:=OwnRs.blocks_lt h
theorem LogA.own.touch {w w':World} {lo hi:Nat} {l:LogA} {bl:List Nat} (h:l.own w lo hi) (ht:Touch bl w w') (hd:∀ k∈l.blocks,k∉bl):l.own w' lo hi:=OwnRs.touch h ht hd
theorem oneLog (l:LogA):∀ v∈l.cells,v.oneCell'=true:=by
 intro v hv
 simp only [LogA.cells,List.mem_cons,List.not_mem_nil,or_false] at hv
 rcases hv with rfl | rfl<;>rfl
theorem InLog.reads {w:World} {l:LogA} (h:InLog w l):l.reads w:=h.recs
theorem log_one (q:LogA):q.cells.toArray.all (·.oneCell')=true:=all_oneCell_toArray (oneLog q)
theorem log_info (q:LogA):(Try.prog.info? 56).map (·.size)=some q.cells.length:=by show _=some 2;kernel_rfl
end Go.Proofs.Ytfehemepdoomdaa
namespace Go.Proofs.Ytfehemepdoomdaa
open Go.RowKit
attribute [local go_sem ↓] Go.wp_at_zero Go.wp_at_succ
end Go.Proofs.Ytfehemepdoomdaa
namespace Go.Proofs.Ytfehemepdoomdaa
open Go.RowKit
theorem cellsSts_mid (A B:List SeatA) (z z':SeatA) (i:Nat) (v:Value) (hi:i<20) (hc:z'.cells=z.cells.set i v):(cellsSts (A++z::B)).set (A.length*20+i) v=cellsSts (A++z'::B):=by
 rw [cellsSts_app,cellsSts_cons,cellsSts_app,cellsSts_cons,List.set_append_right _ _ (by rw [cellsSts_len];omega),cellsSts_len,show A.length*20+i-A.length*20=i by omega,List.set_append_left _ _ (by rw [cellsSt_len];omega),hc]
theorem OwnSts.cellSet {w:World} {lo hi g c:Nat} {A B:List SeatA} {z z':SeatA} (h:OwnSts w lo hi (some ⟨g,0,none⟩) c (A++z::B)) (i:Nat) (v:Value) (hi':i<20) (hc:z'.cells=z.cells.set i v) (hss:z'.ss=z.ss):
  OwnSts (w.setCell ⟨g,A.length*20+i,none⟩ v) lo hi (some ⟨g,0,none⟩) c (A++z'::B)∧Touch [g] w (w.setCell ⟨g,A.length*20+i,none⟩ v):=by
 have hrow:=h.row
 obtain ⟨h1,h2⟩:=hrow.stored (A.length*20+i) v
 have ht:Touch [g] w (w.setCell ⟨g,A.length*20+i,none⟩ v):=Touch.of_grown h2 (fun k hk=>by cases hk;simp)
 have hbl:z'.blocks=z.blocks:=by unfold SeatA.blocks;rw [hss]
 have hap:=h.apart
 have hng:∀ r∈A++z::B,g∉r.blocks:=fun r hr hk=>by
  have:=(List.nodup_append.1 hap).2.2 g (by simp [Value.ownBlock]) g (List.mem_flatMap.2 ⟨r,hr,hk⟩)
  exact this rfl
 have hlen:(A++z'::B).length=(A++z::B).length:=by simp
 have hz:z'.own w lo hi:=by
  have:=h.each z (by simp)
  unfold SeatA.own at this ⊢
  rwa [hss]
 refine ⟨⟨?_,?_,?_,fun r hr=>?_,?_⟩,ht⟩
 ·rw [hlen,← cellsSts_mid A B z z' i v hi' hc]
  exact h1
 ·simpa using h.top
 ·rw [hlen];exact h.blk
 ·rcases List.mem_append.1 hr with hr | hr
  ·exact (h.each r (by simp [hr])).touch ht (fun k hk hk'=>hng r (by simp [hr]) (by rw [← List.mem_singleton.1 hk'];exact hk))
  ·rcases List.mem_cons.1 hr with rfl | hr
   ·exact hz.touch ht (fun k hk hk'=>hng z (by simp) (by rw [← hbl,← List.mem_singleton.1 hk'];exact hk))
   ·exact (h.each r (by simp [hr])).touch ht (fun k hk hk'=>hng r (by simp [hr]) (by rw [← List.mem_singleton.1 hk'];exact hk))
 ·rw [hlen]
  simpa [hbl] using hap
theorem nodup_part {A P P' C:List Nat} {n:Nat} (h:(A++(P++C)).Nodup) (hP:P'.Nodup) (hf:∀ k∈P',k∈P∨n≤k) (hA:∀ k∈A,k<n) (hC:∀ k∈C,k<n):(A++(P'++C)).Nodup:=by
 simp only [List.nodup_append,List.mem_append] at h ⊢
 obtain ⟨h1,⟨_,h3,h4⟩,h5⟩:=h
 refine ⟨h1,⟨hP,h3,fun a ha b hb e=>?_⟩,fun a ha b hb e=>?_⟩
 ·rcases hf a ha with h | h
  ·exact h4 a h b hb e
  ·have:=hC b hb;omega
 ·rcases hb with hb | hb
  ·rcases hf b hb with h | h
   ·exact h5 a ha b (.inl h) e
   ·have:=hA a ha;omega
  ·exact h5 a ha b (.inr hb) e
abbrev TE:TypeId:=60
structure EngAtG (f:EngA→List Value) (T:TypeId) (w:World) (E:Nat) (e:EngA):Prop where
 box:Box w E (f e) T
 shape:e.shape
 own:e.own w 0 w.heap.size
 off:E∉e.blocks
theorem EngAtG.lt {f:EngA→List Value} {T:TypeId} {w:World} {E:Nat} {e:EngA} (h:EngAtG f T w E e):∀ k∈e.blocks,k<w.heap.size:=fun k hk=>(h.own.blocks_lt k hk).2
theorem EngAtG.touch {f:EngA→List Value} {T:TypeId} {w w':World} {E:Nat} {e:EngA} {bl:List Nat} (h:EngAtG f T w E e) (ht:Touch bl w w') (hE:E∉bl) (hd:∀ k∈e.blocks,k∉bl):EngAtG f T w' E e:=
 ⟨h.box.touch ht hE,h.shape,(h.own.touch ht hd).widen (Nat.le_refl _) ht.size (Nat.le_refl _),h.off⟩
def Off (E:Nat) (e:EngA) (B:Nat):Prop:=B≠E∧B∉e.blocks
theorem EngAtG.new {f:EngA→List Value} {T:TypeId} {w:World} {E B:Nat} {e:EngA} (h:EngAtG f T w E e) (hB:w.heap.size≤B):Off E e B:=
 ⟨by have:=h.box.lt;omega,fun hk=>by have:=h.lt B hk;omega⟩
structure EngStepG (f:EngA→List Value) (T:TypeId) (E:Nat) (e:EngA) (w:World) (e':EngA) (w':World):Prop where
 at':EngAtG f T w' E e'
 touch:Touch (E::e.blocks) w w'
 fresh:∀ k∈e'.blocks,k∈e.blocks∨w.heap.size≤k
theorem EngStepG.size {f:EngA→List Value} {T:TypeId} {E:Nat} {e e':EngA} {w w':World} (s:EngStepG f T E e w e' w'):w.heap.size≤w'.heap.size:=s.touch.size
theorem EngStepG.off {f:EngA→List Value} {T:TypeId} {E B:Nat} {e e':EngA} {w w':World} (s:EngStepG f T E e w e' w') (hB:B<w.heap.size) (ho:Off E e B):Off E e' B:=
 ⟨ho.1,fun hk=>(s.fresh B hk).elim ho.2 (fun h=>by omega)⟩
theorem EngStepG.block {f:EngA→List Value} {T:TypeId} {E B:Nat} {e e':EngA} {w w':World} (s:EngStepG f T E e w e' w') (hB:B<w.heap.size) (ho:Off E e B):w'.heap[B]? =w.heap[B]? :=
 s.touch.block B hB (fun h=>(List.mem_cons.1 h).elim ho.1 ho.2)
theorem EngA.mem_disk {e:EngA} {k:Nat} (h:k∈e.diskBl):k∈e.blocks:=by simp only [EngA.blocks,List.mem_append];exact .inl h
theorem EngA.mem_pool {e:EngA} {k:Nat} (h:k∈blocksSts e.aS e.cS e.seats):k∈e.blocks:=by simp only [EngA.blocks,List.mem_append];exact .inr (.inl h)
theorem EngA.mem_log {e:EngA} {k:Nat} (h:k∈blocksRs e.log.a e.log.c e.log.recs):k∈e.blocks:=by simp only [EngA.blocks,List.mem_append];exact .inr (.inr (.inl h))
theorem EngA.mem_txs {e:EngA} {k:Nat} (h:k∈rowOf e.aT e.txs.length e.cT):k∈e.blocks:=by simp only [EngA.blocks,List.mem_append];exact .inr (.inr (.inr (.inl h)))
theorem EngA.mem_holds {e:EngA} {k:Nat} (h:k∈rowOf e.aH e.holds.length e.cH):k∈e.blocks:=by simp only [EngA.blocks,List.mem_append];exact .inr (.inr (.inr (.inr h)))
structure EngA.apartAll (e:EngA):Prop where
 dp:∀ k∈e.diskBl,k∉blocksSts e.aS e.cS e.seats
 dl:∀ k∈e.diskBl,k∉blocksRs e.log.a e.log.c e.log.recs
 dt:∀ k∈e.diskBl,k∉rowOf e.aT e.txs.length e.cT
 dh:∀ k∈e.diskBl,k∉rowOf e.aH e.holds.length e.cH
 pl:∀ k∈blocksSts e.aS e.cS e.seats,k∉blocksRs e.log.a e.log.c e.log.recs
 pt:∀ k∈blocksSts e.aS e.cS e.seats,k∉rowOf e.aT e.txs.length e.cT
 ph:∀ k∈blocksSts e.aS e.cS e.seats,k∉rowOf e.aH e.holds.length e.cH
 lt:∀ k∈blocksRs e.log.a e.log.c e.log.recs,k∉rowOf e.aT e.txs.length e.cT
 lh:∀ k∈blocksRs e.log.a e.log.c e.log.recs,k∉rowOf e.aH e.holds.length e.cH
 th:∀ k∈rowOf e.aT e.txs.length e.cT,k∉rowOf e.aH e.holds.length e.cH
theorem EngA.apart_of {e:EngA} (h:e.blocks.Nodup):e.apartAll:=by
 simp only [EngA.blocks,List.nodup_append,List.mem_append] at h
 obtain ⟨_,⟨_,⟨_,⟨_,_,h4⟩,h3⟩,h2⟩,h1⟩:=h
 exact ⟨fun k a b=>h1 k a k (.inl b) rfl,fun k a b=>h1 k a k (.inr (.inl b)) rfl,fun k a b=>h1 k a k (.inr (.inr (.inl b))) rfl,fun k a b=>h1 k a k (.inr (.inr (.inr b))) rfl,fun k a b=>h2 k a k (.inl b) rfl,fun k a b=>h2 k a k (.inr (.inl b)) rfl,fun k a b=>h2 k a k (.inr (.inr b)) rfl,fun k a b=>h3 k a k (.inl b) rfl,fun k a b=>h3 k a k (.inr b) rfl,fun k a b=>h4 k a k b rfl⟩
theorem EngAtG.apart {f:EngA→List Value} {T:TypeId} {w:World} {E:Nat} {e:EngA} (h:EngAtG f T w E e):e.apartAll:=EngA.apart_of h.own.apart
theorem not_part {E k:Nat} {P:List Nat} (h1:k≠E) (h2:k∉P):k∉E::P:=fun h=>(List.mem_cons.1 h).elim h1 h2
def EngA.withPool (e:EngA) (ss:List SeatA) (a:Option Addr) (c:Nat) (hand:Int):EngA:={ e with seats:=ss,aS:=a,cS:=c,hand:=hand }
theorem EngAtG.pool {f:EngA→List Value} {T:TypeId} {w w':World} {E:Nat} {e:EngA} (h:EngAtG f T w E e) (ss:List SeatA) (a:Option Addr) (c:Nat) (hand:Int) (bx:Box w' E (f (e.withPool ss a c hand)) T) (ho:OwnSts w' 0 w'.heap.size a c ss)
  (ht:Touch (E::blocksSts e.aS e.cS e.seats) w w') (hf:∀ k∈blocksSts a c ss,k∈blocksSts e.aS e.cS e.seats∨w.heap.size≤k):EngStepG f T E e w (e.withPool ss a c hand) w':=by
 have ap:=h.apart
 have hE:∀ k∈e.blocks,k≠E:=fun k hk he=>h.off (he▸hk)
 have W:∀ {lo hi:Nat},hi≤w.heap.size→hi≤w'.heap.size:=fun hh=>Nat.le_trans hh ht.size
 refine ⟨⟨bx,⟨h.shape.eight,h.shape.four⟩,⟨?_,ho,?_,?_,?_,?_⟩,?_⟩,?_,?_⟩
 ·exact (h.own.disk.touch ht (fun k hk=>not_part (hE k (EngA.mem_disk hk)) (ap.dp k hk))).widen (Nat.le_refl _) ht.size (Nat.le_refl _)
 ·exact (h.own.log.touch ht (fun k hk=>not_part (hE k (EngA.mem_log hk)) (fun hp=>ap.pl k hp hk))).widen (Nat.le_refl _) ht.size (Nat.le_refl _)
 ·exact (h.own.txs.touch ht (fun k hk=>not_part (hE k (EngA.mem_txs (Option.mem_toList.2 hk))) (fun hp=>ap.pt k hp (Option.mem_toList.2 hk)))).widen (Nat.le_refl _) ht.size (Nat.le_refl _)
 ·exact (h.own.holds.touch ht (fun k hk=>not_part (hE k (EngA.mem_holds (Option.mem_toList.2 hk))) (fun hp=>ap.ph k hp (Option.mem_toList.2 hk)))).widen (Nat.le_refl _) ht.size (Nat.le_refl _)
 ·exact nodup_part h.own.apart ho.apart hf (fun k hk=>h.lt k (EngA.mem_disk hk)) (fun k hk=>h.lt k (by simp only [EngA.blocks,List.mem_append] at hk ⊢;exact .inr (.inr hk)))
 ·intro hk
  simp only [EngA.blocks,EngA.withPool,List.mem_append] at hk
  have hlt:=h.box.lt
  have hoff:=h.off
  simp only [EngA.blocks,List.mem_append] at hoff
  rcases hk with hk | hk | hk
  ·exact hoff (.inl hk)
  ·rcases hf E hk with hk | hk
   ·exact hoff (.inr (.inl hk))
   ·omega
  ·exact hoff (.inr (.inr hk))
 ·exact ht.mono (fun k hk=>(List.mem_cons.1 hk).elim (fun h=>by simp [h]) (fun h=>List.mem_cons_of_mem _ (EngA.mem_pool h)))
 ·intro k hk
  simp only [EngA.blocks,EngA.withPool,List.mem_append] at hk ⊢
  rcases hk with hk | hk | hk
  ·exact .inl (.inl hk)
  ·rcases hf k hk with h | h
   ·exact .inl (.inr (.inl h))
   ·exact .inr h
  ·exact .inl (.inr (.inr hk))
def zeroStV:SeatV:=zeroSt.v
theorem seat_one (q:SeatA):q.cells.toArray.all (·.oneCell')=true:=all_oneCell_toArray (oneSt q)
theorem seat_info (q:SeatA):(Try.prog.info? 98).map (·.size)=some q.cells.length:=by show _=some 20;kernel_rfl
theorem seat_load {w:World} {C:Nat} (q:SeatA) (b:Box w C q.cells 98):(loadVar 98 ⟨C,0,none⟩).run Try.prog w=.ok (.agg q.cells.toArray) w:=
 run_loadVar_mid (P:=Try.prog) w C 0 98 q.cells _ (Box.range [] q.cells [] (by simpa using b)) Try.underlying98 rfl (seat_info q)
theorem seat_out {w:World} {C:Nat} (q:SeatA) (old:List Value) (ho:old.length=20) (bC:Box w C old 98):
  ∃ WF,Hid (w.setCells C 0 q.cells=WF)∧Within C (C+1) w WF∧WF.heap.size=w.heap.size∧Hid (w.there C 0 q.cells.toArray.size)∧Hid ((loadVar 98 ⟨C,0,none⟩).run Try.prog WF=.ok (.agg q.cells.toArray) WF)∧Box WF C q.cells 98:=by
 obtain ⟨WF,hWF,bF,hwF,hsF⟩:=range_fill [] old q.cells [] (by simpa using bC) (by rw [ho];rfl)
 have bF':Box WF C q.cells 98:=by simpa using bF
 exact ⟨WF,hWF,hwF,hsF,bC.there 0 _ (by rw [ho];show 0+20≤20;decide),seat_load q bF',bF'⟩
theorem Try.infoPg (p:PageA) (h:p.ss.length=4):(Try.prog.info? 49).map (·.size)=some p.cells.length:=by rw [page_len p h];kernel_rfl
theorem Try.infoLPg (p:PageA) (h:p.ss.length=4):(Try.prog.info? 29).map (·.size)=some p.cells.length:=by rw [page_len p h];kernel_rfl
theorem page_one (p:PageA):p.cells.toArray.all (·.oneCell')=true:=all_oneCell_toArray (oneP p)
theorem seat_page {w:World} {B:Nat} {t:TypeId} (s:SeatA) (b:Box w B s.cells t):w.rangeAt B 1 s.page.cells:=by
 rw [SeatA.cells_page] at b
 exact Box.range [.int .i64 s.no] s.page.cells [.bool s.dirty,.bool s.hot] b
theorem seat_fill {w:World} {B:Nat} {t:TypeId} (s:SeatA) (b:Box w B s.cells t) (lsn:Int) (a b' c d:SlotA):
  ∃ W,Hid (w.setCells B 1 (PageA.cells ⟨lsn,[a,b',c,d]⟩)=W)∧Box W B (SeatA.cells ⟨s.no,lsn,a,b',c,d,s.dirty,s.hot⟩) t∧Within B (B+1) w W∧W.heap.size=w.heap.size∧w.there B 1 (PageA.cells ⟨lsn,[a,b',c,d]⟩).toArray.size:=by
 have hth:w.there B 1 (PageA.cells ⟨lsn,[a,b',c,d]⟩).toArray.size:=b.there 1 _ (by rw [List.size_toArray];show 1+17≤20;decide)
 rw [SeatA.cells_page] at b
 obtain ⟨W,hW,bW,hw,hs⟩:=range_fill [.int .i64 s.no] s.page.cells (PageA.cells ⟨lsn,[a,b',c,d]⟩) [.bool s.dirty,.bool s.hot] b rfl
 refine ⟨W,hW,?_,hw,hs,hth⟩
 rw [SeatA.cells_page]
 exact bW
theorem toSeat_any (s:SeatA) (w:World) (hr:s.reads w) (hl:s.short 1048576):
  Calls Try.prog 66 #[.agg s.cells.toArray] w fun e w'=>∃ t:SeatA,e=.returned (.agg t.cells.toArray)∧Hid (t.v=s.v)∧t.own w' w.heap.size w'.heap.size∧Below w.heap.size w w':=by
 obtain ⟨V,hV,a0,a1,a2,hbV,hsV⟩:=boxes3 w s.cells [.int .i64 0,.int .i64 0,.bool false,.int .i64 0,.slice none 0 0,.slice none 0 0,.bool false,.int .i64 0,.slice none 0 0,.slice none 0 0,.bool false,.int .i64 0,.slice none 0 0,.slice none 0 0,.bool false,.int .i64 0,.slice none 0 0,.slice none 0 0,.bool false,.bool false] [.int .i64 0,.int .i64 0,.bool false,.int .i64 0,.slice none 0 0,.slice none 0 0,.bool false,.int .i64 0,.slice none 0 0,.slice none 0 0,.bool false,.int .i64 0,.slice none 0 0,.slice none 0 0,.bool false,.int .i64 0,.slice none 0 0,.slice none 0 0,.bool false,.bool false] 123 98 98
 have hs0V:w.heap.size+1+1<V.heap.size:=by omega
 have b1V:Box V (w.heap.size+1) zeroSt.cells 98:=a1
 obtain ⟨W,hW,b2',hwW,hsW⟩:=box_set a2 0 (.int .i64 s.no)
 have b0:=a0.within hwW (by omega)
 have b1':=b1V.within hwW (by omega)
 have hbW:Below w.heap.size w W:=hbV.trans (hwW.below (by omega) (by omega))
 have hs0:w.heap.size+1+1<W.heap.size:=by omega
 have b2':Box W (w.heap.size+1+1) (SeatA.cells { zeroSt with no:=s.no }) 98:=b2'
 have hc0:V.cell? ⟨w.heap.size,0,none⟩=some (.int .i64 s.no):=a0.cell 0 _ rfl
 have hx0:=a2.cell 0 _ rfl
 have hf0:=a2.frozen 0
 have hrg0:W.rangeAt w.heap.size 1 s.page.cells:=seat_page s b0
 have HL:=Try.infoLPg s.page rfl
 have C:=toPage_own s.page rfl W (hr.below hbW) (wide_of hl)
 clear hsV hsW hwW b1V a0 a1 a2 hbV hs0V
 go_enter Try.func66,Try.ntmps66
 go_upto_region 2 with fail
 rw [hV.out]
 clear hV
 go_wp2_with (first | (guard_target=wpList _ _ _ (Oper.mk (some 8) _ _ _ _ _::_) _ _;rw [hW.out];refine wpList_load_mid rfl 29 (.tmp 7) rfl w.heap.size 1 rfl s.page.cells _ hrg0 Try.underlying29 rfl HL ?_) | fail)
 clear hW hrg0 hc0 HL hx0 hf0
 refine C.mono ?_
 clear C
 rintro e w1 ⟨ts,rfl,hv,ho,hb1⟩
 obtain ⟨y0,y1,y2,y3,rfl⟩:=four_slots' (ts:=ts) (by have:=congrArg List.length hv.out;simpa [SeatA.page,SeatA.ss] using this)
 have hs1:=hb1.size
 have b01:=b0.below hb1 b0.lt
 have b11:=b1'.below hb1 b1'.lt
 have b21:=b2'.below hb1 b2'.lt
 obtain ⟨W2,hW2,b22,hw2,hs2,hth2⟩:=seat_fill _ b21 s.page.lsn y0 y1 y2 y3
 obtain ⟨W3,hW3,b33,hw3,hs3⟩:=box_set b22 18 (.bool s.dirty)
 obtain ⟨W4,hW4,b44,hw4,hs4⟩:=box_set b33 19 (.bool s.hot)
 obtain ⟨q,hq⟩:∃ q:SeatA,Hid ((⟨s.no,s.page.lsn,y0,y1,y2,y3,s.dirty,s.hot⟩:SeatA)=q):=⟨_,rfl⟩
 have b4q:Box W4 (w.heap.size+1+1) q.cells 98:=by rw [← hq.out];exact b44
 have b02:=b01.within hw2 (by omega)
 have b14:=((b11.within hw2 (by omega)).within hw3 (by omega)).within hw4 (by omega)
 obtain ⟨WF,hWF,hwF,hsF,HTF,HLF,bF⟩:=seat_out q _ rfl b14
 have d18:W2.cell? ⟨w.heap.size,18,none⟩=some (.bool s.dirty):=b02.cell 18 _ rfl
 have d19:W2.cell? ⟨w.heap.size,19,none⟩=some (.bool s.hot):=b02.cell 19 _ rfl
 have x18:=b22.cell 18 _ rfl
 have x19:=b22.cell 19 _ rfl
 have f18:=b22.frozen 18
 have f19:=b22.frozen 19
 have r4:W4.rangeAt (w.heap.size+1+1) 0 q.cells:=Box.range [] q.cells [] (by simpa using b4q)
 have oq:q.own w1 W.heap.size w1.heap.size:=by rw [← hq.out];exact ho
 have HV:Hid (q.v=s.v):=by rw [Hid,← hq.out];simp only [SeatA.v,SeatA.ss];rw [show List.map (fun x:SlotA=>x.v) [y0,y1,y2,y3]=s.page.ss.map (·.v) from hv.out];rfl
 have HFIN:Hid (q.own WF w.heap.size WF.heap.size∧Below w.heap.size w WF):=⟨((((oq.within hw2 (.inr (by omega))).within hw3 (.inr (by omega))).within hw4 (.inr (by omega))).within hwF (.inr (by omega))).widen (by omega) (by omega) (Nat.le_refl _),((((hbW.trans (hb1.mono (by omega))).trans (hw2.below (by omega) (by omega))).trans (hw3.below (by omega) (by omega))).trans (hw4.below (by omega) (by omega))).trans (hwF.below (by omega) (by omega))⟩
 have H34:Hid ((W2.setCell ⟨w.heap.size+1+1,18,none⟩ (.bool s.dirty)).setCell ⟨w.heap.size+1+1,19,none⟩ (.bool s.hot)=W4):=by rw [Hid,hW3.out,hW4.out]
 have HI1:=Try.infoPg ⟨s.page.lsn,[y0,y1,y2,y3]⟩ rfl
 have HO1:=page_one ⟨s.page.lsn,[y0,y1,y2,y3]⟩
 have HI2:=seat_info q
 have HO2:=seat_one q
 have HW2:Hid (w1.setCells (w.heap.size+1+1) 1 (PageA.cells ⟨s.page.lsn,[y0,y1,y2,y3]⟩).toArray.toList=W2):=hW2.out
 have HWF:Hid (W4.setCells (w.heap.size+1) 0 q.cells.toArray.toList=WF):=hWF.out
 have HTF':W4.there (w.heap.size+1) 0 q.cells.toArray.size:=HTF.out
 clear hW2 hW3 hW4 hWF HTF hq hs1 hs2 hs3 hs4 hsF hw2 hw3 hw4 hwF b01 b11 b21 b22 b33 b44 b4q b02 b14 bF oq ho hv hb1 b0 b1' b2' hbW
 generalize PageA.cells ⟨s.page.lsn,[y0,y1,y2,y3]⟩=pc at*
 go_wp2_with (first | (guard_target=wpList _ _ _ (Oper.mk none (Op.store _ (Operand.tmp 10) _) _ _ _ _::_) _ _;refine wpList_store_mid rfl 49 (.tmp 10) (.tmp 9) rfl (w.heap.size+1+1) 1 pc.toArray rfl rfl hth2 (by rw [List.size_toArray];exact HI1) HO1 ?_;rw [HW2.out]) | (guard_target=wpList _ _ _ (Oper.mk (some 17) _ _ _ _ _::_) _ _;rw [H34.out];refine wpList_load_mid rfl 98 (.tmp 3) rfl (w.heap.size+1+1) 0 rfl q.cells _ r4 Try.underlying98 rfl HI2 ?_) | (guard_target=wpList _ _ _ (Oper.mk none (Op.store _ (Operand.tmp 2) _) _ _ _ _::_) _ _;refine wpList_store_mid rfl 98 (.tmp 2) (.tmp 17) rfl (w.heap.size+1) 0 q.cells.toArray rfl rfl HTF' (by rw [List.size_toArray];exact HI2) HO2 ?_;rw [HWF.out]) | fail)
 exact bodyPost_ret (v:=.agg q.cells.toArray) (results_one Try.results66 rfl HLF.out) rfl ⟨q,rfl,HV,HFIN.out.1,HFIN.out.2⟩
theorem szSeat_any (s:SeatA) (left:Int) (w:World) (hn:s.short 9223372036854775807) (h0:0≤left∧left≤1048576):
  Calls Try.prog 63 #[.agg s.cells.toArray,.int .i64 left] w fun e w'=>∃ z,e=.returned (.int .i64 z)∧(z<0∨(0≤z∧z≤left∧s.short 1048576))∧Below w.heap.size w w':=by
 obtain ⟨W,hW,b0,hbW,hsW⟩:=boxes1 w s.cells 123
 have hrg0:W.rangeAt w.heap.size 1 s.page.cells:=seat_page s b0
 have HL:=Try.infoLPg s.page rfl
 have C:=szPage_any s.page rfl left W hn h0
 clear hsW b0
 go_enter Try.func63,Try.ntmps63
 go_wp2_with (first | (guard_target=wpList _ _ _ (Oper.mk (some 6) _ _ _ _ _::_) _ _;refine wpList_load_mid rfl 29 (.tmp 5) rfl w.heap.size 1 rfl s.page.cells _ (by rw [hW.out];exact hrg0) Try.underlying29 rfl HL ?_) | fail)
 rw [hW.out]
 clear hW hrg0 HL
 refine C.mono ?_
 clear C
 rintro e w1 ⟨z,rfl,hz,hb1⟩
 have HZ:Hid (z<0∨(0≤z∧z≤left∧s.short 1048576)):=hz
 clear hz
 by_cases hneg:z<0
 ·go_wp2
  go_ret
  exact ⟨-1,rfl,.inl (by omega),hbW.trans (hb1.mono hbW.size)⟩
 ·go_wp2
  go_ret
  exact ⟨z,rfl,HZ.out,hbW.trans (hb1.mono hbW.size)⟩
theorem eqSeat_same (s t:SeatA) (he:t.v=s.v) (w:World) (hs:s.reads w) (ht:t.reads w) (hl:s.short 1099511627776):
  Calls Try.prog 70 #[.agg s.cells.toArray,.agg t.cells.toArray] w fun e w'=>e=.returned (.bool true)∧Below w.heap.size w w':=by
 obtain ⟨W,hW,b0,b1,hbW,hsW⟩:=boxes2 w s.cells t.cells 98 98
 have HEQ:Hid (t.no=s.no∧t.lsn=s.lsn∧t.ss.map (·.v)=s.ss.map (·.v)∧t.dirty=s.dirty∧t.hot=s.hot):=by
  simp only [SeatA.v,SeatV.mk.injEq] at he
  exact he
 have hrg0:W.rangeAt w.heap.size 1 s.page.cells:=seat_page s b0
 have hrg1:W.rangeAt (w.heap.size+1) 1 t.page.cells:=seat_page t b1
 have HI0:=Try.infoPg s.page rfl
 have HI1:=Try.infoPg t.page rfl
 have C:=eqPage_same s.lsn s.ss t.ss rfl HEQ.out.2.2.1 W (hs.below hbW) (ht.below hbW) hl
 have e1:PageA.cells ⟨s.lsn,t.ss⟩=t.page.cells:=by rw [SeatA.page,HEQ.out.2.1]
 rw [e1] at C
 have c0:W.cell? ⟨w.heap.size,0,none⟩=some (.int .i64 s.no):=b0.cell 0 _ rfl
 have c1:W.cell? ⟨w.heap.size+1,0,none⟩=some (.int .i64 s.no):=(b1.cell 0 _ rfl).trans (by rw [HEQ.out.1])
 have HC:Hid (∀ u,Below W.heap.size W u→u.cell? ⟨w.heap.size,18,none⟩=some (.bool s.dirty)∧u.cell? ⟨w.heap.size,19,none⟩=some (.bool s.hot)∧u.cell? ⟨w.heap.size+1,18,none⟩=some (.bool s.dirty)∧u.cell? ⟨w.heap.size+1,19,none⟩=some (.bool s.hot)):=fun u hu=>⟨(b0.below hu b0.lt).cell 18 _ rfl,(b0.below hu b0.lt).cell 19 _ rfl,((b1.below hu b1.lt).cell 18 _ rfl).trans (by rw [HEQ.out.2.2.2.1]),((b1.below hu b1.lt).cell 19 _ rfl).trans (by rw [HEQ.out.2.2.2.2])⟩
 clear hsW b0 b1 he HEQ e1
 generalize hsc:s.cells=cs0 at*
 generalize htc:t.cells=cs1 at*
 clear hsc htc
 go_enter Try.func70,Try.ntmps70
 go_upto_region 1 with fail
 rw [hW.out]
 clear hW
 go_wp2_with (first | (guard_target=wpList _ _ _ (Oper.mk (some 11) _ _ _ _ _::_) _ _;refine wpList_load_mid rfl 49 (.tmp 10) rfl w.heap.size 1 rfl s.page.cells _ hrg0 Try.underlying49 rfl HI0 ?_) | (guard_target=wpList _ _ _ (Oper.mk (some 13) _ _ _ _ _::_) _ _;refine wpList_load_mid rfl 49 (.tmp 12) rfl (w.heap.size+1) 1 rfl t.page.cells _ hrg1 Try.underlying49 rfl HI1 ?_) | fail)
 refine C.mono ?_
 clear C hrg0 hrg1 HI0 HI1 c0 c1
 rintro e w1 ⟨rfl,hb1⟩
 obtain ⟨d0,d1,d2,d3⟩:=HC.out w1 hb1
 clear HC
 generalize s.dirty=sd at*
 generalize s.hot=sh at*
 go_wp2
 go_ret
 exact ⟨rfl,hbW.trans (hb1.mono hbW.size)⟩
theorem repSt_len (n:Nat) (r:SeatA):(List.replicate n r).length=n:=by simp
theorem zero_cellsSts (n:Nat):(madeCells (Value.agg zeroSt.cells.toArray).cells (n*20)).toList=cellsSts (List.replicate n zeroSt):=by
 apply List.ext_getElem?
 intro i
 by_cases h:i<n*20
 ·have e:=cellsSts_at (List.replicate n zeroSt) (i / 20) (i % 20) (by simp;omega) (Nat.mod_lt _ (by omega))
  rw [show i / 20*20+i % 20=i by omega] at e
  rw [e]
  have hg:(List.replicate n zeroSt).getD (i / 20) zeroSt=zeroSt:=by simp [List.getD,show i / 20<n by omega]
  rw [hg]
  simp only [madeCells,Array.toList_map,List.getElem?_map,Array.toList_range,List.getElem?_range h,Option.map_some]
  have hm:i % 20<20:=Nat.mod_lt _ (by omega)
  have hz:∀ j,j<20→some ((Value.agg zeroSt.cells.toArray).cells[j]!)=zeroSt.cells[j]? :=by
   intro j hj
   rcases (by omega:j=0∨j=1∨j=2∨j=3∨j=4∨j=5∨j=6∨j=7∨j=8∨j=9∨j=10∨j=11∨j=12∨j=13∨j=14∨j=15∨j=16∨j=17∨j=18∨j=19) with rfl | rfl | rfl | rfl | rfl | rfl | rfl | rfl | rfl | rfl | rfl | rfl | rfl | rfl | rfl | rfl | rfl | rfl | rfl | rfl<;>rfl
  exact hz _ hm
 ·rw [List.getElem?_eq_none (by simp [size_madeCells];omega),List.getElem?_eq_none (by rw [cellsSts_len];simp;omega)]
theorem own_zeroSts {w:World} {lo hi g c:Nat} (n:Nat) (h:w.ownsRow lo 98 20 (.slice (some ⟨g,0,none⟩) n c) n (cellsSts (List.replicate n zeroSt))) (ht:hi≤w.heap.size) (hg:g<hi):OwnSts w lo hi (some ⟨g,0,none⟩) c (List.replicate n zeroSt):=by
 refine ⟨by rw [repSt_len];exact h,ht,fun k hk=>by cases hk;exact hg,fun r hr=>?_,?_⟩
 ·rw [(List.mem_replicate.1 hr).2]
  exact zeroSt_own' w lo hi ht
 ·have e:(List.replicate n zeroSt).flatMap SeatA.blocks=[]:=by
   rw [List.flatMap_eq_nil_iff]
   intro r hr
   rw [(List.mem_replicate.1 hr).2]
   rfl
  rw [e]
  simp [Value.ownBlock]
def CameSt (rs ts:List SeatA) (k:Nat):Prop:=ts.length=k∧ts.map SeatA.v=(rs.take k).map SeatA.v
theorem cameSt_none (rs:List SeatA):CameSt rs [] 0:=⟨rfl,by simp⟩
theorem CameSt.snoc {rs ts:List SeatA} {k:Nat} (h:CameSt rs ts k) (hk:k<rs.length) {q:SeatA} (hq:q.v=(rs.getD k zeroSt).v):CameSt rs (ts++[q]) (k+1):=by
 refine ⟨by simp [h.1],?_⟩
 have e:rs.getD k zeroSt=rs[k]:=by simp [List.getD,hk]
 rw [List.map_append,h.2,List.take_succ_eq_append_getElem hk,List.map_append,List.map_singleton,List.map_singleton,hq,e]
theorem CameSt.all {rs ts:List SeatA} (h:CameSt rs ts rs.length):ts.map SeatA.v=rs.map SeatA.v:=by
 have:=h.2
 rwa [List.take_length] at this
theorem rangeSt_below {w w':World} {b o:Nat} {r:SeatA} (h:w.rangeAt b o r.cells) (hb:Below w.heap.size w w'):w'.rangeAt b o r.cells:=rangeAt_below h hb (rangeSt_lt h)
theorem toSeatS_any (a:Option Addr) (cap:Nat) (rs:List SeatA) (w:World) (hr:ReadsSts w a rs) (hl:rs.length≤1048576) (hs:∀ r∈rs,r.short 1048576):
  Calls Try.prog 47 #[.slice a rs.length cap] w fun e w'=>∃ a' c' ts,e=.returned (.slice a' ts.length c')∧Hid (ts.map SeatA.v=rs.map SeatA.v)∧OwnSts w' w.heap.size w'.heap.size a' c' ts∧Below w.heap.size w w':=by
 obtain ⟨i0,hi,hz0,hz1,hz2⟩:=info_parts Try.infoSeat
 have HI:Hid ((Try.prog.info? 123).map (·.size)=some 20):=by rw [Hid];kernel_rfl
 have HJ:Hid ((Try.prog.info? 98).map (·.size)=some 20):=by rw [Hid];kernel_rfl
 rcases hr.cases with rfl | ⟨b,off,rfl,hpos,hcell⟩
 ·go_enter Try.func47,Try.ntmps47
  go_wp2_with (at_make;refine wpList_make_full _ rfl _ _ 51 rfl w.heap.size 98 i0 (.agg zeroSt.cells.toArray) 20 Try.underlying51 hi hz0 hz1 _ _ _ _ 0 rfl rfl (by simp) (by simp) (by omega) (by simp [maxLen]) (Nat.le_refl _) ?_)
  intro w0 hown0 hgrow0
  have hB:Below w.heap.size w w0:=(Below.refl _ _).grown hgrow0 (Nat.le_refl _) (fun k h=>by cases h)
  have ho:w0.ownsRow w.heap.size 98 20 (.slice (some ⟨w.heap.size,0,none⟩) 0 0) 0 (cellsSts (List.replicate 0 zeroSt)):=by
   rw [← zero_cellsSts]
   exact hown0
  have HO:Hid (OwnSts w0 w.heap.size w0.heap.size (some ⟨w.heap.size,0,none⟩) 0 []):=own_zeroSts 0 ho (Nat.le_refl _) (ho.lt _ rfl).2
  clear hown0 hgrow0 ho
  go_wp2
  refine wp_loop_rounds 1 ?_
  rw [rounds_succ]
  go_wp2
  go_ret
  exact ⟨_,_,[],rfl,rfl,HO.out,hB⟩
 ·have hbB:b<w.heap.size:=rangeSt_lt (hcell 0 hpos).1
  go_enter Try.func47,Try.ntmps47
  go_wp2_with (at_make;refine wpList_make_full _ rfl _ _ 51 rfl w.heap.size 98 i0 (.agg zeroSt.cells.toArray) 20 Try.underlying51 hi hz0 hz1 _ _ _ _ rs.length rfl rfl rfl rfl (by rw [hz2];omega) (by simp [maxLen];omega) (Nat.le_refl _) ?_)
  intro w0 hown0 hgrow0
  have hb0:Below w.heap.size w w0:=(Below.refl _ _).grown hgrow0 (Nat.le_refl _) (fun k h=>by cases h)
  have ho:w0.ownsRow w.heap.size 98 20 (.slice (some ⟨w.heap.size,0,none⟩) rs.length rs.length) rs.length (cellsSts (List.replicate rs.length zeroSt)):=by
   rw [← zero_cellsSts]
   exact hown0
  have HO:Hid (OwnSts w0 w.heap.size w0.heap.size (some ⟨w.heap.size,0,none⟩) rs.length (List.replicate rs.length zeroSt)):=own_zeroSts _ ho (Nat.le_refl _) (ho.lt _ rfl).2
  clear hown0 hgrow0 ho
  go_wp2
  go_loopw [4] (fun i wr=>∃ (k:Nat) (ts:List SeatA),k≤rs.length∧i=.int .i64 k∧Hid (CameSt rs ts k)∧Hid (OwnSts wr w.heap.size wr.heap.size (some ⟨w.heap.size,0,none⟩) rs.length (ts++List.replicate (rs.length-k) zeroSt))∧Below w.heap.size w wr)
   (fun i _=>rs.length-(intOf i).toNat)
  case atStart=>exact ⟨0,[],Nat.zero_le _,rfl,cameSt_none rs,HO,hb0⟩
  case round=>
   obtain ⟨k,ts,hk,rfl,hc,hown,hnx⟩:=hrel
   by_cases hlt:k<rs.length
   ·obtain ⟨c0,c1⟩:=hcell k hlt
    have HR:Hid (wr.rangeAt b (off+k*20) (rs.getD k zeroSt).cells):=rangeAt_below c0 hnx hbB
    have hrd:(rs.getD k zeroSt).reads wr:=c1.below hnx
    have hsh:(rs.getD k zeroSt).short 1048576:=hs _ (seatD_mem rs k hlt)
    have C:=toSeat_any (rs.getD k zeroSt) wr hrd hsh
    have HS:Hid (∀ q:SeatA,q.v=(rs.getD k zeroSt).v→CameSt rs (ts++[q]) (k+1)):=fun q hq=>hc.out.snoc hlt hq
    have HP:Hid (ts++List.replicate (rs.length-k) zeroSt=ts++zeroSt::List.replicate (rs.length-(k+1)) zeroSt∧(ts++zeroSt::List.replicate (rs.length-(k+1)) zeroSt).length=rs.length∧ts.length=k):=by
     have e:rs.length-k=(rs.length-(k+1))+1:=by omega
     refine ⟨by rw [e,List.replicate_succ],?_,hc.out.1⟩
     have:=hc.out.1
     simp
     omega
    clear c0 c1 hcell hb0 HO hs hrd hsh
    generalize rs.getD k zeroSt=z at*
    go_wp2_with (first | (guard_target=wpList _ _ _ (Oper.mk (some 19) _ _ _ _ _::_) _ _;refine wpList_load_mid rfl 123 (.tmp 18) rfl b (off+k*20) rfl z.cells _ HR.out Try.underlying123 rfl HI.out ?_) | fail)
    refine C.mono ?_
    clear C HR
    rintro e w1 ⟨q,rfl,hq,hqo,hb1⟩
    have hs1:=hb1.size
    have ho1:=hown.out.below hb1
    rw [HP.out.1] at ho1
    obtain ⟨W2,hW2,ho2,ht2,hs2⟩:=ho1.fill q hqo (Nat.le_refl _) (by have:=hnx.size;omega) (Nat.le_refl _)
    rw [HP.out.2.2] at hW2
    have HT:Hid (w1.there w.heap.size (k*20) 20):=(row_seat ho1.row rfl k (by rw [HP.out.2.1];exact hlt)).2
    have hB2:Below w.heap.size w W2:=(hnx.trans (hb1.mono hnx.size)).trans ((ht2.within (lo:=w.heap.size) (hi:=w.heap.size+1) (fun j hj=>by obtain rfl:=List.mem_singleton.1 hj;omega)).below (Nat.le_refl _) (by have:=hnx.size;omega))
    have HH:Hid (OwnSts W2 w.heap.size W2.heap.size (some ⟨w.heap.size,0,none⟩) rs.length ((ts++[q])++List.replicate (rs.length-(k+1)) zeroSt)):=by
     have:=ho2.widen (Nat.le_refl _) (show max wr.heap.size w1.heap.size≤W2.heap.size by omega) (Nat.le_refl _)
     rw [List.append_assoc,List.singleton_append]
     exact this
    have HB:Hid _:=hB2
    have HC:=HS.out q hq.out
    have HO1:=seat_one' q
    clear ho1 ho2 ht2 hs2 hB2 hqo hb1 hnx hown hq HS hs1
    go_wp2_with (first | (guard_target=wpList _ _ _ (Oper.mk none (Op.store _ (Operand.tmp 21) _) _ _ _ _::_) _ _;refine wpList_store_mid rfl 98 (.tmp 21) (.tmp 20) rfl w.heap.size (k*20) q.cells.toArray rfl rfl HT.out HJ.out HO1 ?_) | fail)
    rw [hW2.out]
    go_roundw
    case rel=>exact ⟨k+1,ts++[q],by omega,by go_num,HC,HH,HB.out⟩
    case measure=>simp [intOf];omega
   ·have HE:Hid (ts.map SeatA.v=rs.map SeatA.v∧OwnSts wr w.heap.size wr.heap.size (some ⟨w.heap.size,0,none⟩) rs.length ts∧ts.length=rs.length):=by
     have e:k=rs.length:=by omega
     rw [e] at hown hc
     rw [Nat.sub_self,List.replicate_zero,List.append_nil] at hown
     exact ⟨hc.out.all,hown.out,hc.out.1⟩
    go_wp2
    go_ret
    exact ⟨some ⟨w.heap.size,0,none⟩,rs.length,ts,by rw [HE.out.2.2];rfl,HE.out.1,HE.out.2.1,hnx⟩
theorem mapSt_nil {ts:List SeatA} (h:ts.map SeatA.v=([]:List SeatA).map SeatA.v):ts=[]:=by simpa using h
theorem toPool_any (l:PoolA) (w:World) (hr:l.reads w) (hl:l.short 1048576):
  Calls Try.prog 21 #[.agg l.cells.toArray] w fun e w'=>∃ t:PoolA,e=.returned (.agg t.cells.toArray)∧Hid (t.v=l.v)∧t.own w' w.heap.size w'.heap.size∧Below w.heap.size w w':=by
 obtain ⟨rs,s,a,c⟩:=l
 obtain ⟨hl1,hl2⟩:=hl
 simp only [PoolA.reads,PoolA.cells,PoolA.own] at*
 obtain ⟨W,hW,b0,b1,b2,hbW,hsW⟩:=boxes3 w [.slice a rs.length c,.int .i64 s] [.slice none 0 0,.int .i64 0] [.slice none 0 0,.int .i64 0] 33 53 53
 have C:=toSeatS_any a c rs W (hr.below hbW) hl1 hl2
 go_enter Try.func21,Try.ntmps21
 go_wp2_with fail
 rw [hW.out]
 clear hW
 have hs0:w.heap.size+1+1<W.heap.size:=by omega
 clear hsW
 refine C.mono ?_
 clear C
 rintro e w1 ⟨a',c',ts,rfl,hv,ho1,hb1⟩
 have hs1:=hb1.size
 have b01:=b0.below hb1 b0.lt
 have b11:=b1.below hb1 b1.lt
 have b21:=b2.below hb1 b2.lt
 have x1:=b01.cell 1 _ rfl
 have y0:=b21.cell 0 _ rfl
 have y1:=b21.cell 1 _ rfl
 have f0:=b21.frozen 0
 have f1:=b21.frozen 1
 have z0:=b11.cell 0 _ rfl
 have z1:=b11.cell 1 _ rfl
 have g0:=b11.frozen 0
 have g1:=b11.frozen 1
 obtain ⟨W2,hW2,b22,hw2,hs2⟩:=box_set b21 0 (.slice a' ts.length c')
 obtain ⟨W3,hW3,b23,hw3,hs3⟩:=box_set b22 1 (.int .i64 s)
 have b13:=(b11.within hw2 (by omega)).within hw3 (by omega)
 obtain ⟨W4,hW4,b14,hw4,hs4⟩:=box_set b13 0 (.slice a' ts.length c')
 obtain ⟨W5,hW5,b15,hw5,hs5⟩:=box_set b14 1 (.int .i64 s)
 simp only [List.set] at b15
 have q0:=b15.cell 0 _ rfl
 have q1:=b15.cell 1 _ rfl
 have hB5:Below w.heap.size w W5:=((((hbW.trans (hb1.mono (by omega))).trans (hw2.below (by omega) (by omega))).trans (hw3.below (by omega) (by omega))).trans (hw4.below (by omega) (by omega))).trans (hw5.below (by omega) (by omega))
 have ho5:=((((ho1.within hw2 (.inr (by omega))).within hw3 (.inr (by omega))).within hw4 (.inr (by omega))).within hw5 (.inr (by omega))).widen (show w.heap.size≤W.heap.size by omega) (show w1.heap.size≤W5.heap.size by omega) (Nat.le_refl _)
 have HH:Hid (_∧_∧_):=⟨ho5,hB5,hv.out⟩
 clear ho5 hB5 hv ho1 hb1 hw2 hw3 hw4 hw5 hs2 hs3 hs4 hs5 b01 b11 b21 b22 b23 b13 b14 b15 b0 b1 b2 hbW
 have h34:Hid (((((w1.setCell ⟨w.heap.size+1+1,0,none⟩ (.slice a' ts.length c')).setCell ⟨w.heap.size+1+1,1,none⟩ (.int .i64 s)).setCell ⟨w.heap.size+1,0,none⟩ (.slice a' ts.length c')).setCell ⟨w.heap.size+1,1,none⟩ (.int .i64 s))=W5):=by rw [Hid,hW2.out,hW3.out,hW4.out,hW5.out]
 clear hW2 hW3 hW4 hW5
 go_wp2
 rw [h34.out]
 exact bodyPost_ret (v:=.agg #[.slice a' ts.length c',.int .i64 s]) (by simp [results,Try.results21,go_sem,q0,q1]) rfl ⟨⟨ts,s,a',c'⟩,rfl,by simp only [Hid,PoolA.v];rw [HH.out.2.2],HH.out.1,HH.out.2.1⟩
theorem eqSeatS_same (a b:Option Addr) (ca cb:Nat) (rs ts:List SeatA) (he:ts.map SeatA.v=rs.map SeatA.v) (w:World) (ha:ReadsSts w a rs) (hb:ReadsSts w b ts) (hl:rs.length≤1099511627776) (hs:∀ r∈rs,r.short 1099511627776):
  Calls Try.prog 55 #[.slice a rs.length ca,.slice b ts.length cb] w fun e w'=>e=.returned (.bool true)∧Below w.heap.size w w':=by
 rcases ha.cases with rfl | ⟨b1,o1,rfl,hpos,hc1⟩
 ·obtain rfl:=mapSt_nil he
  go_enter Try.func55,Try.ntmps55
  go_wp2
  refine wp_loop_rounds 1 ?_
  rw [rounds_succ]
  go_wp2
  go_ret
  exact ⟨rfl,Below.refl _ _⟩
 ·have hlen:=mapSt_len he
  rcases hb.cases with rfl | ⟨b2,o2,rfl,_,hc2⟩
  ·simp at hlen;omega
  ·have HV:Hid (∀ k,k<rs.length→(ts.getD k zeroSt).v=(rs.getD k zeroSt).v):=fun k hk=>mapSt_at he k hk
   have HS:Hid (∀ k,k<rs.length→(rs.getD k zeroSt).short 1099511627776):=fun k hk=>hs _ (seatD_mem rs k hk)
   have HI:Hid ((Try.prog.info? 98).map (·.size)=some 20):=by rw [Hid];kernel_rfl
   have hu:=Try.underlying98
   rw [hlen] at hc2 ⊢
   clear he hs hlen
   go_enter Try.func55,Try.ntmps55
   go_wp2
   go_loopw [5] (fun i wr=>∃ k:Nat,k≤rs.length∧i=.int .i64 k∧Below w.heap.size w wr) (fun i _=>rs.length-(intOf i).toNat)
   case atStart=>exact ⟨0,Nat.zero_le _,rfl,Below.refl _ _⟩
   case round=>
    obtain ⟨k,hk,rfl,hbl⟩:=hrel
    by_cases hlt:k<rs.length
    ·obtain ⟨h1,r1⟩:=hc1 k hlt
     obtain ⟨h2,r2⟩:=hc2 k hlt
     have hv:=HV.out k hlt
     have hsh:=HS.out k hlt
     clear hc1 hc2
     generalize rs.getD k zeroSt=z at*
     generalize ts.getD k zeroSt=y at*
     have HR:Hid (∀ w1,Below w.heap.size w w1→w1.rangeAt b1 (o1+k*20) z.cells∧w1.rangeAt b2 (o2+k*20) y.cells):=fun w1 hh=>⟨rangeSt_below h1 hh,rangeSt_below h2 hh⟩
     have HD:Hid (∀ w1,Below w.heap.size w w1→z.reads w1∧y.reads w1):=fun w1 hh=>⟨r1.below hh,r2.below hh⟩
     clear h1 h2 r1 r2
     go_wp2_with fail
     refine wp_region_held_drew (S:=fun w'=>w'.rangeAt b1 (o1+k*20) z.cells∧w'.rangeAt b2 (o2+k*20) y.cells) (by kernel_rfl) ?_ (fun hHeld=>?_)
     ·exact HR.out _ hbl.drew
     refine tq 0 (v:=.slice (some ⟨b1,o1,none⟩) rs.length ca) rfl hHeld ?_
     try simp only [zz]
     refine tq 1 (v:=.int .i64 k) rfl hHeld ?_
     try simp only [zz]
     refine tq 2 (v:=.pointer (some ⟨b1,o1+k*20,none⟩)) rfl hHeld ?_
     try simp only [zz]
     refine tk 3 rfl (yieldsIf_load_mid (by rfl) _ _ rfl _ _ rfl z.cells _ (fun _ h=>h.1) Try.underlying98 rfl HI.out) hHeld ?_
     try simp only [zz]
     refine tq 4 (v:=.slice (some ⟨b2,o2,none⟩) rs.length cb) rfl hHeld ?_
     try simp only [zz]
     refine tq 5 (v:=.int .i64 k) rfl hHeld ?_
     try simp only [zz]
     refine tq 6 (v:=.pointer (some ⟨b2,o2+k*20,none⟩)) rfl hHeld ?_
     try simp only [zz]
     refine tk 7 rfl (yieldsIf_load_mid (by rfl) _ _ rfl _ _ rfl y.cells _ (fun _ h=>h.2) Try.underlying98 rfl HI.out) hHeld ?_
     try simp only [zz]
     refine wpAnyH_ready (rs:=[8]) (by kernel_rfl) (by simp) ?_
     refine AllReadyH.cons rfl (fun K hK=>?_) AllReadyH.nil
     go_simp
     refine (eqSeat_same z y hv _ (HD.out _ hbl.drew).1 (HD.out _ hbl.drew).2 hsh).mono ?_
     rintro e w2 ⟨rfl,hb2⟩
     have hw2:Below w.heap.size w w2:=(hbl.drew).trans (hb2.mono hbl.size)
     refine hK.out _ _ (HR.out _ hw2) (fun hHeld=>?_)
     clear hK K
     try simp only [zz]
     refine tq 9 (v:=.bool false) rfl hHeld ?_
     try simp only [zz]
     refine wpAnyH_done (by kernel_rfl) ?_ _
     go_wp2_with fail
     go_roundw
     case rel=>exact ⟨k+1,by omega,by go_num,hw2⟩
     case measure=>simp [intOf];omega
    ·go_wp2
     go_ret
     exact ⟨rfl,hbl⟩
theorem eqPool_same (l t:PoolA) (he:t.v=l.v) (w:World) (hr:l.reads w) (ht:t.reads w) (hl:l.short 1099511627776):
  Calls Try.prog 30 #[.agg l.cells.toArray,.agg t.cells.toArray] w fun e w'=>e=.returned (.bool true)∧Below w.heap.size w w':=by
 obtain ⟨rs,s,a,c⟩:=l
 obtain ⟨ts,s',a',c'⟩:=t
 obtain ⟨hl1,hl2⟩:=hl
 simp only [PoolA.v,PoolV.mk.injEq] at he
 obtain ⟨he,rfl⟩:=he
 simp only [PoolA.reads,PoolA.cells] at*
 obtain ⟨W,hW,b0,b1,hbW,hsW⟩:=boxes2 w [.slice a rs.length c,.int .i64 s'] [.slice a' ts.length c',.int .i64 s'] 53 53
 have C:=eqSeatS_same a a' c c' rs ts he W (hr.below hbW) (ht.below hbW) hl1 hl2
 clear hsW he hl1 hl2 hr ht
 go_enter Try.func30,Try.ntmps30
 go_wp2_with fail
 rw [hW.out]
 clear hW
 refine C.mono ?_
 clear C
 rintro e w1 ⟨rfl,hb1⟩
 have x1:=(b0.below hb1 b0.lt).cell 1 _ rfl
 have y1:=(b1.below hb1 b1.lt).cell 1 _ rfl
 clear b0 b1
 go_wp2
 go_ret
 exact ⟨rfl,hbW.trans (hb1.mono hbW.size)⟩
theorem szSeatS_any (a:Option Addr) (cap:Nat) (rs:List SeatA) (left:Int) (w:World) (hr:ReadsSts w a rs) (hn:rs.length≤9223372036854775807) (hs:∀ r∈rs,r.short 9223372036854775807) (hl:0≤left∧left≤1048576):
  Calls Try.prog 42 #[.slice a rs.length cap,.int .i64 left] w fun e w'=>∃ z:Int,e=.returned (.int .i64 z)∧(z<0∨(0≤z∧z≤left∧rs.length≤1048576∧∀ r∈rs,r.short 1048576))∧Below w.heap.size w w':=by
 have HI:Hid ((Try.prog.info? 123).map (·.size)=some 20):=by rw [Hid];kernel_rfl
 by_cases hle:left-rs.length<0
 ·go_enter Try.func42,Try.ntmps42
  go_wp2
  go_ret
  exact ⟨-1,rfl,.inl (by omega),Below.refl _ _⟩
 have HS:Hid (∀ k,k<rs.length→(rs.getD k zeroSt).short 9223372036854775807):=fun k hk=>hs _ (seatD_mem rs k hk)
 have hlen:rs.length≤1048576:=by omega
 have HC:Hid (∀ k,k<rs.length→∃ b off,a=some ⟨b,off,none⟩∧w.rangeAt b (off+k*20) (rs.getD k zeroSt).cells):=fun k hk=>by
  obtain ⟨b,off,ha,hc⟩:=hr (by intro e;rw [e] at hk;simp at hk)
  exact ⟨b,off,ha,(hc k hk).1⟩
 have HA:Hid ((∀ k,k<rs.length→(rs.getD k zeroSt).short 1048576)→∀ r∈rs,r.short 1048576):=by
  intro h r hr
  obtain ⟨k,hk,rfl⟩:=List.getElem_of_mem hr
  have:=h k hk
  simpa [List.getD,hk] using this
 clear hr hs
 go_enter Try.func42,Try.ntmps42
 go_wp2
 go_loopw [1,5] (fun v i wr=>∃ (k:Nat) (z:Int),k≤rs.length∧i=.int .i64 k∧v=.int .i64 z∧0≤z∧z≤left∧Hid (∀ j,j<k→(rs.getD j zeroSt).short 1048576)∧Below w.heap.size w wr) (fun _ i _=>rs.length-(intOf i).toNat)
 case atStart=>exact ⟨0,left-rs.length,Nat.zero_le _,rfl,by go_num,by omega,by omega,fun j hj=>by omega,Below.refl _ _⟩
 case round=>
  obtain ⟨k,z,hk,rfl,rfl,hz0,hz1,hsh,hbl⟩:=hrel
  by_cases hlt:k<rs.length
  ·obtain ⟨b,off,rfl,hcell⟩:=HC.out k hlt
   have HR:Hid (wr.rangeAt b (off+k*20) (rs.getD k zeroSt).cells):=rangeSt_below hcell hbl
   have C:=szSeat_any (rs.getD k zeroSt) z wr (HS.out k hlt) (by omega)
   clear hcell HC
   have HN:Hid ((rs.getD k zeroSt).short 1048576→∀ j,j<k+1→(rs.getD j zeroSt).short 1048576):=fun h j hj=>by
    by_cases e:j=k
    ·rw [e];exact h
    ·exact hsh.out j (by omega)
   generalize rs.getD k zeroSt=y at*
   go_wp2_with (first | (guard_target=wpList _ _ _ (Oper.mk (some 21) _ _ _ _ _::_) _ _;refine wpList_load_mid rfl 123 (.tmp 20) rfl b (off+k*20) rfl y.cells _ HR.out Try.underlying123 rfl HI.out ?_) | fail)
   refine C.mono ?_
   clear C HR
   rintro e w1 ⟨z1,rfl,hz,hb1⟩
   have hB1:Below w.heap.size w w1:=hbl.trans (hb1.mono hbl.size)
   rcases hz with hneg | ⟨g0,g1,g2⟩
   ·go_wp2
    go_ret
    exact ⟨-1,rfl,.inl (by omega),hB1⟩
   ·have hzn:¬ z1<0:=by omega
    have HH:=HN.out g2
    go_wp2
    go_roundw
    case rel=>exact ⟨k+1,z1,by omega,by go_num,rfl,g0,by omega,HH,hB1⟩
    case measure=>simp [intOf];omega
  ·have HE:Hid (∀ r∈rs,r.short 1048576):=HA.out (fun j hj=>hsh.out j (by omega))
   go_wp2
   go_ret
   exact ⟨z,rfl,.inr ⟨hz0,hz1,hlen,HE.out⟩,hbl⟩
theorem szPool_any (l:PoolA) (left:Int) (w:World) (hr:l.reads w) (hs:l.short 9223372036854775807) (hl:0≤left∧left≤1048576):
  Calls Try.prog 14 #[.agg l.cells.toArray,.int .i64 left] w fun e w'=>∃ z:Int,e=.returned (.int .i64 z)∧(z<0∨(0≤z∧z≤left∧l.short 1048576))∧Below w.heap.size w w':=by
 obtain ⟨rs,s,a,c⟩:=l
 obtain ⟨hl1,hl2⟩:=hs
 simp only [PoolA.reads,PoolA.cells] at*
 obtain ⟨W,hW,b0,hbW,hsW⟩:=boxes1 w [.slice a rs.length c,.int .i64 s] 33
 have C:=szSeatS_any a c rs left W (hr.below hbW) hl1 hl2 hl
 clear hsW hr hl1 hl2
 go_enter Try.func14,Try.ntmps14
 go_wp2_with fail
 rw [hW.out]
 clear hW
 refine C.mono ?_
 clear C
 rintro e w1 ⟨z,rfl,hz,hb1⟩
 have hB:Below w.heap.size w w1:=hbW.trans (hb1.mono hbW.size)
 rcases hz with hneg | ⟨h0,h1,h2,h3⟩
 ·go_wp2
  go_ret
  exact ⟨-1,rfl,.inl (by omega),hB⟩
 ·have hzn:¬ z<0:=by omega
  go_wp2
  go_ret
  exact ⟨z,rfl,.inr ⟨h0,h1,h2,h3⟩,hB⟩
end Go.Proofs.Ytfehemepdoomdaa
namespace Go.Proofs.Ytfehemepdoomdaa
open Go.ChangeShapes Go.WideShapes Go.ChangeAt Go.RowKit
structure InSeat (w:World) (s:SeatA):Prop where
 slots:∀ x∈s.ss,InSlot w x
 no:InI64 s.no
 lsn:InI64 s.lsn
theorem InSeat.reads {w:World} {s:SeatA} (h:InSeat w s):s.reads w:=fun x hx=>(h.slots x hx).reads
theorem InSeat.short {w:World} {s:SeatA} (h:InSeat w s):s.short 9223372036854775807:=fun x hx=>by
 have h1:=(h.slots x hx).lI
 have h2:=(h.slots x hx).lR
 simp only [maxLen] at h1 h2
 omega
structure InPool (w:World) (l:PoolA):Prop where
 seats:ReadsSts w l.a l.seats
 each:∀ r∈l.seats,InSeat w r
 len:l.seats.length≤maxLen
 num:InI64 l.hand
theorem InPool.short {w:World} {l:PoolA} (h:InPool w l):l.short 9223372036854775807:=⟨by have:=h.len;simp only [maxLen] at this;omega,fun r hr=>(h.each r hr).short⟩
theorem InPool.reads {w:World} {l:PoolA} (h:InPool w l):l.reads w:=h.seats
section
variable {H:Type} {enc:TypeId × Value→H} {w:World} {base:Nat} {spare:Nat→Bool} {held:Bool}
theorem Try.cellsSt_:Try.prog.cellsOf 123=20:=by kernel_rfl
theorem trod_seat {fuel:Nat} {cs:List Value} {x:DataW H × List MemPlace} (h:DataW.trod enc Try.prog w base spare held fuel 123 cs=some x):
  ∃ s:SeatA,cs=s.cells∧InSeat w s:=by
 obtain ⟨xs,n,_,_,hlen,hxl,hf⟩:=DataW.trod_struct Try.underlying123 h
 rw [Try.cellsSt_] at hlen
 match cs,hlen with
 | [v0,v1,v2,v3,v4,v5,v6,v7,v8,v9,v10,v11,v12,v13,v14,v15,v16,v17,v18,v19],_=>
  have f0:=hf 0 _ rfl
  have f1:=hf 1 _ rfl
  have f2:=hf 2 _ rfl
  have f3:=hf 3 _ rfl
  obtain ⟨y0,hx0⟩:=some_at xs 0 (by rw [hxl];decide)
  rw [hx0] at f0
  obtain ⟨y1,hx1⟩:=some_at xs 1 (by rw [hxl];decide)
  rw [hx1] at f1
  obtain ⟨y2,hx2⟩:=some_at xs 2 (by rw [hxl];decide)
  rw [hx2] at f2
  obtain ⟨y3,hx3⟩:=some_at xs 3 (by rw [hxl];decide)
  rw [hx3] at f3
  simp only [List.getElem_toArray,List.getElem_cons_zero,List.getElem_cons_succ,Try.cellsI,Try.cellsB,Try.cellsPg,List.drop,List.take] at f0 f1 f2 f3
  obtain ⟨n0,e0,w0⟩:=trod_num f0
  obtain ⟨p,e1,h4,w1,hs⟩:=trod_page f1
  obtain ⟨d,e2,_⟩:=DataW.trod_bool Try.underlying4 f2
  obtain ⟨t,e3,_⟩:=DataW.trod_bool Try.underlying4 f3
  obtain ⟨lsn,ss⟩:=p
  obtain ⟨a,b,c,d',rfl⟩:=four_slots' (ts:=ss) h4
  simp only [List.cons.injEq,and_true] at e0 e2 e3
  subst e0 e2 e3
  refine ⟨⟨n0,lsn,a,b,c,d',d,t⟩,?_,hs,w0,w1⟩
  rw [SeatA.cells_page]
  show _=Value.int .i64 n0::((PageA.cells ⟨lsn,[a,b,c,d']⟩)++[.bool d,.bool t])
  rw [← e1]
  rfl
theorem Try.cellsSts_:Try.prog.cellsOf 31=1:=by kernel_rfl
theorem Try.cellsPl:Try.prog.cellsOf 33=2:=by kernel_rfl
theorem trod_seats {fuel:Nat} {cs:List Value} {x:DataW H × List MemPlace} (h:DataW.trod enc Try.prog w base spare held fuel 31 cs=some x):
  ∃ (a:Option Addr) (c:Nat) (rs:List SeatA),cs=[.slice a rs.length c]∧ReadsSts w a rs∧(∀ r∈rs,InSeat w r)∧rs.length≤maxLen:=by
 rcases DataW.trod_slice Try.underlying31 h with ⟨rfl,_⟩ | ⟨a,len,cap,elems,rest,n,_,rfl,_,_,hl,hm,hlen,hel,_,_⟩
 ·exact ⟨none,0,[],rfl,ReadsSts.nil _ _,fun r hr=>by simp at hr,by simp⟩
 rw [Try.cellsSt_] at hel
 have each:∀ i,i<len→∃ t:SeatA,w.cells? base (a.add (i*20)) 20=some t.cells∧InSeat w t:=by
  intro i hi
  have hy:=hel i hi
  rw [List.getElem?_eq_getElem (by omega:i<elems.length),Option.bind_eq_some_iff] at hy
  obtain ⟨cs',hcs,hy'⟩:=hy
  obtain ⟨t,e,ht⟩:=trod_seat hy'
  exact ⟨t,by rw [hcs,e],ht⟩
 obtain ⟨f,hf⟩:∃ f:Nat→SeatA,∀ i,i<len→w.cells? base (a.add (i*20)) 20=some (f i).cells∧InSeat w (f i):=by
  refine ⟨fun i=>if h:i<len then (each i h).choose else zeroSt,fun i hi=>?_⟩
  simp only [dif_pos hi]
  exact (each i hi).choose_spec
 refine ⟨some a,cap,(List.range len).map f,by simp,?_,?_,by simp;omega⟩
 ·intro hne
  have hpos:=List.length_pos_iff.2 hne
  simp only [List.length_map,List.length_range] at hpos ⊢
  obtain ⟨b,off,spot⟩:=a
  have c0:=(World.cells?_some (hf 0 hpos).1).2.2 0 (by decide)
  have hspot:spot=none:=by simpa [Addr.add] using World.cell?_spot c0
  subst hspot
  refine ⟨b,off,rfl,fun k hk=>?_⟩
  have e:((List.range len).map f).getD k zeroSt=f k:=by simp [List.getD,hk]
  rw [e]
  have hc:=(World.cells?_some (hf k hk).1).2.2
  refine ⟨fun j v hv=>?_,(hf k hk).2.reads⟩
  have hj:j<20:=by have:=(List.getElem?_eq_some_iff.1 hv).1;rwa [cellsSt_len] at this
  have d:=hc j (by simpa using hj)
  simp only [Addr_add] at d
  rw [d,hv]
 ·intro r hr
  obtain ⟨k,hk,rfl⟩:=List.mem_map.1 hr
  exact (hf k (List.mem_range.1 hk)).2
theorem trod_pool {fuel:Nat} {cs:List Value} {x:DataW H × List MemPlace} (h:DataW.trod enc Try.prog w base spare held fuel 33 cs=some x):
  ∃ l:PoolA,cs=l.cells∧InPool w l:=by
 obtain ⟨xs,n,_,_,hlen,hxl,hf⟩:=DataW.trod_struct Try.underlying33 h
 rw [Try.cellsPl] at hlen
 match cs,hlen with
 | [v0,v1],_=>
  have f0:=hf 0 _ rfl
  have f1:=hf 1 _ rfl
  obtain ⟨y0,hx0⟩:=some_at xs 0 (by rw [hxl];decide)
  rw [hx0] at f0
  obtain ⟨y1,hx1⟩:=some_at xs 1 (by rw [hxl];decide)
  rw [hx1] at f1
  simp only [List.getElem_toArray,List.getElem_cons_zero,List.getElem_cons_succ,Try.cellsI,Try.cellsSts_,List.drop,List.take] at f0 f1
  obtain ⟨a,c,rs,e0,h0,h1,h2⟩:=trod_seats f0
  obtain ⟨m,e1,w1⟩:=trod_num f1
  simp only [List.cons.injEq,and_true] at e0 e1
  subst e0 e1
  exact ⟨⟨rs,m,a,c⟩,rfl,h0,h1,h2,w1⟩
theorem open_pool {b0:Nat} {v:Value} {d:DataW H} {ps:List MemPlace} (hval:Value.okWide Try.prog w .any b0 33 v) (h:DataW.Trod enc Try.prog w base spare held 33 v d ps):
  ∃ l:PoolA,v=.agg l.cells.toArray∧InPool w l:=by
 obtain ⟨cs,rfl,hcs⟩:=okWide_struct Try.underlying33 hval
 obtain ⟨fuel,hf⟩:=h
 have e:(Value.agg cs).cells.toList=cs.toList:=rfl
 rw [e] at hf
 obtain ⟨r,hc,rest⟩:=trod_pool hf
 refine ⟨r,?_,rest⟩
 congr 1
 apply Array.toList_inj.1
 rw [hc]
end
end Go.Proofs.Ytfehemepdoomdaa
namespace Go.Proofs.Ytfehemepdoomdaa
open Go.RowKit
theorem PoolA.reads.below {w w':World} {l:PoolA} (h:l.reads w) (hb:Below w.heap.size w w'):l.reads w':=ReadsSts.below h hb
theorem PoolA.own.below {w w':World} {lo hi:Nat} {l:PoolA} (h:l.own w lo hi) (hb:Below w.heap.size w w'):l.own w' lo hi:=OwnSts.below h hb
theorem PoolA.own.within {w w':World} {lo hi a b:Nat} {l:PoolA} (h:l.own w lo hi) (hw:Within a b w w') (hd:hi≤a∨b≤lo):l.own w' lo hi:=OwnSts.within h hw hd
theorem PoolA.own.widen {w:World} {lo hi lo' hi':Nat} {l:PoolA} (h:l.own w lo hi) (h1:lo'≤lo) (h2:hi≤hi') (h3:hi'≤w.heap.size):l.own w lo' hi':=OwnSts.widen h h1 h2 h3
def PoolA.blocks (l:PoolA):List Nat:=blocksSts l.a l.c l.seats
theorem PoolA.own.blocks_lt {w:World} {lo hi:Nat} {l:PoolA} (h:l.own w lo hi):∀ k∈l.blocks,lo≤k∧k<hi:=OwnSts.blocks_lt h
theorem PoolA.own.touch {w w':World} {lo hi:Nat} {l:PoolA} {bl:List Nat} (h:l.own w lo hi) (ht:Touch bl w w') (hd:∀ k∈l.blocks,k∉bl):l.own w' lo hi:=OwnSts.touch h ht hd
theorem onePool (l:PoolA):∀ v∈l.cells,v.oneCell'=true:=by
 intro v hv
 simp only [PoolA.cells,List.mem_cons,List.not_mem_nil,or_false] at hv
 rcases hv with rfl | rfl<;>rfl
theorem pool_one (q:PoolA):q.cells.toArray.all (·.oneCell')=true:=all_oneCell_toArray (onePool q)
theorem pool_info (q:PoolA):(Try.prog.info? 53).map (·.size)=some q.cells.length:=by show _=some 2;kernel_rfl
def markSt (s:SeatA) (k:Int):SeatA:=⟨k,k+1,s.s0,s.s1,s.s2,s.s3,((k+1+1) % 3 == 0),((k+1+1+1) % 3 == 0)⟩
def markSts:List SeatA→Int→List SeatA
 | [],_=>[]
 | r::t,k=>markSt r k::markSts t (k+4)
theorem markSt_blocks (r:SeatA) (k:Int):(markSt r k).blocks=r.blocks:=rfl
theorem markSts_len (rs:List SeatA):∀ k,(markSts rs k).length=rs.length:=by
 induction rs with
 | nil=>intro k;rfl
 | cons x r ih=>intro k;simp [markSts,ih]
theorem markSts_app (A B:List SeatA):∀ k,markSts (A++B) k=markSts A k++markSts B (k+4*(A.length:Int)):=by
 induction A with
 | nil=>intro k;simp [markSts]
 | cons x r ih=>
  intro k
  simp only [List.cons_append,markSts,ih,List.length_cons]
  congr 3
  omega
theorem markSts_blocks (rs:List SeatA):∀ k,(markSts rs k).flatMap SeatA.blocks=rs.flatMap SeatA.blocks:=by
 induction rs with
 | nil=>intro k;rfl
 | cons x r ih=>intro k;simp only [markSts,List.flatMap_cons,ih,markSt_blocks]
theorem seats_split (rs:List SeatA) (j:Nat) (h:j<rs.length):rs.drop j=rs.getD j zeroSt::rs.drop (j+1)∧rs.take (j+1)=rs.take j++[rs.getD j zeroSt]:=by
 have e:rs.getD j zeroSt=rs[j]:=by simp [List.getD,h]
 exact ⟨by rw [List.drop_eq_getElem_cons h,e],by rw [List.take_succ_eq_append_getElem h,e]⟩
def halfSts (rs:List SeatA) (k:Int) (j:Nat):List SeatA:=markSts (rs.take j) k++rs.drop j
theorem halfSts_at (rs:List SeatA) (k:Int) (j:Nat) (h:j<rs.length):halfSts rs k j=markSts (rs.take j) k++rs.getD j zeroSt::rs.drop (j+1):=by rw [halfSts,(seats_split rs j h).1]
theorem halfSts_next (rs:List SeatA) (k:Int) (j:Nat) (h:j<rs.length):halfSts rs k (j+1)=markSts (rs.take j) k++markSt (rs.getD j zeroSt) (k+4*(j:Int))::rs.drop (j+1):=by
 rw [halfSts,(seats_split rs j h).2,markSts_app,List.length_take,Nat.min_eq_left (by omega)]
 simp [markSts]
theorem OwnSts.mark4 {w:World} {lo hi g c j:Nat} {A B:List SeatA} {z:SeatA} (h:OwnSts w lo hi (some ⟨g,0,none⟩) c (A++z::B)) (hj:A.length=j) (v0 v1:Int) (d t:Bool):
  ∃ W,Hid ((((w.setCell ⟨g,j*20,none⟩ (.int .i64 v0)).setCell ⟨g,j*20+1,none⟩ (.int .i64 v1)).setCell ⟨g,j*20+18,none⟩ (.bool d)).setCell ⟨g,j*20+19,none⟩ (.bool t)=W)∧OwnSts W lo hi (some ⟨g,0,none⟩) c (A++⟨v0,v1,z.s0,z.s1,z.s2,z.s3,d,t⟩::B)∧Touch [g] w W:=by
 subst hj
 obtain ⟨h0,t0⟩:=h.cellSet (z':=⟨v0,z.lsn,z.s0,z.s1,z.s2,z.s3,z.dirty,z.hot⟩) 0 (.int .i64 v0) (by omega) rfl rfl
 obtain ⟨h1,t1⟩:=h0.cellSet (z':=⟨v0,v1,z.s0,z.s1,z.s2,z.s3,z.dirty,z.hot⟩) 1 (.int .i64 v1) (by omega) rfl rfl
 obtain ⟨h2,t2⟩:=h1.cellSet (z':=⟨v0,v1,z.s0,z.s1,z.s2,z.s3,d,z.hot⟩) 18 (.bool d) (by omega) rfl rfl
 obtain ⟨h3,t3⟩:=h2.cellSet (z':=⟨v0,v1,z.s0,z.s1,z.s2,z.s3,d,t⟩) 19 (.bool t) (by omega) rfl rfl
 exact ⟨_,rfl,h3,((t0.trans t1).trans t2).trans t3⟩
theorem markSeatS_touch (lo hi:Nat) (a:Option Addr) (cap:Nat) (k0:Int) (rs:List SeatA) (w:World) (ho:OwnSts w lo hi a cap rs) (h0:0≤k0) (hk:k0+4*(rs.length:Int)≤1152921504606846976):
  Calls Try.prog 60 #[.slice a rs.length cap,.int .i64 k0] w fun e w'=>e=.returned (.int .i64 (k0+4*(rs.length:Int)))∧OwnSts w' lo hi a cap (markSts rs k0)∧Touch (blocksSts a cap rs) w w':=by
 rcases ho.row.2 with ⟨hv,h00⟩ | ⟨g,cap',cur,hv,hg,hgg,hr⟩
 ·simp only [Value.slice.injEq] at hv
  obtain ⟨rfl,_,rfl⟩:=hv
  obtain rfl:=List.length_eq_zero_iff.1 h00
  go_enter Try.func60,Try.ntmps60
  go_wp2
  refine wp_loop_rounds 1 ?_
  rw [rounds_succ]
  go_wp2
  go_ret
  exact ⟨by simp,ho,Touch.refl _ _⟩
 ·simp only [Value.slice.injEq] at hv
  obtain ⟨rfl,_,rfl⟩:=hv
  have hlm:rs.length≤maxLen:=Nat.le_trans hr.1 hr.2.1
  simp only [maxLen] at hlm
  clear hgg hr
  have HH:Hid (halfSts rs k0 0=rs∧halfSts rs k0 rs.length=markSts rs k0):=⟨by simp [halfSts,markSts],by simp [halfSts]⟩
  have HST:Hid (OwnSts w lo hi (some ⟨g,0,none⟩) cap (halfSts rs k0 0)):=by rw [HH.out.1];exact ho
  have HSUB:Hid (∀ k∈[g],k∈blocksSts (some ⟨g,0,none⟩) cap rs):=fun k hk=>by
   obtain rfl:=List.mem_singleton.1 hk
   exact List.mem_append.2 (.inl (by simp [Value.ownBlock]))
  clear ho
  go_enter Try.func60,Try.ntmps60
  go_wp2
  go_loopw [1,5] (fun kk i wr=>∃ j:Nat,j≤rs.length∧i=.int .i64 j∧kk=.int .i64 (k0+4*(j:Int))∧Hid (OwnSts wr lo hi (some ⟨g,0,none⟩) cap (halfSts rs k0 j))∧Touch (blocksSts (some ⟨g,0,none⟩) cap rs) w wr)
   (fun _ i _=>rs.length-(intOf i).toNat)
  case atStart=>exact ⟨0,Nat.zero_le _,rfl,by simp,HST,Touch.refl _ _⟩
  case round=>
   obtain ⟨j,hj,rfl,rfl,hown,htw⟩:=hrel
   clear HST
   by_cases hlt:j<rs.length
   ·have ho:=hown.out
    rw [halfSts_at rs k0 j hlt] at ho
    have HN:Hid (halfSts rs k0 (j+1)=_):=halfSts_next rs k0 j hlt
    have hA:(markSts (rs.take j) k0).length=j:=by rw [markSts_len,List.length_take];omega
    have hkb:0≤k0+4*(j:Int)∧k0+4*(j:Int)+4≤1152921504606846976:=⟨by omega,by omega⟩
    have HKN:Hid (k0+4*((j+1:Nat):Int)=k0+4*(j:Int)+1+1+1+1):=by rw [Hid];omega
    have hjl:j<(markSts (rs.take j) k0++rs.getD j zeroSt::rs.drop (j+1)).length:=by simp [hA]
    have hrow:=ho.row
    have hat:=(row_seat ho.row rfl j hjl).1
    have ez:(markSts (rs.take j) k0++rs.getD j zeroSt::rs.drop (j+1)).getD j zeroSt=rs.getD j zeroSt:=by simp [List.getD,hA]
    rw [ez] at hat
    have x0:wr.cell? ⟨g,j*20,none⟩=some (.int .i64 (rs.getD j zeroSt).no):=hat 0 _ rfl
    have x1:wr.cell? ⟨g,j*20+1,none⟩=some (.int .i64 (rs.getD j zeroSt).lsn):=hat 1 _ rfl
    have x18:wr.cell? ⟨g,j*20+18,none⟩=some (.bool (rs.getD j zeroSt).dirty):=hat 18 _ rfl
    have x19:wr.cell? ⟨g,j*20+19,none⟩=some (.bool (rs.getD j zeroSt).hot):=hat 19 _ rfl
    have f0:wr.frozen? ⟨g,j*20,none⟩=false:=hrow.frozenAt _
    have f1:=hrow.frozenAt (j*20+1)
    have f18:=hrow.frozenAt (j*20+18)
    have f19:=hrow.frozenAt (j*20+19)
    obtain ⟨W,hW,oW,tW⟩:=ho.mark4 hA (k0+4*(j:Int)) (k0+4*(j:Int)+1) ((k0+4*(j:Int)+1+1) % 3 == 0) ((k0+4*(j:Int)+1+1+1) % 3 == 0)
    have HFIN:Hid (OwnSts W lo hi (some ⟨g,0,none⟩) cap (halfSts rs k0 (j+1))∧Touch (blocksSts (some ⟨g,0,none⟩) cap rs) w W):=by
     refine ⟨?_,htw.trans (tW.mono HSUB.out)⟩
     rw [HN.out]
     exact oW
    clear ho hown htw oW tW HN hat hrow hjl ez hA hk h0
    generalize (rs.getD j zeroSt).no=z0 at*
    generalize (rs.getD j zeroSt).lsn=z1 at*
    generalize (rs.getD j zeroSt).dirty=z2 at*
    generalize (rs.getD j zeroSt).hot=z3 at*
    generalize k0+4*(j:Int)=kk at*
    go_wp2_with fail
    rw [hW.out]
    go_roundw
    case rel=>exact ⟨j+1,by omega,by go_num,by rw [HKN.out],HFIN.out.1,HFIN.out.2⟩
    case measure=>simp [intOf];omega
   ·have HE:Hid (OwnSts wr lo hi (some ⟨g,0,none⟩) cap (markSts rs k0)∧k0+4*(j:Int)=k0+4*(rs.length:Int)):=by
     have e:j=rs.length:=by omega
     rw [e,HH.out.2] at hown
     exact ⟨hown.out,by rw [e]⟩
    go_wp2
    go_ret
    exact ⟨ret_int HE.out.2,HE.out.1,htw⟩
def PoolA.mark (l:PoolA) (k:Int):PoolA:={ l with seats:=markSts l.seats k }
def PoolA.count (l:PoolA):Nat:=4*l.seats.length
theorem cnt4 (n:Nat):((4*n:Nat):Int)=4*(n:Int):=by omega
theorem markPool_touch (l:PoolA) (lo hi:Nat) (k0:Int) (w:World) (ho:l.own w lo hi) (hl:l.short 1099511627776) (h0:0≤k0) (hk:k0+l.count≤1152921504606846976):
  Calls Try.prog 35 #[.agg l.cells.toArray,.int .i64 k0] w fun e w'=>e=.returned (.int .i64 (k0+l.count))∧(l.mark k0).own w' lo hi∧Touch l.blocks w w':=by
 obtain ⟨rs,s,a,c⟩:=l
 simp only [PoolA.cells,PoolA.own,PoolA.count,PoolA.mark,PoolA.blocks,cnt4] at*
 obtain ⟨W,hW,b0,hbW,hsW⟩:=boxes1 w [.slice a rs.length c,.int .i64 s] 53
 have c0:=b0.cell 0 _ rfl
 have C:=markSeatS_touch lo hi a c k0 rs W (ho.below hbW) h0 hk
 clear hsW b0
 go_enter Try.func35,Try.ntmps35
 go_wp2_with fail
 rw [hW.out]
 clear hW
 refine C.mono ?_
 rintro e w1 ⟨rfl,ho1,ht1⟩
 go_wp2
 go_ret
 exact ⟨rfl,ho1,(Touch.of_below hbW).trans ht1⟩
end Go.Proofs.Ytfehemepdoomdaa
namespace Go.Proofs.Ytfehemepdoomdaa
open Go.RowKit
def markRA (r:RecA) (k:Int):RecA:=
 ⟨k,k+1,k+1+1,k+1+1+1,k+1+1+1+1,
  ⟨⟨((k+1+1+1+1+1) % 3 == 0),⟨k+1+1+1+1+1+1,marksI (k+1+1+1+1+1+1+1) r.bf.v.o.ints.length,marksI (k+1+1+1+1+1+1+1+r.bf.v.o.ints.length) r.bf.v.o.refs.length⟩⟩,r.bf.aI,r.bf.cI,r.bf.aR,r.bf.cR⟩,
  ⟨⟨((k+1+1+1+1+1+1+1+r.bf.v.o.ints.length+r.bf.v.o.refs.length) % 3 == 0),⟨k+1+1+1+1+1+1+1+r.bf.v.o.ints.length+r.bf.v.o.refs.length+1,marksI (k+1+1+1+1+1+1+1+r.bf.v.o.ints.length+r.bf.v.o.refs.length+1+1) r.af.v.o.ints.length,marksI (k+1+1+1+1+1+1+1+r.bf.v.o.ints.length+r.bf.v.o.refs.length+1+1+r.af.v.o.ints.length) r.af.v.o.refs.length⟩⟩,r.af.aI,r.af.cI,r.af.aR,r.af.cR⟩,
  k+1+1+1+1+1+1+1+r.bf.v.o.ints.length+r.bf.v.o.refs.length+1+1+r.af.v.o.ints.length+r.af.v.o.refs.length,
  marksL (k+1+1+1+1+1+1+1+r.bf.v.o.ints.length+r.bf.v.o.refs.length+1+1+r.af.v.o.ints.length+r.af.v.o.refs.length+1) r.txs.length,r.aL,r.cL⟩
def countRA (r:RecA):Nat:=10+r.bf.v.o.ints.length+r.bf.v.o.refs.length+r.af.v.o.ints.length+r.af.v.o.refs.length+3*r.txs.length
def markRs:List RecA→Int→List RecA
 | [],_=>[]
 | r::t,k=>markRA r k::markRs t (k+countRA r)
def countRs:List RecA→Nat
 | []=>0
 | r::t=>countRA r+countRs t
theorem markRA_blocks (r:RecA) (k:Int):(markRA r k).blocks=r.blocks:=by simp [markRA,RecA.blocks,SlotA.blocks,marksI_len,marksL_len]
theorem markRs_len (rs:List RecA):∀ k,(markRs rs k).length=rs.length:=by
 induction rs with
 | nil=>intro k;rfl
 | cons x r ih=>intro k;simp [markRs,ih]
theorem markRs_app (A B:List RecA):∀ k,markRs (A++B) k=markRs A k++markRs B (k+countRs A):=by
 induction A with
 | nil=>intro k;simp [markRs,countRs]
 | cons x r ih=>
  intro k
  simp only [List.cons_append,markRs,ih,countRs]
  congr 3
  omega
theorem countRs_app (A B:List RecA):countRs (A++B)=countRs A+countRs B:=by
 induction A with
 | nil=>simp [countRs]
 | cons x r ih=>simp only [List.cons_append,countRs,ih];omega
theorem markRs_blocks (rs:List RecA):∀ k,(markRs rs k).flatMap RecA.blocks=rs.flatMap RecA.blocks:=by
 induction rs with
 | nil=>intro k;rfl
 | cons x r ih=>intro k;simp only [markRs,List.flatMap_cons,ih,markRA_blocks]
theorem recs_split (rs:List RecA) (j:Nat) (h:j<rs.length):rs.drop j=rs.getD j zeroR::rs.drop (j+1)∧rs.take (j+1)=rs.take j++[rs.getD j zeroR]:=by
 have e:rs.getD j zeroR=rs[j]:=by simp [List.getD,h]
 exact ⟨by rw [List.drop_eq_getElem_cons h,e],by rw [List.take_succ_eq_append_getElem h,e]⟩
def halfRs (rs:List RecA) (k:Int) (j:Nat):List RecA:=markRs (rs.take j) k++rs.drop j
theorem halfRs_len (rs:List RecA) (k:Int) (j:Nat) (h:j≤rs.length):(halfRs rs k j).length=rs.length:=by simp [halfRs,markRs_len];omega
theorem halfRs_at (rs:List RecA) (k:Int) (j:Nat) (h:j<rs.length):halfRs rs k j=markRs (rs.take j) k++rs.getD j zeroR::rs.drop (j+1):=by rw [halfRs,(recs_split rs j h).1]
theorem halfRs_next (rs:List RecA) (k:Int) (j:Nat) (h:j<rs.length):halfRs rs k (j+1)=markRs (rs.take j) k++markRA (rs.getD j zeroR) (k+countRs (rs.take j))::rs.drop (j+1):=by
 rw [halfRs,(recs_split rs j h).2,markRs_app]
 simp [markRs]
theorem countRs_next (rs:List RecA) (j:Nat) (h:j<rs.length):countRs (rs.take (j+1))=countRs (rs.take j)+countRA (rs.getD j zeroR):=by
 rw [(recs_split rs j h).2,countRs_app]
 simp [countRs]
theorem countRs_le (rs:List RecA) (j:Nat):countRs (rs.take j)≤countRs rs:=by
 have:countRs rs=countRs (rs.take j)+countRs (rs.drop j):=by rw [← countRs_app,List.take_append_drop]
 omega
def RowR (w:World) (base g n cap:Nat) (pre cs post:List Value):Prop:=w.ownsRow base 130 15 (.slice (some ⟨g,0,none⟩) n cap) n (pre++(cs++post))
theorem RowR.cell {w:World} {base g n cap j:Nat} {pre cs post:List Value} (h:RowR w base g n cap pre cs post) (hp:pre.length=j*15) (hc:cs.length=15) (i:Nat) (v:Value) (hv:cs[i]? =some v):w.cell? ⟨g,j*15+i,none⟩=some v:=by
 have hi:i<15:=by have:=(List.getElem?_eq_some_iff.1 hv).1;omega
 have hl:=h.1
 rw [List.length_append,List.length_append] at hl
 rw [World.ownsRow.cellAt h (j*15+i) (by omega),List.getElem?_append_right (by omega),List.getElem?_append_left (by omega),show j*15+i-pre.length=i by omega]
 exact hv
theorem RowR.frozen {w:World} {base g n cap:Nat} {pre cs post:List Value} (h:RowR w base g n cap pre cs post) (i:Nat):w.frozen? ⟨g,i,none⟩=false:=World.ownsRow.frozenAt h i
theorem RowR.set {w:World} {base g n cap j:Nat} {pre cs post:List Value} (h:RowR w base g n cap pre cs post) (hp:pre.length=j*15) (hc:cs.length=15) (i:Nat) (hi:i<15) (v:Value):RowR (w.setCell ⟨g,j*15+i,none⟩ v) base g n cap pre (cs.set i v) post∧w.grownBy (w.setCell ⟨g,j*15+i,none⟩ v) (some g):=by
 have:=World.ownsRow.stored h (j*15+i) v
 rw [List.set_append_right _ _ (by omega),show j*15+i-pre.length=i by omega,List.set_append_left _ _ (by omega)] at this
 exact this
theorem RowR.block {w w':World} {base g n cap:Nat} {pre cs post:List Value} (h:RowR w base g n cap pre cs post) (hb:w'.heap[g]? =w.heap[g]?):RowR w' base g n cap pre cs post:=ownsRow_block h (fun k hk=>by cases hk;exact hb)
theorem RowR.sets7 {w:World} {base g n cap j:Nat} {pre post:List Value} {x0 x1 x2 x3 x4 x5 x6 x7 x8 x9 x10 x11 x12 x13 x14:Value} (h:RowR w base g n cap pre [x0,x1,x2,x3,x4,x5,x6,x7,x8,x9,x10,x11,x12,x13,x14] post) (hp:pre.length=j*15) (v0 v1 v2 v3 v4 v5 v6:Value):
  ∃ W,Hid (((((((w.setCell ⟨g,j*15,none⟩ v0).setCell ⟨g,j*15+1,none⟩ v1).setCell ⟨g,j*15+2,none⟩ v2).setCell ⟨g,j*15+3,none⟩ v3).setCell ⟨g,j*15+4,none⟩ v4).setCell ⟨g,j*15+5,none⟩ v5).setCell ⟨g,j*15+6,none⟩ v6=W)∧RowR W base g n cap pre [v0,v1,v2,v3,v4,v5,v6,x7,x8,x9,x10,x11,x12,x13,x14] post∧Touch [g] w W:=by
 obtain ⟨a0,g0⟩:=h.set hp rfl 0 (by omega) v0
 obtain ⟨a1,g1⟩:=a0.set hp rfl 1 (by omega) v1
 obtain ⟨a2,g2⟩:=a1.set hp rfl 2 (by omega) v2
 obtain ⟨a3,g3⟩:=a2.set hp rfl 3 (by omega) v3
 obtain ⟨a4,g4⟩:=a3.set hp rfl 4 (by omega) v4
 obtain ⟨a5,g5⟩:=a4.set hp rfl 5 (by omega) v5
 obtain ⟨a6,g6⟩:=a5.set hp rfl 6 (by omega) v6
 exact ⟨_,rfl,a6,Touch.of_grown (grownBy_trans (grownBy_trans (grownBy_trans (grownBy_trans (grownBy_trans (grownBy_trans g0 g1) g2) g3) g4) g5) g6) (fun k hk=>by cases hk;simp)⟩
theorem RowR.sets2 {w:World} {base g n cap j:Nat} {pre post:List Value} {x0 x1 x2 x3 x4 x5 x6 x7 x8 x9 x10 x11 x12 x13 x14:Value} (h:RowR w base g n cap pre [x0,x1,x2,x3,x4,x5,x6,x7,x8,x9,x10,x11,x12,x13,x14] post) (hp:pre.length=j*15) (v0 v1:Value):
  ∃ W,Hid ((w.setCell ⟨g,j*15+9,none⟩ v0).setCell ⟨g,j*15+10,none⟩ v1=W)∧RowR W base g n cap pre [x0,x1,x2,x3,x4,x5,x6,x7,x8,v0,v1,x11,x12,x13,x14] post∧Touch [g] w W:=by
 obtain ⟨a0,g0⟩:=h.set hp rfl 9 (by omega) v0
 obtain ⟨a1,g1⟩:=a0.set hp rfl 10 (by omega) v1
 exact ⟨_,rfl,a1,Touch.of_grown (grownBy_trans g0 g1) (fun k hk=>by cases hk;simp)⟩
theorem RowR.set1 {w:World} {base g n cap j:Nat} {pre post:List Value} {x0 x1 x2 x3 x4 x5 x6 x7 x8 x9 x10 x11 x12 x13 x14:Value} (h:RowR w base g n cap pre [x0,x1,x2,x3,x4,x5,x6,x7,x8,x9,x10,x11,x12,x13,x14] post) (hp:pre.length=j*15) (v0:Value):
  ∃ W,Hid (w.setCell ⟨g,j*15+13,none⟩ v0=W)∧RowR W base g n cap pre [x0,x1,x2,x3,x4,x5,x6,x7,x8,x9,x10,x11,x12,v0,x14] post∧Touch [g] w W:=by
 obtain ⟨a0,g0⟩:=h.set hp rfl 13 (by omega) v0
 exact ⟨_,rfl,a0,Touch.of_grown g0 (fun k hk=>by cases hk;simp)⟩
theorem five_apart {L1 L2 L3 L4 L5:List Nat} (h:((L1++L2)++((L3++L4)++L5)).Nodup):
  (∀ k,k∈L1→k∉L2∧k∉L3∧k∉L4∧k∉L5)∧(∀ k,k∈L2→k∉L1∧k∉L3∧k∉L4∧k∉L5)∧(∀ k,k∈L3→k∉L1∧k∉L2∧k∉L4∧k∉L5)∧(∀ k,k∈L4→k∉L1∧k∉L2∧k∉L3∧k∉L5)∧(∀ k,k∈L5→k∉L1∧k∉L2∧k∉L3∧k∉L4):=by
 simp only [List.nodup_append,List.mem_append] at h
 obtain ⟨⟨_,_,h12⟩,⟨⟨_,_,h34⟩,_,h45⟩,hx⟩:=h
 refine ⟨fun k hk=>⟨fun h'=>h12 k hk k h' rfl,fun h'=>hx k (.inl hk) k (.inl (.inl h')) rfl,fun h'=>hx k (.inl hk) k (.inl (.inr h')) rfl,fun h'=>hx k (.inl hk) k (.inr h') rfl⟩,
  fun k hk=>⟨fun h'=>h12 k h' k hk rfl,fun h'=>hx k (.inr hk) k (.inl (.inl h')) rfl,fun h'=>hx k (.inr hk) k (.inl (.inr h')) rfl,fun h'=>hx k (.inr hk) k (.inr h') rfl⟩,
  fun k hk=>⟨fun h'=>hx k (.inl h') k (.inl (.inl hk)) rfl,fun h'=>hx k (.inr h') k (.inl (.inl hk)) rfl,fun h'=>h34 k hk k h' rfl,fun h'=>h45 k (.inl hk) k h' rfl⟩,
  fun k hk=>⟨fun h'=>hx k (.inl h') k (.inl (.inr hk)) rfl,fun h'=>hx k (.inr h') k (.inl (.inr hk)) rfl,fun h'=>h34 k h' k hk rfl,fun h'=>h45 k (.inr hk) k h' rfl⟩,
  fun k hk=>⟨fun h'=>hx k (.inl h') k (.inr hk) rfl,fun h'=>hx k (.inr h') k (.inr hk) rfl,fun h'=>h45 k (.inl h') k hk rfl,fun h'=>h45 k (.inr h') k hk rfl⟩⟩
theorem markIntS_touch (lo hi:Nat) (a:Option Addr) (cap:Nat) (k0:Int) (xs:List Int) (w:World) (ho:OwnI w lo hi a cap xs) (h0:0≤k0) (hl:k0+xs.length≤4611686018427387904):
  Calls Try.prog 39 #[.slice a xs.length cap,.int .i64 k0] w fun e w'=>e=.returned (.int .i64 (k0+xs.length))∧OwnI w' lo hi a cap (marksI k0 xs.length)∧Touch (Value.slice a xs.length cap).ownBlock.toList w w':=by
 refine (markIntS_any lo a cap k0 xs w ho.1 h0 hl).mono ?_
 rintro e w' ⟨rfl,h1,h2⟩
 exact ⟨rfl,⟨by rw [marksI_len];exact h1,Nat.le_trans ho.2.1 h2.size,by rw [marksI_len];exact ho.2.2⟩,Touch.of_grown h2 (fun j hj=>Option.mem_toList.2 hj)⟩
theorem OwnI.keep {w w':World} {lo hi:Nat} {a:Option Addr} {c:Nat} {ns:List Int} {bl:List Nat} (h:OwnI w lo hi a c ns) (ht:Touch bl w w') (hd:∀ k,k∈(Value.slice a ns.length c).ownBlock.toList→k∉bl):OwnI w' lo hi a c ns:=h.touch ht (fun k hk=>hd k (Option.mem_toList.2 hk))
theorem OwnL.keep {w w':World} {lo hi:Nat} {a:Option Addr} {c:Nat} {ns:List LiveV} {bl:List Nat} (h:OwnL w lo hi a c ns) (ht:Touch bl w w') (hd:∀ k,k∈(Value.slice a ns.length c).ownBlock.toList→k∉bl):OwnL w' lo hi a c ns:=h.touch ht (fun k hk=>hd k (Option.mem_toList.2 hk))
theorem RowR.keep {w w':World} {base g n cap:Nat} {pre cs post:List Value} {bl:List Nat} (h:RowR w base g n cap pre cs post) (ht:Touch bl w w') (hd:g∉bl):RowR w' base g n cap pre cs post:=h.block (ht.block g (World.ownsRow.lt h g rfl).2 hd)
theorem OwnRs.replace {w w':World} {lo hi g c:Nat} {A B:List RecA} {z y:RecA} (h:OwnRs w lo hi (some ⟨g,0,none⟩) c (A++z::B)) (ht:Touch (g::z.blocks) w w') (hrow:RowR w' lo g (A++z::B).length c (cellsRs A) y.cells (cellsRs B)) (hy:y.own w' lo hi) (hb:y.blocks=z.blocks):OwnRs w' lo hi (some ⟨g,0,none⟩) c (A++y::B):=by
 have hap:=h.apart
 simp only [List.flatMap_append,List.flatMap_cons,Value.ownBlock,Option.toList,List.singleton_append,List.nodup_cons,List.nodup_append,List.mem_append,not_or] at hap
 obtain ⟨⟨n1,n2,n3⟩,a1,⟨a2,a3,a4⟩,a5⟩:=hap
 refine ⟨?_,Nat.le_trans h.top ht.size,fun k hk=>by cases hk;exact h.blk g rfl,fun r hr=>?_,?_⟩
 ·have e:(A++y::B).length=(A++z::B).length:=by simp
  rw [e,cellsRs_app,cellsRs_cons]
  exact hrow
 ·rcases List.mem_append.1 hr with hr | hr
  ·refine (h.each r (by simp [hr])).touch ht (fun k hk hk'=>?_)
   have hm:k∈A.flatMap RecA.blocks:=List.mem_flatMap.2 ⟨r,hr,hk⟩
   rcases List.mem_cons.1 hk' with rfl | hk'
   ·exact n1 hm
   ·exact a5 k hm k (.inl hk') rfl
  ·rcases List.mem_cons.1 hr with rfl | hr
   ·exact hy
   ·refine (h.each r (by simp [hr])).touch ht (fun k hk hk'=>?_)
    have hm:k∈B.flatMap RecA.blocks:=List.mem_flatMap.2 ⟨r,hr,hk⟩
    rcases List.mem_cons.1 hk' with rfl | hk'
    ·exact n3 hm
    ·exact a4 k hk' k hm rfl
 ·have:=h.apart
  simp only [List.flatMap_append,List.flatMap_cons] at this ⊢
  rw [hb]
  exact this
theorem markRecS_touch (lo hi:Nat) (a:Option Addr) (cap:Nat) (k0:Int) (rs:List RecA) (w:World) (ho:OwnRs w lo hi a cap rs) (hl:∀ r∈rs,r.short 1099511627776) (h0:0≤k0) (hk:k0+countRs rs≤1152921504606846976):
  Calls Try.prog 61 #[.slice a rs.length cap,.int .i64 k0] w fun e w'=>e=.returned (.int .i64 (k0+countRs rs))∧OwnRs w' lo hi a cap (markRs rs k0)∧Touch (blocksRs a cap rs) w w':=by
 rcases ho.row.2 with ⟨hv,h00⟩ | ⟨g,cap',cur,hv,hg,hgg,hr⟩
 ·simp only [Value.slice.injEq] at hv
  obtain ⟨rfl,_,rfl⟩:=hv
  obtain rfl:=List.length_eq_zero_iff.1 h00
  go_enter Try.func61,Try.ntmps61
  go_wp2
  refine wp_loop_rounds 1 ?_
  rw [rounds_succ]
  go_wp2
  go_ret
  exact ⟨by simp [countRs],ho,Touch.refl _ _⟩
 ·simp only [Value.slice.injEq] at hv
  obtain ⟨rfl,_,rfl⟩:=hv
  have hlm:rs.length≤maxLen:=Nat.le_trans hr.1 hr.2.1
  simp only [maxLen] at hlm
  clear hgg hr
  have HH:Hid (halfRs rs k0 0=rs∧halfRs rs k0 rs.length=markRs rs k0):=⟨by simp [halfRs,markRs],by simp [halfRs]⟩
  have HST:Hid (OwnRs w lo hi (some ⟨g,0,none⟩) cap (halfRs rs k0 0)):=by rw [HH.out.1];exact ho
  have HSH:Hid (∀ j,j<rs.length→(rs.getD j zeroR).short 1099511627776):=fun j hj=>hl _ (recD_mem rs j hj)
  have HSUB:Hid (∀ j,j<rs.length→∀ k∈g::(rs.getD j zeroR).blocks,k∈blocksRs (some ⟨g,0,none⟩) cap rs):=fun j hj k hk=>by
   rcases List.mem_cons.1 hk with rfl | hk
   ·exact List.mem_append.2 (.inl (by simp [Value.ownBlock]))
   ·exact List.mem_append.2 (.inr (List.mem_flatMap.2 ⟨_,recD_mem rs j hj,hk⟩))
  clear ho hl
  go_enter Try.func61,Try.ntmps61
  go_wp2
  go_loopw [1,5] (fun kk i wr=>∃ j:Nat,j≤rs.length∧i=.int .i64 j∧kk=.int .i64 (k0+countRs (rs.take j))∧Hid (OwnRs wr lo hi (some ⟨g,0,none⟩) cap (halfRs rs k0 j))∧Touch (blocksRs (some ⟨g,0,none⟩) cap rs) w wr)
   (fun _ i _=>rs.length-(intOf i).toNat)
  case atStart=>exact ⟨0,Nat.zero_le _,rfl,by simp [countRs],HST,Touch.refl _ _⟩
  case round=>
   obtain ⟨j,hj,rfl,rfl,hown,htw⟩:=hrel
   clear HST
   by_cases hlt:j<rs.length
   ·have hsh:=HSH.out j hlt
    have hsub:=HSUB.out j hlt
    have hcn:=countRs_next rs j hlt
    have hcl:=countRs_le rs (j+1)
    have ho:=hown.out
    rw [halfRs_at rs k0 j hlt] at ho
    have hlen:=halfRs_len rs k0 j hj
    rw [halfRs_at rs k0 j hlt] at hlen
    have HN:Hid (halfRs rs k0 (j+1)=_):=halfRs_next rs k0 j hlt
    have hA:(cellsRs (markRs (rs.take j) k0)).length=j*15:=by rw [cellsRs_len,markRs_len,List.length_take];congr 1;omega
    have HCN:Hid (k0+countRs (rs.take (j+1))=k0+countRs (rs.take j)+countRA (rs.getD j zeroR)):=by rw [Hid,hcn];omega
    have hkb:0≤k0+(countRs (rs.take j):Int)∧k0+(countRs (rs.take j):Int)+countRA (rs.getD j zeroR)≤1152921504606846976:=⟨by omega,by omega⟩
    clear hcn hcl hown hk h0
    generalize k0+(countRs (rs.take j):Int)=kk at*
    generalize markRs (rs.take j) k0=A at*
    generalize rs.drop (j+1)=B at*
    generalize rs.getD j zeroR=z at*
    have hz:=ho.each z (List.mem_append.2 (.inr (List.mem_cons.2 (.inl rfl))))
    have HG:Hid (g∉z.blocks):=row_apart ho.row hz g rfl
    have hap:=hz.apart
    have HZA:Hid (z.blocks.Nodup):=hz.apart
    simp only [RecA.blocks,SlotA.blocks] at hap
    have HAP:Hid (_∧_∧_∧_∧_):=five_apart hap
    have HGN:Hid (g∉(Value.slice z.bf.aI z.bf.v.o.ints.length z.bf.cI).ownBlock.toList∧g∉(Value.slice z.bf.aR z.bf.v.o.refs.length z.bf.cR).ownBlock.toList∧g∉(Value.slice z.af.aI z.af.v.o.ints.length z.af.cI).ownBlock.toList∧g∉(Value.slice z.af.aR z.af.v.o.refs.length z.af.cR).ownBlock.toList∧g∉(Value.slice z.aL z.txs.length z.cL).ownBlock.toList):=by
     have:=HG.out
     simp only [RecA.blocks,SlotA.blocks,List.mem_append,not_or] at this
     exact ⟨this.1.1,this.1.2,this.2.1.1,this.2.1.2,this.2.2⟩
    have HM:Hid ((∀ k∈(Value.slice z.bf.aI z.bf.v.o.ints.length z.bf.cI).ownBlock.toList,k∈z.blocks)∧(∀ k∈(Value.slice z.bf.aR z.bf.v.o.refs.length z.bf.cR).ownBlock.toList,k∈z.blocks)∧(∀ k∈(Value.slice z.af.aI z.af.v.o.ints.length z.af.cI).ownBlock.toList,k∈z.blocks)∧(∀ k∈(Value.slice z.af.aR z.af.v.o.refs.length z.af.cR).ownBlock.toList,k∈z.blocks)∧(∀ k∈(Value.slice z.aL z.txs.length z.cL).ownBlock.toList,k∈z.blocks)):=by
     simp only [RecA.blocks,SlotA.blocks]
     exact ⟨fun k h=>List.mem_append.2 (.inl (List.mem_append.2 (.inl h))),fun k h=>List.mem_append.2 (.inl (List.mem_append.2 (.inr h))),fun k h=>List.mem_append.2 (.inr (List.mem_append.2 (.inl (List.mem_append.2 (.inl h))))),fun k h=>List.mem_append.2 (.inr (List.mem_append.2 (.inl (List.mem_append.2 (.inr h))))),fun k h=>List.mem_append.2 (.inr (List.mem_append.2 (.inr h)))⟩
    have row:RowR wr lo g rs.length cap (cellsRs A) z.cells (cellsRs B):=by
     have:=ho.row
     rw [hlen,cellsRs_app,cellsRs_cons] at this
     exact this
    have hbI:=hz.bf.ints
    have hbR:=hz.bf.refs
    have haI:=hz.af.ints
    have haR:=hz.af.refs
    have hL:=hz.txs
    have hcz:countRA z=10+z.bf.v.o.ints.length+z.bf.v.o.refs.length+z.af.v.o.ints.length+z.af.v.o.refs.length+3*z.txs.length:=rfl
    have HBA:Hid (∀ k∈z.blocks,k∈g::z.blocks):=fun k hk=>List.mem_cons.2 (.inr hk)
    have HGB:Hid (∀ k∈[g],k∈g::z.blocks):=fun k hk=>List.mem_cons.2 (.inl (List.mem_singleton.1 hk))
    have HNG:Hid (∀ (L:List Nat),g∉L→∀ k,k∈L→k∉[g]):=fun L hg k hk hk'=>hg (by rw [← List.mem_singleton.1 hk'];exact hk)
    clear hap hz
    simp only [RecA.cells] at row
    have x0:wr.cell? ⟨g,j*15,none⟩=_:=row.cell hA rfl 0 _ rfl
    have x1:=row.cell hA rfl 1 _ rfl
    have x2:=row.cell hA rfl 2 _ rfl
    have x3:=row.cell hA rfl 3 _ rfl
    have x4:=row.cell hA rfl 4 _ rfl
    have x5:=row.cell hA rfl 5 _ rfl
    have x6:=row.cell hA rfl 6 _ rfl
    have f0:wr.frozen? ⟨g,j*15,none⟩=false:=row.frozen _
    have f1:=row.frozen (j*15+1)
    have f2:=row.frozen (j*15+2)
    have f3:=row.frozen (j*15+3)
    have f4:=row.frozen (j*15+4)
    have f5:=row.frozen (j*15+5)
    have f6:=row.frozen (j*15+6)
    obtain ⟨W1,hW1,row1,t1⟩:=row.sets7 hA (.int .i64 kk) (.int .i64 (kk+1)) (.int .i64 (kk+1+1)) (.int .i64 (kk+1+1+1)) (.int .i64 (kk+1+1+1+1)) (.bool ((kk+1+1+1+1+1) % 3 == 0)) (.int .i64 (kk+1+1+1+1+1+1))
    have HT:Hid (Touch (g::z.blocks) wr W1):=t1.mono HGB.out
    have bI1:=hbI.keep t1 (HNG.out _ HGN.out.1)
    have bR1:=hbR.keep t1 (HNG.out _ HGN.out.2.1)
    have aI1:=haI.keep t1 (HNG.out _ HGN.out.2.2.1)
    have aR1:=haR.keep t1 (HNG.out _ HGN.out.2.2.2.1)
    have L1:=hL.keep t1 (HNG.out _ HGN.out.2.2.2.2)
    clear t1 hbI hbR haI haR hL row
    go_upto_region 18 with fail
    rw [hW1.out]
    clear hW1 x0 x1 x2 x3 x4 x5 x6 f0 f1 f2 f3 f4 f5 f6
    have y7:=row1.cell hA rfl 7 _ rfl
    have C:=markIntS_touch lo hi z.bf.aI z.bf.cI (kk+1+1+1+1+1+1+1) z.bf.v.o.ints W1 bI1 (by omega) (by omega)
    go_wp2_with fail
    refine C.mono ?_
    clear C y7
    rintro e w2 ⟨rfl,mI,t2⟩
    have row2:=row1.keep t2 HGN.out.1
    have HT2:Hid (Touch (g::z.blocks) wr w2):=HT.out.trans ((t2.mono HM.out.1).mono HBA.out)
    have bR2:=bR1.keep t2 (fun k hk h=>(HAP.out.1 k h).1 hk)
    have aI2:=aI1.keep t2 (fun k hk h=>(HAP.out.1 k h).2.1 hk)
    have aR2:=aR1.keep t2 (fun k hk h=>(HAP.out.1 k h).2.2.1 hk)
    have L2:=L1.keep t2 (fun k hk h=>(HAP.out.1 k h).2.2.2 hk)
    clear bI1 bR1 aI1 aR1 L1 t2 row1 HT
    have y8:=row2.cell hA rfl 8 _ rfl
    have C:=markIntS_touch lo hi z.bf.aR z.bf.cR (kk+1+1+1+1+1+1+1+z.bf.v.o.ints.length) z.bf.v.o.refs w2 bR2 (by omega) (by omega)
    go_wp2_with fail
    refine C.mono ?_
    clear C y8
    rintro e w3 ⟨rfl,mR,t3⟩
    have row3:=row2.keep t3 HGN.out.2.1
    have HT3:Hid (Touch (g::z.blocks) wr w3):=HT2.out.trans ((t3.mono HM.out.2.1).mono HBA.out)
    have mI3:=mI.keep t3 (fun k hk h=>(HAP.out.2.1 k h).1 (by rw [marksI_len] at hk;exact hk))
    have aI3:=aI2.keep t3 (fun k hk h=>(HAP.out.2.1 k h).2.1 hk)
    have aR3:=aR2.keep t3 (fun k hk h=>(HAP.out.2.1 k h).2.2.1 hk)
    have L3:=L2.keep t3 (fun k hk h=>(HAP.out.2.1 k h).2.2.2 hk)
    clear mI bR2 aI2 aR2 L2 t3 row2 HT2
    have x9:=row3.cell hA rfl 9 _ rfl
    have x10:=row3.cell hA rfl 10 _ rfl
    have f9:=row3.frozen (j*15+9)
    have f10:=row3.frozen (j*15+10)
    obtain ⟨W4,hW4,row4,t4⟩:=row3.sets2 hA (.bool ((kk+1+1+1+1+1+1+1+z.bf.v.o.ints.length+z.bf.v.o.refs.length) % 3 == 0)) (.int .i64 (kk+1+1+1+1+1+1+1+z.bf.v.o.ints.length+z.bf.v.o.refs.length+1))
    have HT4:Hid (Touch (g::z.blocks) wr W4):=HT3.out.trans (t4.mono HGB.out)
    have mI4:=mI3.keep t4 (HNG.out _ (by rw [marksI_len];exact HGN.out.1))
    have mR4:=mR.keep t4 (HNG.out _ (by rw [marksI_len];exact HGN.out.2.1))
    have aI4:=aI3.keep t4 (HNG.out _ HGN.out.2.2.1)
    have aR4:=aR3.keep t4 (HNG.out _ HGN.out.2.2.2.1)
    have L4:=L3.keep t4 (HNG.out _ HGN.out.2.2.2.2)
    clear mI3 mR aI3 aR3 L3 t4 row3 HT3
    go_upto_region 24 with fail
    rw [hW4.out]
    clear hW4 x9 x10 f9 f10
    have y11:=row4.cell hA rfl 11 _ rfl
    have C:=markIntS_touch lo hi z.af.aI z.af.cI (kk+1+1+1+1+1+1+1+z.bf.v.o.ints.length+z.bf.v.o.refs.length+1+1) z.af.v.o.ints W4 aI4 (by omega) (by omega)
    go_wp2_with fail
    refine C.mono ?_
    clear C y11
    rintro e w5 ⟨rfl,nI,t5⟩
    have row5:=row4.keep t5 HGN.out.2.2.1
    have HT5:Hid (Touch (g::z.blocks) wr w5):=HT4.out.trans ((t5.mono HM.out.2.2.1).mono HBA.out)
    have mI5:=mI4.keep t5 (fun k hk h=>(HAP.out.2.2.1 k h).1 (by rw [marksI_len] at hk;exact hk))
    have mR5:=mR4.keep t5 (fun k hk h=>(HAP.out.2.2.1 k h).2.1 (by rw [marksI_len] at hk;exact hk))
    have aR5:=aR4.keep t5 (fun k hk h=>(HAP.out.2.2.1 k h).2.2.1 hk)
    have L5:=L4.keep t5 (fun k hk h=>(HAP.out.2.2.1 k h).2.2.2 hk)
    clear mI4 mR4 aI4 aR4 L4 t5 row4 HT4
    have y12:=row5.cell hA rfl 12 _ rfl
    have C:=markIntS_touch lo hi z.af.aR z.af.cR (kk+1+1+1+1+1+1+1+z.bf.v.o.ints.length+z.bf.v.o.refs.length+1+1+z.af.v.o.ints.length) z.af.v.o.refs w5 aR5 (by omega) (by omega)
    go_wp2_with fail
    refine C.mono ?_
    clear C y12
    rintro e w6 ⟨rfl,nR,t6⟩
    have row6:=row5.keep t6 HGN.out.2.2.2.1
    have HT6:Hid (Touch (g::z.blocks) wr w6):=HT5.out.trans ((t6.mono HM.out.2.2.2.1).mono HBA.out)
    have mI6:=mI5.keep t6 (fun k hk h=>(HAP.out.2.2.2.1 k h).1 (by rw [marksI_len] at hk;exact hk))
    have mR6:=mR5.keep t6 (fun k hk h=>(HAP.out.2.2.2.1 k h).2.1 (by rw [marksI_len] at hk;exact hk))
    have nI6:=nI.keep t6 (fun k hk h=>(HAP.out.2.2.2.1 k h).2.2.1 (by rw [marksI_len] at hk;exact hk))
    have L6:=L5.keep t6 (fun k hk h=>(HAP.out.2.2.2.1 k h).2.2.2 hk)
    clear mI5 mR5 nI aR5 L5 t6 row5 HT5
    have x13:=row6.cell hA rfl 13 _ rfl
    have f13:=row6.frozen (j*15+13)
    obtain ⟨W7,hW7,row7,t7⟩:=row6.set1 hA (.int .i64 (kk+1+1+1+1+1+1+1+z.bf.v.o.ints.length+z.bf.v.o.refs.length+1+1+z.af.v.o.ints.length+z.af.v.o.refs.length))
    have HT7:Hid (Touch (g::z.blocks) wr W7):=HT6.out.trans (t7.mono HGB.out)
    have mI7:=mI6.keep t7 (HNG.out _ (by rw [marksI_len];exact HGN.out.1))
    have mR7:=mR6.keep t7 (HNG.out _ (by rw [marksI_len];exact HGN.out.2.1))
    have nI7:=nI6.keep t7 (HNG.out _ (by rw [marksI_len];exact HGN.out.2.2.1))
    have nR7:=nR.keep t7 (HNG.out _ (by rw [marksI_len];exact HGN.out.2.2.2.1))
    have L7:=L6.keep t7 (HNG.out _ HGN.out.2.2.2.2)
    clear mI6 mR6 nI6 nR L6 t7 row6 HT6
    go_upto_region 28 with fail
    rw [hW7.out]
    clear hW7 x13 f13
    have y14:=row7.cell hA rfl 14 _ rfl
    have C:=markLiveS_own lo hi z.aL z.cL (kk+1+1+1+1+1+1+1+z.bf.v.o.ints.length+z.bf.v.o.refs.length+1+1+z.af.v.o.ints.length+z.af.v.o.refs.length+1) z.txs W7 L7 (by omega) (by omega)
    go_wp2_with fail
    refine C.mono ?_
    clear C y14
    rintro e w8 ⟨rfl,nL,t8⟩
    have row8:=row7.keep t8 HGN.out.2.2.2.2
    have HT8:Hid (Touch (g::z.blocks) wr w8):=HT7.out.trans ((t8.mono HM.out.2.2.2.2).mono HBA.out)
    have mI8:=mI7.keep t8 (fun k hk h=>(HAP.out.2.2.2.2 k h).1 (by rw [marksI_len] at hk;exact hk))
    have mR8:=mR7.keep t8 (fun k hk h=>(HAP.out.2.2.2.2 k h).2.1 (by rw [marksI_len] at hk;exact hk))
    have nI8:=nI7.keep t8 (fun k hk h=>(HAP.out.2.2.2.2 k h).2.2.1 (by rw [marksI_len] at hk;exact hk))
    have nR8:=nR7.keep t8 (fun k hk h=>(HAP.out.2.2.2.2 k h).2.2.2 (by rw [marksI_len] at hk;exact hk))
    have HOY:Hid ((markRA z kk).own w8 lo hi):=⟨⟨mI8,mR8,fun k hk hk'=>by
      have h1:k∈(Value.slice z.bf.aI z.bf.v.o.ints.length z.bf.cI).ownBlock.toList:=by have:=Option.mem_toList.2 hk;simpa only [markRA,marksI_len] using this
      have h2:k∈(Value.slice z.bf.aR z.bf.v.o.refs.length z.bf.cR).ownBlock.toList:=by have:=Option.mem_toList.2 hk';simpa only [markRA,marksI_len] using this
      exact (HAP.out.1 k h1).1 h2⟩,⟨nI8,nR8,fun k hk hk'=>by
      have h1:k∈(Value.slice z.af.aI z.af.v.o.ints.length z.af.cI).ownBlock.toList:=by have:=Option.mem_toList.2 hk;simpa only [markRA,marksI_len] using this
      have h2:k∈(Value.slice z.af.aR z.af.v.o.refs.length z.af.cR).ownBlock.toList:=by have:=Option.mem_toList.2 hk';simpa only [markRA,marksI_len] using this
      exact (HAP.out.2.2.1 k h1).2.2.1 h2⟩,nL,by rw [markRA_blocks];exact HZA.out⟩
    have HROW:Hid (RowR w8 lo g (A++z::B).length cap (cellsRs A) (markRA z kk).cells (cellsRs B)):=by
     rw [hlen]
     simpa only [Hid,RecA.cells,markRA,marksI_len,marksL_len] using row8
    have HFIN:Hid (OwnRs w8 lo hi (some ⟨g,0,none⟩) cap (halfRs rs k0 (j+1))∧Touch (blocksRs (some ⟨g,0,none⟩) cap rs) w w8):=by
     refine ⟨?_,htw.trans (HT8.out.mono hsub)⟩
     rw [HN.out]
     exact ho.replace HT8.out HROW.out HOY.out (markRA_blocks z kk)
    have HNUM:Hid (k0+(countRs (rs.take (j+1)):Int)=kk+1+1+1+1+1+1+1+z.bf.v.o.ints.length+z.bf.v.o.refs.length+1+1+z.af.v.o.ints.length+z.af.v.o.refs.length+1+3*z.txs.length):=by rw [Hid,HCN.out,hcz];omega
    clear mI7 mR7 nI7 nR7 L7 t8 row7 HT7 row8 HT8 mI8 mR8 nI8 nR8 nL HOY HROW ho htw
    go_wp2_with fail
    go_roundw
    case rel=>exact ⟨j+1,by omega,by go_num,by rw [HNUM.out],HFIN.out.1,HFIN.out.2⟩
    case measure=>simp [intOf];omega
   ·have HE:Hid (OwnRs wr lo hi (some ⟨g,0,none⟩) cap (markRs rs k0)∧k0+(countRs (rs.take j):Int)=k0+countRs rs):=by
     have e:j=rs.length:=by omega
     rw [e,HH.out.2] at hown
     exact ⟨hown.out,by rw [e,List.take_length]⟩
    go_wp2
    go_ret
    exact ⟨ret_int HE.out.2,HE.out.1,htw⟩
def LogA.mark (l:LogA) (k:Int):LogA:={ l with recs:=markRs l.recs k }
def LogA.count (l:LogA):Nat:=countRs l.recs
theorem markLog_touch (l:LogA) (lo hi:Nat) (k0:Int) (w:World) (ho:l.own w lo hi) (hl:l.short 1099511627776) (h0:0≤k0) (hk:k0+l.count≤1152921504606846976):
  Calls Try.prog 36 #[.agg l.cells.toArray,.int .i64 k0] w fun e w'=>e=.returned (.int .i64 (k0+l.count))∧(l.mark k0).own w' lo hi∧Touch l.blocks w w':=by
 obtain ⟨rs,s,a,c⟩:=l
 have hl2:=hl.each
 simp only [LogA.cells,LogA.own,LogA.count,LogA.mark,LogA.blocks] at*
 obtain ⟨W,hW,b0,hbW,hsW⟩:=boxes1 w [.slice a rs.length c,.int .i64 s] 56
 have c0:=b0.cell 0 _ rfl
 have C:=markRecS_touch lo hi a c k0 rs W (ho.below hbW) hl2 h0 hk
 clear hsW b0
 go_enter Try.func36,Try.ntmps36
 go_wp2_with fail
 rw [hW.out]
 clear hW
 refine C.mono ?_
 rintro e w1 ⟨rfl,ho1,ht1⟩
 go_wp2
 go_ret
 exact ⟨rfl,ho1,(Touch.of_below hbW).trans ht1⟩
theorem countRs_bound (rs:List RecA) (m:Nat) (h:∀ r∈rs,r.short m):countRs rs≤rs.length*(10+7*m):=by
 induction rs with
 | nil=>simp [countRs]
 | cons x r ih=>
  have h1:=h x (by simp)
  have h2:=ih (fun y hy=>h y (by simp [hy]))
  have hb:=h1.bf
  have ha:=h1.af
  have ht:=h1.txs
  have hx:countRA x≤10+7*m:=by simp only [countRA];omega
  simp only [countRs,List.length_cons,Nat.add_mul,Nat.one_mul]
  omega
end Go.Proofs.Ytfehemepdoomdaa