/- Several texts in one, in their order. -/
import Derived.Test.YtcoeamamaifoeaaGreatDoorPCrashx13
import Derived.Test.YtcoeamamaifoeaaGreatDoorPCrashx5
import Derived.Test.YtcoeamamaifoeaaGreatDoorPCrashx12
import Derived.Test.YtcoeamamaifoeaaGreatDoorPCrashx14
import Derived.Deep.Cut
import Derived.Test.YtcoeamamaifoeaaGreatDoorPCrashx7
import Derived.Deep.CutRange
import Derived.Test.YtcoeamamaifoeaaGreatDoorPCrashx11
import Derived.Deep.LoopGhost
import Derived.Test.YtcoeamamaifoeaaGreatDoorPCrashx10
import Derived.Deep.MidRow
import Derived.Laws.Tables
import Derived.Test.YtcoeamamaifoeaaGreatDoorPCrashx3
import Derived.Deep.RegionHeld3
import Derived.Test.YtcoeamamaifoeaaGreatDoorPCrashx1
set_option maxHeartbeats 8000000
set_option maxRecDepth 100000
namespace Go.Proofs.YtcoeamamaifoeaaGreatDoor
open Go.RowKit
theorem load_if {ops:Array Oper} {rest:List Oper} {op:Oper} {a:Act} {w:World} {Q:Exit→Act→World→Prop} {P:Program} (hw:Region.wanted op (yielded ops a.tmps)=true) (ty:TypeId) (x:Operand) (ho:op.op=.load ty x)
  (b o:Nat) (hx:a.eval x=.pointer (some ⟨b,o,none⟩)) (cs:List Value) (d:TypeDesc) (hc:w.rangeAt b o cs)
  (hu:P.underlying ty=some d) (hd:d.isRow=true) (hi:(P.info? ty).map (·.size)=some cs.length)
  (h:wpList P ops Q rest (a.put op.dst (.agg cs.toArray)) w):wpList P ops Q (op::rest) a w:=
 wpList_step fun _ hK=>by
  simp only [hw,if_true]
  exact wp_load_mid ty x ho b o hx cs d hc hu hd hi (hK _ _ h)
theorem specLogOk_any (l:LogA) (w:World) (hr:l.reads w) (hl:l.short 1099511627776):
  Calls Tryz.prog 50 #[.agg l.cells.toArray] w fun e w'=>e=.returned (.bool (okLog l.v))∧Below w.heap.size w w':=by
 have HLEN:Hid (¬ l.recs.length≤4000→okLog l.v=false):=fun h=>okLog_len (by rw [l.v_len];exact h)
 have HSURE:Hid (inB l.sure 0 l.recs.length=false→okLog l.v=false):=fun h=>okLog_sure (by rw [l.v_len];exact h)
 have HNO:Hid (∀ k,k<l.recs.length→(((l.recs.getD k zeroR).lsn == (k+1:Int)) && okR (l.recs.getD k zeroR).v)=false→okLog l.v=false):=fun k hk h=>okLog_no k (by rw [l.v_len];exact hk) (by rw [okAt_v];exact h)
 have HALL:Hid (l.recs.length≤4000→inB l.sure 0 l.recs.length=true→(∀ k,k<l.recs.length→(((l.recs.getD k zeroR).lsn == (k+1:Int)) && okR (l.recs.getD k zeroR).v)=true)→okLog l.v=true):=fun h0 h1 h=>okLog_all (by rw [l.v_len];exact h0) (by rw [l.v_len];exact h1) (fun k hk=>by rw [okAt_v];exact h k (by rw [l.v_len] at hk;exact hk))
 generalize okLog l.v=R at*
 have HS:Hid (∀ k,k<l.recs.length→(l.recs.getD k zeroR).short 1099511627776):=fun k hk=>hl.at k hk
 have hlen:=hl.len
 obtain ⟨rs,s,a,c⟩:=l
 simp only [LogA.reads,LogA.cells] at*
 obtain ⟨W,hW,b0,hbW,hsW⟩:=boxes1 w [.slice a rs.length c,.int .i64 s] 54
 have c0:=b0.cell 0 _ rfl
 have c1:=b0.cell 1 _ rfl
 clear hl hsW
 have HC:Hid (∀ k,k<rs.length→∃ b off,a=some ⟨b,off,none⟩∧W.rangeAt b (off+k*15) (rs.getD k zeroR).cells∧(rs.getD k zeroR).reads W):=fun k hk=>by
  obtain ⟨b,off,ha,hc⟩:=(ReadsRs.below hr hbW) (by intro e;rw [e] at hk;simp at hk)
  exact ⟨b,off,ha,hc k hk⟩
 have HI:Hid ((Tryz.prog.info? 100).map (·.size)=some 15):=by rw [Hid];kernel_rfl
 clear hr
 by_cases h4:rs.length≤4000
 case neg=>
  have HR:Hid (R=false):=HLEN.out h4
  clear HLEN HSURE HNO HALL
  go_enter Tryz.func50,Tryz.ntmps50
  go_wp2_with fail
  rw [hW.out]
  go_ret
  exact ⟨ret_bool HR.out.symm,hbW⟩
 case pos=>
  cases h5:inB s 0 rs.length with
  | false=>
   have HR:Hid (R=false):=HSURE.out h5
   clear HLEN HSURE HNO HALL
   go_enter Tryz.func50,Tryz.ntmps50
   go_wp2_with fail
   rw [hW.out]
   refine (l1In_any _ _ _ W).mono ?_
   rintro e u ⟨rfl,hu⟩
   rw [hu]
   clear hu u
   go_wp2
   go_ret
   exact ⟨ret_bool HR.out.symm,hbW⟩
  | true=>
   go_enter Tryz.func50,Tryz.ntmps50
   go_wp2_with fail
   rw [hW.out]
   refine (l1In_any _ _ _ W).mono ?_
   rintro e u ⟨rfl,hu⟩
   rw [hu]
   clear hu u hW
   go_wp2_with fail
   go_loopw [3] (fun i wr=>∃ k:Nat,k≤rs.length∧i=.int .i64 k∧Hid (∀ j,j<k→(((rs.getD j zeroR).lsn == (j+1:Int)) && okR (rs.getD j zeroR).v)=true)∧Below W.heap.size W wr) (fun i _=>rs.length-(intOf i).toNat)
   case atStart=>exact ⟨0,Nat.zero_le _,rfl,fun j hj=>by omega,Below.refl _ _⟩
   case round=>
    obtain ⟨k,hk,rfl,hall,hbl⟩:=hrel
    have hbm:Below w.heap.size w wr:=hbW.trans (hbl.mono hbW.size)
    have r0:=(hbl.cell (block_lt c0)).trans c0
    clear c0 c1
    by_cases hlt:k<rs.length
    ·obtain ⟨b,off,rfl,hcell,hrd⟩:=HC.out k hlt
     have HR:Hid (wr.rangeAt b (off+k*15) (rs.getD k zeroR).cells):=range_below hcell hbl
     have x0:wr.cell? ⟨b,off+k*15,none⟩=some (.int .i64 (rs.getD k zeroR).lsn):=HR.out 0 _ rfl
     have C:=specRecOk_any (rs.getD k zeroR) wr (hrd.below hbl) (HS.out k hlt)
     have HN:Hid ((((rs.getD k zeroR).lsn == (k+1:Int)) && okR (rs.getD k zeroR).v)=false→R=false):=HNO.out k hlt
     have HY:Hid ((((rs.getD k zeroR).lsn == (k+1:Int)) && okR (rs.getD k zeroR).v)=true→∀ j,j<k+1→(((rs.getD j zeroR).lsn == (j+1:Int)) && okR (rs.getD j zeroR).v)=true):=fun h j hj=>by
      by_cases e:j=k
      ·rw [e];exact h
      ·exact hall.out j (by omega)
     clear hcell HC HLEN HSURE HNO HALL hall HS hrd
     generalize rs.getD k zeroR=y at*
     cases h6:(y.lsn == (k+1:Int)) with
     | false=>
      have HR2:Hid (R=false):=HN.out (by rw [h6];rfl)
      have h6b:(y.lsn != (k:Int)+1)=true:=by simp only [bne,h6,Bool.not_false]
      clear h6
      clear HN HY C
      go_wp2_with fail
      go_ret
      exact ⟨ret_bool HR2.out.symm,hbm⟩
     | true=>
      rw [h6,Bool.true_and] at HN HY
      have h6b:(y.lsn != (k:Int)+1)=false:=by simp only [bne,h6,Bool.not_true]
      clear h6
      cases h7:okR y.v with
      | false=>
       have HR2:Hid (R=false):=HN.out h7
       clear HN HY
       rw [h7] at C
       go_wp2_with (first | (guard_target=wpList _ _ _ (Oper.mk (some 38) _ _ _ _ _::_) _ _;refine load_if (by rfl) 100 (.tmp 37) rfl b (off+k*15) rfl y.cells _ HR.out Tryz.underlying100 rfl HI.out ?_) | fail)
       refine C.mono ?_
       rintro e w1 ⟨rfl,hb1⟩
       go_wp2_with fail
       go_ret
       exact ⟨ret_bool HR2.out.symm,hbm.trans (hb1.mono hbm.size)⟩
      | true=>
       have HY2:=HY.out h7
       clear HN HY
       rw [h7] at C
       go_wp2_with (first | (guard_target=wpList _ _ _ (Oper.mk (some 38) _ _ _ _ _::_) _ _;refine load_if (by rfl) 100 (.tmp 37) rfl b (off+k*15) rfl y.cells _ HR.out Tryz.underlying100 rfl HI.out ?_) | fail)
       refine C.mono ?_
       rintro e w1 ⟨rfl,hb1⟩
       clear C
       have hb2:Below W.heap.size W w1:=hbl.trans (hb1.mono hbl.size)
       go_wp2_with fail
       go_roundw
       case rel=>exact ⟨k+1,by omega,by go_num,HY2,hb2⟩
       case measure=>simp [intOf];omega
    ·have HR:Hid (R=true):=HALL.out h4 h5 (fun j hj=>hall.out j (by omega))
     clear HLEN HSURE HNO HALL
     go_wp2
     go_ret
     exact ⟨ret_bool HR.out.symm,hbm⟩
theorem cellsSts_mid (A B:List SeatA) (z z':SeatA) (i:Nat) (v:Value) (hi:i<20) (hc:z'.cells=z.cells.set i v):(cellsSts (A++z::B)).set (A.length*20+i) v=cellsSts (A++z'::B):=by
 rw [cellsSts_app,cellsSts_cons,cellsSts_app,cellsSts_cons,List.set_append_right _ _ (by rw [cellsSts_len];omega),cellsSts_len,show A.length*20+i-A.length*20=i by omega,List.set_append_left _ _ (by rw [cellsSt_len];omega),hc]
theorem OwnSts.cellSet {w:World} {lo hi g c:Nat} {A B:List SeatA} {z z':SeatA} (h:OwnSts w lo hi (some ⟨g,0,none⟩) c (A++z::B)) (i:Nat) (v:Value) (hi':i<20) (hc:z'.cells=z.cells.set i v) (hss:z'.ss=z.ss):
  OwnSts (w.setCell ⟨g,A.length*20+i,none⟩ v) lo hi (some ⟨g,0,none⟩) c (A++z'::B)∧Touch [g] w (w.setCell ⟨g,A.length*20+i,none⟩ v):=by
 have hrow:=h.row
 obtain ⟨h1,h2⟩:=hrow.stored (A.length*20+i) v
 have ht:Touch [g] w (w.setCell ⟨g,A.length*20+i,none⟩ v):=Touch.of_grown h2 (fun k hk=>by cases hk;simp)
 have hbl:z'.blocks=z.blocks:=by unfold SeatA.blocks;rw [hss]
 have hap:=h.apart
 have hng:∀ r∈A++z::B,g∉r.blocks:=fun r hr hk=>by
  have:=(List.nodup_append.1 hap).2.2 g (by simp [Value.ownBlock]) g (List.mem_flatMap.2 ⟨r,hr,hk⟩)
  exact this rfl
 have hlen:(A++z'::B).length=(A++z::B).length:=by simp
 have hz:z'.own w lo hi:=by
  have:=h.each z (by simp)
  unfold SeatA.own at this ⊢
  rwa [hss]
 refine ⟨⟨?_,?_,?_,fun r hr=>?_,?_⟩,ht⟩
 ·rw [hlen,← cellsSts_mid A B z z' i v hi' hc]
  exact h1
 ·simpa using h.top
 ·rw [hlen];exact h.blk
 ·rcases List.mem_append.1 hr with hr | hr
  ·exact (h.each r (by simp [hr])).touch ht (fun k hk hk'=>hng r (by simp [hr]) (by rw [← List.mem_singleton.1 hk'];exact hk))
  ·rcases List.mem_cons.1 hr with rfl | hr
   ·exact hz.touch ht (fun k hk hk'=>hng z (by simp) (by rw [← hbl,← List.mem_singleton.1 hk'];exact hk))
   ·exact (h.each r (by simp [hr])).touch ht (fun k hk hk'=>hng r (by simp [hr]) (by rw [← List.mem_singleton.1 hk'];exact hk))
 ·rw [hlen]
  simpa [hbl] using hap
theorem nodup_part {A P P' C:List Nat} {n:Nat} (h:(A++(P++C)).Nodup) (hP:P'.Nodup) (hf:∀ k∈P',k∈P∨n≤k) (hA:∀ k∈A,k<n) (hC:∀ k∈C,k<n):(A++(P'++C)).Nodup:=by
 simp only [List.nodup_append,List.mem_append] at h ⊢
 obtain ⟨h1,⟨_,h3,h4⟩,h5⟩:=h
 refine ⟨h1,⟨hP,h3,fun a ha b hb e=>?_⟩,fun a ha b hb e=>?_⟩
 ·rcases hf a ha with h | h
  ·exact h4 a h b hb e
  ·have:=hC b hb;omega
 ·rcases hb with hb | hb
  ·rcases hf b hb with h | h
   ·exact h5 a ha b (.inl h) e
   ·have:=hA a ha;omega
  ·exact h5 a ha b (.inr hb) e
abbrev TE:TypeId:=58
structure EngAtG (f:EngA→List Value) (T:TypeId) (w:World) (E:Nat) (e:EngA):Prop where
 box:Box w E (f e) T
 shape:e.shape
 own:e.own w 0 w.heap.size
 off:E∉e.blocks
abbrev EngAt:=EngAtG EngA.cells TE
theorem EngAtG.below {f:EngA→List Value} {T:TypeId} {w w':World} {E:Nat} {e:EngA} (h:EngAtG f T w E e) (hb:Below w.heap.size w w'):EngAtG f T w' E e:=
 ⟨h.box.below hb h.box.lt,h.shape,(h.own.below hb).widen (Nat.le_refl _) hb.size (Nat.le_refl _),h.off⟩
theorem EngAtG.lt {f:EngA→List Value} {T:TypeId} {w:World} {E:Nat} {e:EngA} (h:EngAtG f T w E e):∀ k∈e.blocks,k<w.heap.size:=fun k hk=>(h.own.blocks_lt k hk).2
theorem EngAtG.touch {f:EngA→List Value} {T:TypeId} {w w':World} {E:Nat} {e:EngA} {bl:List Nat} (h:EngAtG f T w E e) (ht:Touch bl w w') (hE:E∉bl) (hd:∀ k∈e.blocks,k∉bl):EngAtG f T w' E e:=
 ⟨h.box.touch ht hE,h.shape,(h.own.touch ht hd).widen (Nat.le_refl _) ht.size (Nat.le_refl _),h.off⟩
theorem EngAtG.within {f:EngA→List Value} {T:TypeId} {w w':World} {E l r:Nat} {e:EngA} (h:EngAtG f T w E e) (hw:Within l r w w') (hE:¬ (l≤E∧E<r)) (hd:∀ k∈e.blocks,¬ (l≤k∧k<r)):EngAtG f T w' E e:=
 h.touch (bl:=(List.range r).filter (fun k=>decide (l≤k))) ⟨hw.os,hw.tape,hw.output,hw.size,fun k hk hn=>hw.block k hk (fun hh=>hn (by simp [hh.1,hh.2]))⟩ (by simpa [and_comm] using hE) (fun k hk=>by have:=hd k hk;simpa [and_comm] using this)
def Off (E:Nat) (e:EngA) (B:Nat):Prop:=B≠E∧B∉e.blocks
theorem EngAtG.new {f:EngA→List Value} {T:TypeId} {w:World} {E B:Nat} {e:EngA} (h:EngAtG f T w E e) (hB:w.heap.size≤B):Off E e B:=
 ⟨by have:=h.box.lt;omega,fun hk=>by have:=h.lt B hk;omega⟩
structure EngStepG (f:EngA→List Value) (T:TypeId) (E:Nat) (e:EngA) (w:World) (e':EngA) (w':World):Prop where
 at':EngAtG f T w' E e'
 touch:Touch (E::e.blocks) w w'
 fresh:∀ k∈e'.blocks,k∈e.blocks∨w.heap.size≤k
abbrev EngStep:=EngStepG EngA.cells TE
theorem EngStepG.size {f:EngA→List Value} {T:TypeId} {E:Nat} {e e':EngA} {w w':World} (s:EngStepG f T E e w e' w'):w.heap.size≤w'.heap.size:=s.touch.size
theorem EngStepG.refl {f:EngA→List Value} {T:TypeId} {E:Nat} {e:EngA} {w:World} (h:EngAtG f T w E e):EngStepG f T E e w e w:=⟨h,Touch.refl _ _,fun _ hk=>.inl hk⟩
theorem EngStepG.trans {f:EngA→List Value} {T:TypeId} {E:Nat} {e e1 e2:EngA} {w w1 w2:World} (s:EngStepG f T E e w e1 w1) (t:EngStepG f T E e1 w1 e2 w2):EngStepG f T E e w e2 w2:=by
 refine ⟨t.at',⟨t.touch.os.trans s.touch.os,t.touch.tape.trans s.touch.tape,t.touch.output.trans s.touch.output,Nat.le_trans s.size t.size,fun k hk hn=>?_⟩,fun k hk=>?_⟩
 ·have hn1:k∉E::e1.blocks:=fun h=>by
   rcases List.mem_cons.1 h with h | h
   ·exact hn (by simp [h])
   ·rcases s.fresh k h with h | h
    ·exact hn (List.mem_cons_of_mem _ h)
    ·omega
  exact (t.touch.block k (Nat.lt_of_lt_of_le hk s.size) hn1).trans (s.touch.block k hk hn)
 ·rcases t.fresh k hk with h | h
  ·exact s.fresh k h
  ·exact .inr (Nat.le_trans s.size h)
theorem EngStepG.below {f:EngA→List Value} {T:TypeId} {E:Nat} {e e':EngA} {w w' w'':World} (s:EngStepG f T E e w e' w') (hb:Below w'.heap.size w' w''):EngStepG f T E e w e' w'':=
 ⟨s.at'.below hb,s.touch.trans (Touch.of_below hb),s.fresh⟩
theorem EngStepG.after {f:EngA→List Value} {T:TypeId} {E:Nat} {e e':EngA} {w0 w w':World} (hb:Below w0.heap.size w0 w) (s:EngStepG f T E e w e' w'):EngStepG f T E e w0 e' w':=
 ⟨s.at',(Touch.of_below hb).trans s.touch,fun k hk=>(s.fresh k hk).imp id (Nat.le_trans hb.size)⟩
theorem EngStepG.off {f:EngA→List Value} {T:TypeId} {E B:Nat} {e e':EngA} {w w':World} (s:EngStepG f T E e w e' w') (hB:B<w.heap.size) (ho:Off E e B):Off E e' B:=
 ⟨ho.1,fun hk=>(s.fresh B hk).elim ho.2 (fun h=>by omega)⟩
theorem EngStepG.block {f:EngA→List Value} {T:TypeId} {E B:Nat} {e e':EngA} {w w':World} (s:EngStepG f T E e w e' w') (hB:B<w.heap.size) (ho:Off E e B):w'.heap[B]? =w.heap[B]? :=
 s.touch.block B hB (fun h=>(List.mem_cons.1 h).elim ho.1 ho.2)
theorem EngStepG.boxes {f:EngA→List Value} {T:TypeId} {E B:Nat} {e e':EngA} {w w':World} {vs:List Value} {t:TypeId} (s:EngStepG f T E e w e' w') (b:Box w B vs t) (ho:Off E e B):Box w' B vs t:=b.block (s.block b.lt ho)
theorem EngA.mem_disk {e:EngA} {k:Nat} (h:k∈e.diskBl):k∈e.blocks:=by simp only [EngA.blocks,List.mem_append];exact .inl h
theorem EngA.mem_pool {e:EngA} {k:Nat} (h:k∈blocksSts e.aS e.cS e.seats):k∈e.blocks:=by simp only [EngA.blocks,List.mem_append];exact .inr (.inl h)
theorem EngA.mem_log {e:EngA} {k:Nat} (h:k∈blocksRs e.log.a e.log.c e.log.recs):k∈e.blocks:=by simp only [EngA.blocks,List.mem_append];exact .inr (.inr (.inl h))
theorem EngA.mem_txs {e:EngA} {k:Nat} (h:k∈rowOf e.aT e.txs.length e.cT):k∈e.blocks:=by simp only [EngA.blocks,List.mem_append];exact .inr (.inr (.inr (.inl h)))
theorem EngA.mem_holds {e:EngA} {k:Nat} (h:k∈rowOf e.aH e.holds.length e.cH):k∈e.blocks:=by simp only [EngA.blocks,List.mem_append];exact .inr (.inr (.inr (.inr h)))
theorem rowOf_nodup (a:Option Addr) (n c:Nat):(rowOf a n c).Nodup:=by unfold rowOf;cases (Value.slice a n c).ownBlock<;>simp
structure EngA.apartAll (e:EngA):Prop where
 dp:∀ k∈e.diskBl,k∉blocksSts e.aS e.cS e.seats
 dl:∀ k∈e.diskBl,k∉blocksRs e.log.a e.log.c e.log.recs
 dt:∀ k∈e.diskBl,k∉rowOf e.aT e.txs.length e.cT
 dh:∀ k∈e.diskBl,k∉rowOf e.aH e.holds.length e.cH
 pl:∀ k∈blocksSts e.aS e.cS e.seats,k∉blocksRs e.log.a e.log.c e.log.recs
 pt:∀ k∈blocksSts e.aS e.cS e.seats,k∉rowOf e.aT e.txs.length e.cT
 ph:∀ k∈blocksSts e.aS e.cS e.seats,k∉rowOf e.aH e.holds.length e.cH
 lt:∀ k∈blocksRs e.log.a e.log.c e.log.recs,k∉rowOf e.aT e.txs.length e.cT
 lh:∀ k∈blocksRs e.log.a e.log.c e.log.recs,k∉rowOf e.aH e.holds.length e.cH
 th:∀ k∈rowOf e.aT e.txs.length e.cT,k∉rowOf e.aH e.holds.length e.cH
theorem EngA.apart_of {e:EngA} (h:e.blocks.Nodup):e.apartAll:=by
 simp only [EngA.blocks,List.nodup_append,List.mem_append] at h
 obtain ⟨_,⟨_,⟨_,⟨_,_,h4⟩,h3⟩,h2⟩,h1⟩:=h
 exact ⟨fun k a b=>h1 k a k (.inl b) rfl,fun k a b=>h1 k a k (.inr (.inl b)) rfl,fun k a b=>h1 k a k (.inr (.inr (.inl b))) rfl,fun k a b=>h1 k a k (.inr (.inr (.inr b))) rfl,fun k a b=>h2 k a k (.inl b) rfl,fun k a b=>h2 k a k (.inr (.inl b)) rfl,fun k a b=>h2 k a k (.inr (.inr b)) rfl,fun k a b=>h3 k a k (.inl b) rfl,fun k a b=>h3 k a k (.inr b) rfl,fun k a b=>h4 k a k b rfl⟩
theorem EngAtG.apart {f:EngA→List Value} {T:TypeId} {w:World} {E:Nat} {e:EngA} (h:EngAtG f T w E e):e.apartAll:=EngA.apart_of h.own.apart
theorem not_part {E k:Nat} {P:List Nat} (h1:k≠E) (h2:k∉P):k∉E::P:=fun h=>(List.mem_cons.1 h).elim h1 h2
def EngA.withPool (e:EngA) (ss:List SeatA) (a:Option Addr) (c:Nat) (hand:Int):EngA:={ e with seats:=ss,aS:=a,cS:=c,hand:=hand }
theorem EngAtG.pool {f:EngA→List Value} {T:TypeId} {w w':World} {E:Nat} {e:EngA} (h:EngAtG f T w E e) (ss:List SeatA) (a:Option Addr) (c:Nat) (hand:Int) (bx:Box w' E (f (e.withPool ss a c hand)) T) (ho:OwnSts w' 0 w'.heap.size a c ss)
  (ht:Touch (E::blocksSts e.aS e.cS e.seats) w w') (hf:∀ k∈blocksSts a c ss,k∈blocksSts e.aS e.cS e.seats∨w.heap.size≤k):EngStepG f T E e w (e.withPool ss a c hand) w':=by
 have ap:=h.apart
 have hE:∀ k∈e.blocks,k≠E:=fun k hk he=>h.off (he▸hk)
 have W:∀ {lo hi:Nat},hi≤w.heap.size→hi≤w'.heap.size:=fun hh=>Nat.le_trans hh ht.size
 refine ⟨⟨bx,⟨h.shape.eight,h.shape.four⟩,⟨?_,ho,?_,?_,?_,?_⟩,?_⟩,?_,?_⟩
 ·exact (h.own.disk.touch ht (fun k hk=>not_part (hE k (EngA.mem_disk hk)) (ap.dp k hk))).widen (Nat.le_refl _) ht.size (Nat.le_refl _)
 ·exact (h.own.log.touch ht (fun k hk=>not_part (hE k (EngA.mem_log hk)) (fun hp=>ap.pl k hp hk))).widen (Nat.le_refl _) ht.size (Nat.le_refl _)
 ·exact (h.own.txs.touch ht (fun k hk=>not_part (hE k (EngA.mem_txs (Option.mem_toList.2 hk))) (fun hp=>ap.pt k hp (Option.mem_toList.2 hk)))).widen (Nat.le_refl _) ht.size (Nat.le_refl _)
 ·exact (h.own.holds.touch ht (fun k hk=>not_part (hE k (EngA.mem_holds (Option.mem_toList.2 hk))) (fun hp=>ap.ph k hp (Option.mem_toList.2 hk)))).widen (Nat.le_refl _) ht.size (Nat.le_refl _)
 ·exact nodup_part h.own.apart ho.apart hf (fun k hk=>h.lt k (EngA.mem_disk hk)) (fun k hk=>h.lt k (by simp only [EngA.blocks,List.mem_append] at hk ⊢;exact .inr (.inr hk)))
 ·intro hk
  simp only [EngA.blocks,EngA.withPool,List.mem_append] at hk
  have hlt:=h.box.lt
  have hoff:=h.off
  simp only [EngA.blocks,List.mem_append] at hoff
  rcases hk with hk | hk | hk
  ·exact hoff (.inl hk)
  ·rcases hf E hk with hk | hk
   ·exact hoff (.inr (.inl hk))
   ·omega
  ·exact hoff (.inr (.inr hk))
 ·exact ht.mono (fun k hk=>(List.mem_cons.1 hk).elim (fun h=>by simp [h]) (fun h=>List.mem_cons_of_mem _ (EngA.mem_pool h)))
 ·intro k hk
  simp only [EngA.blocks,EngA.withPool,List.mem_append] at hk ⊢
  rcases hk with hk | hk | hk
  ·exact .inl (.inl hk)
  ·rcases hf k hk with h | h
   ·exact .inl (.inr (.inl h))
   ·exact .inr h
  ·exact .inl (.inr (.inr hk))
def EngA.withLog (e:EngA) (l:LogA):EngA:={ e with log:=l }
theorem EngAtG.logs {f:EngA→List Value} {T:TypeId} {w w':World} {E:Nat} {e:EngA} (h:EngAtG f T w E e) (l:LogA) (bx:Box w' E (f (e.withLog l)) T) (ho:OwnRs w' 0 w'.heap.size l.a l.c l.recs)
  (ht:Touch (E::blocksRs e.log.a e.log.c e.log.recs) w w') (hf:∀ k∈blocksRs l.a l.c l.recs,k∈blocksRs e.log.a e.log.c e.log.recs∨w.heap.size≤k):EngStepG f T E e w (e.withLog l) w':=by
 have ap:=h.apart
 have hE:∀ k∈e.blocks,k≠E:=fun k hk he=>h.off (he▸hk)
 refine ⟨⟨bx,⟨h.shape.eight,h.shape.four⟩,⟨?_,?_,ho,?_,?_,?_⟩,?_⟩,?_,?_⟩
 ·exact (h.own.disk.touch ht (fun k hk=>not_part (hE k (EngA.mem_disk hk)) (ap.dl k hk))).widen (Nat.le_refl _) ht.size (Nat.le_refl _)
 ·exact (h.own.pool.touch ht (fun k hk=>not_part (hE k (EngA.mem_pool hk)) (fun hp=>ap.pl k hk hp))).widen (Nat.le_refl _) ht.size (Nat.le_refl _)
 ·exact (h.own.txs.touch ht (fun k hk=>not_part (hE k (EngA.mem_txs (Option.mem_toList.2 hk))) (fun hp=>ap.lt k hp (Option.mem_toList.2 hk)))).widen (Nat.le_refl _) ht.size (Nat.le_refl _)
 ·exact (h.own.holds.touch ht (fun k hk=>not_part (hE k (EngA.mem_holds (Option.mem_toList.2 hk))) (fun hp=>ap.lh k hp (Option.mem_toList.2 hk)))).widen (Nat.le_refl _) ht.size (Nat.le_refl _)
 ·have h1:=h.own.apart
  simp only [EngA.blocks,EngA.withLog] at h1 ⊢
  rw [← List.append_assoc] at h1 ⊢
  exact nodup_part h1 ho.apart hf (fun k hk=>h.lt k (by simp only [EngA.blocks,List.mem_append] at hk ⊢;exact hk.elim .inl (fun h=>.inr (.inl h)))) (fun k hk=>h.lt k (by simp only [EngA.blocks,List.mem_append] at hk ⊢;exact .inr (.inr (.inr hk))))
 ·intro hk
  simp only [EngA.blocks,EngA.withLog,List.mem_append] at hk
  have hlt:=h.box.lt
  have hoff:=h.off
  simp only [EngA.blocks,List.mem_append] at hoff
  rcases hk with hk | hk | hk | hk
  ·exact hoff (.inl hk)
  ·exact hoff (.inr (.inl hk))
  ·rcases hf E hk with hk | hk
   ·exact hoff (.inr (.inr (.inl hk)))
   ·omega
  ·exact hoff (.inr (.inr (.inr hk)))
 ·exact ht.mono (fun k hk=>(List.mem_cons.1 hk).elim (fun h=>by simp [h]) (fun h=>List.mem_cons_of_mem _ (EngA.mem_log h)))
 ·intro k hk
  simp only [EngA.blocks,EngA.withLog,List.mem_append] at hk ⊢
  rcases hk with hk | hk | hk | hk
  ·exact .inl (.inl hk)
  ·exact .inl (.inr (.inl hk))
  ·rcases hf k hk with h | h
   ·exact .inl (.inr (.inr (.inl h)))
   ·exact .inr h
  ·exact .inl (.inr (.inr (.inr hk)))
def EngA.withTxs (e:EngA) (ls:List LiveV) (a:Option Addr) (c:Nat):EngA:={ e with txs:=ls,aT:=a,cT:=c }
theorem EngAtG.lives {f:EngA→List Value} {T:TypeId} {w w':World} {E:Nat} {e:EngA} (h:EngAtG f T w E e) (ls:List LiveV) (a:Option Addr) (c:Nat) (bx:Box w' E (f (e.withTxs ls a c)) T) (ho:OwnL w' 0 w'.heap.size a c ls)
  (ht:Touch (E::rowOf e.aT e.txs.length e.cT) w w') (hf:∀ k∈rowOf a ls.length c,k∈rowOf e.aT e.txs.length e.cT∨w.heap.size≤k):EngStepG f T E e w (e.withTxs ls a c) w':=by
 have ap:=h.apart
 have hE:∀ k∈e.blocks,k≠E:=fun k hk he=>h.off (he▸hk)
 refine ⟨⟨bx,⟨h.shape.eight,h.shape.four⟩,⟨?_,?_,?_,ho,?_,?_⟩,?_⟩,?_,?_⟩
 ·exact (h.own.disk.touch ht (fun k hk=>not_part (hE k (EngA.mem_disk hk)) (ap.dt k hk))).widen (Nat.le_refl _) ht.size (Nat.le_refl _)
 ·exact (h.own.pool.touch ht (fun k hk=>not_part (hE k (EngA.mem_pool hk)) (ap.pt k hk))).widen (Nat.le_refl _) ht.size (Nat.le_refl _)
 ·exact (h.own.log.touch ht (fun k hk=>not_part (hE k (EngA.mem_log hk)) (ap.lt k hk))).widen (Nat.le_refl _) ht.size (Nat.le_refl _)
 ·exact (h.own.holds.touch ht (fun k hk=>not_part (hE k (EngA.mem_holds (Option.mem_toList.2 hk))) (fun hp=>ap.th k hp (Option.mem_toList.2 hk)))).widen (Nat.le_refl _) ht.size (Nat.le_refl _)
 ·have h1:=h.own.apart
  simp only [EngA.blocks,EngA.withTxs] at h1 ⊢
  rw [← List.append_assoc,← List.append_assoc] at h1 ⊢
  exact nodup_part h1 (rowOf_nodup _ _ _) hf (fun k hk=>h.lt k (by simp only [EngA.blocks,List.mem_append] at hk ⊢;rcases hk with (hk | hk) | hk;exact .inl hk;exact .inr (.inl hk);exact .inr (.inr (.inl hk)))) (fun k hk=>h.lt k (EngA.mem_holds hk))
 ·intro hk
  simp only [EngA.blocks,EngA.withTxs,List.mem_append] at hk
  have hlt:=h.box.lt
  have hoff:=h.off
  simp only [EngA.blocks,List.mem_append] at hoff
  rcases hk with hk | hk | hk | hk | hk
  ·exact hoff (.inl hk)
  ·exact hoff (.inr (.inl hk))
  ·exact hoff (.inr (.inr (.inl hk)))
  ·rcases hf E hk with hk | hk
   ·exact hoff (.inr (.inr (.inr (.inl hk))))
   ·omega
  ·exact hoff (.inr (.inr (.inr (.inr hk))))
 ·exact ht.mono (fun k hk=>(List.mem_cons.1 hk).elim (fun h=>by simp [h]) (fun h=>List.mem_cons_of_mem _ (EngA.mem_txs h)))
 ·intro k hk
  simp only [EngA.blocks,EngA.withTxs,List.mem_append] at hk ⊢
  rcases hk with hk | hk | hk | hk | hk
  ·exact .inl (.inl hk)
  ·exact .inl (.inr (.inl hk))
  ·exact .inl (.inr (.inr (.inl hk)))
  ·rcases hf k hk with h | h
   ·exact .inl (.inr (.inr (.inr (.inl h))))
   ·exact .inr h
  ·exact .inl (.inr (.inr (.inr (.inr hk))))
def EngA.withHolds (e:EngA) (ls:List HoldV) (a:Option Addr) (c:Nat):EngA:={ e with holds:=ls,aH:=a,cH:=c }
theorem EngAtG.held {f:EngA→List Value} {T:TypeId} {w w':World} {E:Nat} {e:EngA} (h:EngAtG f T w E e) (ls:List HoldV) (a:Option Addr) (c:Nat) (bx:Box w' E (f (e.withHolds ls a c)) T) (ho:OwnH w' 0 w'.heap.size a c ls)
  (ht:Touch (E::rowOf e.aH e.holds.length e.cH) w w') (hf:∀ k∈rowOf a ls.length c,k∈rowOf e.aH e.holds.length e.cH∨w.heap.size≤k):EngStepG f T E e w (e.withHolds ls a c) w':=by
 have ap:=h.apart
 have hE:∀ k∈e.blocks,k≠E:=fun k hk he=>h.off (he▸hk)
 refine ⟨⟨bx,⟨h.shape.eight,h.shape.four⟩,⟨?_,?_,?_,?_,ho,?_⟩,?_⟩,?_,?_⟩
 ·exact (h.own.disk.touch ht (fun k hk=>not_part (hE k (EngA.mem_disk hk)) (ap.dh k hk))).widen (Nat.le_refl _) ht.size (Nat.le_refl _)
 ·exact (h.own.pool.touch ht (fun k hk=>not_part (hE k (EngA.mem_pool hk)) (ap.ph k hk))).widen (Nat.le_refl _) ht.size (Nat.le_refl _)
 ·exact (h.own.log.touch ht (fun k hk=>not_part (hE k (EngA.mem_log hk)) (ap.lh k hk))).widen (Nat.le_refl _) ht.size (Nat.le_refl _)
 ·exact (h.own.txs.touch ht (fun k hk=>not_part (hE k (EngA.mem_txs (Option.mem_toList.2 hk))) (ap.th k (Option.mem_toList.2 hk)))).widen (Nat.le_refl _) ht.size (Nat.le_refl _)
 ·have h1:=h.own.apart
  simp only [EngA.blocks,EngA.withHolds] at h1 ⊢
  rw [← List.append_assoc,← List.append_assoc,← List.append_assoc] at h1 ⊢
  have h2:=nodup_part (C:=[]) (n:=w.heap.size) (by rw [List.append_nil];exact h1) (rowOf_nodup a ls.length c) hf (fun k hk=>h.lt k (by simp only [EngA.blocks,List.mem_append] at hk ⊢;rcases hk with ((hk | hk) | hk) | hk;exact .inl hk;exact .inr (.inl hk);exact .inr (.inr (.inl hk));exact .inr (.inr (.inr (.inl hk))))) (by simp)
  rw [List.append_nil] at h2
  exact h2
 ·intro hk
  simp only [EngA.blocks,EngA.withHolds,List.mem_append] at hk
  have hlt:=h.box.lt
  have hoff:=h.off
  simp only [EngA.blocks,List.mem_append] at hoff
  rcases hk with hk | hk | hk | hk | hk
  ·exact hoff (.inl hk)
  ·exact hoff (.inr (.inl hk))
  ·exact hoff (.inr (.inr (.inl hk)))
  ·exact hoff (.inr (.inr (.inr (.inl hk))))
  ·rcases hf E hk with hk | hk
   ·exact hoff (.inr (.inr (.inr (.inr hk))))
   ·omega
 ·exact ht.mono (fun k hk=>(List.mem_cons.1 hk).elim (fun h=>by simp [h]) (fun h=>List.mem_cons_of_mem _ (EngA.mem_holds h)))
 ·intro k hk
  simp only [EngA.blocks,EngA.withHolds,List.mem_append] at hk ⊢
  rcases hk with hk | hk | hk | hk | hk
  ·exact .inl (.inl hk)
  ·exact .inl (.inr (.inl hk))
  ·exact .inl (.inr (.inr (.inl hk)))
  ·exact .inl (.inr (.inr (.inr (.inl hk))))
  ·rcases hf k hk with h | h
   ·exact .inl (.inr (.inr (.inr (.inr h))))
   ·exact .inr h
def zeroStV:SeatV:=zeroSt.v
theorem seatV_at (ls:List SeatA) (k:Nat):(ls.map SeatA.v).getD k zeroStV=(ls.getD k zeroSt).v:=by
 simp only [List.getD,List.getElem?_map]
 cases ls[k]? <;>rfl
structure PoolAt (w:World) (lo hi B o:Nat) (vs:List Value) (t:TypeId) (a:Option Addr) (c:Nat) (ss:List SeatA) (hand:Int):Prop where
 box:Box w B vs t
 c0:vs[o]? =some (.slice a ss.length c)
 c1:vs[o+1]? =some (.int .i64 hand)
 own:OwnSts w lo hi a c ss
 off:B∉blocksSts a c ss
theorem lit_seat (q:SeatA):List.foldl (fun cs x=>cs.setIfInBounds x.snd x.fst) (#[.int .i64 0,.int .i64 0,.bool false,.int .i64 0,.slice none 0 0,.slice none 0 0,.bool false,.int .i64 0,.slice none 0 0,.slice none 0 0,.bool false,.int .i64 0,.slice none 0 0,.slice none 0 0,.bool false,.int .i64 0,.slice none 0 0,.slice none 0 0,.bool false,.bool false]:Array Value) q.cells.zipIdx=q.cells.toArray:=by simp [SeatA.cells,SlotA.cells,List.zipIdx]
theorem seat_one (q:SeatA):q.cells.toArray.all (·.oneCell')=true:=all_oneCell_toArray (oneSt q)
theorem seat_info (q:SeatA):(Tryz.prog.info? 103).map (·.size)=some q.cells.length:=by show _=some 20;kernel_rfl
theorem seat_load {w:World} {C:Nat} (q:SeatA) (b:Box w C q.cells 103):(loadVar 103 ⟨C,0,none⟩).run Tryz.prog w=.ok (.agg q.cells.toArray) w:=
 run_loadVar_mid (P:=Tryz.prog) w C 0 103 q.cells _ (Box.range [] q.cells [] (by simpa using b)) Tryz.underlying103 rfl (seat_info q)
theorem seat_out {w:World} {C:Nat} (q:SeatA) (old:List Value) (ho:old.length=20) (bC:Box w C old 103):
  ∃ WF,Hid (w.setCells C 0 q.cells=WF)∧Within C (C+1) w WF∧WF.heap.size=w.heap.size∧Hid (w.there C 0 q.cells.toArray.size)∧Hid ((loadVar 103 ⟨C,0,none⟩).run Tryz.prog WF=.ok (.agg q.cells.toArray) WF)∧Box WF C q.cells 103:=by
 obtain ⟨WF,hWF,bF,hwF,hsF⟩:=range_fill [] old q.cells [] (by simpa using bC) (by rw [ho];rfl)
 have bF':Box WF C q.cells 103:=by simpa using bF
 exact ⟨WF,hWF,hwF,hsF,bC.there 0 _ (by rw [ho];show 0+20≤20;decide),seat_load q bF',bF'⟩
end Go.Proofs.YtcoeamamaifoeaaGreatDoor
namespace Go.Proofs.YtcoeamamaifoeaaGreatDoor
open Go.RowKit
theorem Tryz.infoPg (p:PageA) (h:p.ss.length=4):(Tryz.prog.info? 47).map (·.size)=some p.cells.length:=by rw [page_len p h];kernel_rfl
theorem Tryz.infoLPg (p:PageA) (h:p.ss.length=4):(Tryz.prog.info? 29).map (·.size)=some p.cells.length:=by rw [page_len p h];kernel_rfl
theorem page_one (p:PageA):p.cells.toArray.all (·.oneCell')=true:=all_oneCell_toArray (oneP p)
theorem seat_page {w:World} {B:Nat} {t:TypeId} (s:SeatA) (b:Box w B s.cells t):w.rangeAt B 1 s.page.cells:=by
 rw [SeatA.cells_page] at b
 exact Box.range [.int .i64 s.no] s.page.cells [.bool s.dirty,.bool s.hot] b
theorem seat_fill {w:World} {B:Nat} {t:TypeId} (s:SeatA) (b:Box w B s.cells t) (lsn:Int) (a b' c d:SlotA):
  ∃ W,Hid (w.setCells B 1 (PageA.cells ⟨lsn,[a,b',c,d]⟩)=W)∧Box W B (SeatA.cells ⟨s.no,lsn,a,b',c,d,s.dirty,s.hot⟩) t∧Within B (B+1) w W∧W.heap.size=w.heap.size∧w.there B 1 (PageA.cells ⟨lsn,[a,b',c,d]⟩).toArray.size:=by
 have hth:w.there B 1 (PageA.cells ⟨lsn,[a,b',c,d]⟩).toArray.size:=b.there 1 _ (by rw [List.size_toArray];show 1+17≤20;decide)
 rw [SeatA.cells_page] at b
 obtain ⟨W,hW,bW,hw,hs⟩:=range_fill [.int .i64 s.no] s.page.cells (PageA.cells ⟨lsn,[a,b',c,d]⟩) [.bool s.dirty,.bool s.hot] b rfl
 refine ⟨W,hW,?_,hw,hs,hth⟩
 rw [SeatA.cells_page]
 exact bW
theorem toSeat_any (s:SeatA) (w:World) (hr:s.reads w) (hl:s.short 1048576):
  Calls Tryz.prog 91 #[.agg s.cells.toArray] w fun e w'=>∃ t:SeatA,e=.returned (.agg t.cells.toArray)∧Hid (t.v=s.v)∧t.own w' w.heap.size w'.heap.size∧Below w.heap.size w w':=by
 obtain ⟨V,hV,a0,a1,a2,hbV,hsV⟩:=boxes3 w s.cells [.int .i64 0,.int .i64 0,.bool false,.int .i64 0,.slice none 0 0,.slice none 0 0,.bool false,.int .i64 0,.slice none 0 0,.slice none 0 0,.bool false,.int .i64 0,.slice none 0 0,.slice none 0 0,.bool false,.int .i64 0,.slice none 0 0,.slice none 0 0,.bool false,.bool false] [.int .i64 0,.int .i64 0,.bool false,.int .i64 0,.slice none 0 0,.slice none 0 0,.bool false,.int .i64 0,.slice none 0 0,.slice none 0 0,.bool false,.int .i64 0,.slice none 0 0,.slice none 0 0,.bool false,.int .i64 0,.slice none 0 0,.slice none 0 0,.bool false,.bool false] 128 103 103
 have hs0V:w.heap.size+1+1<V.heap.size:=by omega
 have b1V:Box V (w.heap.size+1) zeroSt.cells 103:=a1
 obtain ⟨W,hW,b2',hwW,hsW⟩:=box_set a2 0 (.int .i64 s.no)
 have b0:=a0.within hwW (by omega)
 have b1':=b1V.within hwW (by omega)
 have hbW:Below w.heap.size w W:=hbV.trans (hwW.below (by omega) (by omega))
 have hs0:w.heap.size+1+1<W.heap.size:=by omega
 have b2':Box W (w.heap.size+1+1) (SeatA.cells { zeroSt with no:=s.no }) 103:=b2'
 have hc0:V.cell? ⟨w.heap.size,0,none⟩=some (.int .i64 s.no):=a0.cell 0 _ rfl
 have hx0:=a2.cell 0 _ rfl
 have hf0:=a2.frozen 0
 have hrg0:W.rangeAt w.heap.size 1 s.page.cells:=seat_page s b0
 have HL:=Tryz.infoLPg s.page rfl
 have C:=toPage_own s.page rfl W (hr.below hbW) (wide_of hl)
 clear hsV hsW hwW b1V a0 a1 a2 hbV hs0V
 go_enter Tryz.func91,Tryz.ntmps91
 go_upto_region 2 with fail
 rw [hV.out]
 clear hV
 go_wp2_with (first | (guard_target=wpList _ _ _ (Oper.mk (some 8) _ _ _ _ _::_) _ _;rw [hW.out];refine wpList_load_mid rfl 29 (.tmp 7) rfl w.heap.size 1 rfl s.page.cells _ hrg0 Tryz.underlying29 rfl HL ?_) | fail)
 clear hW hrg0 hc0 HL hx0 hf0
 refine C.mono ?_
 clear C
 rintro e w1 ⟨ts,rfl,hv,ho,hb1⟩
 obtain ⟨y0,y1,y2,y3,rfl⟩:=four_slots' (ts:=ts) (by have:=congrArg List.length hv.out;simpa [SeatA.page,SeatA.ss] using this)
 have hs1:=hb1.size
 have b01:=b0.below hb1 b0.lt
 have b11:=b1'.below hb1 b1'.lt
 have b21:=b2'.below hb1 b2'.lt
 obtain ⟨W2,hW2,b22,hw2,hs2,hth2⟩:=seat_fill _ b21 s.page.lsn y0 y1 y2 y3
 obtain ⟨W3,hW3,b33,hw3,hs3⟩:=box_set b22 18 (.bool s.dirty)
 obtain ⟨W4,hW4,b44,hw4,hs4⟩:=box_set b33 19 (.bool s.hot)
 obtain ⟨q,hq⟩:∃ q:SeatA,Hid ((⟨s.no,s.page.lsn,y0,y1,y2,y3,s.dirty,s.hot⟩:SeatA)=q):=⟨_,rfl⟩
 have b4q:Box W4 (w.heap.size+1+1) q.cells 103:=by rw [← hq.out];exact b44
 have b02:=b01.within hw2 (by omega)
 have b14:=((b11.within hw2 (by omega)).within hw3 (by omega)).within hw4 (by omega)
 obtain ⟨WF,hWF,hwF,hsF,HTF,HLF,bF⟩:=seat_out q _ rfl b14
 have d18:W2.cell? ⟨w.heap.size,18,none⟩=some (.bool s.dirty):=b02.cell 18 _ rfl
 have d19:W2.cell? ⟨w.heap.size,19,none⟩=some (.bool s.hot):=b02.cell 19 _ rfl
 have x18:=b22.cell 18 _ rfl
 have x19:=b22.cell 19 _ rfl
 have f18:=b22.frozen 18
 have f19:=b22.frozen 19
 have r4:W4.rangeAt (w.heap.size+1+1) 0 q.cells:=Box.range [] q.cells [] (by simpa using b4q)
 have oq:q.own w1 W.heap.size w1.heap.size:=by rw [← hq.out];exact ho
 have HV:Hid (q.v=s.v):=by rw [Hid,← hq.out];simp only [SeatA.v,SeatA.ss];rw [show List.map (fun x:SlotA=>x.v) [y0,y1,y2,y3]=s.page.ss.map (·.v) from hv.out];rfl
 have HFIN:Hid (q.own WF w.heap.size WF.heap.size∧Below w.heap.size w WF):=⟨((((oq.within hw2 (.inr (by omega))).within hw3 (.inr (by omega))).within hw4 (.inr (by omega))).within hwF (.inr (by omega))).widen (by omega) (by omega) (Nat.le_refl _),((((hbW.trans (hb1.mono (by omega))).trans (hw2.below (by omega) (by omega))).trans (hw3.below (by omega) (by omega))).trans (hw4.below (by omega) (by omega))).trans (hwF.below (by omega) (by omega))⟩
 have H34:Hid ((W2.setCell ⟨w.heap.size+1+1,18,none⟩ (.bool s.dirty)).setCell ⟨w.heap.size+1+1,19,none⟩ (.bool s.hot)=W4):=by rw [Hid,hW3.out,hW4.out]
 have HI1:=Tryz.infoPg ⟨s.page.lsn,[y0,y1,y2,y3]⟩ rfl
 have HO1:=page_one ⟨s.page.lsn,[y0,y1,y2,y3]⟩
 have HI2:=seat_info q
 have HO2:=seat_one q
 have HW2:Hid (w1.setCells (w.heap.size+1+1) 1 (PageA.cells ⟨s.page.lsn,[y0,y1,y2,y3]⟩).toArray.toList=W2):=hW2.out
 have HWF:Hid (W4.setCells (w.heap.size+1) 0 q.cells.toArray.toList=WF):=hWF.out
 have HTF':W4.there (w.heap.size+1) 0 q.cells.toArray.size:=HTF.out
 clear hW2 hW3 hW4 hWF HTF hq hs1 hs2 hs3 hs4 hsF hw2 hw3 hw4 hwF b01 b11 b21 b22 b33 b44 b4q b02 b14 bF oq ho hv hb1 b0 b1' b2' hbW
 generalize PageA.cells ⟨s.page.lsn,[y0,y1,y2,y3]⟩=pc at*
 go_wp2_with (first | (guard_target=wpList _ _ _ (Oper.mk none (Op.store _ (Operand.tmp 10) _) _ _ _ _::_) _ _;refine wpList_store_mid rfl 47 (.tmp 10) (.tmp 9) rfl (w.heap.size+1+1) 1 pc.toArray rfl rfl hth2 (by rw [List.size_toArray];exact HI1) HO1 ?_;rw [HW2.out]) | (guard_target=wpList _ _ _ (Oper.mk (some 17) _ _ _ _ _::_) _ _;rw [H34.out];refine wpList_load_mid rfl 103 (.tmp 3) rfl (w.heap.size+1+1) 0 rfl q.cells _ r4 Tryz.underlying103 rfl HI2 ?_) | (guard_target=wpList _ _ _ (Oper.mk none (Op.store _ (Operand.tmp 2) _) _ _ _ _::_) _ _;refine wpList_store_mid rfl 103 (.tmp 2) (.tmp 17) rfl (w.heap.size+1) 0 q.cells.toArray rfl rfl HTF' (by rw [List.size_toArray];exact HI2) HO2 ?_;rw [HWF.out]) | fail)
 exact bodyPost_ret (v:=.agg q.cells.toArray) (results_one Tryz.results91 rfl HLF.out) rfl ⟨q,rfl,HV,HFIN.out.1,HFIN.out.2⟩
theorem szSeat_any (s:SeatA) (left:Int) (w:World) (hn:s.short 9223372036854775807) (h0:0≤left∧left≤1048576):
  Calls Tryz.prog 80 #[.agg s.cells.toArray,.int .i64 left] w fun e w'=>∃ z,e=.returned (.int .i64 z)∧(z<0∨(0≤z∧z≤left∧s.short 1048576))∧Below w.heap.size w w':=by
 obtain ⟨W,hW,b0,hbW,hsW⟩:=boxes1 w s.cells 128
 have hrg0:W.rangeAt w.heap.size 1 s.page.cells:=seat_page s b0
 have HL:=Tryz.infoLPg s.page rfl
 have C:=szPage_any s.page rfl left W hn h0
 clear hsW b0
 go_enter Tryz.func80,Tryz.ntmps80
 go_wp2_with (first | (guard_target=wpList _ _ _ (Oper.mk (some 6) _ _ _ _ _::_) _ _;refine wpList_load_mid rfl 29 (.tmp 5) rfl w.heap.size 1 rfl s.page.cells _ (by rw [hW.out];exact hrg0) Tryz.underlying29 rfl HL ?_) | fail)
 rw [hW.out]
 clear hW hrg0 HL
 refine C.mono ?_
 clear C
 rintro e w1 ⟨z,rfl,hz,hb1⟩
 have HZ:Hid (z<0∨(0≤z∧z≤left∧s.short 1048576)):=hz
 clear hz
 by_cases hneg:z<0
 ·go_wp2
  go_ret
  exact ⟨-1,rfl,.inl (by omega),hbW.trans (hb1.mono hbW.size)⟩
 ·go_wp2
  go_ret
  exact ⟨z,rfl,HZ.out,hbW.trans (hb1.mono hbW.size)⟩
theorem eqSeat_same (s t:SeatA) (he:t.v=s.v) (w:World) (hs:s.reads w) (ht:t.reads w) (hl:s.short 1099511627776):
  Calls Tryz.prog 105 #[.agg s.cells.toArray,.agg t.cells.toArray] w fun e w'=>e=.returned (.bool true)∧Below w.heap.size w w':=by
 obtain ⟨W,hW,b0,b1,hbW,hsW⟩:=boxes2 w s.cells t.cells 103 103
 have HEQ:Hid (t.no=s.no∧t.lsn=s.lsn∧t.ss.map (·.v)=s.ss.map (·.v)∧t.dirty=s.dirty∧t.hot=s.hot):=by
  simp only [SeatA.v,SeatV.mk.injEq] at he
  exact he
 have hrg0:W.rangeAt w.heap.size 1 s.page.cells:=seat_page s b0
 have hrg1:W.rangeAt (w.heap.size+1) 1 t.page.cells:=seat_page t b1
 have HI0:=Tryz.infoPg s.page rfl
 have HI1:=Tryz.infoPg t.page rfl
 have C:=eqPage_same s.lsn s.ss t.ss rfl HEQ.out.2.2.1 W (hs.below hbW) (ht.below hbW) hl
 have e1:PageA.cells ⟨s.lsn,t.ss⟩=t.page.cells:=by rw [SeatA.page,HEQ.out.2.1]
 rw [e1] at C
 have c0:W.cell? ⟨w.heap.size,0,none⟩=some (.int .i64 s.no):=b0.cell 0 _ rfl
 have c1:W.cell? ⟨w.heap.size+1,0,none⟩=some (.int .i64 s.no):=(b1.cell 0 _ rfl).trans (by rw [HEQ.out.1])
 have HC:Hid (∀ u,Below W.heap.size W u→u.cell? ⟨w.heap.size,18,none⟩=some (.bool s.dirty)∧u.cell? ⟨w.heap.size,19,none⟩=some (.bool s.hot)∧u.cell? ⟨w.heap.size+1,18,none⟩=some (.bool s.dirty)∧u.cell? ⟨w.heap.size+1,19,none⟩=some (.bool s.hot)):=fun u hu=>⟨(b0.below hu b0.lt).cell 18 _ rfl,(b0.below hu b0.lt).cell 19 _ rfl,((b1.below hu b1.lt).cell 18 _ rfl).trans (by rw [HEQ.out.2.2.2.1]),((b1.below hu b1.lt).cell 19 _ rfl).trans (by rw [HEQ.out.2.2.2.2])⟩
 clear hsW b0 b1 he HEQ e1
 generalize hsc:s.cells=cs0 at*
 generalize htc:t.cells=cs1 at*
 clear hsc htc
 go_enter Tryz.func105,Tryz.ntmps105
 go_upto_region 1 with fail
 rw [hW.out]
 clear hW
 go_wp2_with (first | (guard_target=wpList _ _ _ (Oper.mk (some 11) _ _ _ _ _::_) _ _;refine wpList_load_mid rfl 47 (.tmp 10) rfl w.heap.size 1 rfl s.page.cells _ hrg0 Tryz.underlying47 rfl HI0 ?_) | (guard_target=wpList _ _ _ (Oper.mk (some 13) _ _ _ _ _::_) _ _;refine wpList_load_mid rfl 47 (.tmp 12) rfl (w.heap.size+1) 1 rfl t.page.cells _ hrg1 Tryz.underlying47 rfl HI1 ?_) | fail)
 refine C.mono ?_
 clear C hrg0 hrg1 HI0 HI1 c0 c1
 rintro e w1 ⟨rfl,hb1⟩
 obtain ⟨d0,d1,d2,d3⟩:=HC.out w1 hb1
 clear HC
 generalize s.dirty=sd at*
 generalize s.hot=sh at*
 go_wp2
 go_ret
 exact ⟨rfl,hbW.trans (hb1.mono hbW.size)⟩
end Go.Proofs.YtcoeamamaifoeaaGreatDoor