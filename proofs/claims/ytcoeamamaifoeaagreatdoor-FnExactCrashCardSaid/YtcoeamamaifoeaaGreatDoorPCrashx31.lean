/- Several texts in one, in their order. -/
import Derived.Test.YtcoeamamaifoeaaGreatDoorPCrashx25
import Derived.Test.YtcoeamamaifoeaaGreatDoorPCrashx28
import Derived.Test.YtcoeamamaifoeaaGreatDoorPCrashx30
import Derived.Test.YtcoeamamaifoeaaGreatDoorPCrashx19
import Derived.Test.YtcoeamamaifoeaaGreatDoorPCrashx23
import Derived.Deep.RegionHeld3
import Derived.Test.YtcoeamamaifoeaaGreatDoorPCrashx1
set_option maxHeartbeats 8000000
set_option maxRecDepth 100000
namespace Go.Proofs.YtcoeamamaifoeaaGreatDoor
open Go.RowKit
def downE (e:EngA):EngA:=⟨e.disk,[],none,0,0,e.log,[],none,0,[],none,0,e.next,true⟩
def crashV (e:EngV) (keep:Int):EngV:=if okEng e && decide (0≤keep) then ⟨e.disk,[],0,tearOf e.log keep,[],[],e.next,true⟩ else e
theorem downE_shape {e:EngA} (h:e.shape):(downE e).shape:=⟨h.eight,h.four⟩
theorem wpList_buildP {w:World} {ops:Array Oper} {rest:List Oper} {o:Oper} {act:Act} {Q:Exit→Act→World→Prop} (hgd:o.guard=none) (T:TypeId) {v:Value} (parts:Array (Nat × Operand)) {ps:Array (Nat × Value)} (hr:(Instr.build T ps).run Tryz.prog w=.ok v w)
  (ho:o.op=.build T parts) (hp:parts.map (fun p=>(p.1,act.eval p.2))=ps) (h:wpList Tryz.prog ops Q rest (act.put o.dst v) w):wpList Tryz.prog ops Q (o::rest) act w:=
 wpList_plain hgd fun _ hK=>step_build T parts hr ho hp (hK _ _ h)
theorem built_eng (parts:List (Nat × Value)):Tryz.prog.built 58 parts=Instr.fill ((#[(0,136),(136,2),(138,2),(140,1),(141,1),(142,1),(143,1)]:Array (Nat × Nat))[·]?) (([]:List Value)++(cellsPs zeroE.disk++zeroE.tail)).toArray parts:=by kernel_rfl
theorem run_buildD (w:World) (e:EngA) (se:e.shape):
  (Instr.build 58 #[(0,Value.agg (cellsPs e.disk).toArray),(2,Value.agg e.log.cells.toArray),(5,Value.int .i64 e.next),(6,Value.bool true)]).run Tryz.prog w=.ok (.agg (downE e).cells.toArray) w:=by
 refine run_build w _ _ _ ?_
 rw [built_eng]
 have hl:=EngA.disk_len se
 have h0:(cellsPs zeroE.disk).length=(cellsPs e.disk).length:=by rw [hl,EngA.disk_len zeroE_shape]
 rw [show (#[(0,Value.agg (cellsPs e.disk).toArray),(2,Value.agg e.log.cells.toArray),(5,Value.int .i64 e.next),(6,Value.bool true)]:Array (Nat × Value)).toList=[(0,Value.agg (cellsPs e.disk).toArray),(2,Value.agg e.log.cells.toArray),(5,Value.int .i64 e.next),(6,Value.bool true)] from rfl]
 rw [fill_step _ [] (cellsPs e.disk) (cellsPs zeroE.disk) zeroE.tail 0 (Value.agg (cellsPs e.disk).toArray) _ (by rw [hl];rfl) rfl h0]
 have e1:([]:List Value)++(cellsPs e.disk++zeroE.tail)=(cellsPs e.disk++[Value.slice none 0 0,Value.int .i64 0])++([Value.slice none 0 0,Value.int .i64 0]++[Value.slice none 0 0,Value.slice none 0 0,Value.int .i64 0,Value.bool false]):=by
  rw [List.nil_append,List.append_assoc];rfl
 rw [e1,fill_step _ (cellsPs e.disk++[Value.slice none 0 0,Value.int .i64 0]) e.log.cells [Value.slice none 0 0,Value.int .i64 0] [Value.slice none 0 0,Value.slice none 0 0,Value.int .i64 0,Value.bool false] 2 (Value.agg e.log.cells.toArray) _ (by rw [List.length_append,hl];rfl) rfl rfl]
 have e2:(cellsPs e.disk++[Value.slice none 0 0,Value.int .i64 0])++(e.log.cells++[Value.slice none 0 0,Value.slice none 0 0,Value.int .i64 0,Value.bool false])=(cellsPs e.disk++([Value.slice none 0 0,Value.int .i64 0]++(e.log.cells++[Value.slice none 0 0,Value.slice none 0 0])))++([Value.int .i64 0]++[Value.bool false]):=by
  simp only [List.append_assoc];rfl
 rw [e2,fill_step _ (cellsPs e.disk++([Value.slice none 0 0,Value.int .i64 0]++(e.log.cells++[Value.slice none 0 0,Value.slice none 0 0]))) [Value.int .i64 e.next] [Value.int .i64 0] [Value.bool false] 5 (Value.int .i64 e.next) _ (by rw [List.length_append,hl];rfl) rfl rfl]
 have e3:(cellsPs e.disk++([Value.slice none 0 0,Value.int .i64 0]++(e.log.cells++[Value.slice none 0 0,Value.slice none 0 0])))++([Value.int .i64 e.next]++[Value.bool false])=(cellsPs e.disk++([Value.slice none 0 0,Value.int .i64 0]++(e.log.cells++[Value.slice none 0 0,Value.slice none 0 0,Value.int .i64 e.next])))++([Value.bool false]++[]):=by
  simp only [List.append_assoc];rfl
 rw [e3,fill_step _ (cellsPs e.disk++([Value.slice none 0 0,Value.int .i64 0]++(e.log.cells++[Value.slice none 0 0,Value.slice none 0 0,Value.int .i64 e.next]))) [Value.bool true] [Value.bool false] [] 6 (Value.bool true) _ (by rw [List.length_append,hl];rfl) rfl rfl]
 unfold Instr.fill
 simp only [List.append_assoc,List.append_nil]
 rfl
theorem downed_any (e:EngA) (se:e.shape) (w:World):
  Calls Tryz.prog 28 #[.agg e.cells.toArray] w fun r w'=>r=.returned (.agg (downE e).cells.toArray)∧Below w.heap.size w w':=by
 obtain ⟨Z,hZ⟩:∃ Z,Hid (zeroE=Z):=⟨_,rfl⟩
 have sZ:Z.shape:=by rw [← hZ.out];exact zeroE_shape
 have HZ:=Tryz.zeroEng
 rw [hZ.out] at HZ
 obtain ⟨W,hW,b0,bR,hbW,hsW⟩:=boxes2 w e.cells Z.cells 58 58
 obtain ⟨p0,p1,p2,p3,p4,p5,p6⟩:=eng_parts se b0
 have hid:=disk8_info se.disk8
 have sD:=downE_shape se
 have HBD:=run_buildD W e se
 have HI:=eng_info sD
 have HO:=all_oneCell_toArray (oneE (downE e))
 obtain ⟨WF,hWF,hwF,hsF,HTF,bF⟩:=eng_out sD sZ bR
 have HLF:Hid (_=_):=eng_load sD bF
 have HEND:Hid (Below w.heap.size w WF):=hbW.trans (hwF.below (by omega) (by omega))
 generalize downE e=D at*
 clear hwF hsF bF bR b0 hsW
 go_enter Tryz.func28,Tryz.ntmps28
 go_upto_region 1 with (first | (guard_target=wpList _ _ _ (Oper.mk _ (Op.alloc _) _ _ _ _::_) _ _;refine alloc_of 58 Z.cells HZ ?_) | fail)
 rw [hW.out,show (w.alloc (Obj.cells e.cells.toArray 58)).heap.size=w.heap.size+1 from by simp]
 clear hW
 go_wp2_with (first | (guard_target=wpList _ _ _ (Oper.mk (some 4) _ _ _ _ _::_) _ _;refine wpList_load_mid rfl 48 (.tmp 3) rfl w.heap.size 0 rfl (cellsPs e.disk) _ p0 Tryz.underlying48 rfl hid ?_) | (guard_target=wpList _ _ _ (Oper.mk (some 6) _ _ _ _ _::_) _ _;refine wpList_load_mid rfl 54 (.tmp 5) rfl w.heap.size 138 rfl (e.log.cells) _ p2 Tryz.underlying54 rfl (log_info _) ?_) | (guard_target=wpList _ _ _ (Oper.mk (some 9) _ _ _ _ _::_) _ _;refine wpList_buildP rfl 58 #[(0,.tmp 4),(2,.tmp 6),(5,.tmp 8),(6,.const (.bool true))] HBD rfl (by simp only [List.map_toArray,List.map_cons,List.map_nil];rfl) ?_) | (guard_target=wpList _ _ _ (Oper.mk none (Op.store _ (Operand.tmp 2) _) _ _ _ _::_) _ _;refine wpList_store_mid rfl 58 (.tmp 2) (.tmp 9) rfl (w.heap.size+1) 0 (D.cells).toArray rfl rfl HTF.out (by rw [List.size_toArray];exact HI) HO ?_) | fail)
 rw [hWF.out]
 exact bodyPost_ret (v:=.agg D.cells.toArray) (results_one Tryz.results28 rfl HLF.out) rfl ⟨rfl,HEND.out⟩
def offE (e:EngA) (A B:Nat):EngA:=⟨e.disk,[],none,0,0,e.log,[],some ⟨A,0,none⟩,0,[],some ⟨B,0,none⟩,0,e.next,true⟩
theorem offE_shape {e:EngA} (h:e.shape) (A B:Nat):(offE e A B).shape:=⟨h.eight,h.four⟩
theorem l8Off_any (E:Nat) (e:EngA) (se:e.shape) (w:World) (b:Box w E e.cells 58):
  Calls Tryz.prog 19 #[.pointer (some ⟨E,0,none⟩)] w fun r w'=>(∃ v,r=.returned v)∧∃ A B:Nat,Box w' E (offE e A B).cells 58∧Touch [E] w w'∧w.heap.size≤A∧A<B∧B<w'.heap.size∧OwnL w' w.heap.size w'.heap.size (some ⟨A,0,none⟩) 0 []∧OwnH w' w.heap.size w'.heap.size (some ⟨B,0,none⟩) 0 []:=by
 have HA:Hid ((cellsPs e.disk).length=136):=EngA.disk_len se
 have b0:Box w E (cellsPs e.disk++[.slice e.aS e.seats.length e.cS,.int .i64 e.hand,.slice e.log.a e.log.recs.length e.log.c,.int .i64 e.log.sure,.slice e.aT e.txs.length e.cT,.slice e.aH e.holds.length e.cH,.int .i64 e.next,.bool e.down]) 58:=b
 have hE:=b.lt
 have f0:=b0.frozen 136
 have f1:=b0.frozen 137
 have x0:=b0.cell 136 (.slice e.aS e.seats.length e.cS) (by rw [List.getElem?_append_right (by rw [HA.out];omega),HA.out];rfl)
 have x1:=b0.cell 137 (.int .i64 e.hand) (by rw [List.getElem?_append_right (by rw [HA.out];omega),HA.out];rfl)
 obtain ⟨w1,h1,c1,t1,s1⟩:=tail_fill b0 HA.out 0 (.slice none 0 0)
 obtain ⟨w2,h2,c2,t2,s2⟩:=tail_fill c1 HA.out 1 (.int .i64 0)
 have T2:Touch [E] w w2:=(within_touch t1).trans (within_touch t2)
 have z2:w.heap.size≤w2.heap.size:=T2.size
 clear b0 c1 s1 s2 t1 t2
 go_enter Tryz.func19,Tryz.ntmps19
 go_upto_region 1 with fail
 rw [h1.out,h2.out]
 clear h1 h2 f0 f1 x0 x1
 have c2':Box w2 E (cellsPs e.disk++[.slice none 0 0,.int .i64 0,.slice e.log.a e.log.recs.length e.log.c,.int .i64 e.log.sure,.slice e.aT e.txs.length e.cT,.slice e.aH e.holds.length e.cH,.int .i64 e.next,.bool e.down]) 58:=c2
 have c3:=c2'.alloc (.cells #[] 109)
 have oL:=ownL_lit0 w2
 obtain ⟨w3,hw3⟩:∃ w3,Hid (w2.alloc (.cells #[] 109)=w3):=⟨_,rfl⟩
 rw [hw3.out] at c3 oL
 have hb3:Below w2.heap.size w2 w3:=by rw [← hw3.out];exact (Below.refl _ _).alloc (Nat.le_refl _) _
 have z3:w2.heap.size+1≤w3.heap.size:=by rw [← hw3.out];simp
 have f4:=c3.frozen 140
 have x4:=c3.cell 140 (.slice e.aT e.txs.length e.cT) (by rw [List.getElem?_append_right (by rw [HA.out];omega),HA.out];rfl)
 obtain ⟨w4,h4,c4,t4,s4⟩:=tail_fill c3 HA.out 4 (.slice (some ⟨w2.heap.size,0,none⟩) 0 0)
 have T4:Touch [E] w w4:=(T2.trans (Touch.of_below hb3)).trans (within_touch t4)
 have hE2:E<w2.heap.size:=by omega
 have oL4:=oL.within t4 (.inr (by omega))
 have z4:=t4.size
 have hE4:E<w4.heap.size:=by omega
 clear c2 c2' c3 s4 t4 oL
 have HW3:Hid (w2.alloc (.cells #[] 109)=w3):=hw3.out
 clear hw3
 rw [← HW3.out] at x4 f4 h4
 have h4':Hid ((w2.setCell ⟨E,140,none⟩ (.slice (some ⟨w2.heap.size,0,none⟩) 0 0)).alloc (.cells #[] 109)=w4):=by rw [Hid,← h4.out,World.setCell_alloc_past _ _ _ _ hE2]
 clear h4
 go_upto_region 2 with fail
 rw [h4'.out]
 clear h4' f4 x4 HW3
 have c4':Box w4 E (cellsPs e.disk++[.slice none 0 0,.int .i64 0,.slice e.log.a e.log.recs.length e.log.c,.int .i64 e.log.sure,.slice (some ⟨w2.heap.size,0,none⟩) 0 0,.slice e.aH e.holds.length e.cH,.int .i64 e.next,.bool e.down]) 58:=c4
 have c5:=c4'.alloc (.cells #[] 113)
 have oH:=ownH_lit0 w4
 obtain ⟨w5,hw5⟩:∃ w5,Hid (w4.alloc (.cells #[] 113)=w5):=⟨_,rfl⟩
 rw [hw5.out] at c5 oH
 have hb5:Below w4.heap.size w4 w5:=by rw [← hw5.out];exact (Below.refl _ _).alloc (Nat.le_refl _) _
 have z5:w4.heap.size+1≤w5.heap.size:=by rw [← hw5.out];simp
 have f6:=c5.frozen 141
 have x6:=c5.cell 141 (.slice e.aH e.holds.length e.cH) (by rw [List.getElem?_append_right (by rw [HA.out];omega),HA.out];rfl)
 obtain ⟨w6,h6,c6,t6,s6⟩:=tail_fill c5 HA.out 5 (.slice (some ⟨w4.heap.size,0,none⟩) 0 0)
 have T6:Touch [E] w w6:=(T4.trans (Touch.of_below hb5)).trans (within_touch t6)
 have oL6:=(oL4.below hb5).within t6 (.inr (by omega))
 have oH6:=oH.within t6 (.inr (by omega))
 have z6:=t6.size
 clear c4 c4' c5 s6 t6 oL4 oH
 have HW5:Hid (w4.alloc (.cells #[] 113)=w5):=hw5.out
 clear hw5
 rw [← HW5.out] at x6 f6 h6
 have h6':Hid ((w4.setCell ⟨E,141,none⟩ (.slice (some ⟨w4.heap.size,0,none⟩) 0 0)).alloc (.cells #[] 113)=w6):=by rw [Hid,← h6.out,World.setCell_alloc_past _ _ _ _ hE4]
 clear h6
 go_upto_region 3 with fail
 rw [h6'.out]
 clear h6' f6 x6 HW5
 have c6':Box w6 E (cellsPs e.disk++[.slice none 0 0,.int .i64 0,.slice e.log.a e.log.recs.length e.log.c,.int .i64 e.log.sure,.slice (some ⟨w2.heap.size,0,none⟩) 0 0,.slice (some ⟨w4.heap.size,0,none⟩) 0 0,.int .i64 e.next,.bool e.down]) 58:=c6
 have f7:=c6'.frozen 143
 have x7:=c6'.cell 143 (.bool e.down) (by rw [List.getElem?_append_right (by rw [HA.out];omega),HA.out];rfl)
 obtain ⟨w7,h7,c7,t7,s7⟩:=tail_fill c6' HA.out 7 (.bool true)
 have z7:=t7.size
 have HEND:Hid (∃ A B:Nat,Box w7 E (offE e A B).cells 58∧Touch [E] w w7∧w.heap.size≤A∧A<B∧B<w7.heap.size∧OwnL w7 w.heap.size w7.heap.size (some ⟨A,0,none⟩) 0 []∧OwnH w7 w.heap.size w7.heap.size (some ⟨B,0,none⟩) 0 []):=
  ⟨w2.heap.size,w4.heap.size,c7,T6.trans (within_touch t7),z2,by omega,by omega,(oL6.within t7 (.inr (by omega))).widen z2 (by omega) (Nat.le_refl _),(oH6.within t7 (.inr (by omega))).widen (by omega) (by omega) (Nat.le_refl _)⟩
 clear c6 c6' c7 s7 t7 oL6 oH6 T6 T4 T2
 go_wp2
 rw [h7.out]
 go_end0
 exact ⟨⟨_,rfl⟩,HEND.out⟩
theorem touch_below {bl:List Nat} {W w w':World} (h:Touch bl w w') (hd:∀ k∈bl,W.heap.size≤k) (hs:W.heap.size≤w.heap.size):Below W.heap.size w w':=
 ⟨h.os,h.tape,h.output,h.size,fun k hk=>h.block k (by omega) (fun hm=>by have:=hd k hm;omega)⟩
theorem down_own {w:World} {t:EngA} {l:LogA} {lo m n h hi:Nat} (od:OwnS w lo m (t.disk.flatMap (·.ss))) (ol:OwnRs w n h l.a l.c l.recs) (h1:lo≤n) (h2:m≤n) (h3:h≤hi∧m≤hi∧hi≤w.heap.size):(downE { t with log:=l }).own w lo hi:=by
 refine ⟨od.widen (Nat.le_refl _) h3.2.1 h3.2.2,ownSts_nil _ _ _ h3.2.2,OwnRs.widen ol h1 h3.1 h3.2.2,ownL_nil _ _ _ h3.2.2,ownH_nil _ _ _ h3.2.2,?_⟩
 show (_++([]++(blocksRs l.a l.c l.recs++([]++[])))).Nodup
 rw [List.nil_append,List.append_nil,List.append_nil,List.nodup_append]
 refine ⟨od.apart,OwnRs.apart ol,fun x hx y hy=>?_⟩
 have:=od.blocks_lt x hx
 have:=OwnRs.blocks_lt ol y hy
 omega
theorem off_own {w:World} {t:EngA} {l:LogA} {lo m n h d A B hi:Nat} (od:OwnS w lo m (t.disk.flatMap (·.ss))) (ol:OwnRs w n h l.a l.c l.recs) (h1:lo≤n) (h2:m≤n) (h4:h≤d) (hA:d≤A) (hAB:A<B) (hB:B<hi) (oA:OwnL w d hi (some ⟨A,0,none⟩) 0 []) (oB:OwnH w d hi (some ⟨B,0,none⟩) 0 []) (h3:m≤h∧lo≤d∧hi≤w.heap.size):(offE { t with log:=l } A B).own w lo hi:=by
 refine ⟨od.widen (Nat.le_refl _) (by omega) h3.2.2,ownSts_nil _ _ _ h3.2.2,OwnRs.widen ol h1 (by omega) h3.2.2,oA.widen h3.2.1 (Nat.le_refl _) h3.2.2,oB.widen h3.2.1 (Nat.le_refl _) h3.2.2,?_⟩
 show (_++([]++(blocksRs l.a l.c l.recs++([A]++[B])))).Nodup
 rw [List.nil_append,List.nodup_append,List.nodup_append]
 refine ⟨od.apart,⟨OwnRs.apart ol,by simp;omega,fun x hx y hy=>?_⟩,fun x hx y hy=>?_⟩
 ·have:=OwnRs.blocks_lt ol x hx
  simp only [List.mem_append,List.mem_singleton] at hy
  omega
 ·have:=od.blocks_lt x hx
  simp only [List.mem_append,List.mem_singleton] at hy
  rcases hy with hy | hy | hy
  ·have:=OwnRs.blocks_lt ol y hy;omega
  ·omega
  ·omega
theorem specCrash_any (e:EngA) (keep:Int) (se:e.shape) (w:World) (re:e.reads w) (hl:e.short 1048576) (hc:e.caps):
  Calls Tryz.prog 5 #[.agg e.cells.toArray,.int .i64 keep] w fun r w'=>∃ t:EngA,r=.returned (.agg t.cells.toArray)∧t.shape∧Hid (t.v=crashV e.v keep)∧t.own w' w.heap.size w'.heap.size∧Below w.heap.size w w':=by
 obtain ⟨Z,hZ⟩:∃ Z,Hid (zeroE=Z):=⟨_,rfl⟩
 have sZ:Z.shape:=by rw [← hZ.out];exact zeroE_shape
 have HZ:=Tryz.zeroEng
 rw [hZ.out] at HZ
 obtain ⟨W,hW,b0,bR,hbW,hsW⟩:=boxes2 w e.cells Z.cells 58 58
 have HB:Hid (∀ u,Below W.heap.size W u→Box u w.heap.size e.cells 58):=fun u hu=>b0.below hu b0.lt
 have HBR:Hid (∀ u,Below W.heap.size W u→Box u (w.heap.size+1) Z.cells 58):=fun u hu=>bR.below hu bR.lt
 have HR:Hid (∀ u,Below W.heap.size W u→e.reads u):=fun u hu=>(re.below hbW).below hu
 have HEND:Hid (∀ u,Below W.heap.size W u→Below w.heap.size w u):=fun u hu=>hbW.trans (hu.mono hbW.size)
 have hw0:w.heap.size+1<W.heap.size:=by omega
 have N0:Below W.heap.size W W:=Below.refl _ _
 have HIe:=eng_info se
 have r0:W.rangeAt w.heap.size 0 e.cells:=Box.range [] e.cells [] (by simpa using HB.out _ N0)
 have C:=l7Copy_any e se W (HR.out _ N0) hl hc
 clear b0 bR hsW
 go_enter Tryz.func5,Tryz.ntmps5
 go_upto_region 1 with (first | (guard_target=wpList _ _ _ (Oper.mk _ (Op.alloc _) _ _ _ _::_) _ _;refine alloc_of 58 Z.cells HZ ?_) | fail)
 rw [hW.out,show (w.alloc (Obj.cells e.cells.toArray 58)).heap.size=w.heap.size+1 from by simp]
 clear hW
 go_wp2_with (first | (guard_target=wpList _ _ _ (Oper.mk (some 6) _ _ _ _ _::_) _ _;refine wpList_load_mid rfl 58 (.tmp 2) rfl w.heap.size 0 rfl (e.cells) _ r0 Tryz.underlying58 rfl HIe ?_) | fail)
 refine C.mono ?_
 clear C r0
 rintro r d1 ⟨t,rfl,st,hv,ot,hb⟩
 have N1:Below W.heap.size W d1:=N0.trans (hb.mono N0.size)
 have z1:=N1.size
 obtain ⟨Zd,hZd,bZ,hbZ,hsZ⟩:=boxes1 d1 Z.cells 58
 obtain ⟨d2,hd2,hw2,hs2,HT2,b5⟩:=eng_out st sZ bZ
 have hb2:Below d1.heap.size d1 d2:=hbZ.trans (hw2.below (Nat.le_refl _) (by omega))
 have N2:Below W.heap.size W d2:=N1.trans (hb2.mono N1.size)
 have z2:=b5.lt
 have ot2:=ot.below hb2
 have HIt:=eng_info st
 have HOt:=all_oneCell_toArray (oneE t)
 have r2:d2.rangeAt w.heap.size 0 e.cells:=Box.range [] e.cells [] (by simpa using HB.out _ N2)
 have C:=specEngineOk_any e se d2 (HR.out _ N2) hl
 clear bZ hbZ hsZ hw2 hs2 hb ot
 go_wp2_with (first | (guard_target=wpList _ _ _ (Oper.mk _ (Op.alloc _) _ _ _ _::_) _ _;refine alloc_of 58 Z.cells HZ ?_) | (guard_target=wpList _ _ _ (Oper.mk none (Op.store _ (Operand.tmp 5) _) _ _ _ _::_) _ _;refine wpList_store_mid rfl 58 (.tmp 5) (.tmp 7) rfl d1.heap.size 0 (t.cells).toArray rfl rfl (by rw [hZd.out];exact HT2.out) (by rw [List.size_toArray];exact HIt) HOt ?_) | (guard_target=wpList _ _ _ (Oper.mk (some 8) _ _ _ _ _::_) _ _;refine wpList_load_mid rfl 58 (.tmp 2) rfl w.heap.size 0 rfl (e.cells) _ (by rw [hZd.out,hd2.out];exact r2) Tryz.underlying58 rfl HIe ?_) | fail)
 rw [hZd.out,hd2.out]
 clear hZd hd2 HT2 r2
 refine C.mono ?_
 clear C
 rintro r d3 ⟨rfl,hb⟩
 have N3:Below W.heap.size W d3:=N2.trans (hb.mono N2.size)
 have z3:=hb.size
 replace b5:=b5.below hb b5.lt
 have ot3:=ot2.below hb
 clear hb ot2
 have NO:(okEng e.v && decide (0≤keep))=false→crashV e.v keep=e.v:=fun h=>by unfold crashV;rw [h];rfl
 have HNO:Hid (_):=NO
 have HYES:Hid ((okEng e.v && decide (0≤keep))=true→crashV e.v keep=⟨e.v.disk,[],0,tearOf e.log.v keep,[],[],e.next,true⟩):=fun h=>by unfold crashV;rw [h];rfl
 clear NO
 have FIN:Hid (∀ (D:EngA) (u:World) (lo:Nat),D.shape→Below W.heap.size W u→D.own u lo u.heap.size→W.heap.size≤lo→∃ WF,Hid (u.setCells (w.heap.size+1) 0 D.cells.toArray.toList=WF)∧Hid (u.there (w.heap.size+1) 0 D.cells.toArray.size)∧Hid ((loadVar 58 ⟨w.heap.size+1,0,none⟩).run Tryz.prog WF=.ok (.agg D.cells.toArray) WF)∧D.own WF w.heap.size WF.heap.size∧Below w.heap.size w WF):=fun D u lo sD hu od hlo=>by
  obtain ⟨WF,hWF,hwF,hsF,HTF,bF⟩:=eng_out sD sZ (HBR.out u hu)
  exact ⟨WF,hWF,HTF,eng_load sD bF,(od.within hwF (.inr (by omega))).widen (by omega) (by omega) (Nat.le_refl _),(HEND.out _ hu).trans (hwF.below (by omega) (by have:=hu.size;omega))⟩
 have REF:Hid (crashV e.v keep=e.v→∃ WF,Hid (d3.setCells (w.heap.size+1) 0 t.cells.toArray.toList=WF)∧Hid (d3.there (w.heap.size+1) 0 t.cells.toArray.size)∧Hid ((loadVar 58 ⟨w.heap.size+1,0,none⟩).run Tryz.prog WF=.ok (.agg t.cells.toArray) WF)∧Hid (t.v=crashV e.v keep∧t.own WF w.heap.size WF.heap.size∧Below w.heap.size w WF)):=fun hx=>by
  obtain ⟨WF,a,b,c,d,f⟩:=FIN.out t d3 W.heap.size st N3 (ot3.widen (Nat.le_refl _) (by omega) (Nat.le_refl _)) (Nat.le_refl _)
  exact ⟨WF,a,b,c,by rw [hx];exact hv.out,d,f⟩
 have r3:d3.rangeAt d1.heap.size 0 t.cells:=Box.range [] t.cells [] (by simpa using b5)
 by_cases hok:okEng e.v=true
 rotate_left
 ·have hok':okEng e.v=false:=by simpa using hok
  obtain ⟨WF,hWF,HTF,HLF,HE⟩:=REF.out (HNO.out (by rw [hok'];rfl))
  rw [hok']
  go_wp2_with (first | (guard_target=wpList _ _ _ (Oper.mk (some 15) _ _ _ _ _::_) _ _;refine wpList_load_mid rfl 58 (.tmp 5) rfl d1.heap.size 0 rfl (t.cells) _ r3 Tryz.underlying58 rfl HIt ?_) | (guard_target=wpList _ _ _ (Oper.mk none (Op.store _ (Operand.tmp 4) _) _ _ _ _::_) _ _;refine wpList_store_mid rfl 58 (.tmp 4) (.tmp 15) rfl (w.heap.size+1) 0 (t.cells).toArray rfl rfl HTF.out (by rw [List.size_toArray];exact HIt) HOt ?_) | fail)
  rw [hWF.out]
  exact bodyPost_ret (v:=.agg t.cells.toArray) (results_one Tryz.results5 rfl HLF.out) rfl ⟨t,rfl,st,HE.out⟩
 by_cases hk0:0≤keep
 rotate_left
 ·have hk1:keep<0:=by omega
  obtain ⟨WF,hWF,HTF,HLF,HE⟩:=REF.out (HNO.out (by rw [hok];simpa using hk1))
  rw [hok]
  clear hk0
  go_wp2_with (first | (guard_target=wpList _ _ _ (Oper.mk (some 15) _ _ _ _ _::_) _ _;refine wpList_load_mid rfl 58 (.tmp 5) rfl d1.heap.size 0 rfl (t.cells) _ r3 Tryz.underlying58 rfl HIt ?_) | (guard_target=wpList _ _ _ (Oper.mk none (Op.store _ (Operand.tmp 4) _) _ _ _ _::_) _ _;refine wpList_store_mid rfl 58 (.tmp 4) (.tmp 15) rfl (w.heap.size+1) 0 (t.cells).toArray rfl rfl HTF.out (by rw [List.size_toArray];exact HIt) HOt ?_) | fail)
  rw [hWF.out]
  exact bodyPost_ret (v:=.agg t.cells.toArray) (results_one Tryz.results5 rfl HLF.out) rfl ⟨t,rfl,st,HE.out⟩
 have hkn:¬ keep<0:=by omega
 have HCV:=HYES.out (by rw [hok];simpa using hk0)
 have HCVH:Hid (_):=HCV
 clear HCV REF HNO HYES r3 hk0
 rw [hok]
 have p5:=(eng_parts se (HB.out _ N3)).2.2.1
 have C:=specTear_any e.log keep d3 (HR.out _ N3).log hl.log hc.recs
 go_wp2_with (first | (guard_target=wpList _ _ _ (Oper.mk (some 17) _ _ _ _ _::_) _ _;refine wpList_load_mid rfl 54 (.tmp 16) rfl w.heap.size 138 rfl (e.log.cells) _ p5 Tryz.underlying54 rfl (log_info _) ?_) | fail)
 refine C.mono ?_
 clear C p5
 rintro r d4 ⟨l,rfl,hvl,ol,hb⟩
 have N4:Below W.heap.size W d4:=N3.trans (hb.mono N3.size)
 have z4:=hb.size
 replace b5:=b5.below hb b5.lt
 have ot4:=ot3.below hb
 clear hb ot3
 have HA:Hid ((cellsPs t.disk).length=136):=EngA.disk_len st
 have b5':Box d4 d1.heap.size (((cellsPs t.disk)++[.slice t.aS t.seats.length t.cS,.int .i64 t.hand])++(t.log.cells++[.slice t.aT t.txs.length t.cT,.slice t.aH t.holds.length t.cH,.int .i64 t.next,.bool t.down])) 58:=by rw [List.append_assoc];exact b5
 have HA2:Hid ((cellsPs t.disk++[Value.slice t.aS t.seats.length t.cS,Value.int .i64 t.hand]).length=138):=by rw [Hid,List.length_append,HA.out];rfl
 obtain ⟨d5,h5,c5,hw5,hs5⟩:=range_fill _ t.log.cells l.cells _ b5' rfl
 rw [HA2.out] at h5
 have HT5:Hid (d4.there d1.heap.size 138 l.cells.toArray.size):=b5'.there _ _ (by rw [List.length_append,HA2.out];show 138+2≤_;simp [LogA.cells])
 have E5:Hid (d4.setCells d1.heap.size 138 l.cells.toArray.toList=d5):=h5.out
 obtain ⟨t5,ht5⟩:∃ t5:EngA,Hid (({ t with log:=l }:EngA)=t5):=⟨_,rfl⟩
 have st5:t5.shape:=by rw [← ht5.out];exact ⟨st.eight,st.four⟩
 have c6:Box d5 d1.heap.size t5.cells 58:=by
  rw [← ht5.out]
  rw [List.append_assoc] at c5
  exact c5
 have N5:Below W.heap.size W d5:=N4.trans (hw5.below (by omega) (by omega))
 have z5:=hw5.size
 have od5:OwnS d5 W.heap.size d1.heap.size (t.disk.flatMap (·.ss)):=(ot4.disk.within hw5 (.inl (Nat.le_refl _)))
 have ol5:OwnRs d5 d3.heap.size d4.heap.size l.a l.c l.recs:=OwnRs.within ol hw5 (.inr (by omega))
 have HVF:Hid (t.v.disk=e.v.disk∧t.next=e.next):=⟨congrArg EngV.disk hv.out,congrArg EngV.next hv.out⟩
 clear c5 hw5 hs5 b5 b5' h5 ot4 ol
 have C:=l8Off_any d1.heap.size t5 st5 d5 c6
 go_wp2_with (first | (guard_target=wpList _ _ _ (Oper.mk none (Op.store _ (Operand.tmp 20) _) _ _ _ _::_) _ _;refine wpList_store_mid rfl 54 (.tmp 20) (.tmp 19) rfl d1.heap.size 138 l.cells.toArray rfl rfl HT5.out (log_info _) (all_oneCell_toArray (oneLog l)) ?_) | fail)
 rw [E5.out]
 refine C.mono ?_
 clear C E5 HT5
 rintro r d6 ⟨⟨v0,rfl⟩,A,B,bo,ht,hA1,hAB,hB1,oA,oB⟩
 have N6:Below W.heap.size W d6:=N5.trans (touch_below ht (fun k hk=>by rw [List.mem_singleton.1 hk];omega) (by omega))
 have z6:=ht.size
 have od6:OwnS d6 W.heap.size d1.heap.size (t.disk.flatMap (·.ss)):=od5.touch ht (fun k hk hm=>by have:=od5.blocks_lt k hk;rw [List.mem_singleton.1 hm] at this;omega)
 have ol6:OwnRs d6 d3.heap.size d4.heap.size l.a l.c l.recs:=OwnRs.touch ol5 ht (fun k hk hm=>by have:=OwnRs.blocks_lt ol5 k hk;rw [List.mem_singleton.1 hm] at this;omega)
 have sD:=offE_shape st5 A B
 have HVD:Hid ((offE t5 A B).v=crashV e.v keep):=by
  have h1:=HVF.out.1
  have h2:=HVF.out.2
  rw [Hid,HCVH.out,← ht5.out]
  simp only [EngA.v] at h1
  simp only [offE,EngA.v,EngV.mk.injEq]
  refine ⟨h1,rfl,trivial,?_,trivial,trivial,h2,trivial⟩
  exact hvl.out
 have oD:(offE t5 A B).own d6 W.heap.size d6.heap.size:=by
  rw [← ht5.out]
  exact off_own od6 ol6 (by omega) (by omega) (show d4.heap.size≤d5.heap.size by omega) hA1 hAB hB1 oA oB (by omega)
 obtain ⟨WF,hWF,HTF,HLF,d,f⟩:=FIN.out (offE t5 A B) d6 W.heap.size sD N6 oD (Nat.le_refl _)
 have HE:Hid (_∧_∧_):=⟨HVD,d,f⟩
 have HID:=eng_info sD
 have HOD:=all_oneCell_toArray (oneE (offE t5 A B))
 have rD:d6.rangeAt d1.heap.size 0 (offE t5 A B).cells:=Box.range [] _ [] (by simpa using bo)
 clear od5 od6 ol5 ol6 oD HVD d f bo oA oB ht
 generalize offE t5 A B=D at*
 go_wp2_with (first | (guard_target=wpList _ _ _ (Oper.mk (some 22) _ _ _ _ _::_) _ _;refine wpList_load_mid rfl 58 (.tmp 5) rfl d1.heap.size 0 rfl (D.cells) _ rD Tryz.underlying58 rfl HID ?_) | (guard_target=wpList _ _ _ (Oper.mk none (Op.store _ (Operand.tmp 4) _) _ _ _ _::_) _ _;refine wpList_store_mid rfl 58 (.tmp 4) (.tmp 22) rfl (w.heap.size+1) 0 (D.cells).toArray rfl rfl HTF.out (by rw [List.size_toArray];exact HID) HOD ?_) | fail)
 rw [hWF.out]
 exact bodyPost_ret (v:=.agg D.cells.toArray) (results_one Tryz.results5 rfl HLF.out) rfl ⟨D,rfl,sD,HE.out⟩
theorem canFall_any (e:EngA) (keep:Int) (se:e.shape) (w:World) (hg:ErrT w) (re:e.reads w) (hl:e.short 1048576):
  Calls Tryz.prog 26 #[.agg e.cells.toArray,.int .i64 keep] w fun r w'=>r=.returned (.bool (okEng e.v && decide (0≤keep)))∧Below w.heap.size w w':=by
 obtain ⟨W,hW,b0,hbW,hsW⟩:=boxes1 w e.cells 58
 have HIe:=eng_info se
 have r0:W.rangeAt w.heap.size 0 e.cells:=Box.range [] e.cells [] (by simpa using b0)
 have C:=implEngineOk_any e se W (hg.keep hbW) (re.below hbW) hl
 clear b0 hsW
 go_enter Tryz.func26,Tryz.ntmps26
 go_upto_region 1 with fail
 rw [hW.out]
 clear hW
 go_wp2_with (first | (guard_target=wpList _ _ _ (Oper.mk (some 5) _ _ _ _ _::_) _ _;refine wpList_load_mid rfl 58 (.tmp 2) rfl w.heap.size 0 rfl (e.cells) _ r0 Tryz.underlying58 rfl HIe ?_) | fail)
 refine C.mono ?_
 clear C r0
 rintro r d1 ⟨rfl,hb⟩
 have HE:Hid (Below w.heap.size w d1):=hbW.trans (hb.mono hbW.size)
 clear hb hbW
 cases hok:okEng e.v
 ·go_wp2
  go_ret
  exact ⟨by rw [hok];rfl,HE.out⟩
 by_cases hk0:0≤keep
 ·have hkn:¬ keep<0:=by omega
  go_wp2
  go_ret
  exact ⟨by rw [hok,decide_eq_true hk0];rfl,HE.out⟩
 ·have hk1:keep<0:=by omega
  go_wp2
  go_ret
  exact ⟨by rw [hok,decide_eq_false (by omega:¬ 0≤keep)];rfl,HE.out⟩
theorem implCrash_any (e:EngA) (keep:Int) (se:e.shape) (w:World) (hg:ErrT w) (re:e.reads w) (hl:e.short 1048576) (hc:e.caps):
  Calls Tryz.prog 7 #[.agg e.cells.toArray,.int .i64 keep] w fun r w'=>∃ t:EngA,r=.returned (.agg t.cells.toArray)∧t.shape∧Hid (t.v=crashV e.v keep)∧t.own w' w.heap.size w'.heap.size∧Below w.heap.size w w':=by
 obtain ⟨Z,hZ⟩:∃ Z,Hid (zeroE=Z):=⟨_,rfl⟩
 have sZ:Z.shape:=by rw [← hZ.out];exact zeroE_shape
 have HZ:=Tryz.zeroEng
 rw [hZ.out] at HZ
 obtain ⟨W,hW,b0,bR,hbW,hsW⟩:=boxes2 w e.cells Z.cells 58 58
 have HB:Hid (∀ u,Below W.heap.size W u→Box u w.heap.size e.cells 58):=fun u hu=>b0.below hu b0.lt
 have HBR:Hid (∀ u,Below W.heap.size W u→Box u (w.heap.size+1) Z.cells 58):=fun u hu=>bR.below hu bR.lt
 have HR:Hid (∀ u,Below W.heap.size W u→e.reads u):=fun u hu=>(re.below hbW).below hu
 have HEND:Hid (∀ u,Below W.heap.size W u→Below w.heap.size w u):=fun u hu=>hbW.trans (hu.mono hbW.size)
 have HG:Hid (∀ u,Below W.heap.size W u→ErrT u):=fun u hu=>hg.keep (hbW.trans (hu.mono hbW.size))
 have hw0:w.heap.size+1<W.heap.size:=by omega
 have N0:Below W.heap.size W W:=Below.refl _ _
 have HIe:=eng_info se
 have r0:W.rangeAt w.heap.size 0 e.cells:=Box.range [] e.cells [] (by simpa using HB.out _ N0)
 have C:=copyEngine_any e se W (HR.out _ N0) hl hc
 clear b0 bR hsW
 go_enter Tryz.func7,Tryz.ntmps7
 go_upto_region 1 with (first | (guard_target=wpList _ _ _ (Oper.mk _ (Op.alloc _) _ _ _ _::_) _ _;refine alloc_of 58 Z.cells HZ ?_) | fail)
 rw [hW.out,show (w.alloc (Obj.cells e.cells.toArray 58)).heap.size=w.heap.size+1 from by simp]
 clear hW
 go_wp2_with (first | (guard_target=wpList _ _ _ (Oper.mk (some 6) _ _ _ _ _::_) _ _;refine wpList_load_mid rfl 58 (.tmp 2) rfl w.heap.size 0 rfl (e.cells) _ r0 Tryz.underlying58 rfl HIe ?_) | fail)
 refine C.mono ?_
 clear C r0
 rintro r d1 ⟨t,rfl,st,hv,ot,hb⟩
 have N1:Below W.heap.size W d1:=N0.trans (hb.mono N0.size)
 have z1:=N1.size
 obtain ⟨Zd,hZd,bZ,hbZ,hsZ⟩:=boxes1 d1 Z.cells 58
 obtain ⟨d2,hd2,hw2,hs2,HT2,b5⟩:=eng_out st sZ bZ
 have hb2:Below d1.heap.size d1 d2:=hbZ.trans (hw2.below (Nat.le_refl _) (by omega))
 have N2:Below W.heap.size W d2:=N1.trans (hb2.mono N1.size)
 have z2:=b5.lt
 have ot2:=ot.below hb2
 have HIt:=eng_info st
 have HOt:=all_oneCell_toArray (oneE t)
 have r2:d2.rangeAt w.heap.size 0 e.cells:=Box.range [] e.cells [] (by simpa using HB.out _ N2)
 have C:=canFall_any e keep se d2 (HG.out _ N2) (HR.out _ N2) hl
 clear bZ hbZ hsZ hw2 hs2 hb ot
 go_wp2_with (first | (guard_target=wpList _ _ _ (Oper.mk _ (Op.alloc _) _ _ _ _::_) _ _;refine alloc_of 58 Z.cells HZ ?_) | (guard_target=wpList _ _ _ (Oper.mk none (Op.store _ (Operand.tmp 5) _) _ _ _ _::_) _ _;refine wpList_store_mid rfl 58 (.tmp 5) (.tmp 7) rfl d1.heap.size 0 (t.cells).toArray rfl rfl (by rw [hZd.out];exact HT2.out) (by rw [List.size_toArray];exact HIt) HOt ?_) | (guard_target=wpList _ _ _ (Oper.mk (some 8) _ _ _ _ _::_) _ _;refine wpList_load_mid rfl 58 (.tmp 2) rfl w.heap.size 0 rfl (e.cells) _ (by rw [hZd.out,hd2.out];exact r2) Tryz.underlying58 rfl HIe ?_) | fail)
 rw [hZd.out,hd2.out]
 clear hZd hd2 HT2 r2
 refine C.mono ?_
 clear C
 rintro r d3 ⟨rfl,hb⟩
 have N3:Below W.heap.size W d3:=N2.trans (hb.mono N2.size)
 have z3:=hb.size
 replace b5:=b5.below hb b5.lt
 have ot3:=ot2.below hb
 clear hb ot2
 have NO:(okEng e.v && decide (0≤keep))=false→crashV e.v keep=e.v:=fun h=>by unfold crashV;rw [h];rfl
 have HNO:Hid (_):=NO
 have HYES:Hid ((okEng e.v && decide (0≤keep))=true→crashV e.v keep=⟨e.v.disk,[],0,tearOf e.log.v keep,[],[],e.next,true⟩):=fun h=>by unfold crashV;rw [h];rfl
 clear NO
 have FIN:Hid (∀ (D:EngA) (u:World) (lo:Nat),D.shape→Below W.heap.size W u→D.own u lo u.heap.size→W.heap.size≤lo→∃ WF,Hid (u.setCells (w.heap.size+1) 0 D.cells.toArray.toList=WF)∧Hid (u.there (w.heap.size+1) 0 D.cells.toArray.size)∧Hid ((loadVar 58 ⟨w.heap.size+1,0,none⟩).run Tryz.prog WF=.ok (.agg D.cells.toArray) WF)∧D.own WF w.heap.size WF.heap.size∧Below w.heap.size w WF):=fun D u lo sD hu od hlo=>by
  obtain ⟨WF,hWF,hwF,hsF,HTF,bF⟩:=eng_out sD sZ (HBR.out u hu)
  exact ⟨WF,hWF,HTF,eng_load sD bF,(od.within hwF (.inr (by omega))).widen (by omega) (by omega) (Nat.le_refl _),(HEND.out _ hu).trans (hwF.below (by omega) (by have:=hu.size;omega))⟩
 have REF:Hid (crashV e.v keep=e.v→∃ WF,Hid (d3.setCells (w.heap.size+1) 0 t.cells.toArray.toList=WF)∧Hid (d3.there (w.heap.size+1) 0 t.cells.toArray.size)∧Hid ((loadVar 58 ⟨w.heap.size+1,0,none⟩).run Tryz.prog WF=.ok (.agg t.cells.toArray) WF)∧Hid (t.v=crashV e.v keep∧t.own WF w.heap.size WF.heap.size∧Below w.heap.size w WF)):=fun hx=>by
  obtain ⟨WF,a,b,c,d,f⟩:=FIN.out t d3 W.heap.size st N3 (ot3.widen (Nat.le_refl _) (by omega) (Nat.le_refl _)) (Nat.le_refl _)
  exact ⟨WF,a,b,c,by rw [hx];exact hv.out,d,f⟩
 have r3:d3.rangeAt d1.heap.size 0 t.cells:=Box.range [] t.cells [] (by simpa using b5)
 cases hcf:(okEng e.v && decide (0≤keep))
 ·obtain ⟨WF,hWF,HTF,HLF,HE⟩:=REF.out (HNO.out hcf)
  clear hcf
  go_wp2_with (first | (guard_target=wpList _ _ _ (Oper.mk (some 12) _ _ _ _ _::_) _ _;refine wpList_load_mid rfl 58 (.tmp 5) rfl d1.heap.size 0 rfl (t.cells) _ r3 Tryz.underlying58 rfl HIt ?_) | (guard_target=wpList _ _ _ (Oper.mk none (Op.store _ (Operand.tmp 4) _) _ _ _ _::_) _ _;refine wpList_store_mid rfl 58 (.tmp 4) (.tmp 12) rfl (w.heap.size+1) 0 (t.cells).toArray rfl rfl HTF.out (by rw [List.size_toArray];exact HIt) HOt ?_) | fail)
  rw [hWF.out]
  exact bodyPost_ret (v:=.agg t.cells.toArray) (results_one Tryz.results7 rfl HLF.out) rfl ⟨t,rfl,st,HE.out⟩
 have HCV:=HYES.out hcf
 have HCVH:Hid (_):=HCV
 clear HCV REF HNO HYES r3 hcf
 have HVL:Hid (t.log.v=e.log.v):=congrArg EngV.log hv.out
 have HTS:=EngA.short_of hv.out hl
 have p5:=(eng_parts st b5).2.2.1
 have C:=implTear_any t.log keep d3 (HG.out _ N3) (EngA.own.reads ot3).log HTS.log (OwnRs.caps ot3.log) (OwnRs.capLen ot3.log) (OwnRs.nilLen ot3.log)
 go_wp2_with (first | (guard_target=wpList _ _ _ (Oper.mk (some 14) _ _ _ _ _::_) _ _;refine wpList_load_mid rfl 54 (.tmp 13) rfl d1.heap.size 138 rfl (t.log.cells) _ p5 Tryz.underlying54 rfl (log_info _) ?_) | fail)
 refine C.mono ?_
 clear C p5
 rintro r d4 ⟨l,rfl,hvl,ol,hb⟩
 have N4:Below W.heap.size W d4:=N3.trans (hb.mono N3.size)
 have z4:=hb.size
 replace b5:=b5.below hb b5.lt
 have ot4:=ot3.below hb
 clear hb ot3
 have HA:Hid ((cellsPs t.disk).length=136):=EngA.disk_len st
 have b5':Box d4 d1.heap.size (((cellsPs t.disk)++[.slice t.aS t.seats.length t.cS,.int .i64 t.hand])++(t.log.cells++[.slice t.aT t.txs.length t.cT,.slice t.aH t.holds.length t.cH,.int .i64 t.next,.bool t.down])) 58:=by rw [List.append_assoc];exact b5
 have HA2:Hid ((cellsPs t.disk++[Value.slice t.aS t.seats.length t.cS,Value.int .i64 t.hand]).length=138):=by rw [Hid,List.length_append,HA.out];rfl
 obtain ⟨d5,h5,c5,hw5,hs5⟩:=range_fill _ t.log.cells l.cells _ b5' rfl
 rw [HA2.out] at h5
 have HT5:Hid (d4.there d1.heap.size 138 l.cells.toArray.size):=b5'.there _ _ (by rw [List.length_append,HA2.out];show 138+2≤_;simp [LogA.cells])
 have E5:Hid (d4.setCells d1.heap.size 138 l.cells.toArray.toList=d5):=h5.out
 obtain ⟨t5,ht5⟩:∃ t5:EngA,Hid (({ t with log:=l }:EngA)=t5):=⟨_,rfl⟩
 have st5:t5.shape:=by rw [← ht5.out];exact ⟨st.eight,st.four⟩
 have c6:Box d5 d1.heap.size t5.cells 58:=by
  rw [← ht5.out]
  rw [List.append_assoc] at c5
  exact c5
 have N5:Below W.heap.size W d5:=N4.trans (hw5.below (by omega) (by omega))
 have z5:=hw5.size
 have od5:OwnS d5 W.heap.size d1.heap.size (t.disk.flatMap (·.ss)):=(ot4.disk.within hw5 (.inl (Nat.le_refl _)))
 have ol5:OwnRs d5 d3.heap.size d4.heap.size l.a l.c l.recs:=OwnRs.within ol hw5 (.inr (by omega))
 have HVF:Hid (t.v.disk=e.v.disk∧t.next=e.next):=⟨congrArg EngV.disk hv.out,congrArg EngV.next hv.out⟩
 clear c5 hw5 hs5 b5 b5' h5 ot4 ol
 have r5:d5.rangeAt d1.heap.size 0 t5.cells:=Box.range [] t5.cells [] (by simpa using c6)
 have C:=downed_any t5 st5 d5
 have HI5:=eng_info st5
 go_wp2_with (first | (guard_target=wpList _ _ _ (Oper.mk none (Op.store _ (Operand.tmp 17) _) _ _ _ _::_) _ _;refine wpList_store_mid rfl 54 (.tmp 17) (.tmp 16) rfl d1.heap.size 138 l.cells.toArray rfl rfl HT5.out (log_info _) (all_oneCell_toArray (oneLog l)) ?_) | (guard_target=wpList _ _ _ (Oper.mk (some 18) _ _ _ _ _::_) _ _;refine wpList_load_mid rfl 58 (.tmp 5) rfl d1.heap.size 0 rfl (t5.cells) _ (by rw [E5.out];exact r5) Tryz.underlying58 rfl HI5 ?_) | fail)
 rw [E5.out]
 refine C.mono ?_
 clear C r5 E5 HT5
 rintro r d6 ⟨rfl,hb⟩
 have N6:Below W.heap.size W d6:=N5.trans (hb.mono N5.size)
 have z6:=hb.size
 have od6:=od5.below hb
 have ol6:=OwnRs.below ol5 hb
 have sD:=downE_shape st5
 have HVD:Hid ((downE t5).v=crashV e.v keep):=by
  have h1:=HVF.out.1
  have h2:=HVF.out.2
  rw [Hid,HCVH.out,← ht5.out]
  simp only [EngA.v] at h1
  simp only [downE,EngA.v,EngV.mk.injEq]
  refine ⟨h1,rfl,trivial,?_,trivial,trivial,h2,trivial⟩
  rw [hvl.out,HVL.out]
 have oD:(downE t5).own d6 W.heap.size d6.heap.size:=by
  rw [← ht5.out]
  exact down_own od6 ol6 (by omega) (by omega) (by omega)
 obtain ⟨WF,hWF,HTF,HLF,d,f⟩:=FIN.out (downE t5) d6 W.heap.size sD N6 oD (Nat.le_refl _)
 have HE:Hid (_∧_∧_):=⟨HVD,d,f⟩
 have HID:=eng_info sD
 have HOD:=all_oneCell_toArray (oneE (downE t5))
 clear hb od5 od6 ol5 ol6 oD HVD d f
 generalize downE t5=D at*
 go_wp2_with (first | (guard_target=wpList _ _ _ (Oper.mk none (Op.store _ (Operand.tmp 4) _) _ _ _ _::_) _ _;refine wpList_store_mid rfl 58 (.tmp 4) (.tmp 19) rfl (w.heap.size+1) 0 (D.cells).toArray rfl rfl HTF.out (by rw [List.size_toArray];exact HID) HOD ?_) | fail)
 rw [hWF.out]
 exact bodyPost_ret (v:=.agg D.cells.toArray) (results_one Tryz.results7 rfl HLF.out) rfl ⟨D,rfl,sD,HE.out⟩
end Go.Proofs.YtcoeamamaifoeaaGreatDoor
namespace Go.Proofs.YtcoeamamaifoeaaGreatDoor
open Go.RowKit
theorem crash_short {t e:EngA} {n:Int} (h:t.v=crashV e.v n) (he:e.short 1048576):t.short 1048576:=by
 unfold crashV at h
 split at h
 ·simp only [EngA.v,EngV.mk.injEq] at h
  obtain ⟨h1,h2,h3,h4,h5,h6,_,_⟩:=h
  have hs:t.seats=[]:=List.map_eq_nil_iff.1 h2
  refine ⟨fun p hp x hx=>?_,⟨by show t.seats.length≤_;rw [hs];exact Nat.zero_le _,fun s hs'=>by have:s∈t.seats:=hs';rw [hs] at this;cases this⟩,tear_short h4 he.log,by rw [h5];exact Nat.zero_le _,by rw [h6];exact Nat.zero_le _⟩
  have hm:(p.lsn,p.ss.map (·.v))∈t.disk.map (fun p=>(p.lsn,p.ss.map (·.v))):=List.mem_map.2 ⟨p,hp,rfl⟩
  rw [h1] at hm
  obtain ⟨q,hq,hqe⟩:=List.mem_map.1 hm
  have hs:q.ss.map (·.v)=p.ss.map (·.v):=(Prod.mk.inj hqe).2
  have hx':x.v∈p.ss.map (·.v):=List.mem_map.2 ⟨x,hx,rfl⟩
  rw [← hs] at hx'
  obtain ⟨y,hy,hv⟩:=List.mem_map.1 hx'
  rw [← hv]
  exact he.disk q hq y hy
 ·exact EngA.short_of h he
theorem lawCrash_walk (p:EngA) (n:Int) (w:World) (hg:ErrT w) (hin:InEng w p):
  Calls Tryz.prog 3 #[.agg p.cells.toArray,.int .i64 n] w fun e w'=>e=.returned (.bool true)∧Below w.heap.size w w':=by
 have sp:p.shape:=hin.shape
 have hrd:p.reads w:=hin.reads
 obtain ⟨Z,hZ⟩:∃ Z,Hid (zeroE=Z):=⟨_,rfl⟩
 have sZ:Z.shape:=by rw [← hZ.out];exact zeroE_shape
 have HZ:=Tryz.zeroEng
 rw [hZ.out] at HZ
 obtain ⟨W,hW,b0,hbW,hsW⟩:=boxes1 w p.cells 40
 have HRG:Hid (∀ w',Below W.heap.size W w'→w'.rangeAt w.heap.size 0 p.cells):=fun w' hh=>Box.range [] p.cells [] (by simpa using b0.below hh b0.lt)
 have HRD:Hid (∀ w',Below W.heap.size W w'→p.reads w'):=fun w' hh=>hrd.below (hbW.trans (hh.mono hbW.size))
 have HG:Hid (∀ w',Below W.heap.size W w'→ErrT w'):=fun w' hh=>hg.keep (hbW.trans (hh.mono hbW.size))
 have HI:=leng_info sp
 have CZ:=szEngine_any p sp W (HRD.out W (Below.refl _ _)) hin.wide
 have HEND:Hid (∀ u,Below W.heap.size W u→Below w.heap.size w u):=fun u hu=>hbW.trans (hu.mono hbW.size)
 clear b0 hrd hin hg
 go_enter Tryz.func3,Tryz.ntmps3
 go_wp2_with (first | (guard_target=wpList _ _ _ (Oper.mk (some 13) _ _ _ _ _::_) _ _;refine wpList_load_mid rfl 40 (.tmp 2) rfl w.heap.size 0 rfl (p.cells) _ (by rw [hW.out];exact HRG.out _ (Below.refl _ _)) Tryz.underlying40 rfl HI ?_) | fail)
 rw [hW.out]
 clear hW hsW
 refine CZ.mono ?_
 clear CZ
 rintro e w1 ⟨z,rfl,hz,B1⟩
 rcases hz with hneg | ⟨hz0,hl⟩
 ·have HE:Hid (Below w.heap.size w w1):=HEND.out _ B1
  go_wp2
  go_ret
  exact ⟨rfl,HE.out⟩
 have hzn:¬ z<0:=by omega
 have C:=toEngine_any p sp w1 (HRD.out _ B1) hl
 have R1:w1.rangeAt w.heap.size 0 p.cells:=HRG.out _ B1
 go_wp2_with (first | (guard_target=wpList _ _ _ (Oper.mk (some 18) _ _ _ _ _::_) _ _;refine wpList_load_mid rfl 40 (.tmp 2) rfl w.heap.size 0 rfl (p.cells) _ (R1) Tryz.underlying40 rfl HI ?_) | fail)
 refine C.mono ?_
 clear C R1
 rintro e w2 ⟨ts,rfl,st,hv2,ho2,hb2⟩
 have B2:Below W.heap.size W w2:=B1.trans (hb2.mono B1.size)
 have C:=specCrash_any ts n st w2 ho2.reads (EngA.short_of hv2.out hl) ho2.caps
 rw [hv2.out] at C
 go_wp2_with fail
 refine C.mono ?_
 clear hv2 ho2 hb2 C st
 rintro e w3 ⟨tw,rfl,sw,hvw,ow,hb⟩
 have B3:Below W.heap.size W w3:=B2.trans (hb.mono B2.size)
 have z3:=hb.size
 clear hb
 have hsS:=crash_short hvw.out hl
 obtain ⟨Z4,hZ4,bZ,hbZ,hsZ⟩:=boxes1 w3 Z.cells 58
 obtain ⟨w4,hS4,hwZ,hzZ,HT4,b6⟩:=eng_out sw sZ bZ
 have hb4:Below w3.heap.size w3 w4:=hbZ.trans (hwZ.below (Nat.le_refl _) (by omega))
 have B4:Below W.heap.size W w4:=B3.trans (hb4.mono B3.size)
 have l4:=b6.lt
 replace ow:=ow.below hb4
 have HIw:=eng_info sw
 have HCw:=all_oneCell_toArray (oneE tw)
 clear bZ hbZ hsZ hwZ hzZ hb4
 have C:=toEngine_any p sp w4 (HRD.out _ B4) hl
 have R4:w4.rangeAt w.heap.size 0 p.cells:=HRG.out _ B4
 go_wp2_with (first | (guard_target=wpList _ _ _ (Oper.mk (some 6) (Op.alloc _) _ _ _ _::_) _ _;refine alloc_of 58 Z.cells HZ ?_) | (guard_target=wpList _ _ _ (Oper.mk none (Op.store _ (Operand.tmp 6) _) _ _ _ _::_) _ _;refine wpList_store_mid rfl 58 (.tmp 6) (.tmp 21) rfl w3.heap.size 0 (tw.cells).toArray rfl rfl (by rw [hZ4.out];exact HT4.out) (by rw [List.size_toArray];exact HIw) HCw ?_) | (guard_target=wpList _ _ _ (Oper.mk (some 22) _ _ _ _ _::_) _ _;refine wpList_load_mid rfl 40 (.tmp 2) rfl w.heap.size 0 rfl (p.cells) _ (by rw [hZ4.out,hS4.out];exact R4) Tryz.underlying40 rfl HI ?_) | fail)
 rw [hZ4.out,hS4.out]
 refine C.mono ?_
 clear C R4 hZ4 hS4 HT4
 rintro e w5 ⟨q,rfl,sq,hqm,oq,hb⟩
 have B5:Below W.heap.size W w5:=B4.trans (hb.mono B4.size)
 have z5:=hb.size
 replace ow:=ow.below hb
 replace b6:=b6.below hb b6.lt
 clear hb
 have hqS:=EngA.short_of hqm.out hl
 obtain ⟨Z6,hZ6,bZ,hbZ,hsZ⟩:=boxes1 w5 Z.cells 58
 obtain ⟨w6,hS6,hwZ,hzZ,HT6,b7⟩:=eng_out sq sZ bZ
 have hb6:Below w5.heap.size w5 w6:=hbZ.trans (hwZ.below (Nat.le_refl _) (by omega))
 have B6:Below W.heap.size W w6:=B5.trans (hb6.mono B5.size)
 have l6:=b7.lt
 replace ow:=ow.below hb6
 replace oq:=oq.below hb6
 replace b6:=b6.below hb6 b6.lt
 have HIq:=eng_info sq
 have HCq:=all_oneCell_toArray (oneE q)
 clear bZ hbZ hsZ hwZ hzZ hb6
 have C:=implCrash_any q n sq w6 (HG.out _ B6) oq.reads hqS oq.caps
 rw [hqm.out] at C
 have R6:w6.rangeAt w5.heap.size 0 q.cells:=Box.range [] q.cells [] (by simpa using b7)
 go_wp2_with (first | (guard_target=wpList _ _ _ (Oper.mk (some 7) (Op.alloc _) _ _ _ _::_) _ _;refine alloc_of 58 Z.cells HZ ?_) | (guard_target=wpList _ _ _ (Oper.mk none (Op.store _ (Operand.tmp 7) _) _ _ _ _::_) _ _;refine wpList_store_mid rfl 58 (.tmp 7) (.tmp 23) rfl w5.heap.size 0 (q.cells).toArray rfl rfl (by rw [hZ6.out];exact HT6.out) (by rw [List.size_toArray];exact HIq) HCq ?_) | (guard_target=wpList _ _ _ (Oper.mk (some 24) _ _ _ _ _::_) _ _;refine wpList_load_mid rfl 58 (.tmp 7) rfl w5.heap.size 0 rfl (q.cells) _ (by rw [hZ6.out,hS6.out];exact R6) Tryz.underlying58 rfl HIq ?_) | fail)
 rw [hZ6.out,hS6.out]
 refine C.mono ?_
 clear C R6 hZ6 hS6 HT6
 rintro e w7 ⟨tg,rfl,sg,hvg,og,hb⟩
 have B7:Below W.heap.size W w7:=B6.trans (hb.mono B6.size)
 have z7:=hb.size
 replace ow:=ow.below hb
 replace oq:=oq.below hb
 replace b6:=b6.below hb b6.lt
 replace b7:=b7.below hb b7.lt
 clear hb
 have hgS:=crash_short hvg.out hl
 have HGW:Hid (tw.v=tg.v):=hvw.out.trans hvg.out.symm
 obtain ⟨Z8,hZ8,bZ,hbZ,hsZ⟩:=boxes1 w7 Z.cells 58
 obtain ⟨w8,hS8,hwZ,hzZ,HT8,b8⟩:=eng_out sg sZ bZ
 have hb8:Below w7.heap.size w7 w8:=hbZ.trans (hwZ.below (Nat.le_refl _) (by omega))
 have B8:Below W.heap.size W w8:=B7.trans (hb8.mono B7.size)
 have l8:=b8.lt
 replace ow:=ow.below hb8
 replace oq:=oq.below hb8
 replace og:=og.below hb8
 replace b6:=b6.below hb8 b6.lt
 replace b7:=b7.below hb8 b7.lt
 have HIg:=eng_info sg
 have HCg:=all_oneCell_toArray (oneE tg)
 clear bZ hbZ hsZ hwZ hzZ hb8
 have RG:∀ (u:World) (a:Nat) (t:EngA),Box u a t.cells 58→u.rangeAt a 0 t.cells:=fun u a t b=>Box.range [] t.cells [] (by simpa using b)
 have HRNG:Hid (_):=RG
 clear RG
 have G8:=HRNG.out _ _ _ b8
 have G6:=HRNG.out _ _ _ b6
 have C:=eqEngine_same tg tw sg sw HGW.out w8 og.reads ow.reads (EngA.short_wide hgS)
 go_wp2_with (first | (guard_target=wpList _ _ _ (Oper.mk (some 8) (Op.alloc _) _ _ _ _::_) _ _;refine alloc_of 58 Z.cells HZ ?_) | (guard_target=wpList _ _ _ (Oper.mk none (Op.store _ (Operand.tmp 8) _) _ _ _ _::_) _ _;refine wpList_store_mid rfl 58 (.tmp 8) (.tmp 26) rfl w7.heap.size 0 (tg.cells).toArray rfl rfl (by rw [hZ8.out];exact HT8.out) (by rw [List.size_toArray];exact HIg) HCg ?_) | (guard_target=wpList _ _ _ (Oper.mk (some 27) _ _ _ _ _::_) _ _;refine wpList_load_mid rfl 58 (.tmp 8) rfl w7.heap.size 0 rfl (tg.cells) _ (by rw [hZ8.out,hS8.out];exact G8) Tryz.underlying58 rfl HIg ?_) | (guard_target=wpList _ _ _ (Oper.mk (some 28) _ _ _ _ _::_) _ _;refine wpList_load_mid rfl 58 (.tmp 6) rfl w3.heap.size 0 rfl (tw.cells) _ (by rw [hZ8.out,hS8.out];exact G6) Tryz.underlying58 rfl HIw ?_) | fail)
 rw [hZ8.out,hS8.out]
 refine C.mono ?_
 clear C G8 G6 hZ8 hS8 HT8
 rintro e w9 ⟨rfl,hb⟩
 have B9:Below W.heap.size W w9:=B8.trans (hb.mono B8.size)
 have z9:=hb.size
 replace ow:=ow.below hb
 replace oq:=oq.below hb
 replace og:=og.below hb
 replace b6:=b6.below hb b6.lt
 replace b7:=b7.below hb b7.lt
 replace b8:=b8.below hb b8.lt
 clear hb
 have HQ:Hid (q.v=p.v):=hqm.out
 have hu1:=Tryz.underlying40
 have hu2:=Tryz.underlying58
 have HB7:Hid (∀ u,Below w9.heap.size w9 u→u.rangeAt w5.heap.size 0 q.cells∧q.reads u):=fun u hu=>⟨HRNG.out _ _ _ (b7.below hu b7.lt),(oq.below hu).reads⟩
 have DD:Below w9.heap.size w9 w9.drew:=(Below.refl _ _).drew
 go_wp2_with fail
 refine wp_region_held_drew (S:=fun w'=>w'.rangeAt w.heap.size 0 p.cells∧w'.rangeAt w5.heap.size 0 q.cells) (by kernel_rfl) ?_ (fun hHeld=>?_)
 ·exact ⟨HRG.out _ B9.drew,(HB7.out _ DD).1⟩
 refine tk 0 rfl (yieldsIf_load_mid (by rfl) _ _ rfl _ _ rfl q.cells _ (fun _ h=>h.2) hu2 rfl HIq) hHeld ?_
 refine tk 1 rfl (yieldsIf_load_mid (by rfl) _ _ rfl _ _ rfl p.cells _ (fun _ h=>h.1) hu1 rfl HI) hHeld ?_
 refine wpAnyH_ready (rs:=[2]) (by kernel_rfl) (by simp) ?_
 refine AllReadyH.cons rfl (fun K hK=>?_) AllReadyH.nil
 go_simp
 refine (toEngine_any p sp _ (HRD.out _ B9.drew) hl).mono ?_
 rintro e w10 ⟨vs,rfl,sv,hv8,ho8,hb10⟩
 have C10:Below W.heap.size W w10:=(B9.drew).trans (hb10.mono B9.size)
 have D10:Below w9.heap.size w9 w10:=DD.trans (hb10.mono DD.size)
 refine hK.out _ _ ⟨HRG.out _ C10,(HB7.out _ D10).1⟩ (fun hHeld=>?_)
 clear hK K
 refine wpAnyH_ready (rs:=[3]) (by kernel_rfl) (by simp) ?_
 refine AllReadyH.cons rfl (fun K hK=>?_) AllReadyH.nil
 go_simp
 refine (eqEngine_same q vs sq sv (hv8.out.trans HQ.out.symm) w10 (HB7.out _ D10).2 ho8.reads (EngA.short_wide hqS)).mono ?_
 rintro e w11 ⟨rfl,hb11⟩
 have C11:Below W.heap.size W w11:=C10.trans (hb11.mono C10.size)
 have D11:Below w9.heap.size w9 w11:=D10.trans (hb11.mono D10.size)
 refine hK.out _ _ ⟨HRG.out _ C11,(HB7.out _ D11).1⟩ (fun hHeld=>?_)
 clear hK K
 refine tk 4 (v:=.bool false) rfl (Or.inl ⟨by rfl,?_⟩) hHeld ?_
 ·intro w' _;go_simp
 refine wpAnyH_done (by kernel_rfl) ?_ _
 have z11:=D11.size
 replace ow:=ow.below D11
 replace oq:=oq.below D11
 replace og:=og.below D11
 replace b6:=b6.below D11 b6.lt
 replace b7:=b7.below D11 b7.lt
 replace b8:=b8.below D11 b8.lt
 clear hHeld HB7 D10 D11 C10 hb10 hb11 ho8 hv8 sv hu1 hu2 DD
 have KQ:=EngA.k_short sq hqS
 have KQ0:=EngA.k_pos q
 have G7:=HRNG.out _ _ _ b7
 have C:=markEngine_touch q sq w4.heap.size w5.heap.size 1 w11 oq (EngA.short_wide hqS) (by omega) KQ (by omega)
 have hqb:=oq.blocks_lt
 go_wp2_with (first | (guard_target=wpList _ _ _ (Oper.mk (some 36) _ _ _ _ _::_) _ _;refine wpList_load_mid rfl 58 (.tmp 7) rfl w5.heap.size 0 rfl (q.cells) _ (G7) Tryz.underlying58 rfl HIq ?_) | fail)
 refine C.mono ?_
 clear C G7
 rintro e w12 ⟨rfl,_,t12⟩
 have B12:Below W.heap.size W w12:=C11.trans (touch_belowL t12 (fun k hk=>by have:=hqb k hk;have:=B4.size;omega) C11.size)
 have z12:=t12.size
 replace ow:=ow.touch t12 (fun k hk hm=>by have:=ow.blocks_lt k hk;have:=hqb k hm;omega)
 have hgb:=og.blocks_lt
 replace og:=og.touch t12 (fun k hk hm=>by have:=hgb k hk;have:=hqb k hm;omega)
 replace b6:=b6.touch t12 (fun hm=>by have:=hqb _ hm;omega)
 replace b8:=b8.touch t12 (fun hm=>by have:=hqb _ hm;omega)
 clear oq b7 t12 hqb
 have hKn:¬ q.kE 1<0:=by omega
 have G8:=HRNG.out _ _ _ b8
 have G6:=HRNG.out _ _ _ b6
 have C:=eqEngine_same tg tw sg sw HGW.out w12 og.reads ow.reads (EngA.short_wide hgS)
 go_wp2_with (first | (guard_target=wpList _ _ _ (Oper.mk (some 42) _ _ _ _ _::_) _ _;refine wpList_load_mid_if (by rfl) 58 (.tmp 8) rfl w7.heap.size 0 rfl (tg.cells) _ (G8) Tryz.underlying58 rfl HIg ?_) | (guard_target=wpList _ _ _ (Oper.mk (some 43) _ _ _ _ _::_) _ _;refine wpList_load_mid_if (by rfl) 58 (.tmp 6) rfl w3.heap.size 0 rfl (tw.cells) _ (G6) Tryz.underlying58 rfl HIw ?_) | fail)
 refine C.mono ?_
 clear C G8 G6
 rintro e w13 ⟨rfl,hb⟩
 have B13:Below W.heap.size W w13:=B12.trans (hb.mono B12.size)
 have z13:=hb.size
 replace ow:=ow.below hb
 replace og:=og.below hb
 replace b6:=b6.below hb b6.lt
 replace b8:=b8.below hb b8.lt
 clear hb
 have KG:=EngA.k_short sg hgS
 have KG0:=EngA.k_pos tg
 have G8:=HRNG.out _ _ _ b8
 have C:=markEngine_touch tg sg w6.heap.size w7.heap.size 1 w13 og (EngA.short_wide hgS) (by omega) KG (by omega)
 go_wp2_with (first | (guard_target=wpList _ _ _ (Oper.mk (some 47) _ _ _ _ _::_) _ _;refine wpList_load_mid rfl 58 (.tmp 8) rfl w7.heap.size 0 rfl (tg.cells) _ (G8) Tryz.underlying58 rfl HIg ?_) | fail)
 refine C.mono ?_
 clear C G8 hKn
 rintro e w14 ⟨rfl,mg,t14⟩
 have B14:Below W.heap.size W w14:=B13.trans (touch_belowL t14 (fun k hk=>by have:=hgb k hk;have:=B6.size;omega) B13.size)
 have z14:=t14.size
 replace ow:=ow.touch t14 (fun k hk hm=>by have:=ow.blocks_lt k hk;have:=hgb k hm;omega)
 replace b6:=b6.touch t14 (fun hm=>by have:=hgb _ hm;omega)
 replace b8:=b8.touch t14 (fun hm=>by have:=hgb _ hm;omega)
 clear og t14 hgb
 have G8:=HRNG.out _ _ _ b8
 have C:=heldEngine_any tg sg w6.heap.size w7.heap.size 1 w14 mg (EngA.short_wide hgS) (by omega) KG
 go_wp2_with (first | (guard_target=wpList _ _ _ (Oper.mk (some 50) _ _ _ _ _::_) _ _;refine wpList_load_mid rfl 58 (.tmp 8) rfl w7.heap.size 0 rfl (tg.cells) _ (G8) Tryz.underlying58 rfl HIg ?_) | fail)
 refine C.mono ?_
 clear C G8
 rintro e w15 ⟨rfl,hb⟩
 have B15:Below W.heap.size W w15:=B14.trans (hb.mono B14.size)
 have z15:=hb.size
 replace ow:=ow.below hb
 replace mg:=mg.below hb
 replace b6:=b6.below hb b6.lt
 replace b8:=b8.below hb b8.lt
 clear hb
 have hKn:¬ tg.kE 1<0:=by omega
 have C:=toEngine_any p sp w15 (HRD.out _ B15) hl
 have R15:w15.rangeAt w.heap.size 0 p.cells:=HRG.out _ B15
 go_wp2_with (first | (guard_target=wpList _ _ _ (Oper.mk (some 58) _ _ _ _ _::_) _ _;refine wpList_load_mid rfl 40 (.tmp 2) rfl w.heap.size 0 rfl (p.cells) _ (R15) Tryz.underlying40 rfl HI ?_) | fail)
 refine C.mono ?_
 clear C R15
 rintro e w16 ⟨us,rfl,su,hvu,ou,hb⟩
 have B16:Below W.heap.size W w16:=B15.trans (hb.mono B15.size)
 replace ow:=ow.below hb
 replace mg:=mg.below hb
 replace b6:=b6.below hb b6.lt
 replace b8:=b8.below hb b8.lt
 clear hb
 have C:=implCrash_any us n su w16 (HG.out _ B16) ou.reads (EngA.short_of hvu.out hl) ou.caps
 rw [hvu.out] at C
 go_wp2_with fail
 refine C.mono ?_
 clear C hvu ou
 rintro e w17 ⟨th,rfl,sh,hvh,oh,hb⟩
 have B17:Below W.heap.size W w17:=B16.trans (hb.mono B16.size)
 replace ow:=ow.below hb
 replace mg:=mg.below hb
 replace b6:=b6.below hb b6.lt
 replace b8:=b8.below hb b8.lt
 clear hb
 have hhS:=crash_short hvh.out hl
 have HHW:Hid (tw.v=th.v):=hvw.out.trans hvh.out.symm
 obtain ⟨Z18,hZ18,bZ,hbZ,hsZ⟩:=boxes1 w17 Z.cells 58
 obtain ⟨w18,hS18,hwZ,hzZ,HT18,b12⟩:=eng_out sh sZ bZ
 have hb18:Below w17.heap.size w17 w18:=hbZ.trans (hwZ.below (Nat.le_refl _) (by omega))
 have B18:Below W.heap.size W w18:=B17.trans (hb18.mono B17.size)
 replace ow:=ow.below hb18
 replace mg:=mg.below hb18
 replace oh:=oh.below hb18
 replace b6:=b6.below hb18 b6.lt
 replace b8:=b8.below hb18 b8.lt
 have HIh:=eng_info sh
 have HCh:=all_oneCell_toArray (oneE th)
 clear bZ hbZ hsZ hwZ hzZ hb18
 have G12:=HRNG.out _ _ _ b12
 have G6:=HRNG.out _ _ _ b6
 have C:=eqEngine_same th tw sh sw HHW.out w18 oh.reads ow.reads (EngA.short_wide hhS)
 go_wp2_with (first | (guard_target=wpList _ _ _ (Oper.mk (some 12) (Op.alloc _) _ _ _ _::_) _ _;refine alloc_of 58 Z.cells HZ ?_) | (guard_target=wpList _ _ _ (Oper.mk none (Op.store _ (Operand.tmp 12) _) _ _ _ _::_) _ _;refine wpList_store_mid rfl 58 (.tmp 12) (.tmp 61) rfl w17.heap.size 0 (th.cells).toArray rfl rfl (by rw [hZ18.out];exact HT18.out) (by rw [List.size_toArray];exact HIh) HCh ?_) | (guard_target=wpList _ _ _ (Oper.mk (some 62) _ _ _ _ _::_) _ _;refine wpList_load_mid rfl 58 (.tmp 12) rfl w17.heap.size 0 rfl (th.cells) _ (by rw [hZ18.out,hS18.out];exact G12) Tryz.underlying58 rfl HIh ?_) | (guard_target=wpList _ _ _ (Oper.mk (some 63) _ _ _ _ _::_) _ _;refine wpList_load_mid rfl 58 (.tmp 6) rfl w3.heap.size 0 rfl (tw.cells) _ (by rw [hZ18.out,hS18.out];exact G6) Tryz.underlying58 rfl HIw ?_) | fail)
 rw [hZ18.out,hS18.out]
 refine C.mono ?_
 clear C G12 G6 hZ18 hS18 HT18
 rintro e w19 ⟨rfl,hb⟩
 have B19:Below W.heap.size W w19:=B18.trans (hb.mono B18.size)
 replace mg:=mg.below hb
 replace b8:=b8.below hb b8.lt
 clear hb
 have G8:=HRNG.out _ _ _ b8
 have C:=heldEngine_any tg sg w6.heap.size w7.heap.size 1 w19 mg (EngA.short_wide hgS) (by omega) KG
 go_wp2_with (first | (guard_target=wpList _ _ _ (Oper.mk (some 66) _ _ _ _ _::_) _ _;refine wpList_load_mid rfl 58 (.tmp 8) rfl w7.heap.size 0 rfl (tg.cells) _ (G8) Tryz.underlying58 rfl HIg ?_) | fail)
 refine C.mono ?_
 clear C G8
 rintro e w20 ⟨rfl,hb⟩
 have HE:Hid (Below w.heap.size w w20):=HEND.out _ (B19.trans (hb.mono B19.size))
 clear hb
 go_wp2
 go_ret
 exact ⟨rfl,HE.out⟩
end Go.Proofs.YtcoeamamaifoeaaGreatDoor