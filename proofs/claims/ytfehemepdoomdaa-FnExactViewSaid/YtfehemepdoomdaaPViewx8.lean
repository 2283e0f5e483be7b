/- Several texts in one, in their order. -/
import Derived.Test.YtfehemepdoomdaaPViewx4
import Derived.Test.YtfehemepdoomdaaPViewx7
import Derived.Test.YtfehemepdoomdaaPViewx5
import Derived.Deep.RegionHeld3
import Derived.Test.YtfehemepdoomdaaPViewx1
set_option maxHeartbeats 8000000
set_option maxRecDepth 100000
namespace Go.Proofs.Ytfehemepdoomdaa
open Go.RowKit
def pageAt (e:EngA) (no:Nat):PageA:=if 0≤seatedOf (e.seats.map SeatA.v) no then (e.seats.getD (seatedOf (e.seats.map SeatA.v) no).toNat zeroSt).page else e.disk.getD no zeroP
def slotOf (e:EngA) (o:Nat):SlotA:=(pageAt e (o / 4)).ss.getD (o % 4) zeroS
def pageAtV (e:EngV) (no:Nat):List SlotV:=if 0≤seatedOf e.seats no then (e.seats.getD (seatedOf e.seats no).toNat zeroStV).ss else (e.disk.getD no (0,[])).2
def slotAtV (e:EngV) (o:Nat):SlotV:=(pageAtV e (o / 4)).getD (o % 4) zeroS.v
def viewV (e:EngV):List SlotV:=(List.range 32).map (fun o=>if o=0 then zeroS.v else slotAtV e o)
theorem viewV_len (e:EngV):(viewV e).length=32:=by simp [viewV]
theorem pageAt_four {e:EngA} (se:e.shape) (no:Nat) (h8:no<8):(pageAt e no).ss.length=4:=by
 unfold pageAt
 split
 ·rfl
 ·have h:no<e.disk.length:=by rw [se.eight];exact h8
  rw [show e.disk.getD no zeroP=e.disk[no] by simp [List.getD,h]]
  exact se.four _ (List.getElem_mem h)
theorem pageAt_v {e:EngA} (se:e.shape) (no:Nat) (h8:no<8):(pageAt e no).ss.map (·.v)=pageAtV e.v no:=by
 have h:no<e.disk.length:=by rw [se.eight];exact h8
 unfold pageAt pageAtV
 have e1:e.v.seats=e.seats.map SeatA.v:=rfl
 rw [e1]
 split
 ·rename_i hs
  rcases seated_cases (e.seats.map SeatA.v) (no:Int) with ⟨k,hk,_,_,hsk⟩ | ⟨_,hsk⟩
  ·rw [hsk,Int.toNat_natCast]
   have hk':k<e.seats.length:=by simpa using hk
   simp [List.getD,hk',SeatA.v,SeatA.page]
  ·omega
 ·simp [EngA.v,List.getD,h]
theorem slotOf_v {e:EngA} (se:e.shape) (o:Nat) (h:o<32):(slotOf e o).v=slotAtV e.v o:=by
 have h1:=pageAt_v se (o / 4) (by omega)
 have h2:=pageAt_four se (o / 4) (by omega)
 unfold slotOf slotAtV
 rw [← h1]
 have h3:o % 4<(pageAt e (o / 4)).ss.length:=by omega
 simp [List.getD,h3]
theorem slotOf_mem {e:EngA} (se:e.shape) (o:Nat) (h:o<32):slotOf e o∈(pageAt e (o / 4)).ss:=by
 have h2:=pageAt_four se (o / 4) (by omega)
 have h3:o % 4<(pageAt e (o / 4)).ss.length:=by omega
 unfold slotOf
 rw [show (pageAt e (o / 4)).ss.getD (o % 4) zeroS=(pageAt e (o / 4)).ss[o % 4] by simp [List.getD,h3]]
 exact List.getElem_mem h3
theorem pageAt_reads {e:EngA} {w:World} (se:e.shape) (hr:e.reads w) (no:Nat) (h8:no<8):ReadsS w (pageAt e no).ss:=by
 unfold pageAt
 split
 ·rcases seated_cases (e.seats.map SeatA.v) (no:Int) with ⟨k,hk,_,_,hsk⟩ | ⟨_,hsk⟩
  ·rw [hsk,Int.toNat_natCast]
   have hk':k<e.seats.length:=by simpa using hk
   obtain ⟨b,off,_,hc⟩:=hr.pool (by intro e1;have e2:e.seats=[]:=e1;rw [e2] at hk';simp at hk')
   exact (hc k hk').2
  ·omega
 ·have h:no<e.disk.length:=by rw [se.eight];exact h8
  rw [show e.disk.getD no zeroP=e.disk[no] by simp [List.getD,h]]
  exact hr.disk _ (List.getElem_mem h)
theorem slotOf_short {e:EngA} {m:Nat} (se:e.shape) (hs:e.short m) (o:Nat) (h:o<32):(slotOf e o).short m:=by
 have hm:=slotOf_mem se o h
 unfold pageAt at hm
 split at hm
 ·rcases seated_cases (e.seats.map SeatA.v) ((o / 4:Nat):Int) with ⟨k,hk,_,_,hsk⟩ | ⟨_,hsk⟩
  ·rw [hsk,Int.toNat_natCast] at hm
   have hk':k<e.seats.length:=by simpa using hk
   exact hs.pool.each _ (seatD_mem e.seats k hk') _ hm
  ·omega
 ·have h8:o / 4<e.disk.length:=by rw [se.eight];omega
  rw [show e.disk.getD (o / 4) zeroP=e.disk[o / 4] by simp [List.getD,h8]] at hm
  exact hs.disk _ (List.getElem_mem h8) _ hm
theorem slotOf_reads {e:EngA} {w:World} (se:e.shape) (hr:e.reads w) (o:Nat) (h:o<32):(slotOf e o).reads w:=(pageAt_reads se hr (o / 4) (by omega)) _ (slotOf_mem se o h)
theorem page_range {w:World} {g b:Nat} {p:PageA} (h:w.rangeAt g b p.cells) (h4:p.ss.length=4) (j:Nat) (hj:j<4):w.rangeAt g (b+1+j*4) (p.ss.getD j zeroS).cells:=fun i v hv=>by
 have hi:i<4:=by have:=(List.getElem?_eq_some_iff.1 hv).1;rwa [cells_len] at this
 have:=h (j*4+i+1) v (by
  show (Value.int .i64 p.lsn::cellsS p.ss)[j*4+i+1]? =some v
  rw [List.getElem?_cons_succ,cellsS_at p.ss j i (by omega) hi]
  exact hv)
 rw [show b+1+j*4+i=b+(j*4+i+1) by omega]
 exact this
theorem seat_range {w:World} {g b:Nat} {s:SeatA} (h:w.rangeAt g b s.cells):w.rangeAt g (b+1) s.page.cells:=fun i v hv=>by
 have hi:i<s.page.cells.length:=(List.getElem?_eq_some_iff.1 hv).1
 have:=h (i+1) v (by rw [SeatA.cells_page,List.getElem?_cons_succ,List.getElem?_append_left hi];exact hv)
 rw [show b+1+i=b+(i+1) by omega]
 exact this
theorem viewV_next (e:EngV) (k:Nat) (h1:1≤k) (hk:k<32):(viewV e).take (k+1)=(viewV e).take k++[slotAtV e k]:=by
 rw [List.take_succ_eq_append_getElem (by rw [viewV_len];exact hk)]
 have e1:(viewV e)[k]'(by rw [viewV_len];exact hk)=slotAtV e k:=by
  simp only [viewV,List.getElem_map,List.getElem_range]
  rw [if_neg (by omega)]
 rw [e1]
theorem viewV_one (e:EngV):(viewV e).take 1=[zeroS.v]:=rfl
def ViewAns (vs:List SlotV) (w:World) (r:Ending) (w':World):Prop:=∃ (a:Option Addr) (c:Nat) (ss:List SlotA),r=.returned (.slice a ss.length c)∧Hid (ss.map (·.v)=vs)∧OwnVw w' w.heap.size w'.heap.size a c ss∧Below w.heap.size w w'
theorem oneV1 (s:SlotA):∀ v∈s.cells,v.oneCell'=true:=by
 intro v hv
 simp only [SlotA.cells,List.mem_cons,List.not_mem_nil,or_false] at hv
 rcases hv with rfl | rfl | rfl | rfl<;>rfl
theorem run_append_slotV {w:World} (ty:TypeId) (lo hi:Nat) (a:Option Addr) (c:Nat) (rs:List SlotA) (hown:OwnVw w lo hi a c rs)
  (b off:Nat) (sc:Nat) (q:SlotA) (hr:w.rangeAt b off q.cells) (l u:Nat) (hq:q.own w l u) (hl:lo≤l) (hd:∀ k∈q.blocks,k∉blocksVw a c rs) (hu:u≤w.heap.size)
  (hb:rs.length+1≤68719476736) (hlo:lo≤hi):
  ∃ a' c' w',(Builtin.append_ #[42,42] ty #[.slice a rs.length c,.slice (some ⟨b,off,none⟩) 1 sc]).run Try.prog w=.ok (.slice a' (rs++[q]).length c') w'∧OwnVw w' lo w'.heap.size a' c' (rs++[q])∧w.grownBy w' (Value.slice a rs.length c).ownBlock∧
   (∀ k,(Value.slice a' (rs++[q]).length c').ownBlock=some k→(Value.slice a rs.length c).ownBlock=some k∨k=w.heap.size):=by
 obtain ⟨i0,hi0,hz0,hz1,hz2⟩:=info_parts Try.infoSlotV
 have htop:=hown.top
 obtain ⟨v',w',hrun,h1,h2,_,h5⟩:=run_append_own_at (P:=Try.prog) w lo 42 ty 46 i0 (.agg zeroS.cells.toArray) 4 64 Try.underlying42 hi0 hz0 hz1 hz2 rfl (by decide) _ _ _ hown.row ⟨b,off,none⟩ 1 sc q.cells (by rfl) (by
  intro j v hj
  rw [Addr_add]
  exact hr j v hj) (oneV1 q) (by simp only [maxLen];omega) (by omega) (by omega)
 have e:cellsVw rs++q.cells=cellsVw (rs++[q]):=by rw [cellsVw_app,cellsVw_cons];simp [cellsVw]
 have e2:rs.length+1=(rs++[q]).length:=by simp
 rw [e,e2] at h1
 have sh:∃ a' c',v'=.slice a' (rs++[q]).length c':=by
  rcases h1.2 with ⟨rfl,h0⟩ | ⟨g,cap,cur,rfl,_⟩
  ·simp at h0
  ·exact ⟨_,_,rfl⟩
 obtain ⟨a',c',rfl⟩:=sh
 have hsz:=h2.size
 have ht:Touch (Value.slice a rs.length c).ownBlock.toList w w':=Touch.of_grown h2 (fun k hk=>Option.mem_toList.2 hk)
 have hrow:=h1.lt
 have hold:∀ r∈rs,r.own w' lo w'.heap.size:=fun r hr=>(SlotA.touch (hown.each r hr) ht (fun k hk hk'=>(List.nodup_append.1 hown.apart).2.2 k hk' k (List.mem_flatMap.2 ⟨r,hr,hk⟩) rfl)).widen (Nat.le_refl _) (by omega) (Nat.le_refl _)
 have hnew:q.own w' lo w'.heap.size:=(SlotA.touch hq ht (fun k hk hk'=>hd k hk (List.mem_append.2 (.inl hk')))).widen (by omega) (by omega) (Nat.le_refl _)
 refine ⟨a',c',w',hrun,⟨h1,Nat.le_refl _,fun k hk=>(hrow k hk).2,fun r hr=>?_,?_⟩,h2,fun k hk=>h5.elim (fun h5=>.inl (by rw [← h5];exact hk)) (fun h5=>by rw [h5] at hk;exact .inr (Option.some.inj hk).symm)⟩
 ·rcases List.mem_append.1 hr with hr | hr
  ·exact hold r hr
  ·obtain rfl:=List.mem_singleton.1 hr
   exact hnew
 ·rw [List.flatMap_append,List.nodup_append,List.nodup_append]
  have hap:=(List.nodup_append.1 hown.apart).2.1
  refine ⟨by cases (Value.slice a' (rs++[q]).length c').ownBlock<;>simp,⟨hap,by simpa using SlotA.blocks_nodup hq,fun x hx y hy e=>?_⟩,fun x hx y hy e=>?_⟩
  ·simp only [List.flatMap_cons,List.flatMap_nil,List.append_nil] at hy
   subst e
   exact hd x hy (List.mem_append.2 (.inr hx))
  ·have hx':=Option.mem_toList.1 hx
   subst e
   rcases List.mem_append.1 hy with hy | hy
   ·obtain ⟨r,hr,hy⟩:=List.mem_flatMap.1 hy
    exact row_apartV h1 (hold r hr) x hx' hy
   ·simp only [List.flatMap_cons,List.flatMap_nil,List.append_nil] at hy
    exact row_apartV h1 hnew x hx' hy
theorem append_slotV {w:World} {ops:Array Oper} {rest:List Oper} {o:Oper} {act:Act} {Q:Exit→Act→World→Prop} (hgd:o.guard=none) (s x:Operand)
  (ho:o.op=.call { callee:=.builtin .append,args:=#[s,x],argTypes:=#[42,42] })
  (lo hi:Nat) (a:Option Addr) (c:Nat) (rs:List SlotA) (hs:act.eval s=.slice a rs.length c) (hown:OwnVw w lo hi a c rs)
  (b off:Nat) (sc:Nat) (q:SlotA) (hx:act.eval x=.slice (some ⟨b,off,none⟩) 1 sc) (hr:w.rangeAt b off q.cells) (l u:Nat) (hq:q.own w l u) (hl:lo≤l) (hd:∀ k∈q.blocks,k∉blocksVw a c rs) (hu:u≤w.heap.size)
  (hb:rs.length+1≤68719476736) (hlo:lo≤hi)
  (h:∀ a' c' w',OwnVw w' lo w'.heap.size a' c' (rs++[q])→w.grownBy w' (Value.slice a rs.length c).ownBlock→wpList Try.prog ops Q rest (act.put o.dst (.slice a' (rs++[q]).length c')) w'):
  wpList Try.prog ops Q (o::rest) act w:=by
 obtain ⟨a',c',w',hrun,h2,h3,_⟩:=run_append_slotV (w:=w) o.type lo hi a c rs hown b off sc q hr l u hq hl hd hu hb hlo
 refine wpList_plain hgd fun K hK=>?_
 unfold Oper.wp execOp
 simp only [ho,resolve,invoke,builtin,Sem.run_bind,Sem.run_pure,Result.andThen_ok,List.map_toArray,List.map_cons,List.map_nil,hs,hx,hrun]
 exact hK _ _ (h a' c' w' h2 h3)
theorem slot_infoV (s:SlotA):(Try.prog.info? 46).map (·.size)=some s.cells.length:=by show _=some 4;kernel_rfl
theorem slot_outV {w:World} {C:Nat} (q:SlotA) (old:List Value) (ho:old.length=4) (bC:Box w C old 46):
  ∃ WF,Hid (w.setCells C 0 q.cells.toArray.toList=WF)∧Within C (C+1) w WF∧WF.heap.size=w.heap.size∧Hid (w.there C 0 q.cells.toArray.size)∧Hid ((loadVar 46 ⟨C,0,none⟩).run Try.prog WF=.ok (.agg q.cells.toArray) WF):=by
 obtain ⟨WF,hWF,bF,hwF,hsF⟩:=range_fill [] old q.cells [] (by simpa using bC) (by rw [ho];rfl)
 have bF':Box WF C q.cells 46:=by simpa using bF
 exact ⟨WF,hWF,hwF,hsF,bC.there 0 _ (by rw [ho];show 0+4≤4;decide),run_loadVar_mid (P:=Try.prog) WF C 0 46 q.cells _ (Box.range [] q.cells [] (by simpa using bF')) Try.underlying46 rfl (slot_infoV q)⟩
theorem l13At_any (e:EngA) (se:e.shape) (o:Nat) (h32:o<32) (w:World) (re:e.reads w) (hl:e.short 1048576):
  Calls Try.prog 19 #[.agg e.cells.toArray,.int .i64 o] w fun r w'=>r=.returned (.agg (slotOf e o).cells.toArray)∧Below w.heap.size w w':=by
 obtain ⟨W,hW,b0,bR,hbW,hsW⟩:=boxes2 w e.cells zeroS.cells 60 46
 have hW':Hid ((w.alloc (.cells e.cells.toArray 60)).alloc (.cells #[.bool false,.int .i64 0,.slice none 0 0,.slice none 0 0] 46)=W):=hW.out
 have HB:Hid (∀ u,Below W.heap.size W u→Box u w.heap.size e.cells 60):=fun u hu=>b0.below hu b0.lt
 have HBR:Hid (∀ u,Below W.heap.size W u→Box u (w.heap.size+1) zeroS.cells 46):=fun u hu=>bR.below hu bR.lt
 have HEND:Hid (∀ u,Below W.heap.size W u→Below w.heap.size w u):=fun u hu=>hbW.trans (hu.mono hbW.size)
 have hw0:w.heap.size+1<W.heap.size:=by omega
 have N0:Below W.heap.size W W:=Below.refl _ _
 have HIQ:Hid ((Try.prog.info? 53).map (·.size)=some e.poolA.cells.length):=by rw [Hid];show _=some 2;kernel_rfl
 have r0:=(eng_parts se (HB.out _ N0)).2.1
 have C:Calls Try.prog 45 #[.agg e.poolA.cells.toArray,.int .i64 ((o:Int) / 4)] W fun r w'=>r=.returned (.int .i64 (seatedOf (e.seats.map SeatA.v) ((o / 4:Nat):Int)))∧Below W.heap.size W w':=by
  rw [show (o:Int) / 4=((o / 4:Nat):Int) from by omega]
  exact specSeatedP_any e.poolA _ W ((re.below hbW).pool) (PoolA.short_wide hl.pool)
 have HR:Hid (∀ u,Below W.heap.size W u→e.reads u):=fun u hu=>(re.below hbW).below hu
 have HSL:Hid (slotOf e o=(pageAt e (o / 4)).ss.getD (o % 4) zeroS):=rfl
 obtain ⟨j,hj⟩:∃ j:Nat,Hid (o % 4=j):=⟨_,rfl⟩
 have hj4:j<4:=by have:=hj.out;omega
 have HJ:Hid (((o:Int) % 4=(j:Int))∧(0:Int)≤(j:Int)∧(j:Int)<4∧o / 4<8):=⟨by have:=hj.out;omega,by omega,by omega,by omega⟩
 have FIN:Hid (∀ (q:SlotA) (u:World),Below W.heap.size W u→∃ WF,Hid (u.setCells (w.heap.size+1) 0 q.cells.toArray.toList=WF)∧Hid (u.there (w.heap.size+1) 0 q.cells.toArray.size)∧Hid ((loadVar 46 ⟨w.heap.size+1,0,none⟩).run Try.prog WF=.ok (.agg q.cells.toArray) WF)∧Hid (Below w.heap.size w WF)):=fun q u hu=>by
  obtain ⟨WF,hWF,hwF,hsF,HTF,HLF⟩:=slot_outV q _ rfl (HBR.out u hu)
  exact ⟨WF,hWF,HTF,HLF,(HEND.out _ hu).trans (hwF.below (by omega) (by have:=hu.size;omega))⟩
 clear b0 bR hsW re hW
 go_enter Try.func19,Try.ntmps19
 go_upto_region 1 with fail
 rw [hW'.out]
 clear hW'
 go_wp2_with (first | (guard_target=wpList _ _ _ (Oper.mk (some 10) _ _ _ _ _::_) _ _;refine wpList_load_mid rfl 53 (.tmp 9) rfl w.heap.size 136 rfl _ _ r0 Try.underlying53 rfl HIQ.out ?_) | fail)
 refine C.mono ?_
 clear C r0
 rintro r d1 ⟨rfl,hb1⟩
 have N1:Below W.heap.size W d1:=N0.trans (hb1.mono N0.size)
 clear hb1
 obtain ⟨ej,hj0,hj4',h8⟩:=HJ.out
 rcases seated_cases (e.seats.map SeatA.v) ((o / 4:Nat):Int) with ⟨k,hk,_,_,hsk⟩ | ⟨_,hsk⟩
 ·rw [List.length_map] at hk
  have HP:Hid (slotOf e o=(e.seats.getD k zeroSt).page.ss.getD j zeroS):=by
   rw [Hid,HSL.out,hj.out]
   unfold pageAt
   rw [hsk,if_pos (by omega),Int.toNat_natCast]
  obtain ⟨b,off,ha,hc⟩:=(HR.out _ N1).pool (by intro e1;have e2:e.seats=[]:=e1;rw [e2] at hk;simp at hk)
  have ha':e.aS=some ⟨b,off,none⟩:=ha
  have x0:d1.cell? ⟨w.heap.size,136,none⟩=some (.slice (some ⟨b,off,none⟩) e.seats.length e.cS):=by rw [← ha'];exact EngA.cell_at se (HB.out _ N1) 0 _ rfl
  have r1:=page_range (seat_range (hc k hk).1) rfl j hj4
  have hkk:(k:Int)<(e.seats.length:Int):=by omega
  have hk0:(0:Int)≤(k:Int):=by omega
  obtain ⟨q,hq⟩:∃ q,Hid ((e.seats.getD k zeroSt).page.ss.getD j zeroS=q):=⟨_,rfl⟩
  have e9:(EngA.poolA e).seats=e.seats:=rfl
  rw [e9,hq.out] at r1
  rw [hq.out] at HP
  obtain ⟨WF,hWF,HTF,HLF,HE⟩:=FIN.out q d1 N1
  have HIq:=slot_infoV q
  have HOq:=slot_oneV q
  rw [hsk]
  clear hsk hc ha ha' HSL hq e9
  go_wp2_with (first | (guard_target=wpList _ _ _ (Oper.mk (some 25) _ _ _ _ _::_) _ _;refine wpList_load_mid rfl 46 (.tmp 24) rfl b (off+k*20+1+1+j*4) rfl q.cells _ r1 Try.underlying46 rfl HIq ?_) | (guard_target=wpList _ _ _ (Oper.mk none (Op.store _ (Operand.tmp 4) _) _ _ _ _::_) _ _;refine wpList_store_mid rfl 46 (.tmp 4) (.tmp 25) rfl (w.heap.size+1) 0 q.cells.toArray rfl rfl HTF.out (by rw [List.size_toArray];exact HIq) HOq ?_) | fail)
  rw [hWF.out]
  exact bodyPost_ret (v:=.agg q.cells.toArray) (results_one Try.results19 rfl HLF.out) rfl ⟨by rw [HP.out],HE.out⟩
 ·have HP:Hid (slotOf e o=(e.disk.getD (o / 4) zeroP).ss.getD j zeroS):=by
   rw [Hid,HSL.out,hj.out]
   unfold pageAt
   rw [hsk,if_neg (by omega)]
  have hd:o / 4<e.disk.length:=by rw [se.eight];exact h8
  have r1:=page_range (EngA.page_at se (HB.out _ N1) (o / 4) hd) (se.four _ (List.getElem_mem hd)) j hj4
  rw [show e.disk.getD (o / 4) zeroP=e.disk[o / 4] by simp [List.getD,hd]] at HP
  obtain ⟨q,hq⟩:∃ q,e.disk[o / 4].ss.getD j zeroS=q:=⟨_,rfl⟩
  rw [hq] at r1 HP
  obtain ⟨n,hn⟩:∃ n:Nat,Hid (o / 4=n):=⟨_,rfl⟩
  have en:(o:Int) / 4=(n:Int):=by have:=hn.out;omega
  have hn8:(n:Int)<8:=by have:=hn.out;omega
  have hn0:(0:Int)≤(n:Int):=by omega
  rw [hn.out] at r1
  obtain ⟨WF,hWF,HTF,HLF,HE⟩:=FIN.out q d1 N1
  have HIq:=slot_infoV q
  have HOq:=slot_oneV q
  rw [hsk]
  clear hsk HSL hq hd
  go_wp2_with (first | (guard_target=wpList _ _ _ (Oper.mk (some 33) _ _ _ _ _::_) _ _;refine wpList_load_mid rfl 46 (.tmp 32) rfl w.heap.size (n*17+1+j*4) rfl q.cells _ r1 Try.underlying46 rfl HIq ?_) | (guard_target=wpList _ _ _ (Oper.mk none (Op.store _ (Operand.tmp 4) _) _ _ _ _::_) _ _;refine wpList_store_mid rfl 46 (.tmp 4) (.tmp 33) rfl (w.heap.size+1) 0 q.cells.toArray rfl rfl HTF.out (by rw [List.size_toArray];exact HIq) HOq ?_) | fail)
  rw [hWF.out]
  exact bodyPost_ret (v:=.agg q.cells.toArray) (results_one Try.results19 rfl HLF.out) rfl ⟨by rw [HP.out],HE.out⟩
theorem build_slotV {w:World} {ops:Array Oper} {rest:List Oper} {dst:Option Nat} {ty:TypeId} {pos:String} {aft:Array Edge} {act:Act} {Q:Exit→Act→World→Prop}
  (h:wpList Try.prog ops Q rest (act.put dst (.agg #[.bool false,.int .i64 0,.slice none 0 0,.slice none 0 0])) w):
  wpList Try.prog ops Q ({ dst:=dst,op:=.build 46 #[],type:=ty,pos:=pos,after:=aft,guard:=none }::rest) act w:=by
 refine wpList_plain rfl fun K hK=>?_
 unfold Oper.wp execOp
 simp only [List.map_toArray,List.map_nil]
 have e:(Instr.build 46 #[]).run Try.prog w=.ok (.agg #[.bool false,.int .i64 0,.slice none 0 0,.slice none 0 0]) w:=run_build w _ _ _ (by kernel_rfl)
 simp only [Sem.run_bind,e,Result.andThen_ok,Sem.run_pure]
 exact hK _ _ h
theorem zero_ownV (w:World) (lo hi:Nat) (h:hi≤w.heap.size):zeroS.own w lo hi:=⟨ownI_nil _ _ _ h,ownI_nil _ _ _ h,fun k hk=>by cases hk⟩
theorem own_oneV (w:World) (q:SlotA) {W:World} (hW:w.alloc (.cells q.cells.toArray 46)=W) (hq:q.own W w.heap.size W.heap.size) (hb:∀ k∈q.blocks,k≠w.heap.size):OwnVw W w.heap.size W.heap.size (some ⟨w.heap.size,0,none⟩) 1 [q]:=by
 have hs:W.heap.size=w.heap.size+1:=by rw [← hW];simp
 have hz:w.heap.size<W.heap.size:=by omega
 refine ⟨?_,Nat.le_refl _,fun k hk=>by cases hk;exact hz,fun r hr=>by rw [List.mem_singleton.1 hr];exact hq,?_⟩
 ·have e1:cellsVw [q]=q.cells.toArray.toList:=by simp [cellsVw]
  rw [← hW,e1]
  exact World.ownsRow_lit (size:=4) w q.cells.toArray 1 (Nat.le_refl _) (by simp [maxLen]) rfl
 ·simp only [List.flatMap_cons,List.flatMap_nil,List.append_nil,Value.ownBlock,Option.toList,List.singleton_append,List.nodup_cons]
  exact ⟨fun hk=>hb _ hk rfl,SlotA.blocks_nodup hq⟩
theorem specView_any (e:EngA) (se:e.shape) (w:World) (re:e.reads w) (hl:e.short 1048576):
  Calls Try.prog 5 #[.agg e.cells.toArray] w fun r w'=>ViewAns (viewV e.v) w r w':=by
 obtain ⟨W,hW,b0,hbW,hsW⟩:=boxes1 w e.cells 60
 have HB:Hid (∀ u,Below W.heap.size W u→u.rangeAt w.heap.size 0 e.cells):=fun u hu=>Box.range [] e.cells [] (by simpa using b0.below hu b0.lt)
 have HR:Hid (∀ u,Below W.heap.size W u→e.reads u):=fun u hu=>(re.below hbW).below hu
 have HEND:Hid (∀ u,Below W.heap.size W u→Below w.heap.size w u):=fun u hu=>hbW.trans (hu.mono hbW.size)
 have HIe:=eng_info se
 have HVL:=viewV_len e.v
 have HAT:Hid (∀ o:Nat,o<32→∀ u,Below W.heap.size W u→Calls Try.prog 19 #[.agg e.cells.toArray,.int .i64 o] u fun r w'=>r=.returned (.agg (slotOf e o).cells.toArray)∧Below u.heap.size u w'):=fun o ho u hu=>l13At_any e se o ho u (HR.out u hu) hl
 have HSR:Hid (∀ o:Nat,o<32→∀ u,Below W.heap.size W u→(slotOf e o).reads u∧(slotOf e o).short 1048576∧(slotOf e o).v=slotAtV e.v o):=fun o ho u hu=>⟨slotOf_reads se (HR.out u hu) o ho,slotOf_short se hl o ho,slotOf_v se o ho⟩
 have HNX:Hid (∀ k,1≤k→k<32→(viewV e.v).take (k+1)=(viewV e.v).take k++[slotAtV e.v k]):=fun k h1 h2=>viewV_next e.v k h1 h2
 have HALL:Hid ((viewV e.v).take 32=viewV e.v):=by rw [Hid,← HVL];exact List.take_length
 obtain ⟨V,hV,bV,hbV,hsV⟩:=boxes1 W zeroS.cells 46
 have o0:OwnVw V W.heap.size V.heap.size (some ⟨W.heap.size,0,none⟩) 1 [zeroS]:=own_oneV W zeroS hV.out (zero_ownV _ _ _ (Nat.le_refl _)) (fun k hk=>by simp [zeroS,SlotA.blocks,Value.ownBlock] at hk)
 have hV':Hid (W.alloc (.cells #[.bool false,.int .i64 0,.slice none 0 0,.slice none 0 0] 46)=V):=hV.out
 have H1:Hid ([zeroS].map (·.v)=(viewV e.v).take 1):=by rw [Hid,viewV_one];rfl
 have hW1:w.heap.size<W.heap.size:=by omega
 clear b0 hsW re hsV bV HVL
 generalize viewV e.v=vs at*
 go_enter Try.func5,Try.ntmps5
 go_upto_region 1 with fail
 rw [hW.out]
 clear hW
 go_upto_region 2 with (first | (guard_target=wpList _ _ _ (Oper.mk (some 5) _ _ _ _ _::_) _ _;refine build_slotV ?_) | fail)
 rw [hV'.out]
 clear hV hV'
 go_wp2
 go_loopw [3,4] (fun v i wr=>∃ (k:Nat) (a:Option Addr) (c:Nat) (ss:List SlotA),v=.slice a ss.length c∧i=.int .i64 k∧1≤k∧k≤32∧Hid (ss.length=k)∧Hid (ss.map (·.v)=vs.take k)∧OwnVw wr W.heap.size wr.heap.size a c ss∧Below W.heap.size W wr)
  (fun _ i _=>32-(intOf i).toNat)
 case atStart=>exact ⟨1,_,1,[zeroS],rfl,rfl,by omega,by omega,rfl,H1,o0,hbV⟩
 case round=>
  obtain ⟨k,a,c,ss,rfl,rfl,hk1,hk,hsl,hm,ho,hb⟩:=hrel
  clear o0 hbV H1
  have zb:=hb.size
  by_cases hlt:k<32
  ·have r0:=HB.out _ hb
   have C:=HAT.out k hlt wr hb
   obtain ⟨_,hsh,hvv⟩:=HSR.out k hlt wr hb
   have HRD:Hid (∀ u,Below W.heap.size W u→(slotOf e k).reads u):=fun u hu=>(HSR.out k hlt u hu).1
   have HN:Hid (∀ q:SlotA,q.v=(slotOf e k).v→(ss++[q]).map (·.v)=vs.take (k+1)):=fun q hq=>by
    rw [HNX.out k hk1 hlt,List.map_append,hm.out,List.map_cons,List.map_nil,hq,hvv]
   have hk31:(k:Int)≤31:=by omega
   clear HAT HSR HNX HALL hvv
   generalize slotOf e k=z at*
   go_wp2_with (first | (guard_target=wpList _ _ _ (Oper.mk (some 12) _ _ _ _ _::_) _ _;refine wpList_load_mid rfl 60 (.tmp 1) rfl w.heap.size 0 rfl (e.cells) _ r0 Try.underlying60 rfl HIe ?_) | fail)
   refine C.mono ?_
   clear C r0
   rintro r d1 ⟨rfl,hb1⟩
   have N1:Below W.heap.size W d1:=hb.trans (hb1.mono hb.size)
   have C:=l3CopySlot_own z d1 (HRD.out _ N1) (Nat.le_trans hsh.1 (by decide)) (Nat.le_trans hsh.2 (by decide))
   have ho1:=ho.below hb1
   have z1:=hb1.size
   clear ho hb1
   go_wp2_with fail
   refine C.mono ?_
   clear C
   rintro r d2 ⟨q,rfl,hq,oq,hb2⟩
   have N2:Below W.heap.size W d2:=N1.trans (hb2.mono N1.size)
   have ho2:=ho1.below hb2
   have z2:=hb2.size
   obtain ⟨V2,hV2,bV2,hbV2,hsV2⟩:=boxes1 d2 q.cells 46
   have hV2':Hid (d2.alloc (.cells #[.bool q.v.has,.int .i64 q.v.o.kind,.slice q.aI q.v.o.ints.length q.cI,.slice q.aR q.v.o.refs.length q.cR] 46)=V2):=hV2.out
   have hV2'':Hid (d2.alloc (.cells q.cells.toArray 46)=V2):=hV2.out
   have rq:V2.rangeAt d2.heap.size 0 q.cells:=Box.range [] q.cells [] (by simpa using bV2)
   have oq2:q.own V2 d1.heap.size d2.heap.size:=OwnO.below oq hbV2
   have ho3:=ho2.below hbV2
   have z3:=hbV2.size
   have N3:Below W.heap.size W V2:=N2.trans (hbV2.mono N2.size)
   have HMM:Hid (_=_):=HN.out q hq.out
   have HLN:Hid ((ss++[q]).length=k+1):=by rw [Hid,List.length_append,hsl.out];rfl
   have hll:ss.length+1≤68719476736:=by have:=hsl.out;omega
   have hdd:∀ k∈q.blocks,k∉blocksVw a c ss:=fun j hj hj'=>by
    have h1:=(SlotA.blocks_lt oq j hj).1
    have h2:=(OwnVw.blocks_lt ho3 j hj').2
    omega
   clear ho1 ho2 hb2 bV2 hV2 hsV2 hbV2 oq hm HN
   simp only [SlotA.cells]
   go_wp2_with (first | (guard_target=wpList _ _ _ (Oper.mk (some 17) _ _ _ _ _::_) _ _;(first | rw [hV2'.out] | rw [hV2''.out]);refine append_slotV rfl (.tmp 11) (.tmp 16) rfl W.heap.size wr.heap.size a c ss rfl ho3 d2.heap.size 0 1 q rfl rq d1.heap.size d2.heap.size oq2 (by omega) hdd (by omega) hll (by omega) ?_;intro a7 c7 w7 o7 g7;have N7:Below W.heap.size W w7:=N3.grown g7 (by omega) (fun j hj=>(OwnVw.row ho3).lt j hj |>.1)) | fail)
   go_roundw
   case rel=>exact ⟨k+1,a7,c7,ss++[q],by rw [List.length_append];rfl,by go_num,by omega,by omega,HLN,HMM,o7,N7⟩
   case measure=>simp [intOf];omega
  ·have hke:k=32:=by omega
   have HE:Hid (ss.map (·.v)=vs):=by
    have:=hm.out
    rw [hke,HALL.out] at this
    exact this
   have hk31:¬ (k:Int)≤31:=by omega
   have HF:Hid (_∧_):=⟨ho.widen (Nat.le_of_lt hW1) (Nat.le_refl _) (Nat.le_refl _),HEND.out _ hb⟩
   clear HAT HSR HNX HALL
   go_wp2
   go_ret
   exact ⟨a,c,ss,rfl,HE,HF.out.1,HF.out.2⟩
def zeroPg:PageA:=⟨0,[zeroS,zeroS,zeroS,zeroS]⟩
theorem page_infoV (p:PageA) (h:p.ss.length=4):(Try.prog.info? 49).map (·.size)=some p.cells.length:=by rw [page_len _ h];kernel_rfl
theorem page_outV {w:World} {C:Nat} (q:PageA) (hq:q.ss.length=4) (bC:Box w C zeroPg.cells 49):
  ∃ WF,Hid (w.setCells C 0 q.cells.toArray.toList=WF)∧Within C (C+1) w WF∧WF.heap.size=w.heap.size∧Hid (w.there C 0 q.cells.toArray.size)∧Hid ((loadVar 49 ⟨C,0,none⟩).run Try.prog WF=.ok (.agg q.cells.toArray) WF):=by
 have hl:=page_len q hq
 obtain ⟨WF,hWF,bF,hwF,hsF⟩:=range_fill [] zeroPg.cells q.cells [] (by simpa using bC) (by rw [hl];rfl)
 have bF':Box WF C q.cells 49:=by simpa using bF
 exact ⟨WF,hWF,hwF,hsF,bC.there 0 _ (by rw [List.size_toArray,hl];show 0+17≤17;decide),run_loadVar_mid (P:=Try.prog) WF C 0 49 q.cells _ (Box.range [] q.cells [] (by simpa using bF')) Try.underlying49 rfl (page_infoV q hq)⟩
theorem pageAtHand_any (e:EngA) (se:e.shape) (n:Nat) (h8:n<8) (w:World) (re:e.reads w) (hl:e.short 1048576):
  Calls Try.prog 27 #[.agg e.cells.toArray,.int .i64 n] w fun r w'=>r=.returned (.agg (pageAt e n).cells.toArray)∧Below w.heap.size w w':=by
 obtain ⟨W,hW,b0,bR,hbW,hsW⟩:=boxes2 w e.cells zeroPg.cells 60 49
 have hW':Hid ((w.alloc (.cells e.cells.toArray 60)).alloc (.cells #[.int .i64 0,.bool false,.int .i64 0,.slice none 0 0,.slice none 0 0,.bool false,.int .i64 0,.slice none 0 0,.slice none 0 0,.bool false,.int .i64 0,.slice none 0 0,.slice none 0 0,.bool false,.int .i64 0,.slice none 0 0,.slice none 0 0] 49)=W):=hW.out
 have HB:Hid (∀ u,Below W.heap.size W u→Box u w.heap.size e.cells 60):=fun u hu=>b0.below hu b0.lt
 have HBR:Hid (∀ u,Below W.heap.size W u→Box u (w.heap.size+1) zeroPg.cells 49):=fun u hu=>bR.below hu bR.lt
 have HEND:Hid (∀ u,Below W.heap.size W u→Below w.heap.size w u):=fun u hu=>hbW.trans (hu.mono hbW.size)
 have hw0:w.heap.size+1<W.heap.size:=by omega
 have N0:Below W.heap.size W W:=Below.refl _ _
 have HIQ:Hid ((Try.prog.info? 53).map (·.size)=some e.poolA.cells.length):=by rw [Hid];show _=some 2;kernel_rfl
 have r0:=(eng_parts se (HB.out _ N0)).2.1
 have C:=implSeated_any e.poolA n W ((re.below hbW).pool) (PoolA.short_wide hl.pool)
 have HR:Hid (∀ u,Below W.heap.size W u→e.reads u):=fun u hu=>(re.below hbW).below hu
 have FIN:Hid (∀ (q:PageA) (u:World),q.ss.length=4→Below W.heap.size W u→∃ WF,Hid (u.setCells (w.heap.size+1) 0 q.cells.toArray.toList=WF)∧Hid (u.there (w.heap.size+1) 0 q.cells.toArray.size)∧Hid ((loadVar 49 ⟨w.heap.size+1,0,none⟩).run Try.prog WF=.ok (.agg q.cells.toArray) WF)∧Hid (Below w.heap.size w WF)):=fun q u hq hu=>by
  obtain ⟨WF,hWF,hwF,hsF,HTF,HLF⟩:=page_outV q hq (HBR.out u hu)
  exact ⟨WF,hWF,HTF,HLF,(HEND.out _ hu).trans (hwF.below (by omega) (by have:=hu.size;omega))⟩
 clear b0 bR hsW re hW
 go_enter Try.func27,Try.ntmps27
 go_upto_region 1 with fail
 rw [hW'.out]
 clear hW'
 go_wp2_with (first | (guard_target=wpList _ _ _ (Oper.mk (some 7) _ _ _ _ _::_) _ _;refine wpList_load_mid rfl 53 (.tmp 6) rfl w.heap.size 136 rfl _ _ r0 Try.underlying53 rfl HIQ.out ?_) | fail)
 refine C.mono ?_
 clear C r0
 rintro r d1 ⟨rfl,hb1⟩
 have N1:Below W.heap.size W d1:=N0.trans (hb1.mono N0.size)
 clear hb1
 have e0:e.poolA.v.seats=e.seats.map SeatA.v:=rfl
 rw [e0]
 clear e0
 rcases seated_cases (e.seats.map SeatA.v) (n:Int) with ⟨k,hk,_,_,hsk⟩ | ⟨_,hsk⟩
 ·rw [List.length_map] at hk
  have HP:Hid (pageAt e n=(e.seats.getD k zeroSt).page):=by
   rw [Hid]
   unfold pageAt
   rw [hsk,if_pos (by omega),Int.toNat_natCast]
  obtain ⟨b,off,ha,hc⟩:=(HR.out _ N1).pool (by intro e1;have e2:e.seats=[]:=e1;rw [e2] at hk;simp at hk)
  have ha':e.aS=some ⟨b,off,none⟩:=ha
  have x0:d1.cell? ⟨w.heap.size,136,none⟩=some (.slice (some ⟨b,off,none⟩) e.seats.length e.cS):=by rw [← ha'];exact EngA.cell_at se (HB.out _ N1) 0 _ rfl
  have r1:=seat_range (hc k hk).1
  have hkk:(k:Int)<(e.seats.length:Int):=by omega
  have hk0:(0:Int)≤(k:Int):=by omega
  have hq4:(e.seats.getD k zeroSt).page.ss.length=4:=rfl
  have e9:(EngA.poolA e).seats=e.seats:=rfl
  rw [e9] at r1
  generalize (e.seats.getD k zeroSt).page=q at*
  obtain ⟨WF,hWF,HTF,HLF,HE⟩:=FIN.out q d1 hq4 N1
  have HIq:=page_infoV q hq4
  have HOq:=all_oneCell_toArray (oneP q)
  rw [hsk]
  clear hsk hc ha ha' e9
  go_wp2_with (first | (guard_target=wpList _ _ _ (Oper.mk (some 18) _ _ _ _ _::_) _ _;refine wpList_load_mid rfl 49 (.tmp 17) rfl b (off+k*20+1) rfl q.cells _ r1 Try.underlying49 rfl HIq ?_) | (guard_target=wpList _ _ _ (Oper.mk none (Op.store _ (Operand.tmp 4) _) _ _ _ _::_) _ _;refine wpList_store_mid rfl 49 (.tmp 4) (.tmp 18) rfl (w.heap.size+1) 0 q.cells.toArray rfl rfl HTF.out (by rw [List.size_toArray];exact HIq) HOq ?_) | fail)
  rw [hWF.out]
  exact bodyPost_ret (v:=.agg q.cells.toArray) (results_one Try.results27 rfl HLF.out) rfl ⟨by rw [HP.out],HE.out⟩
 ·have hd:n<e.disk.length:=by rw [se.eight];exact h8
  have HP:Hid (pageAt e n=e.disk[n]):=by
   rw [Hid]
   unfold pageAt
   rw [hsk,if_neg (by omega)]
   simp [List.getD,hd]
  have r1:=EngA.page_at se (HB.out _ N1) n hd
  have hq4:e.disk[n].ss.length=4:=se.four _ (List.getElem_mem hd)
  have hn8:(n:Int)<8:=by omega
  have hn0:(0:Int)≤(n:Int):=by omega
  generalize e.disk[n]=q at*
  obtain ⟨WF,hWF,HTF,HLF,HE⟩:=FIN.out q d1 hq4 N1
  have HIq:=page_infoV q hq4
  have HOq:=all_oneCell_toArray (oneP q)
  rw [hsk]
  clear hsk hd
  go_wp2_with (first | (guard_target=wpList _ _ _ (Oper.mk (some 22) _ _ _ _ _::_) _ _;refine wpList_load_mid rfl 49 (.tmp 21) rfl w.heap.size (n*17) rfl q.cells _ r1 Try.underlying49 rfl HIq ?_) | (guard_target=wpList _ _ _ (Oper.mk none (Op.store _ (Operand.tmp 4) _) _ _ _ _::_) _ _;refine wpList_store_mid rfl 49 (.tmp 4) (.tmp 22) rfl (w.heap.size+1) 0 q.cells.toArray rfl rfl HTF.out (by rw [List.size_toArray];exact HIq) HOq ?_) | fail)
  rw [hWF.out]
  exact bodyPost_ret (v:=.agg q.cells.toArray) (results_one Try.results27 rfl HLF.out) rfl ⟨by rw [HP.out],HE.out⟩
theorem slots_part (p:PageA) (h4:p.ss.length=4):p.cells.toArray.extract 1 17=(cellsS p.ss).toArray:=by
 have hl:=cellsS_len p.ss
 rw [h4] at hl
 have e1:p.cells=[.int .i64 p.lsn]++cellsS p.ss:=rfl
 rw [List.extract_toArray,List.extract_eq_take_drop,e1,List.drop_append,show List.drop 1 [Value.int .i64 p.lsn]=[] from rfl,List.nil_append,List.length_singleton,Nat.sub_self,List.drop_zero,List.take_of_length_le (by rw [hl];decide)]
theorem run_slotsV (p:PageA) (h4:p.ss.length=4) (w:World):(Instr.field 49 (.agg p.cells.toArray) 1).run Try.prog w=.ok (.agg (cellsS p.ss).toArray) w:=by
 have hp:=slots_part p h4
 generalize p.cells.toArray=cs at*
 have e2:(Instr.field 49 (.agg cs) 1).run Try.prog w=.ok (.agg (cs.extract 1 17)) w:=by kernel_rfl
 rw [e2,hp]
theorem field_slotsV {w:World} {ops:Array Oper} {rest:List Oper} {dst:Option Nat} {ty:TypeId} {pos:String} {aft:Array Edge} {act:Act} {Q:Exit→Act→World→Prop} (t:Operand) (p:PageA) (h4:p.ss.length=4) (ht:act.eval t=.agg p.cells.toArray)
  (h:wpList Try.prog ops Q rest (act.put dst (.agg (cellsS p.ss).toArray)) w):
  wpList Try.prog ops Q ({ dst:=dst,op:=.field 49 t 1,type:=ty,pos:=pos,after:=aft,guard:=none }::rest) act w:=by
 refine wpList_plain rfl fun K hK=>?_
 unfold Oper.wp execOp
 simp only [ht,Sem.run_bind,run_slotsV p h4 w,Result.andThen_ok,Sem.run_pure]
 exact hK _ _ h
theorem index_slotV {w:World} {ops:Array Oper} {rest:List Oper} {dst:Option Nat} {ty:TypeId} {pos:String} {aft:Array Edge} {act:Act} {Q:Exit→Act→World→Prop} (t i:Operand) (ss:List SlotA) (h4:ss.length=4) (j:Nat) (hj:j<4) (z:SlotA) (hz:ss.getD j zeroS=z) (ht:act.eval t=.agg (cellsS ss).toArray) (hi:act.eval i=.int .i64 (j:Int))
  (h:wpList Try.prog ops Q rest (act.put dst (.agg z.cells.toArray)) w):
  wpList Try.prog ops Q ({ dst:=dst,op:=.index 47 t i,type:=ty,pos:=pos,after:=aft,guard:=none }::rest) act w:=by
 refine wpList_plain rfl fun K hK=>?_
 unfold Oper.wp execOp
 simp only [ht,hi,Sem.run_bind,run_index_slot ss h4 j hj w,hz,Result.andThen_ok,Sem.run_pure]
 exact hK _ _ h
theorem implView_any (e:EngA) (se:e.shape) (w:World) (re:e.reads w) (hl:e.short 1048576):
  Calls Try.prog 7 #[.agg e.cells.toArray] w fun r w'=>ViewAns (viewV e.v) w r w':=by
 obtain ⟨i0,hi,hz0,hz1,hz2⟩:=info_parts Try.infoSlotV
 obtain ⟨W,hW,b0,hbW,hsW⟩:=boxes1 w e.cells 60
 have HB:Hid (∀ u,Below W.heap.size W u→u.rangeAt w.heap.size 0 e.cells):=fun u hu=>Box.range [] e.cells [] (by simpa using b0.below hu b0.lt)
 have HR:Hid (∀ u,Below W.heap.size W u→e.reads u):=fun u hu=>(re.below hbW).below hu
 have HEND:Hid (∀ u,Below W.heap.size W u→Below w.heap.size w u):=fun u hu=>hbW.trans (hu.mono hbW.size)
 have HIe:=eng_info se
 have HVL:=viewV_len e.v
 have HAT:Hid (∀ o:Nat,o<32→∀ u,Below W.heap.size W u→Calls Try.prog 27 #[.agg e.cells.toArray,.int .i64 ((o:Int) / 4)] u fun r w'=>r=.returned (.agg (pageAt e (o / 4)).cells.toArray)∧Below u.heap.size u w'):=fun o ho u hu=>by
  rw [show (o:Int) / 4=((o / 4:Nat):Int) from by omega]
  exact pageAtHand_any e se (o / 4) (by omega) u (HR.out u hu) hl
 have HSR:Hid (∀ o:Nat,o<32→∀ u,Below W.heap.size W u→(slotOf e o).reads u∧(slotOf e o).short 1048576∧(slotOf e o).v=slotAtV e.v o):=fun o ho u hu=>⟨slotOf_reads se (HR.out u hu) o ho,slotOf_short se hl o ho,slotOf_v se o ho⟩
 have HFS:Hid (∀ o:Nat,o<32→(pageAt e (o / 4)).ss.length=4):=fun o ho=>pageAt_four se (o / 4) (by omega)
 have HNX:Hid (∀ k,1≤k→k<32→(viewV e.v).take (k+1)=(viewV e.v).take k++[slotAtV e.v k]):=fun k h1 h2=>viewV_next e.v k h1 h2
 have HALL:Hid ((viewV e.v).take 32=viewV e.v):=by rw [Hid,← HVL];exact List.take_length
 have H1:Hid ([zeroS].map (·.v)=(viewV e.v).take 1):=by rw [Hid,viewV_one];rfl
 have hW1:w.heap.size<W.heap.size:=by omega
 clear b0 hsW re HVL
 generalize viewV e.v=vs at*
 go_enter Try.func7,Try.ntmps7
 go_upto_region 1 with fail
 rw [hW.out]
 clear hW
 go_wp2_with (at_make;refine wpList_make_full _ rfl _ _ 42 rfl W.heap.size 46 i0 (.agg zeroS.cells.toArray) 4 Try.underlying42 hi hz0 hz1 _ _ _ _ 32 rfl rfl rfl rfl (by rw [hz2];omega) (by simp [maxLen]) (Nat.le_refl _) ?_)
 intro w0 hown0 hgrow0
 have hb0:Below W.heap.size W w0:=(Below.refl _ _).grown hgrow0 (Nat.le_refl _) (fun k h=>by cases h)
 have ho':w0.ownsRow W.heap.size 46 4 (.slice (some ⟨W.heap.size,0,none⟩) 32 32) 32 (cellsVw (List.replicate 32 zeroS)):=by
  rw [← zero_cellsVw]
  exact hown0
 have HO:Hid (OwnVw w0 W.heap.size w0.heap.size (some ⟨W.heap.size,0,none⟩) 32 ([zeroS]++List.replicate (32-1) zeroS)):=own_zeroVw 32 ho' (Nat.le_refl _) (ho'.lt _ rfl).2
 clear hown0 hgrow0 ho'
 have C:=allOids_any w0
 go_wp2_with fail
 refine C.mono ?_
 clear C
 rintro r w1 ⟨rfl,bx1,hbx⟩
 have hb1:Below W.heap.size W w1:=hb0.trans (hbx.mono hb0.size)
 have HO1:Hid (OwnVw w1 W.heap.size w1.heap.size (some ⟨W.heap.size,0,none⟩) 32 ([zeroS]++List.replicate (32-1) zeroS)):=(HO.out.below hbx).widen (Nat.le_refl _) hbx.size (Nat.le_refl _)
 have hBB:W.heap.size<w0.heap.size:=(HO.out.row.lt _ rfl).2
 obtain ⟨B,hB⟩:∃ B,Hid (w0.heap.size=B):=⟨_,rfl⟩
 have hBW:W.heap.size<B:=by rw [← hB.out];exact hBB
 rw [hB.out] at bx1 ⊢
 clear HO hb0 hbx hBB hB
 go_wp2
 go_loopw [9] (fun i wr=>∃ (n:Nat) (ss:List SlotA),i=.int .i64 n∧n≤31∧Hid (ss.length=n+1)∧Hid (ss.map (·.v)=vs.take (n+1))∧Hid (OwnVw wr W.heap.size wr.heap.size (some ⟨W.heap.size,0,none⟩) 32 (ss++List.replicate (32-(n+1)) zeroS))∧Hid (Box wr B (oidsTo 31) 3)∧Below W.heap.size W wr)
  (fun i _=>31-(intOf i).toNat)
 case atStart=>exact ⟨0,[zeroS],rfl,by omega,rfl,H1,HO1,bx1,hb1⟩
 case round=>
  obtain ⟨n,ss,rfl,hn31,hsl',hm',ho',bx,hb⟩:=hrel
  obtain ⟨k,hkn⟩:∃ k,Hid (n+1=k):=⟨_,rfl⟩
  have hsl:Hid (ss.length=k):=by rw [← hkn.out];exact hsl'
  have hm:Hid (ss.map (·.v)=vs.take k):=by rw [← hkn.out];exact hm'
  have ho:Hid (OwnVw wr W.heap.size wr.heap.size (some ⟨W.heap.size,0,none⟩) 32 (ss++List.replicate (32-k) zeroS)):=by rw [← hkn.out];exact ho'
  have hk1:1≤k:=by have:=hkn.out;omega
  have hk:k≤32:=by have:=hkn.out;omega
  clear HO1 hb1 H1 bx1 hsl' hm' ho'
  have zb:=hb.size
  by_cases hlt:k<32
  ·have r0:=HB.out _ hb
   have C:=HAT.out k hlt wr hb
   obtain ⟨_,hsh,hvv⟩:=HSR.out k hlt wr hb
   have hp4:=HFS.out k hlt
   have HRD:Hid (∀ u,Below W.heap.size W u→(slotOf e k).reads u):=fun u hu=>(HSR.out k hlt u hu).1
   have HN:Hid (∀ q:SlotA,q.v=(slotOf e k).v→(ss++[q]).map (·.v)=vs.take (k+1)):=fun q hq=>by
    rw [HNX.out k hk1 hlt,List.map_append,hm.out,List.map_cons,List.map_nil,hq,hvv]
   have hk31:(k:Int)≤31:=by omega
   have hn30:(n:Int)<31:=by have:=hkn.out;omega
   have hcx:wr.cell? ⟨B,n,none⟩=some (.int .i64 (k:Int)):=by
    have h1:=hkn.out
    have h2:=bx.out.cell n _ (oidsTo_at 31 n (by omega))
    rw [if_pos (by omega)] at h2
    rw [h2,← h1]
    simp
   have HSZ:Hid (slotOf e k=(pageAt e (k / 4)).ss.getD (k % 4) zeroS):=rfl
   have HP:Hid (ss++List.replicate (32-k) zeroS=ss++zeroS::List.replicate (32-(k+1)) zeroS∧(ss++zeroS::List.replicate (32-(k+1)) zeroS).length=32∧ss.length=k):=by
    have e1:32-k=(32-(k+1))+1:=by omega
    have e2:=hsl.out
    refine ⟨by rw [e1,List.replicate_succ],?_,hsl.out⟩
    simp
    omega
   clear HAT HSR HNX HALL hvv HFS
   obtain ⟨j,hj⟩:∃ j:Nat,Hid (k % 4=j):=⟨_,rfl⟩
   rw [hj.out] at HSZ
   have hj4:j<4:=by have:=hj.out;omega
   have HEJ:Hid ((k:Int) % 4=(j:Int)):=by have:=hj.out;rw [Hid];omega
   rw [HSZ.out] at hsh HRD HN
   clear HSZ
   generalize pageAt e (k / 4)=p at*
   obtain ⟨z,hz⟩:∃ z,Hid (p.ss.getD j zeroS=z):=⟨_,rfl⟩
   rw [hz.out] at hsh HRD HN
   go_wp2_with (first | (guard_target=wpList _ _ _ (Oper.mk (some 15) _ _ _ _ _::_) _ _;refine wpList_load_mid rfl 60 (.tmp 1) rfl w.heap.size 0 rfl (e.cells) _ r0 Try.underlying60 rfl HIe ?_) | fail)
   refine C.mono ?_
   clear C r0
   rintro r d1 ⟨rfl,hb1⟩
   have N1:Below W.heap.size W d1:=hb.trans (hb1.mono hb.size)
   have bx1:=bx.out.below hb1 bx.out.lt
   have C:=copySlot_own z d1 (HRD.out _ N1) (Nat.le_trans hsh.1 (by decide)) (Nat.le_trans hsh.2 (by decide))
   have ho1:=ho.out.below hb1
   rw [HP.out.1] at ho1
   have z1:=hb1.size
   have ej:=HEJ.out
   clear ho hb1 hm HRD bx hcx
   go_wp2_with (first | (guard_target=wpList _ _ _ (Oper.mk (some 19) _ _ _ _ _::_) _ _;refine field_slotsV (.tmp 18) p hp4 rfl ?_) | (guard_target=wpList _ _ _ (Oper.mk (some 22) _ _ _ _ _::_) _ _;refine index_slotV (.tmp 19) (.tmp 21) p.ss hp4 j hj4 z hz.out rfl (by show Value.int .i64 ((k:Int) % 4)=_;rw [ej]) ?_) | fail)
   refine C.mono ?_
   clear C
   rintro r d2 ⟨q,rfl,hq,oq,hb2⟩
   have N2:Below W.heap.size W d2:=N1.trans (hb2.mono N1.size)
   have ho2:=ho1.below hb2
   have bx2:=bx1.below hb2 bx1.lt
   have z2:=hb2.size
   obtain ⟨W2,hW2,ho3,ht3,hs3⟩:=ho2.fill q oq (by omega) (by omega) (Nat.le_refl _)
   rw [HP.out.2.2] at hW2
   have HT:Hid (d2.there W.heap.size (k*4) 4):=(row_slot ho2.row rfl k (by rw [HP.out.2.1];exact hlt)).2
   have N3:Below W.heap.size W W2:=N2.trans ⟨ht3.os,ht3.tape,ht3.output,ht3.size,fun i hi=>ht3.block i (by have:=N2.size;omega) (by simp;omega)⟩
   have HH:Hid (OwnVw W2 W.heap.size W2.heap.size (some ⟨W.heap.size,0,none⟩) 32 ((ss++[q])++List.replicate (32-(k+1)) zeroS)):=by
    have:=ho3.widen (Nat.le_refl _) (show max _ _≤W2.heap.size by omega) (Nat.le_refl _)
    rw [List.append_assoc,List.singleton_append]
    exact this
   have HMM:Hid (_=_):=HN.out q hq.out
   have HLN:Hid ((ss++[q]).length=k+1):=by rw [Hid,List.length_append,hsl.out];rfl
   have HJ:Hid ((Try.prog.info? 46).map (·.size)=some 4):=by rw [Hid];kernel_rfl
   have HO1:=slot_oneV q
   have HW2:Hid (d2.setCells W.heap.size (k*4) q.cells.toArray.toList=W2):=hW2.out
   have HBX:Hid (Box W2 B (oidsTo 31) 3):=bx2.touch ht3 (by simp;omega)
   clear ho1 ho2 ho3 hb2 ht3 hs3 hW2 oq hq HN bx1 bx2
   go_wp2_with (first | (guard_target=wpList _ _ _ (Oper.mk none (Op.store _ (Operand.tmp 24) _) _ _ _ _::_) _ _;refine wpList_store_mid rfl 46 (.tmp 24) (.tmp 23) rfl W.heap.size (k*4) q.cells.toArray rfl rfl HT.out HJ.out HO1 ?_) | fail)
   rw [HW2.out]
   go_roundw
   case rel=>
    have h1:=hkn.out
    exact ⟨n+1,ss++[q],by go_num,by omega,by rw [h1];exact HLN,by rw [h1];exact HMM,by rw [h1];exact HH,HBX,N3⟩
   case measure=>simp [intOf];omega
  ·have hke:k=32:=by omega
   have HE:Hid (ss.map (·.v)=vs):=by
    have:=hm.out
    rw [hke,HALL.out] at this
    exact this
   have hn31':¬ (n:Int)<31:=by have:=hkn.out;omega
   have HF:Hid (OwnVw wr w.heap.size wr.heap.size (some ⟨W.heap.size,0,none⟩) 32 ss∧Below w.heap.size w wr∧ss.length=32):=by
    have h1:=ho.out
    rw [hke,Nat.sub_self,List.replicate_zero,List.append_nil] at h1
    exact ⟨h1.widen (Nat.le_of_lt hW1) (Nat.le_refl _) (Nat.le_refl _),HEND.out _ hb,by have:=hsl.out;omega⟩
   clear HAT HSR HNX HALL HFS bx
   go_wp2
   go_ret
   exact ⟨some ⟨W.heap.size,0,none⟩,32,ss,by rw [HF.out.2.2];rfl,HE,HF.out.1,HF.out.2.1⟩
end Go.Proofs.Ytfehemepdoomdaa
namespace Go.Proofs.Ytfehemepdoomdaa
open Go.RowKit
theorem countVs_le2 (rs:List SlotA) (m:Nat) (h:∀ r∈rs,r.short m):countVs rs≤rs.length*(2+2*m):=by
 induction rs with
 | nil=>simp [countVs]
 | cons s r ih=>
  have h1:=ih (fun x hx=>h x (List.mem_cons_of_mem _ hx))
  have h2:=h s List.mem_cons_self
  simp only [countVs,countV1,List.length_cons,Nat.add_mul,Nat.one_mul]
  have:=h2.1
  have:=h2.2
  omega
theorem view_short {ss:List SlotA} {e:EngA} (se:e.shape) (h:ss.map (·.v)=viewV e.v) (he:e.short 1048576):ss.length=32∧∀ r∈ss,r.short 1048576:=by
 refine ⟨by have:=congrArg List.length h;simpa [viewV_len] using this,fun r hr=>?_⟩
 have hv:r.v∈viewV e.v:=by rw [← h];exact List.mem_map.2 ⟨r,hr,rfl⟩
 obtain ⟨o,ho,hx⟩:=List.mem_map.1 hv
 have ho:=List.mem_range.1 ho
 by_cases h0:o=0
 ·rw [if_pos h0] at hx
  unfold SlotA.short
  rw [← hx]
  exact ⟨Nat.zero_le _,Nat.zero_le _⟩
 ·rw [if_neg h0,← slotOf_v se o ho] at hx
  have:=slotOf_short se he o ho
  unfold SlotA.short at this ⊢
  rw [← hx]
  exact this
theorem short_wideV {ss:List SlotA} (h:∀ r∈ss,r.short 1048576):∀ r∈ss,r.short 1099511627776:=fun r hr=>⟨Nat.le_trans (h r hr).1 (by decide),Nat.le_trans (h r hr).2 (by decide)⟩
theorem lawView_walk (p:EngA) (w:World) (hin:InEng w p):
  Calls Try.prog 3 #[.agg p.cells.toArray] w fun e w'=>e=.returned (.bool true)∧Below w.heap.size w w':=by
 have sp:p.shape:=hin.shape
 have hrd:p.reads w:=hin.reads
 obtain ⟨Z,hZ⟩:∃ Z,Hid (zeroE=Z):=⟨_,rfl⟩
 have sZ:Z.shape:=by rw [← hZ.out];exact zeroE_shape
 have HZ:=Try.zeroEng
 rw [hZ.out] at HZ
 obtain ⟨W,hW,b0,hbW,hsW⟩:=boxes1 w p.cells 40
 have HRG:Hid (∀ w',Below W.heap.size W w'→w'.rangeAt w.heap.size 0 p.cells):=fun w' hh=>Box.range [] p.cells [] (by simpa using b0.below hh b0.lt)
 have HRD:Hid (∀ w',Below W.heap.size W w'→p.reads w'):=fun w' hh=>hrd.below (hbW.trans (hh.mono hbW.size))
 have HI:=leng_info sp
 have CZ:=szEngine_any p sp W (HRD.out W (Below.refl _ _)) hin.wide
 have HEND:Hid (∀ u,Below W.heap.size W u→Below w.heap.size w u):=fun u hu=>hbW.trans (hu.mono hbW.size)
 clear b0 hrd hin
 go_enter Try.func3,Try.ntmps3
 go_wp2_with (first | (guard_target=wpList _ _ _ (Oper.mk (some 11) _ _ _ _ _::_) _ _;refine wpList_load_mid rfl 40 (.tmp 1) rfl w.heap.size 0 rfl (p.cells) _ (by rw [hW.out];exact HRG.out _ (Below.refl _ _)) Try.underlying40 rfl HI ?_) | fail)
 rw [hW.out]
 clear hW hsW
 refine CZ.mono ?_
 clear CZ
 rintro e w1 ⟨z,rfl,hz,B1⟩
 rcases hz with hneg | ⟨hz0,hl⟩
 ·have HE:Hid (Below w.heap.size w w1):=HEND.out _ B1
  go_wp2
  go_ret
  exact ⟨rfl,HE.out⟩
 have hzn:¬ z<0:=by omega
 have C:=toEngine_any p sp w1 (HRD.out _ B1) hl
 have R1:w1.rangeAt w.heap.size 0 p.cells:=HRG.out _ B1
 go_wp2_with (first | (guard_target=wpList _ _ _ (Oper.mk (some 16) _ _ _ _ _::_) _ _;refine wpList_load_mid rfl 40 (.tmp 1) rfl w.heap.size 0 rfl (p.cells) _ (R1) Try.underlying40 rfl HI ?_) | fail)
 refine C.mono ?_
 clear C R1
 rintro e w2 ⟨ts,rfl,st,hv2,ho2,hb2⟩
 have B2:Below W.heap.size W w2:=B1.trans (hb2.mono B1.size)
 have C:=specView_any ts st w2 ho2.reads (EngA.short_of hv2.out hl)
 rw [hv2.out] at C
 go_wp2_with fail
 refine C.mono ?_
 clear hv2 ho2 hb2 C st
 rintro e w3 ⟨aw,cw,tw,rfl,hvw,ow,hb⟩
 have B4:Below W.heap.size W w3:=B2.trans (hb.mono B2.size)
 have z3:=hb.size
 clear hb
 have hsS:=(view_short sp hvw.out hl).2
 obtain ⟨w4,hw4⟩:∃ u,Hid (w3=u):=⟨_,rfl⟩
 have z34:w3.heap.size≤w4.heap.size:=by rw [← hw4.out];exact Nat.le_refl _
 rw [hw4.out] at ow B4
 rw [hw4.out]
 have C:=toEngine_any p sp w4 (HRD.out _ B4) hl
 have R4:w4.rangeAt w.heap.size 0 p.cells:=HRG.out _ B4
 go_wp2_with (first | (guard_target=wpList _ _ _ (Oper.mk (some 19) _ _ _ _ _::_) _ _;refine wpList_load_mid rfl 40 (.tmp 1) rfl w.heap.size 0 rfl (p.cells) _ (R4) Try.underlying40 rfl HI ?_) | fail)
 refine C.mono ?_
 clear C R4
 rintro e w5 ⟨q,rfl,sq,hqm,oq,hb⟩
 have B5:Below W.heap.size W w5:=B4.trans (hb.mono B4.size)
 have z5:=hb.size
 replace ow:=ow.below hb
 clear hb
 have hqS:=EngA.short_of hqm.out hl
 obtain ⟨Z6,hZ6,bZ,hbZ,hsZ⟩:=boxes1 w5 Z.cells 60
 obtain ⟨w6,hS6,hwZ,hzZ,HT6,b7⟩:=eng_out sq sZ bZ
 have hb6:Below w5.heap.size w5 w6:=hbZ.trans (hwZ.below (Nat.le_refl _) (by omega))
 have B6:Below W.heap.size W w6:=B5.trans (hb6.mono B5.size)
 have l6:=b7.lt
 replace ow:=ow.below hb6
 replace oq:=oq.below hb6
 have HIq:=eng_info sq
 have HCq:=all_oneCell_toArray (oneE q)
 clear bZ hbZ hsZ hwZ hzZ hb6
 have C:=implView_any q sq w6 oq.reads hqS
 rw [hqm.out] at C
 have R6:w6.rangeAt w5.heap.size 0 q.cells:=Box.range [] q.cells [] (by simpa using b7)
 go_wp2_with (first | (guard_target=wpList _ _ _ (Oper.mk (some 5) (Op.alloc _) _ _ _ _::_) _ _;refine alloc_of 60 Z.cells HZ ?_) | (guard_target=wpList _ _ _ (Oper.mk none (Op.store _ (Operand.tmp 5) _) _ _ _ _::_) _ _;refine wpList_store_mid rfl 60 (.tmp 5) (.tmp 20) rfl w5.heap.size 0 (q.cells).toArray rfl rfl (by rw [hZ6.out];exact HT6.out) (by rw [List.size_toArray];exact HIq) HCq ?_) | (guard_target=wpList _ _ _ (Oper.mk (some 21) _ _ _ _ _::_) _ _;refine wpList_load_mid rfl 60 (.tmp 5) rfl w5.heap.size 0 rfl (q.cells) _ (by rw [hZ6.out,hS6.out];exact R6) Try.underlying60 rfl HIq ?_) | fail)
 rw [hZ6.out,hS6.out]
 refine C.mono ?_
 clear C R6 hZ6 hS6 HT6
 rintro e w7 ⟨ag,cg,tg,rfl,hvg,og,hb⟩
 have B7:Below W.heap.size W w7:=B6.trans (hb.mono B6.size)
 have z7:=hb.size
 replace ow:=ow.below hb
 replace oq:=oq.below hb
 replace b7:=b7.below hb b7.lt
 clear hb
 have hgS:=(view_short sp hvg.out hl).2
 have HGL:Hid (tg.length=32):=(view_short sp hvg.out hl).1
 have HGW:Hid (tw.map (·.v)=tg.map (·.v)):=hvw.out.trans hvg.out.symm
 have RG:∀ (u:World) (a:Nat) (t:EngA),Box u a t.cells 60→u.rangeAt a 0 t.cells:=fun u a t b=>Box.range [] t.cells [] (by simpa using b)
 have HRNG:Hid (_):=RG
 clear RG
 have C:=eqSlotS_same ag aw cg cw tg tw HGW.out w7 og.reads ow.reads (by rw [HGL.out];decide) (short_wideV hgS)
 go_wp2_with fail
 refine C.mono ?_
 clear C
 rintro e w9 ⟨rfl,hb⟩
 have B9:Below W.heap.size W w9:=B7.trans (hb.mono B7.size)
 have z9:=hb.size
 replace ow:=ow.below hb
 replace oq:=oq.below hb
 replace og:=og.below hb
 replace b7:=b7.below hb b7.lt
 clear hb
 have HQ:Hid (q.v=p.v):=hqm.out
 have hu1:=Try.underlying40
 have hu2:=Try.underlying60
 have HB7:Hid (∀ u,Below w9.heap.size w9 u→u.rangeAt w5.heap.size 0 q.cells∧q.reads u):=fun u hu=>⟨HRNG.out _ _ _ (b7.below hu b7.lt),(oq.below hu).reads⟩
 have DD:Below w9.heap.size w9 w9.drew:=(Below.refl _ _).drew
 go_wp2_with fail
 refine wp_region_held_drew (S:=fun w'=>w'.rangeAt w.heap.size 0 p.cells∧w'.rangeAt w5.heap.size 0 q.cells) (by kernel_rfl) ?_ (fun hHeld=>?_)
 ·exact ⟨HRG.out _ B9.drew,(HB7.out _ DD).1⟩
 refine tk 0 rfl (yieldsIf_load_mid (by rfl) _ _ rfl _ _ rfl q.cells _ (fun _ h=>h.2) hu2 rfl HIq) hHeld ?_
 refine tk 1 rfl (yieldsIf_load_mid (by rfl) _ _ rfl _ _ rfl p.cells _ (fun _ h=>h.1) hu1 rfl HI) hHeld ?_
 refine wpAnyH_ready (rs:=[2]) (by kernel_rfl) (by simp) ?_
 refine AllReadyH.cons rfl (fun K hK=>?_) AllReadyH.nil
 go_simp
 refine (toEngine_any p sp _ (HRD.out _ B9.drew) hl).mono ?_
 rintro e w10 ⟨vs,rfl,sv,hv8,ho8,hb10⟩
 have C10:Below W.heap.size W w10:=(B9.drew).trans (hb10.mono B9.size)
 have D10:Below w9.heap.size w9 w10:=DD.trans (hb10.mono DD.size)
 refine hK.out _ _ ⟨HRG.out _ C10,(HB7.out _ D10).1⟩ (fun hHeld=>?_)
 clear hK K
 refine wpAnyH_ready (rs:=[3]) (by kernel_rfl) (by simp) ?_
 refine AllReadyH.cons rfl (fun K hK=>?_) AllReadyH.nil
 go_simp
 refine (eqEngine_same q vs sq sv (hv8.out.trans HQ.out.symm) w10 (HB7.out _ D10).2 ho8.reads (EngA.short_wide hqS)).mono ?_
 rintro e w11 ⟨rfl,hb11⟩
 have C11:Below W.heap.size W w11:=C10.trans (hb11.mono C10.size)
 have D11:Below w9.heap.size w9 w11:=D10.trans (hb11.mono D10.size)
 refine hK.out _ _ ⟨HRG.out _ C11,(HB7.out _ D11).1⟩ (fun hHeld=>?_)
 clear hK K
 refine tk 4 (v:=.bool false) rfl (Or.inl ⟨by rfl,?_⟩) hHeld ?_
 ·intro w' _;go_simp
 refine wpAnyH_done (by kernel_rfl) ?_ _
 have z11:=D11.size
 replace ow:=ow.below D11
 replace oq:=oq.below D11
 replace og:=og.below D11
 replace b7:=b7.below D11 b7.lt
 clear hHeld HB7 D10 D11 C10 hb10 hb11 ho8 hv8 sv hu1 hu2 DD
 have KQ:=EngA.k_short sq hqS
 have KQ0:=EngA.k_pos q
 have G7:=HRNG.out _ _ _ b7
 have C:=markEngine_touch q sq w4.heap.size w5.heap.size 1 w11 oq (EngA.short_wide hqS) (by omega) KQ (by omega)
 have hqb:=oq.blocks_lt
 go_wp2_with (first | (guard_target=wpList _ _ _ (Oper.mk (some 32) _ _ _ _ _::_) _ _;refine wpList_load_mid rfl 60 (.tmp 5) rfl w5.heap.size 0 rfl (q.cells) _ (G7) Try.underlying60 rfl HIq ?_) | fail)
 refine C.mono ?_
 clear C G7
 rintro e w12 ⟨rfl,_,t12⟩
 have B12:Below W.heap.size W w12:=C11.trans (touch_belowL t12 (fun k hk=>by have:=hqb k hk;have:=B4.size;omega) C11.size)
 have z12:=t12.size
 have hwb:=OwnVw.blocks_lt ow
 replace ow:=ow.touch t12 (fun k hk hm=>by have:=hwb k hk;have:=hqb k hm;omega)
 have hgb:=OwnVw.blocks_lt og
 replace og:=og.touch t12 (fun k hk hm=>by have:=hgb k hk;have:=hqb k hm;omega)
 clear oq b7 t12 hqb
 have hKn:¬ q.kE 1<0:=by omega
 have C:=eqSlotS_same ag aw cg cw tg tw HGW.out w12 og.reads ow.reads (by rw [HGL.out];decide) (short_wideV hgS)
 go_wp2_with fail
 refine C.mono ?_
 clear C
 rintro e w13 ⟨rfl,hb⟩
 have B13:Below W.heap.size W w13:=B12.trans (hb.mono B12.size)
 have z13:=hb.size
 replace ow:=ow.below hb
 replace og:=og.below hb
 clear hb
 have KG:(1:Int)+countVs tg≤1152921504606846976:=by
  have h1:=countVs_le2 tg 1048576 hgS
  rw [HGL.out] at h1
  omega
 have C:=markSlotS_touch w6.heap.size w7.heap.size ag cg 1 tg w13 og (short_wideV hgS) (by omega) KG
 go_wp2_with fail
 refine C.mono ?_
 clear C hKn
 rintro e w14 ⟨rfl,mg,t14⟩
 have B14:Below W.heap.size W w14:=B13.trans (touch_belowL t14 (fun k hk=>by have:=hgb k hk;have:=B6.size;omega) B13.size)
 have z14:=t14.size
 replace ow:=ow.touch t14 (fun k hk hm=>by have:=hwb k hk;have:=hgb k hm;omega)
 clear og t14 hgb
 have C:=heldSlotS_any ag cg 1 tg w14 mg.reads (by omega) KG (by rw [HGL.out];decide)
 have hKn:¬ (1:Int)+(countVs tg:Int)<0:=by omega
 go_wp2_with fail
 refine C.mono ?_
 clear C
 rintro e w15 ⟨rfl,hb⟩
 have hb15:=hb.symm
 subst hb15
 have B15:=B14
 have C:=toEngine_any p sp w14 (HRD.out _ B15) hl
 have R15:w14.rangeAt w.heap.size 0 p.cells:=HRG.out _ B15
 go_wp2_with (first | (guard_target=wpList _ _ _ (Oper.mk (some 54) _ _ _ _ _::_) _ _;refine wpList_load_mid rfl 40 (.tmp 1) rfl w.heap.size 0 rfl (p.cells) _ (R15) Try.underlying40 rfl HI ?_) | fail)
 refine C.mono ?_
 clear C R15
 rintro e w16 ⟨us,rfl,su,hvu,ou,hb⟩
 have B16:Below W.heap.size W w16:=B15.trans (hb.mono B15.size)
 replace ow:=ow.below hb
 replace mg:=mg.below hb
 clear hb
 have C:=implView_any us su w16 ou.reads (EngA.short_of hvu.out hl)
 rw [hvu.out] at C
 go_wp2_with fail
 refine C.mono ?_
 clear C hvu ou
 rintro e w17 ⟨ah,ch,th,rfl,hvh,oh,hb⟩
 have B17:Below W.heap.size W w17:=B16.trans (hb.mono B16.size)
 replace ow:=ow.below hb
 replace mg:=mg.below hb
 clear hb
 have hhS:=(view_short sp hvh.out hl).2
 have HHL:Hid (th.length=32):=(view_short sp hvh.out hl).1
 have HHW:Hid (tw.map (·.v)=th.map (·.v)):=hvw.out.trans hvh.out.symm
 have C:=eqSlotS_same ah aw ch cw th tw HHW.out w17 oh.reads ow.reads (by rw [HHL.out];decide) (short_wideV hhS)
 go_wp2_with fail
 refine C.mono ?_
 clear C
 rintro e w19 ⟨rfl,hb⟩
 have B19:Below W.heap.size W w19:=B17.trans (hb.mono B17.size)
 replace mg:=mg.below hb
 clear hb
 have C:=heldSlotS_any ag cg 1 tg w19 mg.reads (by omega) KG (by rw [HGL.out];decide)
 go_wp2_with fail
 refine C.mono ?_
 clear C
 rintro e w20 ⟨rfl,hb⟩
 have hb20:=hb.symm
 subst hb20
 have HE:Hid (Below w.heap.size w w19):=HEND.out _ B19
 go_wp2
 go_ret
 exact ⟨rfl,HE.out⟩
end Go.Proofs.Ytfehemepdoomdaa