/- Several texts in one, in their order. -/
import Derived.Test.YtnoeobahjbdoiaaGreatDoorPFlushx15
import Derived.Test.YtnoeobahjbdoiaaGreatDoorPFlushx9
import Derived.Deep.CutRange
import Derived.Deep.RegionLaw
import Derived.Test.YtnoeobahjbdoiaaGreatDoorPFlushx14
import Derived.Test.YtnoeobahjbdoiaaGreatDoorPFlushx5
import Derived.Test.YtnoeobahjbdoiaaGreatDoorPFlushx8
import Derived.Test.YtnoeobahjbdoiaaGreatDoorPFlushx4
import Derived.Deep.Cut
import Derived.Test.YtnoeobahjbdoiaaGreatDoorPFlushx10
import Derived.Test.YtnoeobahjbdoiaaGreatDoorPFlushx11
import Derived.Test.YtnoeobahjbdoiaaGreatDoorPFlushx12
import Derived.Test.YtnoeobahjbdoiaaGreatDoorPFlushx13
import Derived.Deep.DrawnRows
import Derived.Test.YtnoeobahjbdoiaaGreatDoorPFlushx1
set_option maxHeartbeats 8000000
set_option maxRecDepth 100000
namespace Go.Proofs.YtnoeobahjbdoiaaGreatDoor
open Go.RowKit
def refuseV (e:EngV) (asked:Bool):Int:=if okEng e && (!e.down && asked) then (if 3800<e.log.recs.length then 4 else 0) else 1
theorem refusal_any (e:EngA) (asked:Bool) (se:e.shape) (w:World) (hg:ErrT w) (re:e.reads w) (hl:e.short 1048576):
  Calls Tryz.prog 47 #[.agg e.cells.toArray,.bool asked] w fun r w'=>r=.returned (.int .i64 (refuseV e.v asked))∧Below w.heap.size w w':=by
 have HV:Hid (refuseV e.v asked=if okEng e.v && (!e.down && asked) then (if 3800<e.log.recs.length then 4 else 0) else 1):=by
  rw [Hid]
  unfold refuseV
  rw [show e.v.log.recs.length=e.log.recs.length by simp [EngA.v,LogA.v]]
  rfl
 generalize refuseV e.v asked=RV at*
 have CE:=fun u (hu:ErrT u) (hr:e.reads u)=>implEngineOk_any e se u hu hr hl
 have hrl:e.log.recs.length≤1048576:=hl.log.len
 have HI:=eng_info se
 obtain ⟨W,hW,b0,hbW,hsW⟩:=boxes1 w e.cells 59
 have HB:Hid (∀ u,Below W.heap.size W u→Box u w.heap.size e.cells 59):=fun u hu=>b0.below hu b0.lt
 have HR:Hid (∀ u,Below W.heap.size W u→e.reads u):=fun u hu=>(re.below hbW).below hu
 have HEND:Hid (∀ u,Below W.heap.size W u→Below w.heap.size w u):=fun u hu=>hbW.trans (hu.mono hbW.size)
 have hw0:w.heap.size<W.heap.size:=by omega
 have N:Below W.heap.size W W:=Below.refl _ _
 clear b0 hsW
 have HG:Hid (∀ u,Below W.heap.size W u→ErrT u):=fun u hu=>hg.keep (HEND.out u hu)
 have pe:W.rangeAt w.heap.size 0 e.cells:=Box.range [] e.cells [] (by simpa using HB.out W N)
 clear re hl hg
 have C1:=CE W (HG.out W N) (HR.out W N)
 clear CE
 go_enter Tryz.func47,Tryz.ntmps47
 go_wp2_with (first | (guard_target=wpList _ _ _ (Oper.mk (some 6) _ _ _ _ _::_) _ _;refine wpList_load_mid rfl 59 (.tmp 2) rfl w.heap.size 0 rfl (e.cells) _ (by rw [hW.out];exact pe) Tryz.underlying59 rfl HI ?_) | fail)
 rw [hW.out]
 clear hW pe
 refine C1.mono ?_
 clear C1
 rintro r w1 ⟨rfl,hb⟩
 replace N:=N.trans (hb.mono N.size)
 clear hb
 have p2:=(eng_parts se (HB.out _ N)).2.2.1
 have l0:w1.cell? ⟨w.heap.size,138,none⟩=some (.slice e.log.a e.log.recs.length e.log.c):=p2 0 _ rfl
 have p6:=(eng_parts se (HB.out _ N)).2.2.2.2.2.2
 have HE:Hid (Below w.heap.size w w1):=HEND.out _ N
 obtain ⟨vO,hO⟩:∃ b,Hid (okEng e.v=b):=⟨_,rfl⟩
 obtain ⟨vD,hD⟩:∃ b,Hid (e.down=b):=⟨_,rfl⟩
 rw [hO.out,hD.out] at HV
 rw [hD.out] at p6
 rw [hO.out]
 clear p2 hO hD
 cases vO with
 | false=>
  have HF:Hid (RV=1):=HV.out.trans rfl
  go_wp2
  go_ret
  exact ⟨ret_int HF.out.symm,HE.out⟩
 | true=>
  cases vD with
  | true=>
   have HF:Hid (RV=1):=HV.out.trans rfl
   go_wp2
   go_ret
   exact ⟨ret_int HF.out.symm,HE.out⟩
  | false=>
   cases asked with
   | false=>
    have HF:Hid (RV=1):=HV.out.trans rfl
    go_wp2
    go_ret
    exact ⟨ret_int HF.out.symm,HE.out⟩
   | true=>
    by_cases hx:3800<e.log.recs.length
    ·have hxi:(3800:Int)<(e.log.recs.length:Int):=by omega
     have HF:Hid (RV=4):=HV.out.trans (if_pos hx)
     clear hx
     go_wp2
     go_ret
     exact ⟨ret_int HF.out.symm,HE.out⟩
    ·have hxi:¬ (3800:Int)<(e.log.recs.length:Int):=by omega
     have HF:Hid (RV=0):=HV.out.trans (if_neg hx)
     clear hx
     go_wp2
     go_ret
     exact ⟨ret_int HF.out.symm,HE.out⟩
theorem Within.touch1 {B:Nat} {w w':World} (h:Within B (B+1) w w'):Touch [B] w w':=⟨h.os,h.tape,h.output,h.size,fun k hk hn=>h.block k hk (fun hh=>hn (List.mem_singleton.2 (by omega)))⟩
def RecA.at (r:RecA) (n:Int):RecA:={ r with lsn:=n }
theorem okEng_holds {e:EngV} (h:okEng e=true):ClaimsOk (claimsTo e.holds e.holds.length) e.holds:=by
 have h1:holdsB e=true:=by
  unfold okEng okTxs at h
  simp only [Bool.and_eq_true] at h
  exact h.2.2.2.1.2.1
 have hat:∀ i,i<e.holds.length→holdAt e i=true:=fun i hi=>List.all_eq_true.1 h1 i (List.mem_range.2 hi)
 refine claimsTo_ok (fun i hi j hj=>?_) (fun x hx=>?_)
 ·have:=hat i hi
  unfold holdAt freshH at this
  simp only [Bool.and_eq_true] at this
  have:=List.all_eq_true.1 this.2.2 j (List.mem_range.2 hj)
  simpa using this
 ·obtain ⟨i,hi,rfl⟩:=List.mem_iff_getElem.1 hx
  have:=hat i hi
  unfold holdAt at this
  simp only [Bool.and_eq_true] at this
  have h2:=this.1
  have e1:e.holds.getD i zeroH=e.holds[i]:=by simp [List.getD,hi]
  rw [e1] at h2
  simpa [inB] using h2
abbrev TRun:TypeId:=148
def EngA.run (M:Nat) (n:Int) (e:EngA):List Value:=runCells e.cells M n
abbrev RunAt (M:Nat) (n:Int):=EngAtG (EngA.run M n) TRun
abbrev RunStep (M:Nat) (n:Int):=EngStepG (EngA.run M n) TRun
def EngA.runTail (e:EngA) (M:Nat) (n:Int):List Value:=[.slice e.aS e.seats.length e.cS,.int .i64 e.hand,.slice e.log.a e.log.recs.length e.log.c,.int .i64 e.log.sure,.slice e.aT e.txs.length e.cT,.slice e.aH e.holds.length e.cH,.int .i64 e.next,.bool e.down,.map (some M),.int .i64 n]
theorem run_tail (e:EngA) (M:Nat) (n:Int):e.run M n=cellsPs e.disk++e.runTail M n:=by
 unfold EngA.run runCells EngA.cells
 rw [List.append_assoc]
 rfl
theorem run_at {e:EngA} (se:e.shape) (M:Nat) (n:Int) (j:Nat):(e.run M n)[136+j]? =(e.runTail M n)[j]? :=by
 rw [run_tail,List.getElem?_append_right (by rw [EngA.disk_len se];omega),EngA.disk_len se,show 136+j-136=j by omega]
theorem run_set {e:EngA} (se:e.shape) (M:Nat) (n:Int) (j:Nat) (v:Value):(e.run M n).set (136+j) v=cellsPs e.disk++(e.runTail M n).set j v:=by
 rw [run_tail,List.set_append_right _ _ (by rw [EngA.disk_len se];omega),EngA.disk_len se,show 136+j-136=j by omega]
theorem EngAtG.cellR {M:Nat} {n:Int} {w:World} {R:Nat} {e:EngA} (h:RunAt M n w R e) (j:Nat) (v:Value) (hv:(e.runTail M n)[j]? =some v):w.cell? ⟨R,136+j,none⟩=some v:=h.box.cell (136+j) v (by rw [run_at h.shape];exact hv)
theorem runForce_any (M:Nat) (n:Int) (R:Nat) (e:EngA) (x:Int) (w:World) (h:RunAt M n w R e) (hs:e.log.sure≤e.log.recs.length):
  Calls Tryz.prog 135 #[.pointer (some ⟨R,138,none⟩),.int .i64 x] w fun r w'=>(∃ v,r=.returned v)∧RunStep M n R e w (e.withLog (e.log.upTo x)) w'∧Touch [R] w w':=by
 have h0:(e.run M n)[138]? =some (.slice e.log.a e.log.recs.length e.log.c):=(run_at h.shape M n 2).trans rfl
 have h1:(e.run M n)[138+1]? =some (.int .i64 e.log.sure):=(run_at h.shape M n 3).trans rfl
 refine (logForce_any R 138 (e.run M n) TRun e.log.a e.log.c e.log.recs.length e.log.sure x w h.box h0 h1).mono ?_
 rintro r w' ⟨hr,bx,hw,hz⟩
 have hm:min (max e.log.sure x) (e.log.recs.length:Int)=max e.log.sure (min x e.log.recs.length):=by omega
 rw [hm] at bx
 have ht:Touch [R] w w':=hw.touch1
 have hR:∀ k∈blocksRs e.log.a e.log.c e.log.recs,k∉[R]:=fun k hk hm=>h.off (by rw [← List.mem_singleton.1 hm];exact EngA.mem_log hk)
 refine ⟨hr,h.logs (e.log.upTo x) ?_ ((h.own.log.touch ht hR).widen (Nat.le_refl _) (by omega) (Nat.le_refl _)) (ht.mono (fun k hk=>by rw [List.mem_singleton.1 hk];exact List.mem_cons_self)) (fun k hk=>.inl hk),ht⟩
 have e1:=run_set h.shape M n 3 (.int .i64 (max e.log.sure (min x e.log.recs.length)))
 rw [show 136+3=138+1 from rfl] at e1
 rw [e1] at bx
 have e2:(e.withLog (e.log.upTo x)).run M n=cellsPs e.disk++(e.runTail M n).set 3 (.int .i64 (max e.log.sure (min x e.log.recs.length))):=by
  rw [run_tail]
  rfl
 rw [e2]
 exact bx
theorem SlotA.raise {w:World} {lo lo' hi:Nat} {s:SlotA} (h:s.own w lo hi) (hb:∀ k∈s.blocks,lo'≤k):s.own w lo' hi:=
 ⟨⟨ownsRow_base h.ints.1 (fun k hk=>hb k (List.mem_append.2 (.inl (Option.mem_toList.2 hk)))),h.ints.2⟩,⟨ownsRow_base h.refs.1 (fun k hk=>hb k (List.mem_append.2 (.inr (Option.mem_toList.2 hk)))),h.refs.2⟩,h.apart⟩
theorem EngA.own.raise {w:World} {lo hi:Nat} {e:EngA} (h:e.own w 0 hi) (hb:∀ k∈e.blocks,lo≤k):e.own w lo hi:=by
 refine ⟨⟨fun s hs=>?_,h.disk.apart⟩,⟨ownsRow_base h.pool.row (fun k hk=>hb k (EngA.mem_pool (List.mem_append.2 (.inl (Option.mem_toList.2 hk))))),h.pool.top,h.pool.blk,fun s hs=>?_,h.pool.apart⟩,⟨ownsRow_base h.log.row (fun k hk=>hb k (EngA.mem_log (List.mem_append.2 (.inl (Option.mem_toList.2 hk))))),h.log.top,h.log.blk,fun r hr=>?_,h.log.apart⟩,
  ⟨ownsRow_base h.txs.1 (fun k hk=>hb k (EngA.mem_txs (Option.mem_toList.2 hk))),h.txs.2⟩,⟨ownsRow_base h.holds.1 (fun k hk=>hb k (EngA.mem_holds (Option.mem_toList.2 hk))),h.holds.2⟩,h.apart⟩
 ·exact SlotA.raise (h.disk.each s hs) (fun k hk=>hb k (EngA.mem_disk (List.mem_flatMap.2 ⟨s,hs,hk⟩)))
 ·have hS:OwnS w 0 hi s.ss:=h.pool.each s hs
  exact ⟨fun x hx=>SlotA.raise (hS.each x hx) (fun k hk=>hb k (EngA.mem_pool (List.mem_append.2 (.inr (List.mem_flatMap.2 ⟨s,hs,List.mem_flatMap.2 ⟨x,hx,hk⟩⟩))))),hS.apart⟩
 ·have hr1:=h.log.each r hr
  have hk:∀ k∈r.blocks,lo≤k:=fun k hk=>hb k (EngA.mem_log (List.mem_append.2 (.inr (List.mem_flatMap.2 ⟨r,hr,hk⟩))))
  exact ⟨SlotA.raise hr1.bf (fun k h1=>hk k (List.mem_append.2 (.inl h1))),SlotA.raise hr1.af (fun k h1=>hk k (List.mem_append.2 (.inr (List.mem_append.2 (.inl h1))))),⟨ownsRow_base hr1.txs.1 (fun k h1=>hk k (List.mem_append.2 (.inr (List.mem_append.2 (.inr (Option.mem_toList.2 h1)))))),hr1.txs.2⟩,hr1.apart⟩
theorem results_cell_one {P:Program} {fn:Func} {s t:Nat} {ty:TypeId} {tmps:Array Value} {w:World} {v b:Value} {ad:Addr} (hf:fn.results=#[.cell s ty,.tmp t]) (ht:tmps[s]?.getD undef=.pointer (some ad)) (hl:(loadVar ty ad).run P w=.ok v w) (hb:tmps[t]?.getD undef=b):(results fn tmps).run P w=.ok (.tuple #[v,b]) w:=by
 unfold results
 rw [hf]
 simp [ht,asAddr,hl,hb]
def EngOne (x:EngV × Int) (w:World) (r:Ending) (w':World):Prop:=∃ t:EngA,r=.returned (.tuple #[.agg t.cells.toArray,.int .i64 x.2])∧t.shape∧Hid (t.v=x.1)∧t.own w' w.heap.size w'.heap.size∧Below w.heap.size w w'
theorem runAt_of {w:World} {lo M R:Nat} {n:Int} {t:EngA} (st:t.shape) (ot:t.own w lo M) (hMR:M<R) (bR:Box w R (runCells t.cells M n) 148):RunAt M n w R t:=by
 have hl:=bR.lt
 exact ⟨bR,st,ot.widen (Nat.zero_le _) (by omega) (Nat.le_refl _),fun hk=>by have:=(ot.blocks_lt R hk).2;omega⟩
theorem restStep_any (W d1 d2 d3:World) (M R:Nat) (hs:List HoldV) (t s:EngA) (ot:t.own d2 d1.heap.size M) (hMR:M<R) (hM:d1.heap.size≤M) (hm:MapAt d2 M (claimsTo hs hs.length)) (st:RunStep M (hs.length:Int) R t d2 s d3)
  (hco:ClaimsOk (claimsTo hs hs.length) hs) (hlen:hs.length≤1048576) (N2:Below W.heap.size W d2) (hW:W.heap.size≤d1.heap.size) (h12:d1.heap.size≤d2.heap.size):
  Calls Tryz.prog 53 #[.pointer (some ⟨R,0,none⟩)] d3 fun r w'=>∃ D:EngA,r=.returned (.agg D.cells.toArray)∧D.shape∧Hid (D.v={ s.v with holds:=hs })∧D.own w' W.heap.size w'.heap.size∧Below W.heap.size W w':=by
 have z3:=st.size
 have hb:=ot.blocks_lt
 have oS:s.own d3 d1.heap.size d3.heap.size:=EngA.own.raise st.at'.own (fun k hk=>(st.fresh k hk).elim (fun q=>(hb k q).1) (fun q=>by omega))
 have mS:MapAt d3 M (claimsTo hs hs.length):=hm.touch st.touch (fun hk=>by
  rcases List.mem_cons.1 hk with q | q
  ·omega
  ·have:=(hb M q).2;omega)
 have N3:Below W.heap.size W d3:=N2.trans ⟨st.touch.os,st.touch.tape,st.touch.output,st.touch.size,fun k hk=>st.touch.block k (by have:=N2.size;omega) (fun hq=>by
  rcases List.mem_cons.1 hq with q | q
  ·omega
  ·have:=(hb k q).1;omega)⟩
 have HPL:∀ k,0≤(atC k (claimsTo hs hs.length)).place∧(atC k (claimsTo hs hs.length)).place≤1099511627776:=fun k=>by have:=claims_place hs k hs.length;omega
 refine (rest_any R M s st.at'.shape _ _ d3 d1.heap.size d3.heap.size st.at'.box mS HPL oS st.at'.off (by omega) (Nat.le_refl _)).mono ?_
 rintro r w' ⟨xs,a,c,rfl,HP,oD,tD⟩
 have hhs:xs=hs:=hco.sorted HP.out.1 HP.out.2
 subst hhs
 refine ⟨_,rfl,⟨st.at'.shape.eight,st.at'.shape.four⟩,rfl,oD.widen (by omega) (Nat.le_refl _) (Nat.le_refl _),?_⟩
 exact N3.trans ⟨tD.os,tD.tape,tD.output,tD.size,fun k hk=>tD.block k (by have:=N3.size;omega) (fun hq=>by have:=List.mem_singleton.1 hq;omega)⟩
def washV (s:SeatV):SeatV:={ s with dirty:=false }
def flushV (e:EngV) (n:Nat):EngV:=
 if 0≤seatedOf e.seats n∧(e.seats.getD (seatedOf e.seats n).toNat zeroStV).dirty=true then
  { writeV e (e.seats.getD (seatedOf e.seats n).toNat zeroStV) with seats:=e.seats.set (seatedOf e.seats n).toNat (washV (e.seats.getD (seatedOf e.seats n).toNat zeroStV)) }
 else e
theorem EngAtG.rangePool {w:World} {E:Nat} {e:EngA} (h:EngAt w E e):w.rangeAt E 136 [.slice e.aS e.seats.length e.cS,.int .i64 e.hand]:=fun j v hv=>by
 match j,hv with
 | 0,hv=>cases hv;exact EngA.cell_at h.shape h.box 0 _ rfl
 | 1,hv=>cases hv;exact EngA.cell_at h.shape h.box 1 _ rfl
theorem v_seats {e:EngA} {x:EngV} (h:e.v=x):e.seats.map SeatA.v=x.seats:=by rw [← h];rfl
theorem l7Flush_any (E:Nat) (e:EngA) (n:Nat) (w:World) (h:EngAt w E e) (hp:e.v.poolOk) (h8:n<8):
  Calls Tryz.prog 78 #[.pointer (some ⟨E,0,none⟩),.int .i64 n] w fun r w'=>(∃ v,r=.returned v)∧∃ e',Hid (e'.v=flushV e.v n)∧EngStep E e w e' w':=by
 have HIQ:Hid ((Tryz.prog.info? 52).map (·.size)=some [Value.slice e.aS e.seats.length e.cS,.int .i64 e.hand].length):=by rw [Hid];kernel_rfl
 have r0:=h.rangePool
 have C1:=specSeated_any e.aS e.cS e.seats e.hand n w h.own.pool.reads (by have:=hp.len;simp only [EngA.v,List.length_map] at this;omega)
 go_enter Tryz.func78,Tryz.ntmps78
 go_wp2_with (first | (guard_target=wpList _ _ _ (Oper.mk (some 8) _ _ _ _ _::_) _ _;refine wpList_load_mid rfl 52 (.tmp 7) rfl E 136 rfl _ _ r0 Tryz.underlying52 rfl HIQ.out ?_) | fail)
 refine C1.mono ?_
 clear C1 r0
 rintro r w1 ⟨rfl,hb1⟩
 have a1:=h.below hb1
 have e0:e.v.seats=e.seats.map SeatA.v:=rfl
 rcases seated_casesE (e.seats.map SeatA.v) n with hs | ⟨k,hs,hk,hno⟩
 ·have HF:Hid (flushV e.v n=e.v):=by rw [Hid,flushV,e0,hs,if_neg (by omega)]
  rw [hs]
  clear hs e0
  go_wp2
  go_end0
  exact ⟨⟨_,rfl⟩,e,HF.out.symm,(EngStepG.refl h).below hb1⟩
 ·rw [List.length_map] at hk
  rw [seatV_at] at hno
  obtain ⟨g,hg⟩:∃ g,e.aS=some ⟨g,0,none⟩:=by
   rcases a1.own.pool.row.2 with ⟨_,h0⟩ | ⟨g,cap',cur,hv,_⟩
   ·omega
   ·simp only [Value.slice.injEq] at hv;exact ⟨g,hv.1⟩
  have x0:w1.cell? ⟨E,136,none⟩=some (.slice (some ⟨g,0,none⟩) e.seats.length e.cS):=by rw [← hg];exact EngA.cell_at a1.shape a1.box 0 _ rfl
  have ho:=a1.own.pool
  rw [hg] at ho
  have r1:=(row_seat ho.row rfl k hk).1
  have y1:=r1 18 _ (show (e.seats.getD k zeroSt).cells[18]? =some (.bool (e.seats.getD k zeroSt).dirty) from rfl)
  have hkk:(k:Int)<(e.seats.length:Int):=by omega
  have hk0:(0:Int)≤(k:Int):=by omega
  have hmem:=seatD_mem e.seats k hk
  have oz:=ho.each _ hmem
  have HB:Hid (E∉(e.seats.getD k zeroSt).blocks):=fun hm=>a1.off (EngA.mem_pool (List.mem_append.2 (.inr (List.mem_flatMap.2 ⟨_,hmem,hm⟩))))
  have HFIT:Hid (Fit (e.seats.getD k zeroSt).ss):=fit_of (hp.fitS (e.seats.getD k zeroSt).v (List.mem_map_of_mem hmem))
  obtain ⟨z,hz⟩:∃ z,Hid (e.seats.getD k zeroSt=z):=⟨_,rfl⟩
  rw [hz.out] at r1 y1 oz HB HFIT hno
  have HS:Hid (seatedOf (e.seats.map SeatA.v) n=(k:Int)):=hs
  rw [hs]
  clear hs ho hmem
  cases hdi:z.dirty with
  | false=>
   have HF:Hid (flushV e.v n=e.v):=by rw [Hid,flushV,e0,HS.out,Int.toNat_natCast,seatV_at,hz.out,if_neg (fun hh=>by have h1:z.dirty=true:=hh.2;rw [hdi] at h1;cases h1)]
   rw [hdi] at y1
   clear hdi e0 HS
   go_wp2
   go_end0
   exact ⟨⟨_,rfl⟩,e,HF.out.symm,(EngStepG.refl h).below hb1⟩
  | true=>
   have HF:Hid (flushV e.v n={ writeV e.v z.v with seats:=(e.seats.map SeatA.v).set k (washV z.v) }):=by rw [Hid,flushV,e0,HS.out,Int.toNat_natCast,seatV_at,hz.out,if_pos ⟨by omega,hdi⟩]
   rw [hdi] at y1
   have C2:=l7Write_any E e z w1 a1 n hno h8 (fun u hu=>(oz.touch hu (fun j hj hm=>HB.out (by rw [← List.mem_singleton.1 hm];exact hj))).reads) HFIT.out
   clear hdi e0 HS hno oz HB HFIT
   go_wp2_with (first | (guard_target=wpList _ _ _ (Oper.mk (some 32) _ _ _ _ _::_) _ _;refine wpList_load_mid rfl 114 (.tmp 31) rfl g (k*20) rfl z.cells _ r1 Tryz.underlying114 rfl (seat_info z) ?_) | fail)
   refine C2.mono ?_
   clear C2 r1 y1 x0
   rintro r w2 ⟨⟨v2,rfl⟩,e2,he2,_,s2⟩
   have S2:EngStep E e w e2 w2:=EngStepG.after hb1 s2
   have hv2:e2.seats.map SeatA.v=e.seats.map SeatA.v:=v_seats he2.out
   have hl2:e2.seats.length=e.seats.length:=by have:=congrArg List.length hv2;simpa using this
   have hk2:k<e2.seats.length:=by omega
   obtain ⟨g2,W3,hg2,hgE,hW3,hf3,hr3,st3,_,_⟩:=S2.at'.seatSet k hk2 { (e2.seats.getD k zeroSt) with dirty:=false } 18 (.bool false) (by omega) rfl rfl
   have x2:w2.cell? ⟨E,136,none⟩=some (.slice (some ⟨g2,0,none⟩) e2.seats.length e2.cS):=by rw [← hg2];exact EngA.cell_at S2.at'.shape S2.at'.box 0 _ rfl
   have y2:=hr3 18 _ rfl
   have f2:=hf3 (k*20+18)
   have HEND:Hid (∃ e',Hid (e'.v=flushV e.v n)∧EngStep E e w e' W3):=by
    refine ⟨_,?_,S2.trans st3⟩
    have ez:(e2.seats.getD k zeroSt).v=z.v:=by rw [← seatV_at,hv2,seatV_at,hz.out]
    have e3:({ (e2.seats.getD k zeroSt) with dirty:=false }:SeatA).v=washV z.v:=by rw [← ez];rfl
    have e4:(e2.withPool (e2.seats.set k { (e2.seats.getD k zeroSt) with dirty:=false }) e2.aS e2.cS e2.hand).v={ e2.v with seats:=(e2.seats.map SeatA.v).set k (washV z.v) }:=by
     simp only [EngA.v,EngA.withPool,List.map_set,e3]
    rw [Hid,e4,HF.out,hv2,he2.out]
   have hkk2:(k:Int)<(e2.seats.length:Int):=by omega
   clear hf3 hr3 st3 hg2 hv2 hl2 S2 s2 HF he2
   go_wp2_with fail
   rw [hW3.out]
   go_end0
   exact ⟨⟨_,rfl⟩,HEND.out⟩
end Go.Proofs.YtnoeobahjbdoiaaGreatDoor
namespace Go.Proofs.YtnoeobahjbdoiaaGreatDoor
open Go.RowKit
attribute [local go_sem ↓] Go.wp_at_zero Go.wp_at_succ
end Go.Proofs.YtnoeobahjbdoiaaGreatDoor
namespace Go.Proofs.YtnoeobahjbdoiaaGreatDoor
open Go.RowKit
theorem okEng_log {e:EngV} (h:okEng e=true):okLog e.log=true:=by
 unfold okEng at h
 simp only [Bool.and_eq_true] at h
 exact h.1
theorem okEng_sure {e:EngV} (h:okEng e=true):e.log.sure≤e.log.recs.length:=by
 have h1:=okEng_log h
 unfold okLog at h1
 simp only [Bool.and_eq_true] at h1
 have:=h1.2.1
 simp only [inB,decide_eq_true_eq] at this
 exact this.2
theorem refuse_okA {e:EngV} {a:Bool} (h:refuseV e a=0):okEng e=true:=by
 unfold refuseV at h
 cases ho:okEng e with
 | true=>rfl
 | false=>rw [ho] at h;simp at h
theorem okEng_pool {e:EngA} (se:e.shape) (h:okEng e.v=true) (hl:e.short 1048576):e.v.poolOk:=by
 have h1:okPool e.v.poolV=true:=by
  unfold okEng at h
  simp only [Bool.and_eq_true] at h
  exact h.2.1
 unfold okPool at h1
 simp only [Bool.and_eq_true,decide_eq_true_eq] at h1
 obtain ⟨g1,g2,g3⟩:=h1
 refine ⟨g1,?_,fun s hs=>?_,fun s hs=>?_,?_,fun p hp=>?_⟩
 ·have g4:0≤e.v.hand∧e.v.hand≤2:=inB_both g2
  exact ⟨e.v.hand.toNat,by omega,by omega⟩
 ·obtain ⟨i,hi,rfl⟩:=List.mem_iff_getElem.1 hs
  have g5:=all_at g3 i hi
  unfold freshAt seatB at g5
  simp only [Bool.and_eq_true] at g5
  have e1:e.v.poolV.seats.getD i zeroStV=e.v.seats[i]:=by simp [EngV.poolV,List.getD,hi]
  rw [e1] at g5
  have g6:0≤e.v.seats[i].no∧e.v.seats[i].no≤7:=inB_both g5.1.1
  exact ⟨e.v.seats[i].no.toNat,by omega,by omega⟩
 ·obtain ⟨x,hx,rfl⟩:=List.mem_map.1 hs
  intro y hy
  obtain ⟨z,hz,rfl⟩:=List.mem_map.1 hy
  have:=hl.pool.each x hx z hz
  omega
 ·show (e.disk.map _).length=8
  rw [List.length_map];exact se.eight
 ·obtain ⟨q,hq,rfl⟩:=List.mem_map.1 hp
  intro y hy
  obtain ⟨z,hz,rfl⟩:=List.mem_map.1 hy
  have:=hl.disk q hq z hz
  omega
theorem EngAtG.rangePoolR {M:Nat} {n:Int} {w:World} {E:Nat} {e:EngA} (h:RunAt M n w E e):w.rangeAt E 136 e.poolA.cells:=fun j v hv=>by
 match j,hv with
 | 0,hv=>cases hv;exact h.cellR 0 _ rfl
 | 1,hv=>cases hv;exact h.cellR 1 _ rfl
theorem EngAtG.poolSetR {M:Nat} {n:Int} {w w1:World} {E:Nat} {e:EngA} (h:RunAt M n w E e) (t:PoolA) (hb:Below w.heap.size w w1) (ot:t.own w1 w.heap.size w1.heap.size):
  ∃ W,Hid (w1.setCells E 136 t.cells.toArray.toList=W)∧Hid (w1.there E 136 t.cells.toArray.size)∧RunStep M n E e w (e.withPool t.seats t.a t.c t.hand) W:=by
 have hE:=h.box.lt
 have b1:=h.box.below hb h.box.lt
 have hl:=EngA.disk_len h.shape
 have e1:e.run M n=cellsPs e.disk++(e.poolA.cells++[.slice e.log.a e.log.recs.length e.log.c,.int .i64 e.log.sure,.slice e.aT e.txs.length e.cT,.slice e.aH e.holds.length e.cH,.int .i64 e.next,.bool e.down,.map (some M),.int .i64 n]):=by rw [run_tail];rfl
 have b2:=b1
 rw [e1] at b2
 obtain ⟨W,hW,b3,hw,hs⟩:=range_fill _ _ t.cells _ b2 rfl
 rw [hl] at hW
 have htc:Touch [E] w1 W:=hw.touch1
 have hz:=hb.size
 have hnew:∀ k∈blocksSts t.a t.c t.seats,w.heap.size≤k:=fun k hk=>(OwnSts.blocks_lt ot k hk).1
 refine ⟨W,hW,b1.there 136 _ (by rw [run_tail,List.length_append,hl];simp [EngA.runTail,PoolA.cells]),h.pool t.seats t.a t.c t.hand ?_ ?_ ?_ (fun k hk=>.inr (hnew k hk))⟩
 ·rw [run_tail]
  exact b3
 ·exact (OwnSts.touch ot htc (fun k hk hm=>by have:=hnew k hk;have:=List.mem_singleton.1 hm;omega)).widen (Nat.zero_le _) (by omega) (Nat.le_refl _)
 ·exact (Touch.of_below hb).trans (htc.mono (fun k hk=>by rw [List.mem_singleton.1 hk];exact List.mem_cons_self))
theorem EngA.own.poolR {w:World} {lo hi:Nat} {e:EngA} (h:e.own w lo hi):e.poolA.reads w:=OwnSts.reads h.pool
def flushAns (e:EngV) (no:Int):EngV × Int:=if refuseV e (inB no 0 7)≠0 then (e,refuseV e (inB no 0 7)) else (flushV e no.toNat,0)
end Go.Proofs.YtnoeobahjbdoiaaGreatDoor
namespace Go.Proofs.YtnoeobahjbdoiaaGreatDoor
open Go.RowKit
attribute [local go_sem ↓] Go.wp_at_zero Go.wp_at_succ
theorem runWrite_any (M:Nat) (m:Int) (E:Nat) (e:EngA) (s:SeatA) (w:World) (h:RunAt M m w E e) (hsure:e.log.sure≤e.log.recs.length) (n:Nat) (hn:s.no=(n:Int)) (h8:n<8) (hr:∀ u,Touch [E] w u→s.reads u) (hl:Fit s.ss):
  Calls Tryz.prog 138 #[.pointer (some ⟨E,0,none⟩),.agg s.cells.toArray] w fun r w'=>(∃ v,r=.returned v)∧∃ e',Hid (e'.v=writeV e.v s.v)∧Hid (e'.log.recs=e.log.recs)∧RunStep M m E e w e' w':=by
 obtain ⟨W,hW,b0,hbW,hsW⟩:=boxes1 w s.cells 114
 have a1:=h.below hbW
 have hoff:Off E e w.heap.size:=h.new (Nat.le_refl _)
 have hws:w.heap.size<W.heap.size:=by omega
 have HRS:Hid (∀ u,Box u w.heap.size s.cells 114→u.rangeAt w.heap.size 0 s.cells∧u.rangeAt w.heap.size 1 s.page.cells):=fun u bu=>⟨Box.range [] s.cells [] (by simpa using bu),by
  have e1:s.cells=[.int .i64 s.no]++(s.page.cells++[.bool s.dirty,.bool s.hot]):=by rw [SeatA.cells_page];rfl
  rw [e1] at bu
  exact Box.range _ _ _ bu⟩
 have HI:Hid ((Tryz.prog.info? 48).map (·.size)=some s.page.cells.length):=by rw [Hid,page_len s.page rfl];kernel_rfl
 clear hsW
 go_enter Tryz.func138,Tryz.ntmps138
 go_upto_region 1 with fail
 rw [hW.out]
 clear hW
 have ND:Below W.heap.size W W.drew:=(Below.refl _ _).drew
 have a2:=a1.below ND
 have b2:=b0.below ND b0.lt
 refine wp_region_held_drew (S:=fun w'=>w'.rangeAt w.heap.size 0 s.cells∧w'.rangeAt w.heap.size 1 s.page.cells) (by kernel_rfl) ?_ (fun hHeld=>?_)
 ·exact HRS.out _ b2
 refine tq 0 (v:=.pointer (some ⟨E,0,none⟩)) rfl hHeld ?_
 try simp only [zz]
 refine tq 1 (v:=.pointer (some ⟨E,0,none⟩)) rfl hHeld ?_
 try simp only [zz]
 refine tq 2 (v:=.pointer (some ⟨E,0,none⟩)) rfl hHeld ?_
 try simp only [zz]
 refine tq 3 (v:=.pointer (some ⟨E,138,none⟩)) rfl hHeld ?_
 try simp only [zz]
 refine tq 4 (v:=.pointer (some ⟨w.heap.size,1,none⟩)) rfl hHeld ?_
 try simp only [zz]
 refine tq 5 (v:=.pointer (some ⟨w.heap.size,1,none⟩)) rfl hHeld ?_
 try simp only [zz]
 refine tk 6 (v:=.int .i64 s.lsn) rfl (Or.inl ⟨by rfl,?_⟩) hHeld ?_
 ·intro w' hSw
  have hx:w'.cell? ⟨w.heap.size,1,none⟩=some (.int .i64 s.lsn):=hSw.1 1 _ rfl
  go_simp<;>rfl
 try simp only [zz]
 refine wpAnyH_ready (rs:=[7]) (by kernel_rfl) (by simp) ?_
 refine AllReadyH.cons rfl (fun K hK=>?_) AllReadyH.nil
 go_simp
 refine (runForce_any M m E e s.lsn W.drew a2 hsure).mono ?_
 rintro r w3 ⟨⟨v3,rfl⟩,s3,t3⟩
 have b3:=s3.boxes b2 hoff
 have N0:Below w.heap.size w W.drew:=hbW.trans (ND.mono hbW.size)
 have S3:RunStep M m E e w (e.withLog (e.log.upTo s.lsn)) w3:=EngStepG.after N0 s3
 have r3:s.reads w3:=hr _ ((Touch.of_below N0).trans t3)
 have hs3:=S3.size
 have hs3':=s3.size
 have hE:E<w.heap.size:=h.box.lt
 have hb3:w.heap.size<w3.heap.size:=b3.lt
 refine hK.out _ _ (HRS.out _ b3) (fun hHeld=>?_)
 clear hK K
 try simp only [zz]
 refine wpAnyH_done (by kernel_rfl) ?_ _
 clear hHeld s3 a1 a2 b2 b0 t3 hr
 have ND3:Below w3.heap.size w3 w3.drew:=(Below.refl _ _).drew
 have a4:=S3.at'.below ND3
 have b4:=b3.below ND3 b3.lt
 go_upto_region 2 with fail
 refine wp_region_held_drew (S:=fun w'=>w'.rangeAt w.heap.size 0 s.cells∧w'.rangeAt w.heap.size 1 s.page.cells) (by kernel_rfl) ?_ (fun hHeld=>?_)
 ·exact HRS.out _ b4
 refine tq 0 (v:=.pointer (some ⟨E,0,none⟩)) rfl hHeld ?_
 try simp only [zz]
 refine tq 1 (v:=.pointer (some ⟨w.heap.size,0,none⟩)) rfl hHeld ?_
 try simp only [zz]
 refine tk 2 (v:=.int .i64 s.no) rfl (Or.inl ⟨by rfl,?_⟩) hHeld ?_
 ·intro w' hSw
  have hx:w'.cell? ⟨w.heap.size,0,none⟩=some (.int .i64 s.no):=hSw.1 0 _ rfl
  go_simp<;>rfl
 try simp only [zz]
 refine tq 3 (v:=.pointer (some ⟨w.heap.size,1,none⟩)) rfl hHeld ?_
 try simp only [zz]
 refine tk 4 rfl (yieldsIf_load_mid (by rfl) _ _ rfl _ _ rfl s.page.cells _ (fun _ h=>h.2) Tryz.underlying48 rfl HI.out) hHeld ?_
 try simp only [zz]
 refine tq 6 (v:=.pointer (some ⟨E,0,none⟩)) rfl hHeld ?_
 try simp only [zz]
 refine tq 7 (v:=.pointer (some ⟨E,0,none⟩)) rfl hHeld ?_
 try simp only [zz]
 refine tq 8 (v:=.pointer (some ⟨E,0,none⟩)) rfl hHeld ?_
 try simp only [zz]
 refine wpAnyH_ready (rs:=[5]) (by kernel_rfl) (by simp) ?_
 refine AllReadyH.cons rfl (fun K hK=>?_) AllReadyH.nil
 go_simp
 refine (copyPage_own s.page rfl w3.drew (r3.below ND3) hl).mono ?_
 rintro r w5 ⟨ts,rfl,hts,ho5,hb5⟩
 have N35:Below w3.heap.size w3 w5:=ND3.trans hb5
 have a5:=S3.at'.below N35
 have b5:=b3.below N35 b3.lt
 have S5:=S3.below N35
 have h4:ts.length=4:=by have:=congrArg List.length hts.out;simpa [SeatA.page,SeatA.ss] using this
 have hs5:=N35.size
 refine hK.out _ _ (HRS.out _ b5) (fun hHeld=>?_)
 clear hK K
 try simp only [zz]
 obtain ⟨WF,hWF,HTH,aF,tF,hsF,fF⟩:=a5.diskSet (fun e=>e.runTail M m) (fun e=>run_tail e M m) (fun _ _=>rfl) n h8 ⟨s.lsn,ts⟩ h4 ho5 w3.drew (Nat.le_refl _) (fun k hk=>a4.lt k hk) a4.box.lt hb5.size (Nat.le_refl _)
 have HWF:Hid (w5.setCells E (n*17) (PageA.cells ⟨s.lsn,ts⟩).toArray.toList=WF):=hWF.out
 have bF:=b5.touch tF (by simp;omega)
 have HI5:Hid ((Tryz.prog.info? 48).map (·.size)=some (PageA.cells ⟨s.lsn,ts⟩).toArray.size):=by rw [Hid,List.size_toArray,page_len _ h4];kernel_rfl
 have HS:Hid (∃ e',Hid (e'.v=writeV e.v s.v)∧Hid (e'.log.recs=e.log.recs)∧RunStep M m E e w e' WF):=by
  refine ⟨_,?_,?_,aF,?_,?_⟩
  ·rw [Hid]
   simp only [EngA.v,EngA.withDisk,EngA.withLog,writeV,LogA.upTo,LogA.v,List.map_set,SeatA.v,hn,Int.toNat_natCast,hts.out,SeatA.page,List.length_map]
  ·rfl
  ·exact S5.touch.trans (tF.mono (by simp))
  ·intro k hk
   rcases fF k hk with h1 | h1
   ·exact S5.fresh k h1
   ·exact .inr (by have:w3.drew.heap.size=w3.heap.size:=rfl;omega)
 clear hWF aF tF hsF fF
 have hn8:(n:Int)<8:=by omega
 have hn0:(0:Int)≤(n:Int):=by omega
 refine tq 9 (v:=.pointer (some ⟨E,n*17,none⟩)) rfl hHeld ?_
 try simp only [zz]
 refine wpAnyH_ready (rs:=[10]) (by kernel_rfl) (by simp) ?_
 refine AllReadyH.cons rfl (fun K hK=>?_) AllReadyH.nil
 rw [if_pos (by rfl)]
 refine wp_store_mid 48 (.tmp 21) (.tmp 17) rfl E (n*17) (PageA.cells ⟨s.lsn,ts⟩).toArray rfl rfl HTH.out HI5.out (all_oneCell_toArray (oneP _)) ?_
 rw [HWF.out]
 refine hK.out _ _ (HRS.out _ bF) (fun hHeld=>?_)
 clear hK K
 try simp only [Act.put,zA,zB,zC]
 refine wpAnyH_done (by kernel_rfl) ?_ _
 go_wp2
 go_end0
 exact ⟨⟨_,rfl⟩,HS.out⟩
end Go.Proofs.YtnoeobahjbdoiaaGreatDoor
namespace Go.Proofs.YtnoeobahjbdoiaaGreatDoor
open Go.RowKit
theorem l6CopySeat_own (s:SeatA) (w:World) (hr:s.reads w) (hl:s.short 1099511627776):
  Calls Tryz.prog 144 #[.agg s.cells.toArray] w fun e w'=>∃ t:SeatA,e=.returned (.agg t.cells.toArray)∧Hid (t.v=s.v)∧t.own w' w.heap.size w'.heap.size∧Below w.heap.size w w':=by
 obtain ⟨W,hW,b0,b1,hbW,hsW⟩:=boxes2 w s.cells [.int .i64 0,.int .i64 0,.bool false,.int .i64 0,.slice none 0 0,.slice none 0 0,.bool false,.int .i64 0,.slice none 0 0,.slice none 0 0,.bool false,.int .i64 0,.slice none 0 0,.slice none 0 0,.bool false,.int .i64 0,.slice none 0 0,.slice none 0 0,.bool false,.bool false] 114 114
 have b1':Box W (w.heap.size+1) zeroSt.cells 114:=b1
 have hs0:w.heap.size+1<W.heap.size:=by omega
 have hrg0:W.rangeAt w.heap.size 1 s.page.cells:=seat_page s b0
 have HL:=Tryz.infoPg s.page rfl
 have C:=l3Copy_own s.page rfl W (hr.below hbW) hl
 clear hsW b1
 go_enter Tryz.func144,Tryz.ntmps144
 go_upto_region 1 with fail
 rw [hW.out]
 clear hW
 go_wp2_with (first | (guard_target=wpList _ _ _ (Oper.mk (some 4) _ _ _ _ _::_) _ _;refine wpList_load_mid rfl 48 (.tmp 3) rfl w.heap.size 1 rfl s.page.cells _ hrg0 Tryz.underlying48 rfl HL ?_) | fail)
 clear hrg0 HL
 refine C.mono ?_
 clear C
 rintro e w1 ⟨ts,rfl,hv,ho,hb1⟩
 obtain ⟨y0,y1,y2,y3,rfl⟩:=four_slots' (ts:=ts) (by have:=congrArg List.length hv.out;simpa [SeatA.page,SeatA.ss] using this)
 have hs1:=hb1.size
 have b01:=b0.below hb1 b0.lt
 have b11:=b1'.below hb1 b1'.lt
 obtain ⟨W2,hW2,b02,hw2,hs2,hth2⟩:=seat_fill s b01 s.page.lsn y0 y1 y2 y3
 obtain ⟨q,hq⟩:∃ q:SeatA,Hid ((⟨s.no,s.page.lsn,y0,y1,y2,y3,s.dirty,s.hot⟩:SeatA)=q):=⟨_,rfl⟩
 rw [hq.out] at b02
 have b12:=b11.within hw2 (by omega)
 obtain ⟨WF,hWF,hwF,hsF,HTF,HLF,bF⟩:=seat_out q _ rfl b12
 have r4:W2.rangeAt w.heap.size 0 q.cells:=Box.range [] q.cells [] (by simpa using b02)
 have oq:q.own w1 W.heap.size w1.heap.size:=by rw [← hq.out];exact ho
 have HV:Hid (q.v=s.v):=by rw [Hid,← hq.out];simp only [SeatA.v,SeatA.ss];rw [show List.map (fun x:SlotA=>x.v) [y0,y1,y2,y3]=s.page.ss.map (·.v) from hv.out];rfl
 have HFIN:Hid (q.own WF w.heap.size WF.heap.size∧Below w.heap.size w WF):=⟨((oq.within hw2 (.inr (by omega))).within hwF (.inr (by omega))).widen (by omega) (by omega) (Nat.le_refl _),((hbW.trans (hb1.mono (by omega))).trans (hw2.below (by omega) (by omega))).trans (hwF.below (by omega) (by omega))⟩
 have HI1:=Tryz.infoPg ⟨s.page.lsn,[y0,y1,y2,y3]⟩ rfl
 have HO1:=page_one ⟨s.page.lsn,[y0,y1,y2,y3]⟩
 have HI2:=seat_info q
 have HO2:=seat_one q
 have HW2:Hid (w1.setCells w.heap.size 1 (PageA.cells ⟨s.page.lsn,[y0,y1,y2,y3]⟩).toArray.toList=W2):=hW2.out
 have HWF:Hid (W2.setCells (w.heap.size+1) 0 q.cells.toArray.toList=WF):=hWF.out
 have HTF':W2.there (w.heap.size+1) 0 q.cells.toArray.size:=HTF.out
 clear hW2 hWF HTF hq hs1 hs2 hsF hw2 hwF b01 b11 b02 b12 bF oq ho hv hb1 b0 b1' hbW
 generalize PageA.cells ⟨s.page.lsn,[y0,y1,y2,y3]⟩=pc at*
 go_wp2_with (first | (guard_target=wpList _ _ _ (Oper.mk none (Op.store _ (Operand.tmp 6) _) _ _ _ _::_) _ _;refine wpList_store_mid rfl 48 (.tmp 6) (.tmp 5) rfl w.heap.size 1 pc.toArray rfl rfl hth2 (by rw [List.size_toArray];exact HI1) HO1 ?_;rw [HW2.out]) | (guard_target=wpList _ _ _ (Oper.mk (some 7) _ _ _ _ _::_) _ _;refine wpList_load_mid rfl 114 (.tmp 1) rfl w.heap.size 0 rfl q.cells _ r4 Tryz.underlying114 rfl HI2 ?_) | (guard_target=wpList _ _ _ (Oper.mk none (Op.store _ (Operand.tmp 2) _) _ _ _ _::_) _ _;refine wpList_store_mid rfl 114 (.tmp 2) (.tmp 7) rfl (w.heap.size+1) 0 q.cells.toArray rfl rfl HTF' (by rw [List.size_toArray];exact HI2) HO2 ?_;rw [HWF.out]) | fail)
 exact bodyPost_ret (v:=.agg q.cells.toArray) (results_one Tryz.results144 rfl HLF.out) rfl ⟨q,rfl,HV,HFIN.out.1,HFIN.out.2⟩
end Go.Proofs.YtnoeobahjbdoiaaGreatDoor
namespace Go.Proofs.YtnoeobahjbdoiaaGreatDoor
open Go.RowKit
attribute [local go_sem ↓] Go.wp_at_zero Go.wp_at_succ
theorem l6Copy_any (l:PoolA) (w:World) (hr:l.reads w) (hl:l.short 1048576):
  Calls Tryz.prog 87 #[.agg l.cells.toArray] w fun e w'=>∃ t:PoolA,e=.returned (.agg t.cells.toArray)∧Hid (t.v=l.v)∧t.own w' w.heap.size w'.heap.size∧Below w.heap.size w w':=by
 obtain ⟨rs,s,a,c⟩:=l
 have hl2:=(PoolA.short_wide hl).each
 have hl0:=hl.len
 simp only [PoolA.reads,PoolA.cells,PoolA.own] at*
 obtain ⟨W,hW,b0,b1,b2,hbW,hsW⟩:=boxes3 w [.slice a rs.length c,.int .i64 s] [.slice none 0 0,.int .i64 0] [.slice none 0 0,.int .i64 s] 52 52 52
 have hs0:w.heap.size+1+1<W.heap.size:=by omega
 clear hsW
 have x0:=b0.cell 0 _ rfl
 have x1:=b0.cell 1 _ rfl
 have HC:Hid (∀ k,k<rs.length→∃ b off,a=some ⟨b,off,none⟩∧w.rangeAt b (off+k*20) (rs.getD k zeroSt).cells∧(rs.getD k zeroSt).reads w∧(rs.getD k zeroSt).short 1099511627776):=fun k hk=>by
  obtain ⟨b,off,ha,hc⟩:=hr (by intro e;rw [e] at hk;simp at hk)
  exact ⟨b,off,ha,(hc k hk).1,(hc k hk).2,hl2 _ (seatD_mem rs k hk)⟩
 have HI:Hid ((Tryz.prog.info? 114).map (·.size)=some 20):=by rw [Hid];kernel_rfl
 clear hr hl hl2
 go_enter Tryz.func87,Tryz.ntmps87
 go_wp2_with fail
 rw [hW.out]
 clear hW x0 x1
 go_loopw [4] (fun i wr=>∃ (k:Nat) (ts:List SeatA) (a':Option Addr) (c':Nat),k≤rs.length∧i=.int .i64 k∧Hid (CameSt rs ts k)∧Box wr (w.heap.size+1+1) [.slice a' ts.length c',.int .i64 s] 52∧Box wr w.heap.size [.slice a rs.length c,.int .i64 s] 52∧Box wr (w.heap.size+1) [.slice none 0 0,.int .i64 0] 52∧OwnSts wr W.heap.size wr.heap.size a' c' ts∧Below w.heap.size w wr∧W.heap.size≤wr.heap.size)
  (fun i _=>rs.length-(intOf i).toNat)
 case atStart=>exact ⟨0,[],none,0,Nat.zero_le _,rfl,cameSt_none rs,b2,b0,b1,ownSts_nil _ _ _ (Nat.le_refl _),hbW,Nat.le_refl _⟩
 case round=>
  obtain ⟨k,ts,a',c',hk,rfl,hc,k2,k0,k1,hown,hnx,hsz⟩:=hrel
  clear b0 b1 b2 hbW
  have x0:=k0.cell 0 _ rfl
  by_cases hlt:k<rs.length
  ·obtain ⟨b,off,rfl,hcell,hrd,hsh⟩:=HC.out k hlt
   have hbB:=rangeSt_lt hcell
   have hnw:=hnx.size
   have HR:Hid (∀ u,Below w.heap.size w u→u.rangeAt b (off+k*20) (rs.getD k zeroSt).cells):=fun u hu=>rangeAt_below hcell hu hbB
   have HS:Hid (∀ q:SeatA,q.v=(rs.getD k zeroSt).v→CameSt rs (ts++[q]) (k+1)):=fun q hq=>hc.out.snoc hlt hq
   have HL:Hid (ts.length=k):=hc.out.1
   clear hcell HC
   generalize rs.getD k zeroSt=z at*
   have e0:=k2.cell 0 _ rfl
   have HSS:Hid (∀ u,Below w.heap.size w u→Box u w.heap.size [.slice (some ⟨b,off,none⟩) rs.length c,.int .i64 s] 52→u.rangeAt b (off+k*20) z.cells∧u.cell? ⟨w.heap.size,0,none⟩=some (.slice (some ⟨b,off,none⟩) rs.length c)):=fun u h1 h2=>⟨HR.out u h1,h2.cell 0 _ rfl⟩
   go_wp2_with fail
   refine wp_region_held_drew (S:=fun w'=>w'.rangeAt b (off+k*20) z.cells∧w'.cell? ⟨w.heap.size,0,none⟩=some (.slice (some ⟨b,off,none⟩) rs.length c)) (by kernel_rfl) ?_ (fun hHeld=>?_)
   ·exact HSS.out _ hnx.drew (k0.drewN 1)
   refine tq 0 (v:=.pointer (some ⟨w.heap.size+1+1,0,none⟩)) rfl hHeld ?_
   try simp only [zz]
   refine tq 2 (v:=.pointer (some ⟨w.heap.size,0,none⟩)) rfl hHeld ?_
   try simp only [zz]
   refine tk 3 (v:=.slice (some ⟨b,off,none⟩) rs.length c) rfl (Or.inl ⟨by rfl,?_⟩) hHeld ?_
   ·intro w' hSw
    have hx:=hSw.2
    go_simp<;>rfl
   try simp only [zz]
   refine tq 4 (v:=.int .i64 k) rfl hHeld ?_
   try simp only [zz]
   refine tq 5 (v:=.pointer (some ⟨b,off+k*20,none⟩)) rfl hHeld ?_
   try simp only [zz]
   refine tk 6 rfl (yieldsIf_load_mid (by rfl) _ _ rfl _ _ rfl z.cells _ (fun _ h=>h.1) Tryz.underlying114 rfl HI.out) hHeld ?_
   try simp only [zz]
   have hnd:Below wr.heap.size wr wr.drew:=(Below.refl _ _).drew
   have C:=l6CopySeat_own z wr.drew (hrd.below hnx.drew) hsh
   refine wpAnyH_ready (rs:=[1,7]) (by kernel_rfl) (by simp) ?_
   refine AllReadyH.cons rfl (fun K hK=>?_) (AllReadyH.cons rfl (fun K hK=>?_) AllReadyH.nil)
   ·go_simp
    refine hK.out _ _ (hHeld) (fun hHeld=>?_)
    clear hK K
    try simp only [zz]
    refine wpAnyH_ready (rs:=[7]) (by kernel_rfl) (by simp) ?_
    refine AllReadyH.cons rfl (fun K hK=>?_) AllReadyH.nil
    go_simp
    refine C.mono ?_
    clear C
    rintro e u2 ⟨q,rfl,hq,hqo,hb2⟩
    have hb2':Below wr.heap.size wr u2:=hnd.trans hb2
    have hn2:Below w.heap.size w u2:=hnx.trans (hb2'.mono hnw)
    have k22:=k2.below hb2' k2.lt
    have k02:=k0.below hb2' k0.lt
    have k12:=k1.below hb2' k1.lt
    have o2:=hown.below hb2'
    have hqo2:q.own u2 wr.heap.size u2.heap.size:=hqo
    have hs2:=hb2'.size
    refine hK.out _ _ (HSS.out _ hn2 k02) (fun hHeld=>?_)
    clear hK K
    try simp only [zz]
    refine wpAnyH_ready (rs:=[8]) (by kernel_rfl) (by simp) ?_
    refine AllReadyH.cons rfl (fun K hK=>?_) AllReadyH.nil
    go_simp
    simp only [cellsSt_len,lit_seat,not_true_eq_false,Nat.lt_irrefl,or_self,if_false]
    go_simp
    obtain ⟨W3,hW3,b3,hb3,hs3⟩:=boxes1 u2 q.cells 114
    rw [hW3.out]
    have hn3:Below w.heap.size w W3:=hn2.trans (hb3.mono hn2.size)
    have k23:=k22.below hb3 k22.lt
    have k03:=k02.below hb3 k02.lt
    have k13:=k12.below hb3 k12.lt
    have o3:=o2.below hb3
    have hqo3:=hqo2.below hb3
    have r3:W3.rangeAt u2.heap.size 0 q.cells:=Box.range [] q.cells [] (by simpa using b3)
    have hs3':=b3.lt
    clear hs3 hb3 hW3 b3 k02 k12 o2 hqo2
    refine hK.out _ _ (HSS.out _ hn3 k03) (fun hHeld=>?_)
    clear hK K
    try simp only [zz]
    have hll:ts.length+1≤68719476736:=by have:=HL.out;omega
    refine wpAnyH_ready (rs:=[9]) (by kernel_rfl) (by simp) ?_
    refine AllReadyH.cons rfl (fun K hK=>?_) AllReadyH.nil
    refine step_append_seat rfl (.tmp 16) (.tmp 23) rfl W.heap.size wr.heap.size a' c' ts rfl o3 u2.heap.size 0 1 q rfl r3 wr.heap.size u2.heap.size hqo3 (Nat.le_refl _) (by omega) hll hsz ?_
    intro a9 c9 w9 o9 g9 _
    have HCM:=HS.out q hq.out
    obtain ⟨ys,hys⟩:∃ ys,Hid (ts++[q]=ys):=⟨_,rfl⟩
    rw [hys.out] at o9 HCM ⊢
    have hw9:Within W.heap.size wr.heap.size W3 w9:=Within.of_grown g9 (fun j hj=>⟨(o3.row.lt j hj).1,o3.blk j hj⟩)
    have hs9:=hw9.size
    have hn9:Below w.heap.size w w9:=hn3.trans (hw9.below (by omega) (by omega))
    have k29:=k23.within hw9 (by omega)
    have k09:=k03.within hw9 (by omega)
    have k19:=k13.within hw9 (by omega)
    refine hK.out _ _ (HSS.out _ hn9 k09) (fun hHeld=>?_)
    clear hK K hw9 g9 o3 r3 hqo3 k23 k03 k13
    try simp only [zz]
    refine tq 10 (v:=.pointer (some ⟨w.heap.size+1+1,0,none⟩)) rfl hHeld ?_
    try simp only [zz]
    have m0:=k29.cell 0 _ rfl
    have mf0:=k29.frozen 0
    obtain ⟨WF,hWF,kF,hwF,hsF⟩:=box_set k29 0 (.slice a9 ys.length c9)
    simp only [List.set] at kF
    have hsFa:=Nat.le_of_eq hsF
    have hsFb:=Nat.le_of_eq hsF.symm
    clear hsF
    have k0F:=k09.within hwF (by omega)
    have k1F:=k19.within hwF (by omega)
    have oF:=(o9.within hwF (.inr (by omega))).widen (Nat.le_refl _) hsFb (Nat.le_refl _)
    have hnF:Below w.heap.size w WF:=hn9.trans (hwF.below (by omega) (by omega))
    clear hwF k29 k09 k19 o9
    refine wpAnyH_ready (rs:=[11]) (by kernel_rfl) (by simp) ?_
    refine AllReadyH.cons rfl (fun K hK=>?_) AllReadyH.nil
    go_simp
    rw [hWF.out]
    refine hK.out _ _ (HSS.out _ hnF k0F) (fun hHeld=>?_)
    clear hK K
    try simp only [zz]
    refine wpAnyH_done (by kernel_rfl) ?_ _
    clear m0 mf0 hWF
    go_wp2_with fail
    go_roundw
    case rel=>exact ⟨k+1,ys,a9,c9,by omega,by go_num,HCM,kF,k0F,k1F,oF,hnF,by omega⟩
    case measure=>simp [intOf];omega
   ·go_simp
    refine C.mono ?_
    clear C
    rintro e u2 ⟨q,rfl,hq,hqo,hb2⟩
    have hb2':Below wr.heap.size wr u2:=hnd.trans hb2
    have hn2:Below w.heap.size w u2:=hnx.trans (hb2'.mono hnw)
    have k22:=k2.below hb2' k2.lt
    have k02:=k0.below hb2' k0.lt
    have k12:=k1.below hb2' k1.lt
    have o2:=hown.below hb2'
    have hqo2:q.own u2 wr.heap.size u2.heap.size:=hqo
    have hs2:=hb2'.size
    refine hK.out _ _ (HSS.out _ hn2 k02) (fun hHeld=>?_)
    clear hK K
    try simp only [zz]
    refine wpAnyH_ready (rs:=[1,8]) (by kernel_rfl) (by simp) ?_
    refine AllReadyH.cons rfl (fun K hK=>?_) (AllReadyH.cons rfl (fun K hK=>?_) AllReadyH.nil)
    ·have d0:=k22.cell 0 _ rfl
     go_simp
     refine hK.out _ _ (hHeld) (fun hHeld=>?_)
     clear hK K
     try simp only [zz]
     refine wpAnyH_ready (rs:=[8]) (by kernel_rfl) (by simp) ?_
     refine AllReadyH.cons rfl (fun K hK=>?_) AllReadyH.nil
     go_simp
     simp only [cellsSt_len,lit_seat,not_true_eq_false,Nat.lt_irrefl,or_self,if_false]
     go_simp
     obtain ⟨W3,hW3,b3,hb3,hs3⟩:=boxes1 u2 q.cells 114
     rw [hW3.out]
     have hn3:Below w.heap.size w W3:=hn2.trans (hb3.mono hn2.size)
     have k23:=k22.below hb3 k22.lt
     have k03:=k02.below hb3 k02.lt
     have k13:=k12.below hb3 k12.lt
     have o3:=o2.below hb3
     have hqo3:=hqo2.below hb3
     have r3:W3.rangeAt u2.heap.size 0 q.cells:=Box.range [] q.cells [] (by simpa using b3)
     have hs3':=b3.lt
     clear hs3 hb3 hW3 b3 k02 k12 o2 hqo2
     refine hK.out _ _ (HSS.out _ hn3 k03) (fun hHeld=>?_)
     clear hK K
     try simp only [zz]
     have hll:ts.length+1≤68719476736:=by have:=HL.out;omega
     refine wpAnyH_ready (rs:=[9]) (by kernel_rfl) (by simp) ?_
     refine AllReadyH.cons rfl (fun K hK=>?_) AllReadyH.nil
     refine step_append_seat rfl (.tmp 16) (.tmp 23) rfl W.heap.size wr.heap.size a' c' ts rfl o3 u2.heap.size 0 1 q rfl r3 wr.heap.size u2.heap.size hqo3 (Nat.le_refl _) (by omega) hll hsz ?_
     intro a9 c9 w9 o9 g9 _
     have HCM:=HS.out q hq.out
     obtain ⟨ys,hys⟩:∃ ys,Hid (ts++[q]=ys):=⟨_,rfl⟩
     rw [hys.out] at o9 HCM ⊢
     have hw9:Within W.heap.size wr.heap.size W3 w9:=Within.of_grown g9 (fun j hj=>⟨(o3.row.lt j hj).1,o3.blk j hj⟩)
     have hs9:=hw9.size
     have hn9:Below w.heap.size w w9:=hn3.trans (hw9.below (by omega) (by omega))
     have k29:=k23.within hw9 (by omega)
     have k09:=k03.within hw9 (by omega)
     have k19:=k13.within hw9 (by omega)
     refine hK.out _ _ (HSS.out _ hn9 k09) (fun hHeld=>?_)
     clear hK K hw9 g9 o3 r3 hqo3 k23 k03 k13
     try simp only [zz]
     refine tq 10 (v:=.pointer (some ⟨w.heap.size+1+1,0,none⟩)) rfl hHeld ?_
     try simp only [zz]
     have m0:=k29.cell 0 _ rfl
     have mf0:=k29.frozen 0
     obtain ⟨WF,hWF,kF,hwF,hsF⟩:=box_set k29 0 (.slice a9 ys.length c9)
     simp only [List.set] at kF
     have hsFa:=Nat.le_of_eq hsF
     have hsFb:=Nat.le_of_eq hsF.symm
     clear hsF
     have k0F:=k09.within hwF (by omega)
     have k1F:=k19.within hwF (by omega)
     have oF:=(o9.within hwF (.inr (by omega))).widen (Nat.le_refl _) hsFb (Nat.le_refl _)
     have hnF:Below w.heap.size w WF:=hn9.trans (hwF.below (by omega) (by omega))
     clear hwF k29 k09 k19 o9
     refine wpAnyH_ready (rs:=[11]) (by kernel_rfl) (by simp) ?_
     refine AllReadyH.cons rfl (fun K hK=>?_) AllReadyH.nil
     go_simp
     rw [hWF.out]
     refine hK.out _ _ (HSS.out _ hnF k0F) (fun hHeld=>?_)
     clear hK K
     try simp only [zz]
     refine wpAnyH_done (by kernel_rfl) ?_ _
     clear m0 mf0 hWF
     go_wp2_with fail
     go_roundw
     case rel=>exact ⟨k+1,ys,a9,c9,by omega,by go_num,HCM,kF,k0F,k1F,oF,hnF,by omega⟩
     case measure=>simp [intOf];omega
    ·go_simp
     simp only [cellsSt_len,lit_seat,not_true_eq_false,Nat.lt_irrefl,or_self,if_false]
     go_simp
     obtain ⟨W3,hW3,b3,hb3,hs3⟩:=boxes1 u2 q.cells 114
     rw [hW3.out]
     have hn3:Below w.heap.size w W3:=hn2.trans (hb3.mono hn2.size)
     have k23:=k22.below hb3 k22.lt
     have k03:=k02.below hb3 k02.lt
     have k13:=k12.below hb3 k12.lt
     have o3:=o2.below hb3
     have hqo3:=hqo2.below hb3
     have r3:W3.rangeAt u2.heap.size 0 q.cells:=Box.range [] q.cells [] (by simpa using b3)
     have hs3':=b3.lt
     clear hs3 hb3 hW3 b3 k02 k12 o2 hqo2
     refine hK.out _ _ (HSS.out _ hn3 k03) (fun hHeld=>?_)
     clear hK K
     try simp only [zz]
     have d0:=k23.cell 0 _ rfl
     refine wpAnyH_ready (rs:=[1]) (by kernel_rfl) (by simp) ?_
     refine AllReadyH.cons rfl (fun K hK=>?_) AllReadyH.nil
     go_simp
     refine hK.out _ _ (hHeld) (fun hHeld=>?_)
     clear hK K
     try simp only [zz]
     have hll:ts.length+1≤68719476736:=by have:=HL.out;omega
     refine wpAnyH_ready (rs:=[9]) (by kernel_rfl) (by simp) ?_
     refine AllReadyH.cons rfl (fun K hK=>?_) AllReadyH.nil
     refine step_append_seat rfl (.tmp 16) (.tmp 23) rfl W.heap.size wr.heap.size a' c' ts rfl o3 u2.heap.size 0 1 q rfl r3 wr.heap.size u2.heap.size hqo3 (Nat.le_refl _) (by omega) hll hsz ?_
     intro a9 c9 w9 o9 g9 _
     have HCM:=HS.out q hq.out
     obtain ⟨ys,hys⟩:∃ ys,Hid (ts++[q]=ys):=⟨_,rfl⟩
     rw [hys.out] at o9 HCM ⊢
     have hw9:Within W.heap.size wr.heap.size W3 w9:=Within.of_grown g9 (fun j hj=>⟨(o3.row.lt j hj).1,o3.blk j hj⟩)
     have hs9:=hw9.size
     have hn9:Below w.heap.size w w9:=hn3.trans (hw9.below (by omega) (by omega))
     have k29:=k23.within hw9 (by omega)
     have k09:=k03.within hw9 (by omega)
     have k19:=k13.within hw9 (by omega)
     refine hK.out _ _ (HSS.out _ hn9 k09) (fun hHeld=>?_)
     clear hK K hw9 g9 o3 r3 hqo3 k23 k03 k13
     try simp only [zz]
     refine tq 10 (v:=.pointer (some ⟨w.heap.size+1+1,0,none⟩)) rfl hHeld ?_
     try simp only [zz]
     have m0:=k29.cell 0 _ rfl
     have mf0:=k29.frozen 0
     obtain ⟨WF,hWF,kF,hwF,hsF⟩:=box_set k29 0 (.slice a9 ys.length c9)
     simp only [List.set] at kF
     have hsFa:=Nat.le_of_eq hsF
     have hsFb:=Nat.le_of_eq hsF.symm
     clear hsF
     have k0F:=k09.within hwF (by omega)
     have k1F:=k19.within hwF (by omega)
     have oF:=(o9.within hwF (.inr (by omega))).widen (Nat.le_refl _) hsFb (Nat.le_refl _)
     have hnF:Below w.heap.size w WF:=hn9.trans (hwF.below (by omega) (by omega))
     clear hwF k29 k09 k19 o9
     refine wpAnyH_ready (rs:=[11]) (by kernel_rfl) (by simp) ?_
     refine AllReadyH.cons rfl (fun K hK=>?_) AllReadyH.nil
     go_simp
     rw [hWF.out]
     refine hK.out _ _ (HSS.out _ hnF k0F) (fun hHeld=>?_)
     clear hK K
     try simp only [zz]
     refine wpAnyH_done (by kernel_rfl) ?_ _
     clear m0 mf0 hWF
     go_wp2_with fail
     go_roundw
     case rel=>exact ⟨k+1,ys,a9,c9,by omega,by go_num,HCM,kF,k0F,k1F,oF,hnF,by omega⟩
     case measure=>simp [intOf];omega
  ·have HE:Hid (ts.map SeatA.v=rs.map SeatA.v):=by
    have e:k=rs.length:=by omega
    rw [e] at hc
    exact hc.out.all
   have e0:=k2.cell 0 _ rfl
   have e1:=k2.cell 1 _ rfl
   have m0:=k1.cell 0 _ rfl
   have m1:=k1.cell 1 _ rfl
   have mf0:=k1.frozen 0
   have mf1:=k1.frozen 1
   obtain ⟨WF,hWF,bF,hwF,hsF⟩:=box2_fill k1 (.slice a' ts.length c') (.int .i64 s)
   have q0:=bF.cell 0 _ rfl
   have q1:=bF.cell 1 _ rfl
   have hoF:=(hown.within hwF (.inr (by omega))).widen (show w.heap.size≤W.heap.size by omega) (show wr.heap.size≤WF.heap.size by omega) (Nat.le_refl _)
   have hbF:Below w.heap.size w WF:=hnx.trans (hwF.below (by omega) (by have:=hnx.size;omega))
   clear hwF hsF bF
   go_wp2
   rw [hWF.out]
   exact bodyPost_ret (v:=.agg #[.slice a' ts.length c',.int .i64 s]) (by simp [results,Tryz.results87,go_sem,q0,q1]) rfl ⟨⟨ts,s,a',c'⟩,rfl,by simp only [Hid,PoolA.v];rw [HE.out],hoF,hbF⟩
end Go.Proofs.YtnoeobahjbdoiaaGreatDoor
namespace Go.Proofs.YtnoeobahjbdoiaaGreatDoor
open Go.RowKit
theorem implClean_any (p:PoolA) (n:Int) (w:World) (hr:p.reads w) (hl:p.short 1048576):
  Calls Tryz.prog 139 #[.agg p.cells.toArray,.int .i64 n] w fun e w'=>∃ t:PoolA,e=.returned (.agg t.cells.toArray)∧Hid (t.v=cleanOf p.v n)∧t.own w' w.heap.size w'.heap.size∧Below w.heap.size w w':=by
 obtain ⟨W,hW,b0,b1,hbW,hsW⟩:=boxes2 w [.slice p.a p.seats.length p.c,.int .i64 p.hand] [.slice none 0 0,.int .i64 0] 52 52
 have hs0:w.heap.size+1<W.heap.size:=by omega
 have p0:=b0.cell 0 _ rfl
 have p1:=b0.cell 1 _ rfl
 have C:=copyPool_any p W (PoolA.reads.below hr hbW) hl
 simp only [PoolA.cells] at*
 clear hsW
 go_enter Tryz.func139,Tryz.ntmps139
 go_upto_region 1 with fail
 rw [hW.out]
 clear hW
 go_wp2_with fail
 refine C.mono ?_
 clear C p0 p1
 rintro e w1 ⟨t,rfl,hv,ho,hb1⟩
 have hs1:=hb1.size
 have b01:=b0.below hb1 b0.lt
 have b11:=b1.below hb1 b1.lt
 obtain ⟨W2,hW2,b2,hb2,hs2⟩:=boxes1 w1 [.slice t.a t.seats.length t.c,.int .i64 t.hand] 52
 have b02:=b01.below hb2 b01.lt
 have b12:=b11.below hb2 b11.lt
 have o2:=ho.below hb2
 have n2:Below w.heap.size w W2:=(hbW.trans (hb1.mono (by omega))).trans (hb2.mono (by omega))
 have hs2':=b2.lt
 clear b0 b1 b01 b11 ho hb1 hb2 hs2 hbW
 go_upto_region 2 with fail
 rw [hW2.out]
 clear hW2
 have p0:=b02.cell 0 _ rfl
 have p1:=b02.cell 1 _ rfl
 have C:=implSeated_any p n W2 (PoolA.reads.below hr n2) (PoolA.short_wide hl)
 simp only [PoolA.cells] at C
 have HV:Hid (t.v=p.v):=hv.out
 have HUS:Hid (∀ q:PoolA,q.v=p.v→cleanOf q.v n=cleanOf p.v n):=fun q h=>by rw [h]
 clear hv
 go_wp2_with fail
 refine C.mono ?_
 clear C p0 p1
 rintro e w3 ⟨rfl,hb3⟩
 have hs3:=hb3.size
 have b13:=b12.below hb3 b12.lt
 have b23:=b2.below hb3 b2.lt
 have o3:=o2.below hb3
 have n3:Below w.heap.size w w3:=n2.trans (hb3.mono n2.size)
 clear b02 b12 b2 o2 n2 hb3
 rcases seated_cases p.v.seats n with ⟨k,hk,_,_,hsk⟩ | ⟨_,hsk⟩
 ·have HVK:Hid (cleanOf p.v n=setSeatV p.v k cleanV):=by
   rw [Hid,cleanOf,if_pos (by rw [hsk];omega),hsk]
   rfl
  have hkt:k<t.seats.length:=by
   have e:=congrArg (fun v=>v.seats.length) HV.out
   simp only [PoolA.v,List.length_map] at e hk
   omega
  rw [hsk]
  clear hsk hk HUS
  obtain ⟨ts,hand,a,c⟩:=t
  simp only [PoolA.own] at*
  obtain ⟨g,rfl⟩:∃ g,a=some ⟨g,0,none⟩:=by
   rcases o3.row.2 with ⟨_,h0⟩ | ⟨g,cap',cur,hv,_⟩
   ·omega
   ·simp only [Value.slice.injEq] at hv;exact ⟨g,hv.1⟩
  have hgl:=(o3.blocks_lt g (by simp [blocksSts,Value.ownBlock]))
  have hkl:(ts.take k).length=k:=by rw [List.length_take];omega
  have osp:=o3
  rw [seatD_split ts k hkt] at osp
  obtain ⟨o4,t4⟩:=osp.cellSet (z':={ ts.getD k zeroSt with dirty:=false }) 18 (.bool false) (by omega) rfl rfl
  rw [hkl,← seat_set ts k _ hkt] at o4
  rw [hkl] at t4
  have x19:=(row_seat o3.row rfl k hkt).1 18 _ rfl
  have f19:=o3.row.frozenAt (k*20+18)
  have y0:=b23.cell 0 _ rfl
  have hkk:(k:Int)<(ts.length:Int):=by omega
  have hk0:(0:Int)≤(k:Int):=by omega
  obtain ⟨W4,hW4⟩:∃ W4,Hid (w3.setCell ⟨g,k*20+18,none⟩ (.bool false)=W4):=⟨_,rfl⟩
  have HW4:=hW4.out
  rw [HW4] at o4 t4
  have hs4:=t4.size
  have b14:=b13.touch t4 (by simp;omega)
  have b24:=b23.touch t4 (by simp;omega)
  have n4:Below w.heap.size w W4:=n3.trans ((t4.within (lo:=W.heap.size) (hi:=w1.heap.size) (fun j hj=>by obtain rfl:=List.mem_singleton.1 hj;exact hgl)).below (by omega) (by omega))
  have e0:=b24.cell 0 _ rfl
  have e1:=b24.cell 1 _ rfl
  have m0:=b14.cell 0 _ rfl
  have m1:=b14.cell 1 _ rfl
  have mf0:=b14.frozen 0
  have mf1:=b14.frozen 1
  obtain ⟨WF,hWF,bF,hwF,hsF⟩:=box2_fill b14 (.slice (some ⟨g,0,none⟩) ts.length c) (.int .i64 hand)
  have q0:=bF.cell 0 _ rfl
  have q1:=bF.cell 1 _ rfl
  have hoF:=(o4.within hwF (.inr (by omega))).widen (show w.heap.size≤W.heap.size by omega) (show w1.heap.size≤WF.heap.size by omega) (Nat.le_refl _)
  have hbF:Below w.heap.size w WF:=n4.trans (hwF.below (by omega) (by omega))
  have HFIN:Hid (PoolA.v ⟨ts.set k { ts.getD k zeroSt with dirty:=false },hand,some ⟨g,0,none⟩,c⟩=cleanOf p.v n):=by
   rw [Hid,HVK.out,← HV.out,setSeatV]
   simp only [PoolA.v,List.map_set,seatV_at]
   rfl
  have HLN:Hid ((ts.set k { ts.getD k zeroSt with dirty:=false }).length=ts.length):=by rw [Hid];simp
  clear hwF hsF bF o3 osp t4 b13 b23 b14 b24 HW4 hkl HVK HV o4
  generalize ts.set k { ts.getD k zeroSt with dirty:=false }=us at*
  go_upto_region 5 with fail
  rw [hW4.out]
  clear hW4 x19 f19 y0
  go_wp2_with fail
  rw [hWF.out]
  exact bodyPost_ret (v:=.agg #[.slice (some ⟨g,0,none⟩) ts.length c,.int .i64 hand]) (by simp [results,Tryz.results139,go_sem,q0,q1]) rfl ⟨⟨us,hand,some ⟨g,0,none⟩,c⟩,by simp only [HLN.out],HFIN,hoF,hbF⟩
 ·have HVK:Hid (t.v=cleanOf p.v n):=by
   rw [Hid,cleanOf,if_neg (by rw [hsk];omega)]
   exact HV.out
  rw [hsk]
  clear hsk HUS HV
  have e0:=b23.cell 0 _ rfl
  have e1:=b23.cell 1 _ rfl
  have m0:=b13.cell 0 _ rfl
  have m1:=b13.cell 1 _ rfl
  have mf0:=b13.frozen 0
  have mf1:=b13.frozen 1
  obtain ⟨WF,hWF,bF,hwF,hsF⟩:=box2_fill b13 (.slice t.a t.seats.length t.c) (.int .i64 t.hand)
  have q0:=bF.cell 0 _ rfl
  have q1:=bF.cell 1 _ rfl
  have hoF:=(PoolA.own.within o3 hwF (.inr (by omega))).widen (show w.heap.size≤W.heap.size by omega) (show w1.heap.size≤WF.heap.size by omega) (Nat.le_refl _)
  have hbF:Below w.heap.size w WF:=n3.trans (hwF.below (by omega) (by omega))
  clear hwF hsF bF o3 b13 b23
  go_wp2_with fail
  rw [hWF.out]
  exact bodyPost_ret (v:=.agg #[.slice t.a t.seats.length t.c,.int .i64 t.hand]) (by simp [results,Tryz.results139,go_sem,q0,q1]) rfl ⟨t,rfl,HVK,hoF,hbF⟩
theorem runFlush_any (M:Nat) (m:Int) (E:Nat) (e:EngA) (n:Nat) (w:World) (h:RunAt M m w E e) (hp:e.v.poolOk) (hls:e.poolA.short 1048576) (hsure:e.log.sure≤e.log.recs.length) (h8:n<8):
  Calls Tryz.prog 80 #[.pointer (some ⟨E,0,none⟩),.int .i64 n] w fun r w'=>(∃ v,r=.returned v)∧∃ e',Hid (e'.v=flushV e.v n)∧RunStep M m E e w e' w':=by
 have HIQ:Hid (_=_):=pool_info e.poolA
 have r0:=h.rangePoolR
 have C1:=implSeated_any e.poolA n w h.own.poolR (PoolA.short_wide hls)
 go_enter Tryz.func80,Tryz.ntmps80
 go_wp2_with (first | (guard_target=wpList _ _ _ (Oper.mk (some 9) _ _ _ _ _::_) _ _;refine wpList_load_mid rfl 52 (.tmp 8) rfl E 136 rfl _ _ r0 Tryz.underlying52 rfl HIQ.out ?_) | fail)
 refine C1.mono ?_
 clear C1 r0
 rintro r w1 ⟨rfl,hb1⟩
 have a1:=h.below hb1
 have e0:e.v.seats=e.seats.map SeatA.v:=rfl
 have e00:e.poolA.v.seats=e.seats.map SeatA.v:=rfl
 rw [e00]
 clear e00
 rcases seated_casesE (e.seats.map SeatA.v) n with hs | ⟨k,hs,hk,hno⟩
 ·have HF:Hid (flushV e.v n=e.v):=by rw [Hid,flushV,e0,hs,if_neg (by omega)]
  rw [hs]
  clear hs e0
  go_wp2
  (try simp only [Exit.inBlock,Exit.then])
  refine bodyPost_ret (results_none rfl _ _ _) rfl ?_
  exact ⟨⟨_,rfl⟩,e,HF.out.symm,(EngStepG.refl h).below hb1⟩
 ·rw [List.length_map] at hk
  rw [seatV_at] at hno
  obtain ⟨g,hg⟩:∃ g,e.aS=some ⟨g,0,none⟩:=by
   rcases a1.own.pool.row.2 with ⟨_,h0⟩ | ⟨g,cap',cur,hv,_⟩
   ·omega
   ·simp only [Value.slice.injEq] at hv;exact ⟨g,hv.1⟩
  have x0:w1.cell? ⟨E,136,none⟩=some (.slice (some ⟨g,0,none⟩) e.seats.length e.cS):=by rw [← hg];exact a1.cellR 0 _ rfl
  have ho:=a1.own.pool
  rw [hg] at ho
  have r1:=(row_seat ho.row rfl k hk).1
  have y1:=r1 18 _ (show (e.seats.getD k zeroSt).cells[18]? =some (.bool (e.seats.getD k zeroSt).dirty) from rfl)
  have hkk:(k:Int)<(e.seats.length:Int):=by omega
  have hk0:(0:Int)≤(k:Int):=by omega
  have hmem:=seatD_mem e.seats k hk
  have oz:=ho.each _ hmem
  have HB:Hid (E∉(e.seats.getD k zeroSt).blocks):=fun hm=>a1.off (EngA.mem_pool (List.mem_append.2 (.inr (List.mem_flatMap.2 ⟨_,hmem,hm⟩))))
  have HFIT:Hid (Fit (e.seats.getD k zeroSt).ss):=fit_of (hp.fitS (e.seats.getD k zeroSt).v (List.mem_map_of_mem hmem))
  obtain ⟨z,hz⟩:∃ z,Hid (e.seats.getD k zeroSt=z):=⟨_,rfl⟩
  rw [hz.out] at r1 y1 oz HB HFIT hno
  have HS:Hid (seatedOf (e.seats.map SeatA.v) n=(k:Int)):=hs
  rw [hs]
  clear hs ho hmem
  cases hdi:z.dirty with
  | false=>
   have HF:Hid (flushV e.v n=e.v):=by rw [Hid,flushV,e0,HS.out,Int.toNat_natCast,seatV_at,hz.out,if_neg (fun hh=>by have h1:z.dirty=true:=hh.2;rw [hdi] at h1;cases h1)]
   rw [hdi] at y1
   clear hdi e0 HS
   go_wp2
   (try simp only [Exit.inBlock,Exit.then])
   refine bodyPost_ret (results_none rfl _ _ _) rfl ?_
   exact ⟨⟨_,rfl⟩,e,HF.out.symm,(EngStepG.refl h).below hb1⟩
  | true=>
   have HF:Hid (flushV e.v n={ writeV e.v z.v with seats:=(e.seats.map SeatA.v).set k (washV z.v) }):=by rw [Hid,flushV,e0,HS.out,Int.toNat_natCast,seatV_at,hz.out,if_pos ⟨by omega,hdi⟩]
   rw [hdi] at y1
   have C2:=runWrite_any M m E e z w1 a1 hsure n hno h8 (fun u hu=>(oz.touch hu (fun j hj hm=>HB.out (by rw [← List.mem_singleton.1 hm];exact hj))).reads) HFIT.out
   have HS2:Hid (seatedOf (e.seats.map SeatA.v) n=(k:Int)):=HS.out
   clear hdi e0 HS hno oz HB HFIT
   go_wp2_with (first | (guard_target=wpList _ _ _ (Oper.mk (some 36) _ _ _ _ _::_) _ _;refine wpList_load_mid rfl 114 (.tmp 35) rfl g (k*20) rfl z.cells _ r1 Tryz.underlying114 rfl (seat_info z) ?_) | fail)
   refine C2.mono ?_
   clear C2 r1 y1 x0
   rintro r w2 ⟨⟨v2,rfl⟩,e2,he2,_,s2⟩
   have S2:RunStep M m E e w e2 w2:=EngStepG.after hb1 s2
   have hv2:e2.seats.map SeatA.v=e.seats.map SeatA.v:=v_seats he2.out
   have hls2:e2.poolA.short 1048576:=PoolA.short_of (l:=e.poolA) (t:=e2.poolA) (by simp only [PoolA.v,PoolV.mk.injEq];exact ⟨hv2,congrArg EngV.hand he2.out⟩) hls
   have r2:=S2.at'.rangePoolR
   have HI2:Hid (_=_):=pool_info e2.poolA
   have C3:=implClean_any e2.poolA n w2 S2.at'.own.poolR hls2
   go_wp2_with (first | (guard_target=wpList _ _ _ (Oper.mk (some 43) _ _ _ _ _::_) _ _;refine wpList_load_mid rfl 52 (.tmp 42) rfl E 136 rfl _ _ r2 Tryz.underlying52 rfl HI2.out ?_) | fail)
   refine C3.mono ?_
   clear C3 r2
   rintro r w3 ⟨t,rfl,ht,ot,hb3⟩
   obtain ⟨W3,hW3,HT3,st3⟩:=S2.at'.poolSetR t hb3 ot
   have HEND:Hid (∃ e',Hid (e'.v=flushV e.v n)∧RunStep M m E e w e' W3):=by
    refine ⟨_,?_,S2.trans st3⟩
    have e5:e2.poolA.v=⟨e.seats.map SeatA.v,e2.hand⟩:=by simp only [PoolA.v,EngA.poolA,hv2]
    have e6:t.v=⟨(e.seats.map SeatA.v).set k (washV z.v),e2.hand⟩:=by
     rw [ht.out,e5,cleanOf]
     simp only [HS2.out]
     rw [if_pos (by omega),setSeatV,Int.toNat_natCast,seatV_at,hz.out]
     rfl
    have e7:t.seats.map SeatA.v=(e.seats.map SeatA.v).set k (washV z.v):=congrArg PoolV.seats e6
    have e8:t.hand=e2.hand:=congrArg PoolV.hand e6
    have e4:(e2.withPool t.seats t.a t.c t.hand).v={ e2.v with seats:=(e.seats.map SeatA.v).set k (washV z.v) }:=by
     simp only [EngA.v,EngA.withPool,e7,e8]
    rw [Hid,e4,HF.out,he2.out]
   have HIt:Hid (_=_):=pool_info t
   clear ot hb3 st3 S2 s2 HF he2 ht hv2 hls2
   go_wp2_with (first | (guard_target=wpList _ _ _ (Oper.mk none (Op.store _ (Operand.tmp 48) _) _ _ _ _::_) _ _;refine wpList_store_mid rfl 52 (.tmp 48) (.tmp 45) rfl E 136 (t.cells).toArray rfl rfl HT3.out (by rw [List.size_toArray];exact HIt.out) (pool_one t) ?_) | fail)
   rw [hW3.out]
   go_end0
   exact ⟨⟨_,rfl⟩,HEND.out⟩
end Go.Proofs.YtnoeobahjbdoiaaGreatDoor
namespace Go.Proofs.YtnoeobahjbdoiaaGreatDoor
open Go.RowKit
theorem implFlush_any (e:EngA) (no:Int) (se:e.shape) (w:World) (hg:ErrT w) (re:e.reads w) (hl:e.short 1048576) (hc:e.caps):
  Calls Tryz.prog 25 #[.agg e.cells.toArray,.int .i64 no] w fun r w'=>EngOne (flushAns e.v no) w r w':=by
 obtain ⟨Z,hZ⟩:∃ Z,Hid (zeroE=Z):=⟨_,rfl⟩
 have sZ:Z.shape:=by rw [← hZ.out];exact zeroE_shape
 have HZ:=Tryz.zeroEng
 rw [hZ.out] at HZ
 obtain ⟨W,hW,b0,bR,hbW,hsW⟩:=boxes2 w e.cells Z.cells 59 59
 have HB:Hid (∀ u,Below W.heap.size W u→Box u w.heap.size e.cells 59):=fun u hu=>b0.below hu b0.lt
 have HBR:Hid (∀ u,Below W.heap.size W u→Box u (w.heap.size+1) Z.cells 59):=fun u hu=>bR.below hu bR.lt
 have HR:Hid (∀ u,Below W.heap.size W u→e.reads u):=fun u hu=>(re.below hbW).below hu
 have HEND:Hid (∀ u,Below W.heap.size W u→Below w.heap.size w u):=fun u hu=>hbW.trans (hu.mono hbW.size)
 have HG:Hid (∀ u,Below W.heap.size W u→ErrT u):=fun u hu=>hg.keep (hbW.trans (hu.mono hbW.size))
 have hw0:w.heap.size+1<W.heap.size:=by omega
 have N0:Below W.heap.size W W:=Below.refl _ _
 have HIe:=eng_info se
 have r0:W.rangeAt w.heap.size 0 e.cells:=Box.range [] e.cells [] (by simpa using HB.out _ N0)
 have FIN:Hid (∀ (D:EngA) (u:World),D.shape→Below W.heap.size W u→D.own u W.heap.size u.heap.size→∃ WF,Hid (u.setCells (w.heap.size+1) 0 D.cells.toArray.toList=WF)∧Hid (u.there (w.heap.size+1) 0 D.cells.toArray.size)∧Hid ((loadVar 59 ⟨w.heap.size+1,0,none⟩).run Tryz.prog WF=.ok (.agg D.cells.toArray) WF)∧Hid (D.own WF w.heap.size WF.heap.size∧Below w.heap.size w WF)):=fun D u sD hu od=>by
  obtain ⟨WF,hWF,hwF,hsF,HTF,bF⟩:=eng_out sD sZ (HBR.out u hu)
  exact ⟨WF,hWF,HTF,eng_load sD bF,(od.within hwF (.inr (by omega))).widen (by omega) (by omega) (Nat.le_refl _),(HEND.out _ hu).trans (hwF.below (by omega) (by have:=hu.size;omega))⟩
 have D0:Below W.heap.size W W.drew:=N0.drew
 have HRG:Hid (∀ u,Below W.heap.size W u→u.rangeAt w.heap.size 0 e.cells):=fun u hu=>Box.range [] e.cells [] (by simpa using HB.out _ hu)
 have C0:=pageNoOk_any no W.drew
 have C:=refusal_any e (inB no 0 7) se W.drew (HG.out _ D0) (HR.out _ D0) hl
 clear b0 bR hsW r0
 go_enter Tryz.func25,Tryz.ntmps25
 go_upto_region 1 with (first | (guard_target=wpList _ _ _ (Oper.mk _ (Op.alloc _) _ _ _ _::_) _ _;refine alloc_of 59 Z.cells HZ ?_) | fail)
 rw [hW.out]
 clear hW
 refine wp_region_held_drew (S:=fun u=>u.rangeAt w.heap.size 0 e.cells) (by kernel_rfl) (HRG.out _ D0) (fun hHeld=>?_)
 generalize W.drew=d0 at*
 refine tk 0 rfl (yieldsIf_load_mid (by rfl) _ _ rfl _ _ rfl (e.cells) _ (fun _ h=>h) Tryz.underlying59 rfl HIe) hHeld ?_
 try simp only [zz]
 refine tq 1 (v:=.int .i64 no) rfl hHeld ?_
 try simp only [zz]
 refine wpAnyH_ready (rs:=[2]) (by kernel_rfl) (by simp) ?_
 refine AllReadyH.cons rfl (fun K hK=>?_) AllReadyH.nil
 go_simp
 refine C0.mono ?_
 clear C0
 rintro r dd ⟨rfl,rfl⟩
 refine hK.out _ _ (HRG.out _ D0) (fun hHeld=>?_)
 clear hK K
 try simp only [zz]
 refine wpAnyH_ready (rs:=[3]) (by kernel_rfl) (by simp) ?_
 refine AllReadyH.cons rfl (fun K hK=>?_) AllReadyH.nil
 go_simp
 refine C.mono ?_
 clear C
 rintro r d1 ⟨rfl,hb⟩
 have N1:Below W.heap.size W d1:=D0.trans (hb.mono D0.size)
 clear hb
 refine hK.out _ _ (HRG.out _ N1) (fun hHeld=>?_)
 clear hK K
 try simp only [zz]
 refine tq 4 (v:=.int .i64 (refuseV e.v (inB no 0 7))) rfl hHeld ?_
 try simp only [zz]
 refine wpAnyH_done (by kernel_rfl) ?_ _
 clear hHeld
 have r1:d1.rangeAt w.heap.size 0 e.cells:=HRG.out _ N1
 by_cases hz:refuseV e.v (inB no 0 7)=0
 rotate_left
 ·have HV:Hid (flushAns e.v no=(e.v,refuseV e.v (inB no 0 7))):=by rw [Hid,flushAns,if_pos hz]
  have hzb:(refuseV e.v (inB no 0 7) == 0)=false:=by simpa using hz
  have C:=copyEngine_any e se d1 (HR.out _ N1) hl hc
  generalize refuseV e.v (inB no 0 7)=RV at*
  go_wp2_with (first | (guard_target=wpList _ _ _ (Oper.mk (some 14) _ _ _ _ _::_) _ _;refine wpList_load_mid rfl 59 (.tmp 2) rfl w.heap.size 0 rfl (e.cells) _ (r1) Tryz.underlying59 rfl HIe ?_) | fail)
  refine C.mono ?_
  clear C r1
  rintro r d2 ⟨t,rfl,st,hv,ot,hb⟩
  have N2:Below W.heap.size W d2:=N1.trans (hb.mono N1.size)
  obtain ⟨WF,hWF,HTF,HLF,HE⟩:=FIN.out t d2 st N2 (ot.widen (by have:=N1.size;omega) (Nat.le_refl _) (Nat.le_refl _))
  have HIt:=eng_info st
  have HOt:=all_oneCell_toArray (oneE t)
  clear hb ot
  go_wp2_with (first | (guard_target=wpList _ _ _ (Oper.mk none (Op.store _ (Operand.tmp 4) _) _ _ _ _::_) _ _;refine wpList_store_mid rfl 59 (.tmp 4) (.tmp 15) rfl (w.heap.size+1) 0 (t.cells).toArray rfl rfl HTF.out (by rw [List.size_toArray];exact HIt) HOt ?_) | fail)
  rw [hWF.out]
  exact bodyPost_ret (v:=.tuple #[.agg t.cells.toArray,.int .i64 RV]) (results_cell_one Tryz.results25 rfl HLF.out rfl) rfl ⟨t,by rw [HV.out],st,by rw [HV.out];exact hv,HE.out.1,HE.out.2⟩
 have hok:=refuse_okA hz
 have HCO:Hid (ClaimsOk (claimsTo e.holds e.holds.length) e.holds):=okEng_holds hok
 have HNO:Hid (∃ m:Nat,no=m∧m<8):=by
  have h1:inB no 0 7=true:=by
   cases hi:inB no 0 7 with
   | true=>rfl
   | false=>rw [hi] at hz;unfold refuseV at hz;simp at hz
  have h2:0≤no∧no≤7:=by simpa [inB] using h1
  exact ⟨no.toNat,by omega,by omega⟩
 have HV:Hid (flushAns e.v no=(flushV e.v no.toNat,0)):=by rw [Hid,flushAns,if_neg (fun q=>q hz)]
 have HOK:Hid (okEng e.v=true):=hok
 have C:=run_any e se d1 (HR.out _ N1) hl hc
 have hlH:=hl.holds
 rw [hz]
 clear hok hz
 go_wp2_with (first | (guard_target=wpList _ _ _ (Oper.mk (some 17) _ _ _ _ _::_) _ _;refine wpList_load_mid rfl 59 (.tmp 2) rfl w.heap.size 0 rfl (e.cells) _ (r1) Tryz.underlying59 rfl HIe ?_) | fail)
 refine C.mono ?_
 clear C r1
 rintro r d2 ⟨t,M,R,rfl,st,hv,ot,hMR,hRl,hM,hm,bR,hb⟩
 have N2:Below W.heap.size W d2:=N1.trans (hb.mono N1.size)
 have z1:=N1.size
 have z2:=hb.size
 clear hb
 obtain ⟨m,rfl,hm8⟩:=HNO.out
 have hlt:=EngA.short_of hv.out hl
 have hokt:okEng t.v=true:=by rw [hv.out];exact HOK.out
 have C:=runFlush_any M (e.holds.length:Int) R t m d2 (runAt_of st ot hMR bR) (okEng_pool st hokt hlt) hlt.pool (by have:=okEng_sure hokt;simpa [EngA.v,LogA.v] using this) hm8
 clear hlt hokt HNO
 rw [Int.toNat_natCast] at HV
 go_wp2_with fail
 refine C.mono ?_
 clear C bR
 rintro r d3 ⟨⟨v3,rfl⟩,s,hvs,s3⟩
 have C:=restStep_any W d1 d2 d3 M R e.holds t s ot hMR hM hm s3 HCO.out hlH N2 z1 z2
 clear ot hm s3
 go_wp2_with fail
 refine C.mono ?_
 clear C
 rintro r d4 ⟨D,rfl,sD,hvD,oD,N4⟩
 obtain ⟨WF,hWF,HTF,HLF,HE⟩:=FIN.out D d4 sD N4 oD
 have HVD:Hid (D.v=(flushAns e.v (m:Int)).1):=by
  rw [Hid,HV.out,hvD.out,hvs.out,hv.out]
  show ({ flushV e.v m with holds:=e.holds }:EngV)=flushV e.v m
  have e1:(flushV e.v m).holds=e.holds:=by unfold flushV;split<;>rfl
  rw [← e1]
 have HID:=eng_info sD
 have HOD:=all_oneCell_toArray (oneE D)
 clear oD
 go_wp2_with (first | (guard_target=wpList _ _ _ (Oper.mk none (Op.store _ (Operand.tmp 4) _) _ _ _ _::_) _ _;refine wpList_store_mid rfl 59 (.tmp 4) (.tmp 23) rfl (w.heap.size+1) 0 (D.cells).toArray rfl rfl HTF.out (by rw [List.size_toArray];exact HID) HOD ?_) | fail)
 rw [hWF.out]
 exact bodyPost_ret (v:=.tuple #[.agg D.cells.toArray,.int .i64 0]) (results_cell_one Tryz.results25 rfl HLF.out rfl) rfl ⟨D,by rw [HV.out],sD,HVD,HE.out.1,HE.out.2⟩
end Go.Proofs.YtnoeobahjbdoiaaGreatDoor