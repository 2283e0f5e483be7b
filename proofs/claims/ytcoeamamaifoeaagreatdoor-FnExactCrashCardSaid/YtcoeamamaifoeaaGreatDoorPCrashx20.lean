/- Several texts in one, in their order. -/
import Derived.Test.YtcoeamamaifoeaaGreatDoorPCrashx11
import Derived.Test.YtcoeamamaifoeaaGreatDoorPCrashx10
import Derived.Test.YtcoeamamaifoeaaGreatDoorPCrashx6
import Derived.Test.YtcoeamamaifoeaaGreatDoorPCrashx15
import Derived.Test.YtcoeamamaifoeaaGreatDoorPCrashx7
import Derived.Deep.RegionLaw
import Derived.Deep.DrawnRows
import Derived.Test.YtcoeamamaifoeaaGreatDoorPCrashx3
import Derived.Test.YtcoeamamaifoeaaGreatDoorPCrashx12
import Derived.Test.YtcoeamamaifoeaaGreatDoorPCrashx2
import Derived.Test.YtcoeamamaifoeaaGreatDoorPCrashx19
import Derived.Test.YtcoeamamaifoeaaGreatDoorPCrashx13
import Derived.Test.YtcoeamamaifoeaaGreatDoorPCrashx18
import Derived.Test.YtcoeamamaifoeaaGreatDoorPCrashx9
import Derived.Deep.MidRow
import Derived.Deep.RegionHeld3
import Derived.Test.YtcoeamamaifoeaaGreatDoorPCrashx16
import Derived.Test.YtcoeamamaifoeaaGreatDoorPCrashx1
set_option maxHeartbeats 8000000
set_option maxRecDepth 100000
namespace Go.Proofs.YtcoeamamaifoeaaGreatDoor
open Go.RowKit
theorem run_append_seat {w:World} (ty:TypeId) (lo hi:Nat) (a:Option Addr) (c:Nat) (rs:List SeatA) (hown:OwnSts w lo hi a c rs)
  (b off:Nat) (sc:Nat) (q:SeatA) (hr:w.rangeAt b off q.cells) (l u:Nat) (hq:q.own w l u) (hl:hi≤l) (hu:u≤w.heap.size)
  (hb:rs.length+1≤68719476736) (hlo:lo≤hi):
  ∃ a' c' w',(Builtin.append_ #[49,49] ty #[.slice a rs.length c,.slice (some ⟨b,off,none⟩) 1 sc]).run Tryz.prog w=.ok (.slice a' (rs++[q]).length c') w'∧OwnSts w' lo w'.heap.size a' c' (rs++[q])∧w.grownBy w' (Value.slice a rs.length c).ownBlock∧
   (∀ k,(Value.slice a' (rs++[q]).length c').ownBlock=some k→(Value.slice a rs.length c).ownBlock=some k∨k=w.heap.size):=by
 obtain ⟨i0,hi0,hz0,hz1,hz2⟩:=info_parts Tryz.infoSeat
 have hqb:=hq.blocks_lt
 have htop:=hown.top
 obtain ⟨v',w',hrun,h1,h2,_,h5⟩:=run_append_own_at (P:=Tryz.prog) w lo 49 ty 103 i0 (.agg zeroSt.cells.toArray) 20 280 Tryz.underlying49 hi0 hz0 hz1 hz2 rfl (by decide) _ _ _ hown.row ⟨b,off,none⟩ 1 sc q.cells (by rfl) (by
  intro j v hj
  rw [Addr_add]
  exact hr j v hj) (oneSt q) (by simp only [maxLen];omega) (by omega) (by omega)
 have e:cellsSts rs++q.cells=cellsSts (rs++[q]):=by rw [cellsSts_app,cellsSts_cons];simp [cellsSts]
 have e2:rs.length+1=(rs++[q]).length:=by simp
 rw [e,e2] at h1
 have sh:∃ a' c',v'=.slice a' (rs++[q]).length c':=by
  rcases h1.2 with ⟨rfl,h0⟩ | ⟨g,cap,cur,rfl,_⟩
  ·simp at h0
  ·exact ⟨_,_,rfl⟩
 obtain ⟨a',c',rfl⟩:=sh
 have hsz:=h2.size
 have ht:Touch (Value.slice a rs.length c).ownBlock.toList w w':=Touch.of_grown h2 (fun k hk=>Option.mem_toList.2 hk)
 have hrow:=h1.lt
 have hold:∀ r∈rs,r.own w' lo w'.heap.size:=fun r hr=>((hown.each r hr).touch ht (fun k hk hk'=>(List.nodup_append.1 hown.apart).2.2 k hk' k (List.mem_flatMap.2 ⟨r,hr,hk⟩) rfl)).widen (Nat.le_refl _) (by omega) (Nat.le_refl _)
 have hnew:q.own w' lo w'.heap.size:=(hq.touch ht (fun k hk hk'=>by have:=hqb k hk;have:=hown.blk k (Option.mem_toList.1 hk');omega)).widen (by omega) (by omega) (Nat.le_refl _)
 refine ⟨a',c',w',hrun,⟨h1,Nat.le_refl _,fun k hk=>(hrow k hk).2,fun r hr=>?_,?_⟩,h2,fun k hk=>h5.elim (fun h5=>.inl (by rw [← h5];exact hk)) (fun h5=>by rw [h5] at hk;exact .inr (Option.some.inj hk).symm)⟩
 ·rcases List.mem_append.1 hr with hr | hr
  ·exact hold r hr
  ·obtain rfl:=List.mem_singleton.1 hr
   exact hnew
 ·rw [List.flatMap_append,List.nodup_append,List.nodup_append]
  have hap:=(List.nodup_append.1 hown.apart).2.1
  have hin:∀ x∈rs.flatMap SeatA.blocks,lo≤x∧x<hi:=fun x hx=>by
   obtain ⟨r,hr,hx⟩:=List.mem_flatMap.1 hx
   exact (hown.each r hr).blocks_lt x hx
  refine ⟨by cases (Value.slice a' (rs++[q]).length c').ownBlock<;>simp,⟨hap,by simpa using hq.apart,fun x hx y hy e=>?_⟩,fun x hx y hy e=>?_⟩
  ·have:=hin x hx
   simp only [List.flatMap_cons,List.flatMap_nil,List.append_nil] at hy
   have:=hqb y hy
   omega
  ·have hx':=Option.mem_toList.1 hx
   subst e
   rcases List.mem_append.1 hy with hy | hy
   ·obtain ⟨r,hr,hy⟩:=List.mem_flatMap.1 hy
    exact rowSt_apart h1 (hold r hr) x hx' hy
   ·simp only [List.flatMap_cons,List.flatMap_nil,List.append_nil] at hy
    exact rowSt_apart h1 hnew x hx' hy
theorem step_append_seat {w:World} {ops:Array Oper} {o:Oper} {act:Act} {K:Act→World→Prop} {Q:Exit→Act→World→Prop} {E:Prop} (hgd:o.guard=none) (s x:Operand)
  (ho:o.op=.call { callee:=.builtin .append,args:=#[s,x],argTypes:=#[49,49] })
  (lo hi:Nat) (a:Option Addr) (c:Nat) (rs:List SeatA) (hs:act.eval s=.slice a rs.length c) (hown:OwnSts w lo hi a c rs)
  (b off:Nat) (sc:Nat) (q:SeatA) (hx:act.eval x=.slice (some ⟨b,off,none⟩) 1 sc) (hr:w.rangeAt b off q.cells) (l u:Nat) (hq:q.own w l u) (hl:hi≤l) (hu:u≤w.heap.size)
  (hb:rs.length+1≤68719476736) (hlo:lo≤hi)
  (h:∀ a' c' w',OwnSts w' lo w'.heap.size a' c' (rs++[q])→w.grownBy w' (Value.slice a rs.length c).ownBlock→(∀ k,(Value.slice a' (rs++[q]).length c').ownBlock=some k→(Value.slice a rs.length c).ownBlock=some k∨k=w.heap.size)→K (act.put o.dst (.slice a' (rs++[q]).length c')) w'):
  if Region.wanted o (yielded ops act.tmps)=true then Oper.wp Tryz.prog o act w K Q else E:=by
 have hw:Region.wanted o (yielded ops act.tmps)=true:=by simp [Region.wanted,hgd]
 rw [if_pos hw]
 obtain ⟨a',c',w',hrun,h2,h3,h4⟩:=run_append_seat (w:=w) o.type lo hi a c rs hown b off sc q hr l u hq hl hu hb hlo
 unfold Oper.wp
 simp [execOp,ho,resolve,invoke,builtin,hs,hx,hrun,Result.andThen]
 have:=h a' c' w' h2 h3 h4
 rw [List.length_append,List.length_singleton] at this
 exact this
end Go.Proofs.YtcoeamamaifoeaaGreatDoor
namespace Go.Proofs.YtcoeamamaifoeaaGreatDoor
open Go.RowKit
attribute [local go_sem ↓] Go.wp_at_zero Go.wp_at_succ
structure Brought (lo B o:Nat) (vs:List Value) (t:TypeId) (a:Option Addr) (c:Nat) (ss:List SeatA) (w w':World) (ts:List SeatA) (a':Option Addr) (c' hand':Nat) (old:SeatA):Prop where
 pool:PoolAt w' lo w'.heap.size B o ((vs.set o (.slice a' ts.length c')).set (o+1) (.int .i64 hand')) t a' c' ts hand'
 fresh:∀ k∈blocksSts a' c' ts,k∈blocksSts a c ss∨w.heap.size≤k
 touch:Touch (B::blocksSts a c ss) w w'
 went:old.own w' lo w'.heap.size
 wentB:∀ k∈old.blocks,k∈blocksSts a c ss
theorem PoolAt.below {w w':World} {lo hi B o:Nat} {vs:List Value} {t:TypeId} {a:Option Addr} {c:Nat} {ss:List SeatA} {hand:Int} (h:PoolAt w lo hi B o vs t a c ss hand) (hb:Below w.heap.size w w'):PoolAt w' lo hi B o vs t a c ss hand:=
 ⟨h.box.below hb h.box.lt,h.c0,h.c1,h.own.below hb,h.off⟩
end Go.Proofs.YtcoeamamaifoeaaGreatDoor
namespace Go.Proofs.YtcoeamamaifoeaaGreatDoor
open Go.RowKit
theorem seatFrom_at (ss:List SeatV):∀ (no:Int) (b k:Nat),k<ss.length→(ss.getD k zeroStV).no=no→(∀ j,j<k→(ss.getD j zeroStV).no≠no)→seatFrom no ss b=((b+k:Nat):Int):=by
 induction ss with
 | nil=>intro no b k h;simp at h
 | cons s r ih=>
  intro no b k hk he hn
  rw [seatFrom]
  cases k with
  | zero=>simp only [List.getD_cons_zero] at he;rw [if_pos he];simp
  | succ k=>
   have h0:=hn 0 (by omega)
   simp only [List.getD_cons_zero] at h0
   simp only [List.getD_cons_succ] at he
   rw [if_neg h0,ih no (b+1) k (by simpa using hk) he (fun j hj=>by have:=hn (j+1) (by omega);simpa using this)]
   omega
theorem seatFrom_none (ss:List SeatV):∀ (no:Int) (b:Nat),(∀ j,j<ss.length→(ss.getD j zeroStV).no≠no)→seatFrom no ss b= -1:=by
 induction ss with
 | nil=>intro no b _;rfl
 | cons s r ih=>
  intro no b hn
  have h0:=hn 0 (by simp)
  simp only [List.getD_cons_zero] at h0
  rw [seatFrom,if_neg h0,ih no (b+1) (fun j hj=>by have:=hn (j+1) (by simpa using hj);simpa using this)]
theorem seated_at {ss:List SeatV} {no:Int} {k:Nat} (hk:k<ss.length) (he:(ss.getD k zeroStV).no=no) (hn:∀ j,j<k→(ss.getD j zeroStV).no≠no):seatedOf ss no=k:=by
 have:=seatFrom_at ss no 0 k hk he hn
 simpa [seatedOf] using this
theorem seated_none {ss:List SeatV} {no:Int} (hn:∀ j,j<ss.length→(ss.getD j zeroStV).no≠no):seatedOf ss no= -1:=seatFrom_none ss no 0 hn
theorem seated_cases (ss:List SeatV) (no:Int):(∃ k:Nat,k<ss.length∧(ss.getD k zeroStV).no=no∧(∀ j,j<k→(ss.getD j zeroStV).no≠no)∧seatedOf ss no=k)∨((∀ j,j<ss.length→(ss.getD j zeroStV).no≠no)∧seatedOf ss no= -1):=by
 by_cases h:∃ k,k<ss.length∧(ss.getD k zeroStV).no=no
 ·have hm:∃ k,(k<ss.length∧(ss.getD k zeroStV).no=no)∧∀ j,j<k→¬ (j<ss.length∧(ss.getD j zeroStV).no=no):=by
   obtain ⟨k,hk⟩:=h
   induction k using Nat.strongRecOn with
   | _ k ih=>
    by_cases h2:∃ j,j<k∧(j<ss.length∧(ss.getD j zeroStV).no=no)
    ·obtain ⟨j,hj,hp⟩:=h2
     exact ih j hj hp
    ·exact ⟨k,hk,fun j hj hp=>h2 ⟨j,hj,hp⟩⟩
  obtain ⟨k,⟨h1,h2⟩,h3⟩:=hm
  have h4:∀ j,j<k→(ss.getD j zeroStV).no≠no:=fun j hj e=>h3 j hj ⟨by omega,e⟩
  exact .inl ⟨k,h1,h2,h4,seated_at h1 h2 h4⟩
 ·have h2:∀ j,j<ss.length→(ss.getD j zeroStV).no≠no:=fun j hj e=>h ⟨j,hj,e⟩
  exact .inr ⟨h2,seated_none h2⟩
def seatB (s:SeatV):Bool:=inB s.no 0 7 && okP s.lsn s.ss
def freshAt (ss:List SeatV) (i:Nat):Bool:=seatB (ss.getD i zeroStV) && decide (seatedOf ss (ss.getD i zeroStV).no=i)
def okPool (p:PoolV):Bool:=decide (p.seats.length≤3) && (inB p.hand 0 2 && (List.range p.seats.length).all (freshAt p.seats))
theorem okPool_long {p:PoolV} (h:¬ p.seats.length≤3):okPool p=false:=by simp [okPool,h]
theorem okPool_hand {p:PoolV} (h:inB p.hand 0 2=false):okPool p=false:=by simp [okPool,h]
theorem okPool_no {p:PoolV} (k:Nat) (hk:k<p.seats.length) (h:freshAt p.seats k=false):okPool p=false:=by
 have:(List.range p.seats.length).all (freshAt p.seats)=false:=by
  rw [List.all_eq_false]
  exact ⟨k,List.mem_range.2 hk,by simp [h]⟩
 simp [okPool,this]
theorem okPool_yes {p:PoolV} (h1:p.seats.length≤3) (h2:inB p.hand 0 2=true) (h:∀ k,k<p.seats.length→freshAt p.seats k=true):okPool p=true:=by
 have:(List.range p.seats.length).all (freshAt p.seats)=true:=by
  rw [List.all_eq_true]
  exact fun k hk=>h k (List.mem_range.1 hk)
 simp [okPool,this,h1,h2]
theorem okPool_iff {p:PoolV} (h:okPool p=true):p.seats.length≤3∧inB p.hand 0 2=true∧∀ k,k<p.seats.length→freshAt p.seats k=true:=by
 simp only [okPool,Bool.and_eq_true,decide_eq_true_eq,List.all_eq_true] at h
 exact ⟨h.1,h.2.1,fun k hk=>h.2.2 k (List.mem_range.2 hk)⟩
theorem fresh_bad {ss:List SeatV} {i:Nat} (h:seatB (ss.getD i zeroStV)=false):freshAt ss i=false:=by simp only [freshAt,h,Bool.false_and]
theorem fresh_dup {ss:List SeatV} {i k:Nat} (hk:k<i) (hi:i<ss.length) (he:(ss.getD k zeroStV).no=(ss.getD i zeroStV).no):freshAt ss i=false:=by
 have:seatedOf ss (ss.getD i zeroStV).no≠(i:Int):=by
  rcases seated_cases ss (ss.getD i zeroStV).no with ⟨j,h1,h2,h3,h4⟩ | ⟨h1,_⟩
  ·rw [h4]
   intro e
   have:j=i:=by omega
   subst this
   exact h3 k hk he
  ·exact absurd rfl (h1 i hi)
 rw [freshAt,decide_eq_false this,Bool.and_false]
theorem fresh_yes {ss:List SeatV} {i:Nat} (hi:i<ss.length) (hb:seatB (ss.getD i zeroStV)=true) (h:∀ k,k<i→(ss.getD k zeroStV).no≠(ss.getD i zeroStV).no):freshAt ss i=true:=by
 have:=seated_at hi rfl h
 rw [freshAt,hb,decide_eq_true this]
 rfl
def ofTx (tx:Int) (r:RecV):Bool:=(r.tx == tx) && (r.kind != 6)
def chainDown (tx:Int) (rs:List RecV):Nat→List Int
 | 0=>[]
 | k+1=>(if ofTx tx (rs.getD k zeroR.v)=true then [(rs.getD k zeroR.v).lsn] else [])++chainDown tx rs k
def chainOf (l:LogV) (tx:Int):List Int:=chainDown tx l.recs l.recs.length
theorem recD_v (rs:List RecA) (k:Nat):(rs.map RecA.v).getD k zeroR.v=(rs.getD k zeroR).v:=by
 simp only [List.getD,List.getElem?_map]
 cases rs[k]? <;>rfl
theorem chain_step (tx:Int) (rs:List RecA) (k:Nat) (L R:List Int) (h:L++chainDown tx (rs.map RecA.v) (k+1)=R):
  (if ofTx tx (rs.getD k zeroR).v=true then L++[(rs.getD k zeroR).lsn] else L)++chainDown tx (rs.map RecA.v) k=R:=by
 rw [chainDown,recD_v] at h
 by_cases hq:ofTx tx (rs.getD k zeroR).v=true
 ·rw [if_pos hq] at h ⊢;rw [← h,List.append_assoc];rfl
 ·rw [if_neg hq] at h ⊢;rw [← h];rfl
theorem readsI_cell (w:World) (m:Int) (t:TypeId):ReadsI (w.alloc (.cells #[.int .i64 m] t)) (some ⟨w.heap.size,0,none⟩) [m]:=by
 intro _
 refine ⟨w.heap.size,0,rfl,fun i hi=>?_⟩
 have hi0:i=0:=by simp at hi;omega
 subst hi0
 exact (box_new w [.int .i64 m] t).cell 0 _ rfl
theorem all_no {n:Nat} {f:Nat→Bool} (k:Nat) (hk:k<n) (h:f k=false):(List.range n).all f=false:=by
 rw [List.all_eq_false];exact ⟨k,List.mem_range.2 hk,by rw [h];decide⟩
theorem all_yes {n:Nat} {f:Nat→Bool} (h:∀ k,k<n→f k=true):(List.range n).all f=true:=by
 rw [List.all_eq_true];exact fun k hk=>h k (List.mem_range.1 hk)
theorem all_at {n:Nat} {f:Nat→Bool} (h:(List.range n).all f=true) (k:Nat) (hk:k<n):f k=true:=by
 rw [List.all_eq_true] at h;exact h k (List.mem_range.2 hk)
def zpgV:Int × List SlotV:=(0,[])
def diskAt (e:EngV) (i:Nat):Bool:=okP (e.disk.getD i zpgV).1 (e.disk.getD i zpgV).2 && decide ((e.disk.getD i zpgV).1≤e.log.sure)
def diskB (e:EngV):Bool:=(List.range 8).all (diskAt e)
def seatAt (e:EngV) (i:Nat):Bool:=decide ((e.seats.getD i zeroStV).lsn≤(e.log.recs.length:Int)) && ((e.seats.getD i zeroStV).dirty || samePg ((e.seats.getD i zeroStV).lsn,(e.seats.getD i zeroStV).ss) (e.disk.getD (e.seats.getD i zeroStV).no.toNat zpgV))
def seatsB (e:EngV):Bool:=(List.range e.seats.length).all (seatAt e)
def nextAt (e:EngV) (i:Nat):Bool:=decide ((e.log.recs.getD i zeroR.v).tx<e.next)
def nextB (e:EngV):Bool:=(List.range e.log.recs.length).all (nextAt e)
def txAt (e:EngV) (i:Nat):Bool:=inB (e.txs.getD i zeroL).tx 1 (e.next-1) && (!(e.txs.getD i zeroL).aborts && (decide ((e.txs.getD i zeroL).last=lastOf e.log.recs (e.txs.getD i zeroL).tx) && (decide (i=0) || decide ((e.txs.getD (i-1) zeroL).tx<(e.txs.getD i zeroL).tx))))
def txsB (e:EngV):Bool:=(List.range e.txs.length).all (txAt e)
def freshH (hs:List HoldV) (i:Nat):Bool:=(List.range i).all fun k=>decide ((hs.getD k zeroH).oid≠(hs.getD i zeroH).oid)
def holdAt (e:EngV) (i:Nat):Bool:=inB (e.holds.getD i zeroH).oid 1 31 && (decide (0≤liveOf e.txs (e.holds.getD i zeroH).tx) && freshH e.holds i)
def holdsB (e:EngV):Bool:=(List.range e.holds.length).all (holdAt e)
def bareB (e:EngV):Bool:=decide (e.seats.length=0) && (decide (e.txs.length=0) && decide (e.holds.length=0))
def okTxs (e:EngV):Bool:=txsB e && (holdsB e && decide (e.txs.length≤6))
def EngV.poolV (e:EngV):PoolV:=⟨e.seats,e.hand⟩
def okEng (e:EngV):Bool:=okLog e.log && (okPool e.poolV && (inB e.next 1 1001 && (okTxs e && (nextB e && (diskB e && (seatsB e && (!e.down || bareB e)))))))
theorem diskV_at {e:EngA} (h:e.shape) (i:Nat) (hi:i<8):e.v.disk.getD i zpgV=((e.disk.getD i zeroP).lsn,(e.disk.getD i zeroP).ss.map (·.v)):=by
 have hi':i<e.disk.length:=by rw [h.eight];exact hi
 simp [EngA.v,List.getD,hi']
theorem check_tx {r:RecV} (h:okR r=true) (hk:r.kind=6):r.tx=0:=by
 by_cases hz:r.tx=0
 ·exact hz
 ·exfalso
  simp [okR,hk,zeroB,hz] at h
theorem last_chain {l:LogV} (hl:okLog l=true) (tx:Int) (ht:1≤tx):∀ k,k≤l.recs.length→(chainDown tx l.recs k).headD 0=lastFrom tx l.recs k:=by
 obtain ⟨_,_,_,hall⟩:=okLog_yes hl
 intro k
 induction k with
 | zero=>intro _;rfl
 | succ k ih=>
  intro hk
  obtain ⟨h1,h2⟩:=hall k (by omega)
  have e:l.recs.getD k zeroR.v=l.recs.getD k noR:=rfl
  rw [chainDown,lastFrom,e]
  by_cases hx:(l.recs.getD k noR).tx=tx
  ·have hk6:(l.recs.getD k noR).kind≠6:=fun h6=>by have:=check_tx h2 h6;omega
   have ho:ofTx tx (l.recs.getD k noR)=true:=by simp only [ofTx,Bool.and_eq_true,beq_iff_eq,bne_iff_ne];exact ⟨hx,hk6⟩
   rw [if_pos ho,if_pos hx]
   exact h1
  ·have ho:¬ ofTx tx (l.recs.getD k noR)=true:=by simp only [ofTx,Bool.and_eq_true,beq_iff_eq];exact fun h=>hx h.1
   rw [if_neg ho,if_neg hx,List.nil_append]
   exact ih (by omega)
theorem last_head {l:LogV} (hl:okLog l=true) (tx:Int) (ht:1≤tx):(chainOf l tx).headD 0=lastOf l.recs tx:=last_chain hl tx ht _ (Nat.le_refl _)
theorem okEng_next {e:EngV} {k:Nat} (hk:k<e.log.recs.length) (h:nextAt e k=false):okEng e=false:=by
 have:nextB e=false:=all_no k hk h
 simp [okEng,this]
theorem okEng_disk {e:EngV} {k:Nat} (hk:k<8) (h:diskAt e k=false):okEng e=false:=by
 have:diskB e=false:=all_no k hk h
 simp [okEng,this]
theorem okEng_seat {e:EngV} {k:Nat} (hk:k<e.seats.length) (h:seatAt e k=false):okEng e=false:=by
 have:seatsB e=false:=all_no k hk h
 simp [okEng,this]
theorem okEng_all {e:EngV} (h1:okLog e.log=true) (h2:okPool e.poolV=true) (h3:inB e.next 1 1001=true) (h4:okTxs e=true) (h5:∀ k,k<e.log.recs.length→nextAt e k=true) (h6:∀ k,k<8→diskAt e k=true) (h7:∀ k,k<e.seats.length→seatAt e k=true):okEng e=(!e.down || bareB e):=by
 have a:nextB e=true:=all_yes h5
 have b:diskB e=true:=all_yes h6
 have c:seatsB e=true:=all_yes h7
 simp [okEng,h1,h2,h3,h4,a,b,c]
theorem seat_no {e:EngV} (h:okPool e.poolV=true) (k:Nat) (hk:k<e.seats.length):∃ n:Nat,(e.seats.getD k zeroStV).no=n∧n<8:=by
 obtain ⟨_,_,h3⟩:=okPool_iff h
 have:=h3 k hk
 simp only [freshAt,seatB,Bool.and_eq_true] at this
 have hb:=this.1.1
 simp only [inB,decide_eq_true_eq] at hb
 exact ⟨(e.seats.getD k zeroStV).no.toNat,(Int.toNat_of_nonneg hb.1).symm,by have h2:=hb.2;have h1:=hb.1;show (e.poolV.seats.getD k zeroStV).no.toNat<8;omega⟩
theorem seat_rngE {w:World} {a:Option Addr} {ss:List SeatA} (h:ReadsSts w a ss) (k:Nat) (hk:k<ss.length):∃ b off,a=some ⟨b,off,none⟩∧(∀ j,j<ss.length→w.rangeAt b (off+j*20) (ss.getD j zeroSt).cells∧ReadsS w (ss.getD j zeroSt).ss):=by
 obtain ⟨b,off,ha,hh⟩:=h (by intro e;rw [e] at hk;simp at hk)
 exact ⟨b,off,ha,fun j hj=>hh j hj⟩
def mkB (bs:List Bool):List Value:=bs.map Value.bool++List.replicate (4-bs.length) (.bool false)
theorem mkB_set (bs:List Bool) (b:Bool) (h:bs.length<4):(mkB bs).set bs.length (.bool b)=mkB (bs++[b]):=by
 unfold mkB
 rw [List.set_append_right _ _ (by simp)]
 have e:4-bs.length=(4-(bs++[b]).length)+1:=by simp;omega
 rw [e,List.replicate_succ]
 simp
theorem mkB_len (bs:List Bool) (h:bs.length≤4):(mkB bs).length=4:=by simp [mkB];omega
theorem mkB_some (bs:List Bool) (h:bs.length≤4) (k:Nat) (hk:k<4):∃ v,(mkB bs)[k]? =some v:=⟨_,List.getElem?_eq_getElem (by rw [mkB_len bs h];exact hk)⟩
def FourAns (bs:List Bool) (e:Ending):Prop:=∃ c0 c1 c2 c3:Bool,e=.returned (.agg #[.bool c0,.bool c1,.bool c2,.bool c3])∧bs=[c0,c1,c2,c3]
theorem take_snoc (ss:List SlotA) (q:SlotV→Bool) (k:Nat) (h:k<ss.length):(ss.take (k+1)).map (fun s=>q s.v)=(ss.take k).map (fun s=>q s.v)++[q (ss.getD k zeroS).v]:=by
 rw [List.take_add_one,List.map_append]
 simp [List.getD,h]
theorem markSlots_ok (p:PageA) (h4:p.ss.length=4) (w:World) (hg:ErrT w) (hr:ReadsS w p.ss) (hl:Fit p.ss):
  Calls Tryz.prog 137 #[.agg p.cells.toArray,.func (.func 138) #[] #[]] w fun e w'=>FourAns (p.ss.map (fun s=>slotB s.v)) e∧Below w.heap.size w w':=by
 obtain ⟨n,ss⟩:=p
 simp only [PageA.cells] at*
 obtain ⟨W,hW,b0,b1,b2,hbW,hsW⟩:=boxes3 w (.int .i64 n::cellsS ss) [.bool false,.bool false,.bool false,.bool false] [.bool false,.bool false,.bool false,.bool false] 47 168 168
 have b2':Box W (w.heap.size+1+1) (mkB []) 168:=b2
 have hsW':w.heap.size+1+1<W.heap.size:=by omega
 have hrg0:W.rangeAt w.heap.size 1 (cellsS ss):=Box.range [.int .i64 n] (cellsS ss) [] (by simpa using b0)
 have hi0:(Tryz.prog.info? 45).map (·.size)=some (cellsS ss).length:=by rw [cellsS_len,h4];kernel_rfl
 have HX:=run_index_slot ss h4
 have H4:Hid (ss.length=4):=h4
 clear b2 hsW h4
 go_enter Tryz.func137,Tryz.ntmps137
 go_wp2_with (first | (guard_target=wpList _ _ _ (Oper.mk (some 9) _ _ _ _ _::_) _ _;refine wpList_load_mid rfl 45 (.tmp 8) rfl w.heap.size 1 rfl (cellsS ss) _ (by rw [hW.out];exact hrg0) Tryz.underlying45 rfl hi0 ?_) | fail)
 rw [hW.out]
 clear hW hrg0 hi0
 go_loopw [10] (fun i wr=>∃ (k:Nat) (bs:List Bool),i=.int .i64 k∧k≤4∧Hid (bs.length=k∧bs=(ss.take k).map (fun s=>slotB s.v))∧Box wr (w.heap.size+1+1) (mkB bs) 168∧Below (w.heap.size+1+1) W wr)
  (fun i _=>4-(intOf i).toNat)
 case atStart=>exact ⟨0,[],rfl,by omega,⟨rfl,rfl⟩,b2',Below.refl _ _⟩
 case round=>
  obtain ⟨k,bs,rfl,hk,hbs,hbox,hbl⟩:=hrel
  clear b2'
  have b1r:=b1.below hbl (by omega)
  have hsr:=hbl.size
  by_cases hlt:k<4
  ·have hkl:k<ss.length:=by rw [H4.out];exact hlt
   have hx:=HX k hlt
   clear HX
   have hbs4:bs.length≤4:=by have:=hbs.out.1;omega
   have HV:Hid (_=_):=take_snoc ss (fun s=>slotB s) k hkl
   have hgr:=hg.keep (hbW.trans (hbl.mono (by omega)))
   have hrk:=(hr _ (getD_mem hkl)).below (hbW.trans (hbl.mono (by omega)))
   have hlk:Fit [ss.getD k zeroS]:=fun s hs=>by obtain rfl:=List.mem_singleton.1 hs;exact hl _ (getD_mem hkl)
   generalize ss.getD k zeroS=s at*
   simp only [SlotA.cells] at hx
   obtain ⟨W1,hW1,bx,hbx1,hsx1⟩:=boxes1 wr [.bool s.v.has,.int .i64 s.v.o.kind,.slice s.aI s.v.o.ints.length s.cI,.slice s.aR s.v.o.refs.length s.cR] 44
   have hsz:=hbox.lt
   have B1:Below (w.heap.size+1+1) W W1:=hbl.trans (hbx1.mono (by omega))
   go_wp2_with fail
   rw [hW1.out]
   clear hx
   refine (slotOk_any s W1 (hgr.keep hbx1) (hrk.below hbx1) hlk).mono ?_
   rintro e w2 ⟨rfl,hb2⟩
   have hs2:=hb2.size
   have bm2:=(hbox.below hbx1 hsz).below hb2 (by omega)
   obtain ⟨u,hu⟩:=mkB_some bs hbs4 k hlt
   have hc:=bm2.cell k u hu
   have hf:=bm2.frozen k
   obtain ⟨W3,hW3,b3,hw3,hs3⟩:=box_set bm2 k (.bool (slotB s.v))
   have b3':Box W3 (w.heap.size+1+1) (mkB (bs++[slotB s.v])) 168:=by
    have e:=mkB_set bs (slotB s.v) (by have:=hbs.out.1;omega)
    rw [hbs.out.1] at e
    rw [← e];exact b3
   have HB:Hid ((bs++[slotB s.v]).length=k+1∧bs++[slotB s.v]=(ss.take (k+1)).map (fun s=>slotB s.v)):=⟨by have:=hbs.out.1;simp;omega,by rw [HV.out,← hbs.out.2]⟩
   have B3:Below (w.heap.size+1+1) W W3:=(B1.trans (hb2.mono (by omega))).trans (hw3.below (Nat.le_refl _) (by omega))
   clear b3 bm2 hu HV
   go_wp2_with fail
   rw [hW3.out]
   go_roundw
   case rel=>exact ⟨k+1,bs++[slotB s.v],by go_num,by omega,HB,b3',B3⟩
   case measure=>simp [intOf];omega
  ·obtain rfl:k=4:=by omega
   have hkk:¬ ((4:Nat):Int)<4:=by omega
   have HQ:Hid (bs=ss.map (fun s=>slotB s.v)):=by rw [Hid,hbs.out.2,List.take_of_length_le (by rw [H4.out];omega)]
   obtain ⟨c0,c1,c2,c3,rfl⟩:∃ c0 c1 c2 c3,bs=[c0,c1,c2,c3]:=by
    match bs,hbs.out.1 with
    | [c0,c1,c2,c3],_=>exact ⟨c0,c1,c2,c3,rfl⟩
   have hbx:Box wr (w.heap.size+1+1) [.bool c0,.bool c1,.bool c2,.bool c3] 168:=hbox
   obtain ⟨x0,x1,x2,x3,_⟩:=hbx.four
   obtain ⟨y0,y1,y2,y3,f0,f1,f2,f3⟩:=b1r.four
   obtain ⟨WF,hWF,bF,hwF,hsF⟩:=box4_fill b1r (.bool c0) (.bool c1) (.bool c2) (.bool c3)
   have hbF:Below w.heap.size w WF:=(hbW.trans (hbl.mono (by omega))).trans (hwF.below (by omega) (by omega))
   clear hbox hbs
   go_wp2
   rw [hWF.out]
   obtain ⟨q0,q1,q2,q3,_⟩:=bF.four
   exact bodyPost_ret (v:=.agg #[.bool c0,.bool c1,.bool c2,.bool c3]) (by simp [results,Tryz.results137,go_sem,q0,q1,q2,q3]) rfl ⟨⟨c0,c1,c2,c3,rfl,HQ.out.symm⟩,hbF⟩
theorem okP_out {n:Int} {vs:List SlotV} (h:inB n 0 1000000=false):okP n vs=false:=by simp [okP,h]
theorem okP_four {n:Int} {ss:List SlotA} {c0 c1 c2 c3:Bool} (h:inB n 0 1000000=true) (hb:ss.map (fun s=>slotB s.v)=[c0,c1,c2,c3]):okP n (ss.map (·.v))=(c0 && (c1 && (c2 && c3))):=by
 have e:(ss.map (·.v)).map slotB=[c0,c1,c2,c3]:=by rw [List.map_map];exact hb
 have e2:∀ vs:List SlotV,vs.all slotB=(vs.map slotB).all id:=fun vs=>by induction vs with
  | nil=>rfl
  | cons v r ih=>rw [List.all_cons,List.map_cons,List.all_cons,← ih];rfl
 rw [okP,h,Bool.and_true,e2,e]
 simp
theorem run_eq4 (c0 c1 c2 c3:Bool) (w:World):(Op.equalIn 10000 168 (.agg #[.bool c0,.bool c1,.bool c2,.bool c3]) (.agg #[.bool true,.bool true,.bool true,.bool true])).run Tryz.prog w=.ok (c0 && (c1 && (c2 && c3))) w:=by
 cases c0<;>cases c1<;>cases c2<;>cases c3<;>kernel_rfl
theorem implPageOk_any (p:PageA) (h4:p.ss.length=4) (w:World) (hg:ErrT w) (hr:ReadsS w p.ss) (hl:Fit p.ss):
  Calls Tryz.prog 120 #[.agg p.cells.toArray] w fun e w'=>e=.returned (.bool (okP p.lsn (p.ss.map (·.v))))∧Below w.heap.size w w':=by
 obtain ⟨W,hW,b0,b1,hbW,hsW⟩:=boxes2 w p.cells [.bool true,.bool true,.bool true,.bool true] 47 168
 have hc0:∀ w',Below W.heap.size W w'→w'.cell? ⟨w.heap.size,0,none⟩=some (.int .i64 p.lsn):=fun w' hh=>(b0.below hh b0.lt).cell 0 _ rfl
 have hw0:=hc0 W (Below.refl _ _)
 cases hin:inB p.lsn 0 1000000 with
 | false=>
  have HF:Hid (okP p.lsn (p.ss.map (·.v))=false):=okP_out hin
  have hz:=inB_false hin
  clear hin hc0
  generalize okP p.lsn (p.ss.map (·.v))=R at*
  generalize p.lsn=n at*
  rcases hz with h1 | ⟨h1,h2⟩
  ·have h1':decide ((0:Int)≤n)=false:=decide_eq_false (by omega)
   clear h1
   go_enter Tryz.func120,Tryz.ntmps120
   go_wp2_with fail
   rw [hW.out]
   go_quiet (fail)
   go_wp2
   go_ret
   exact ⟨ret_bool HF.out.symm,below_drewN hbW _⟩
  ·have h1':decide ((0:Int)≤n)=true:=decide_eq_true (by omega)
   have h2':decide (n≤1000000)=false:=decide_eq_false (by omega)
   clear h1 h2
   go_enter Tryz.func120,Tryz.ntmps120
   go_wp2_with fail
   rw [hW.out]
   go_quiet (fail)
   go_wp2
   go_ret
   exact ⟨ret_bool HF.out.symm,below_drewN hbW _⟩
 | true=>
  obtain ⟨h1,h2⟩:=inB_true hin
  have h1':(0:Int)≤p.lsn:=by omega
  have h2':p.lsn≤1000000:=by omega
  have HIN:Hid (_=_):=hin
  have HRG:Hid (∀ w',Below W.heap.size W w'→w'.rangeAt w.heap.size 0 p.cells):=fun w' hh=>Box.range [] p.cells [] (by simpa using b0.below hh b0.lt)
  have HRA:Hid (∀ w',Below W.heap.size W w'→w'.rangeAt (w.heap.size+1) 0 [.bool true,.bool true,.bool true,.bool true]):=fun w' hh=>Box.range [] [.bool true,.bool true,.bool true,.bool true] [] (by simpa using b1.below hh b1.lt)
  have HI:Hid ((Tryz.prog.info? 47).map (·.size)=some p.cells.length):=by rw [Hid,page_len p h4];kernel_rfl
  clear hin h1 h2
  go_enter Tryz.func120,Tryz.ntmps120
  go_wp2_with fail
  rw [hW.out]
  refine wp_region_held_drew (S:=fun w'=>w'.cell? ⟨w.heap.size,0,none⟩=some (.int .i64 p.lsn)∧w'.rangeAt w.heap.size 0 p.cells∧w'.rangeAt (w.heap.size+1) 0 [.bool true,.bool true,.bool true,.bool true]) (by kernel_rfl) ?_ (fun hHeld=>?_)
  ·exact ⟨hc0 _ (Below.refl _ _).drew,HRG.out _ (Below.refl _ _).drew,HRA.out _ (Below.refl _ _).drew⟩
  have hd1:decide ((0:Int)≤p.lsn)=true:=decide_eq_true h1'
  have hd2:decide (p.lsn≤1000000)=true:=decide_eq_true h2'
  refine tk 0 (v:=.pointer (some ⟨w.heap.size,0,none⟩)) rfl (Or.inl ⟨by rfl,fun w' hw'=>?_⟩) hHeld ?_
  ·go_simp
  go_simp
  refine tk 1 (v:=.int .i64 p.lsn) rfl (Or.inl ⟨by rfl,fun w' hw'=>?_⟩) hHeld ?_
  ·have q:=hw'.1;go_simp
  go_simp
  refine tk 2 (v:=.bool true) rfl (Or.inl ⟨by rfl,fun w' hw'=>?_⟩) hHeld ?_
  ·go_simp
  go_simp
  refine tk 3 (v:=.bool true) rfl (Or.inl ⟨by rfl,fun w' hw'=>?_⟩) hHeld ?_
  ·go_simp
  go_simp
  refine tk 4 (v:=.pointer (some ⟨w.heap.size,0,none⟩)) rfl (Or.inl ⟨by rfl,fun w' hw'=>?_⟩) hHeld ?_
  ·go_simp
  go_simp
  refine tk 5 (v:=.int .i64 p.lsn) rfl (Or.inl ⟨by rfl,fun w' hw'=>?_⟩) hHeld ?_
  ·have q:=hw'.1;go_simp
  go_simp
  refine tk 6 (v:=.bool true) rfl (Or.inl ⟨by rfl,fun w' hw'=>?_⟩) hHeld ?_
  ·go_simp
  go_simp
  refine tk 7 (v:=.bool true) rfl (Or.inl ⟨by rfl,fun w' hw'=>?_⟩) hHeld ?_
  ·go_simp
  go_simp
  refine tk 8 (v:=.bool true) rfl (Or.inl ⟨by rfl,fun w' hw'=>?_⟩) hHeld ?_
  ·go_simp
  go_simp
  refine tk 9 rfl (yieldsIf_load_mid (by rfl) _ _ rfl _ _ rfl p.cells _ (fun _ h=>h.2.1) Tryz.underlying47 rfl HI.out) hHeld ?_
  go_simp
  refine tk 11 rfl (yieldsIf_load_mid (by rfl) _ _ rfl _ _ rfl [.bool true,.bool true,.bool true,.bool true] _ (fun _ h=>h.2.2) Tryz.underlying168 rfl (by kernel_rfl)) hHeld ?_
  go_simp
  refine wpAnyH_ready (rs:=[10]) (by kernel_rfl) (by simp) ?_
  refine AllReadyH.cons rfl (fun K hK=>?_) AllReadyH.nil
  go_simp
  refine (markSlots_ok p h4 _ (hg.keep hbW.drew) (hr.below hbW.drew) hl).mono ?_
  rintro e w2 ⟨⟨c0,c1,c2,c3,rfl,hcs⟩,hb2⟩
  have B2:Below W.heap.size W w2:=((Below.refl _ _).drew).trans hb2
  have HR:Hid (_=_):=okP_four HIN.out hcs
  clear hcs
  refine hK.out _ _ ⟨hc0 _ B2,HRG.out _ B2,HRA.out _ B2⟩ (fun hHeld=>?_)
  clear hK K
  refine tk 12 (v:=.bool (c0 && (c1 && (c2 && c3)))) rfl (Or.inl ⟨by rfl,fun w' hw'=>?_⟩) hHeld ?_
  ·have q:=run_eq4 c0 c1 c2 c3 w';go_simp
  go_simp
  generalize (c0 && (c1 && (c2 && c3)))=D at*
  refine tk 13 (v:=.bool D) rfl (Or.inl ⟨by rfl,fun w' hw'=>?_⟩) hHeld ?_
  ·go_simp
  go_simp
  refine tk 14 (v:=.bool D) rfl (Or.inl ⟨by rfl,fun w' hw'=>?_⟩) hHeld ?_
  ·go_simp
  go_simp
  refine wpAnyH_done (by kernel_rfl) ?_ _
  go_wp2
  go_ret
  exact ⟨ret_bool HR.out.symm,hbW.trans (B2.mono hbW.size)⟩
theorem implSeated_any (p:PoolA) (no:Int) (w:World) (hr:p.reads w) (hl:p.short 1099511627776):
  Calls Tryz.prog 121 #[.agg p.cells.toArray,.int .i64 no] w fun r w'=>r=.returned (.int .i64 (seatedOf p.v.seats no))∧Below w.heap.size w w':=by
 obtain ⟨ls,hand,a,c⟩:=p
 have hlen:=hl.len
 simp only [PoolA.cells,PoolA.reads,PoolA.v] at*
 obtain ⟨W,hW,b0,hbW,hsW⟩:=boxes1 w [.slice a ls.length c,.int .i64 hand] 51
 have HR:Hid (∀ u,Below W.heap.size W u→ReadsSts u a ls):=fun u hu=>hr.below (hbW.trans (hu.mono hbW.size))
 have HF:Hid (seatFrom no ((ls.map SeatA.v).drop 0) 0=seatedOf (ls.map SeatA.v) no):=rfl
 have HJ:Hid ((Tryz.prog.info? 103).map (·.size)=some 20):=by rw [Hid];kernel_rfl
 generalize seatedOf (ls.map SeatA.v) no=R at*
 clear hsW hr hl
 have x0:=b0.cell 0 _ rfl
 go_enter Tryz.func121,Tryz.ntmps121
 go_upto_region 1 with fail
 rw [hW.out]
 clear hW
 go_wp2_with fail
 clear x0 b0
 go_loopw [10] (fun i wr=>∃ (k:Nat),i=.int .i64 k∧k≤ls.length∧Hid (seatFrom no ((ls.map SeatA.v).drop k) k=R)∧Below W.heap.size W wr)
  (fun i _=>ls.length-(intOf i).toNat)
 case atStart=>exact ⟨0,rfl,by omega,HF,Below.refl _ _⟩
 case round=>
  obtain ⟨k,rfl,hk,hR,hbl⟩:=hrel
  have hrr:=HR.out wr hbl
  have hbT:Below w.heap.size w wr:=hbW.trans (hbl.mono hbW.size)
  by_cases hlt:k<ls.length
  ·obtain ⟨b,off,rfl,hcell⟩:=hrr (by rintro rfl;simp at hlt)
   have HRG:Hid (wr.rangeAt b (off+k*20) (ls.getD k zeroSt).cells):=(hcell k hlt).1
   clear hcell
   have hkk:(k:Int)<(ls.length:Int):=by omega
   have hi0:(0:Int)≤(k:Int):=by omega
   have HR2:Hid ((if (ls.getD k zeroSt).no=no then (k:Int) else seatFrom no ((ls.map SeatA.v).drop (k+1)) (k+1))=R):=by
    have h:=hR.out
    rw [dropSt_at ls k hlt,seatFrom] at h
    exact h
   generalize ls.getD k zeroSt=z at*
   obtain ⟨W1,hW1,b1,hb1,hs1⟩:=boxes1 wr [.int .i64 0,.int .i64 0,.bool false,.int .i64 0,.slice none 0 0,.slice none 0 0,.bool false,.int .i64 0,.slice none 0 0,.slice none 0 0,.bool false,.int .i64 0,.slice none 0 0,.slice none 0 0,.bool false,.int .i64 0,.slice none 0 0,.slice none 0 0,.bool false,.bool false] 103
   obtain ⟨W2,hW2,hw2,hs2,HT2,_,b2⟩:=seat_out z _ rfl b1
   have hB2:Below W.heap.size W W2:=(hbl.trans (hb1.mono hbl.size)).trans (hw2.below hbl.size (by have:=hbl.size;omega))
   have hbT2:Below w.heap.size w W2:=hbW.trans (hB2.mono hbW.size)
   have x0:W2.cell? ⟨wr.heap.size,0,none⟩=some (.int .i64 z.no):=b2.cell 0 _ rfl
   have HW2:Hid (W1.setCells wr.heap.size 0 z.cells.toArray.toList=W2):=hW2.out
   have hOz:=seat_one z
   clear hs1 hs2 b1 b2 hb1 hw2 hW2 hR hbl hbT
   by_cases hq:z.no=no
   ·have HR3:Hid ((k:Int)=R):=by have h:=HR2.out;rw [if_pos hq] at h;exact h
    have hqb:(z.no == no)=true:=by simpa using hq
    clear hq HR2
    go_wp2_with (first | (guard_target=wpList _ _ _ (Oper.mk (some 14) _ _ _ _ _::_) _ _;refine wpList_load_mid rfl 103 (.tmp 13) rfl b (off+k*20) rfl z.cells _ HRG.out Tryz.underlying103 rfl HJ.out ?_) | (guard_target=wpList _ _ _ (Oper.mk none (Op.store _ (Operand.tmp 6) _) _ _ _ _::_) _ _;refine wpList_store_mid rfl 103 (.tmp 6) (.tmp 14) rfl wr.heap.size 0 z.cells.toArray rfl rfl (by rw [hW1.out];exact HT2.out) HJ.out hOz ?_;rw [hW1.out,HW2.out]) | fail)
    go_ret
    exact ⟨ret_int HR3.out,hbT2⟩
   ·have HR3:Hid (seatFrom no ((ls.map SeatA.v).drop (k+1)) (k+1)=R):=by have h:=HR2.out;rw [if_neg hq] at h;exact h
    have hqb:(z.no == no)=false:=by simpa using hq
    clear hq HR2
    go_wp2_with (first | (guard_target=wpList _ _ _ (Oper.mk (some 14) _ _ _ _ _::_) _ _;refine wpList_load_mid rfl 103 (.tmp 13) rfl b (off+k*20) rfl z.cells _ HRG.out Tryz.underlying103 rfl HJ.out ?_) | (guard_target=wpList _ _ _ (Oper.mk none (Op.store _ (Operand.tmp 6) _) _ _ _ _::_) _ _;refine wpList_store_mid rfl 103 (.tmp 6) (.tmp 14) rfl wr.heap.size 0 z.cells.toArray rfl rfl (by rw [hW1.out];exact HT2.out) HJ.out hOz ?_;rw [hW1.out,HW2.out]) | fail)
    go_roundw
    case rel=>exact ⟨k+1,by go_num,by omega,HR3,hB2⟩
    case measure=>simp [intOf];omega
  ·have hkk:¬ (k:Int)<(ls.length:Int):=by omega
   have HR':Hid (-1=R):=by
    have h:=hR.out
    rw [List.drop_eq_nil_of_le (by rw [List.length_map];omega),seatFrom] at h
    exact h
   clear hR
   go_wp2
   go_ret
   exact ⟨ret_int HR'.out,hbT⟩
end Go.Proofs.YtcoeamamaifoeaaGreatDoor
namespace Go.Proofs.YtcoeamamaifoeaaGreatDoor
open Go.RowKit
theorem pageNoOk_any (no:Int) (w:World):Calls Tryz.prog 119 #[.int .i64 no] w fun e w'=>e=.returned (.bool (inB no 0 7))∧w'=w:=by
 by_cases h1:0≤no
 ·by_cases h2:no<8
  ·have HB:Hid (inB no 0 7=true):=by simp [Hid,inB];omega
   go_enter Tryz.func119,Tryz.ntmps119
   go_wp2
   go_ret
   exact ⟨ret_bool HB.out.symm,rfl⟩
  ·have HB:Hid (inB no 0 7=false):=by simp [Hid,inB];omega
   go_enter Tryz.func119,Tryz.ntmps119
   go_wp2
   go_ret
   exact ⟨ret_bool HB.out.symm,rfl⟩
 ·have HB:Hid (inB no 0 7=false):=by simp [Hid,inB];omega
  go_enter Tryz.func119,Tryz.ntmps119
  go_wp2
  go_ret
  exact ⟨ret_bool HB.out.symm,rfl⟩
theorem fresh_v (p:PoolA) (k:Nat):freshAt p.v.seats k=(inB (p.seats.getD k zeroSt).no 0 7 && okP (p.seats.getD k zeroSt).lsn ((p.seats.getD k zeroSt).ss.map (·.v)) && decide (seatedOf p.v.seats (p.seats.getD k zeroSt).no=k)):=by
 rw [freshAt,PoolA.v,seatV_at]
 rfl
theorem implPoolOk_any (p:PoolA) (w:World) (hg:ErrT w) (hr:p.reads w) (hl:p.short 1099511627776):
  Calls Tryz.prog 94 #[.agg p.cells.toArray] w fun e w'=>e=.returned (.bool (okPool p.v))∧Below w.heap.size w w':=by
 have HLEN:Hid (¬ p.seats.length≤3→okPool p.v=false):=fun h=>okPool_long (by simpa [PoolA.v] using h)
 have HHAND:Hid (inB p.hand 0 2=false→okPool p.v=false):=fun h=>okPool_hand h
 have HNO:Hid (∀ k,k<p.seats.length→(inB (p.seats.getD k zeroSt).no 0 7 && okP (p.seats.getD k zeroSt).lsn ((p.seats.getD k zeroSt).ss.map (·.v)) && decide (seatedOf p.v.seats (p.seats.getD k zeroSt).no=k))=false→okPool p.v=false):=fun k hk h=>okPool_no k (by simpa [PoolA.v] using hk) (by rw [fresh_v];exact h)
 have HALL:Hid (p.seats.length≤3→inB p.hand 0 2=true→(∀ k,k<p.seats.length→(inB (p.seats.getD k zeroSt).no 0 7 && okP (p.seats.getD k zeroSt).lsn ((p.seats.getD k zeroSt).ss.map (·.v)) && decide (seatedOf p.v.seats (p.seats.getD k zeroSt).no=k))=true)→okPool p.v=true):=fun h0 h1 h=>okPool_yes (by simpa [PoolA.v] using h0) h1 (fun k hk=>by rw [fresh_v];exact h k (by simpa [PoolA.v] using hk))
 have HST:Hid (∀ no u,Below w.heap.size w u→Calls Tryz.prog 121 #[.agg p.cells.toArray,.int .i64 no] u fun r w'=>r=.returned (.int .i64 (seatedOf p.v.seats no))∧Below u.heap.size u w'):=fun no u hu=>implSeated_any p no u (hr.below hu) hl
 generalize okPool p.v=R at*
 generalize seatedOf p.v.seats=SD at*
 have HS:Hid (∀ k,k<p.seats.length→(p.seats.getD k zeroSt).short 1099511627776):=fun k hk=>hl.at k hk
 have hlen:=hl.len
 obtain ⟨rs,s,a,c⟩:=p
 simp only [PoolA.reads,PoolA.cells] at*
 obtain ⟨W,hW,b0,hbW,hsW⟩:=boxes1 w [.slice a rs.length c,.int .i64 s] 51
 have c0:=b0.cell 0 _ rfl
 have c1:=b0.cell 1 _ rfl
 have HJ:Hid ((Tryz.prog.info? 103).map (·.size)=some 20):=by rw [Hid];kernel_rfl
 clear hl hsW
 have HC:Hid (∀ k,k<rs.length→∃ b off,a=some ⟨b,off,none⟩∧W.rangeAt b (off+k*20) (rs.getD k zeroSt).cells∧(rs.getD k zeroSt).reads W):=fun k hk=>by
  obtain ⟨b,off,ha,hc⟩:=(ReadsSts.below hr hbW) (by intro e;rw [e] at hk;simp at hk)
  exact ⟨b,off,ha,(hc k hk).1,(hc k hk).2⟩
 clear hr
 by_cases h4:rs.length≤3
 case neg=>
  have HR:Hid (R=false):=HLEN.out h4
  clear HLEN HHAND HNO HALL
  go_enter Tryz.func94,Tryz.ntmps94
  go_wp2_with fail
  rw [hW.out]
  go_ret
  exact ⟨ret_bool HR.out.symm,hbW⟩
 case pos=>
  by_cases h5:s<0
  ·have HR:Hid (R=false):=HHAND.out (by simp [inB];omega)
   clear HLEN HHAND HNO HALL
   go_enter Tryz.func94,Tryz.ntmps94
   go_upto_region 1 with fail
   rw [hW.out]
   go_wp2_with fail
   go_ret
   exact ⟨ret_bool HR.out.symm,hbW⟩
  by_cases h6:s<3
  case neg=>
   have HR:Hid (R=false):=HHAND.out (by simp [inB];omega)
   clear HLEN HHAND HNO HALL
   have h6b:3≤s:=by omega
   go_enter Tryz.func94,Tryz.ntmps94
   go_upto_region 1 with fail
   rw [hW.out]
   go_wp2_with fail
   go_ret
   exact ⟨ret_bool HR.out.symm,hbW⟩
  case pos=>
   have HALL2:=HALL.out h4 (by simp [inB];omega)
   have HALL3:Hid _:=HALL2
   clear HALL2 HALL HLEN HHAND
   go_enter Tryz.func94,Tryz.ntmps94
   go_upto_region 1 with fail
   rw [hW.out]
   clear hW
   go_wp2_with fail
   go_loopw [22] (fun i wr=>∃ k:Nat,k≤rs.length∧i=.int .i64 k∧Hid (∀ m,m<k→(inB (rs.getD m zeroSt).no 0 7 && okP (rs.getD m zeroSt).lsn ((rs.getD m zeroSt).ss.map (·.v)) && decide (SD (rs.getD m zeroSt).no=m))=true)∧Below W.heap.size W wr) (fun i _=>rs.length-(intOf i).toNat)
   case atStart=>exact ⟨0,Nat.zero_le _,rfl,fun j hj=>by omega,Below.refl _ _⟩
   case round=>
    obtain ⟨k,hk,rfl,hall,hbl⟩:=hrel
    have hbm:Below w.heap.size w wr:=hbW.trans (hbl.mono hbW.size)
    have HP:Hid (∀ u,Below W.heap.size W u→u.cell? ⟨w.heap.size,0,none⟩=some (.slice a rs.length c)∧u.cell? ⟨w.heap.size,1,none⟩=some (.int .i64 s)):=fun u hu=>⟨(hu.cell (block_lt c0)).trans c0,(hu.cell (block_lt c1)).trans c1⟩
    clear c0 c1
    by_cases hlt:k<rs.length
    ·obtain ⟨b,off,rfl,hcell,hrd⟩:=HC.out k hlt
     have HRG:Hid (wr.rangeAt b (off+k*20) (rs.getD k zeroSt).cells):=rangeSt_below hcell hbl
     have hrdw:=hrd.below hbl
     have hsh:=HS.out k hlt
     have HN:Hid ((inB (rs.getD k zeroSt).no 0 7 && okP (rs.getD k zeroSt).lsn ((rs.getD k zeroSt).ss.map (·.v)) && decide (SD (rs.getD k zeroSt).no=k))=false→R=false):=HNO.out k hlt
     have HY:Hid ((inB (rs.getD k zeroSt).no 0 7 && okP (rs.getD k zeroSt).lsn ((rs.getD k zeroSt).ss.map (·.v)) && decide (SD (rs.getD k zeroSt).no=k))=true→∀ m,m<k+1→(inB (rs.getD m zeroSt).no 0 7 && okP (rs.getD m zeroSt).lsn ((rs.getD m zeroSt).ss.map (·.v)) && decide (SD (rs.getD m zeroSt).no=m))=true):=fun h m hm=>by
      by_cases e:m=k
      ·rw [e];exact h
      ·exact hall.out m (by omega)
     have hkk:(k:Int)<(rs.length:Int):=by omega
     have hk0:(0:Int)≤(k:Int):=by omega
     clear hcell HC HNO hall HS hrd
     generalize rs.getD k zeroSt=y at*
     obtain ⟨W1,hW1,b1,hb1,hs1⟩:=boxes1 wr [.int .i64 0,.int .i64 0,.bool false,.int .i64 0,.slice none 0 0,.slice none 0 0,.bool false,.int .i64 0,.slice none 0 0,.slice none 0 0,.bool false,.int .i64 0,.slice none 0 0,.slice none 0 0,.bool false,.int .i64 0,.slice none 0 0,.slice none 0 0,.bool false,.bool false] 103
     obtain ⟨W2,hW2,hw2,hs2,HT2,_,b2⟩:=seat_out y _ rfl b1
     have hB2':Below wr.heap.size wr W2:=hb1.trans (hw2.below (Nat.le_refl _) (by omega))
     have hB2:Below W.heap.size W W2:=hbl.trans (hB2'.mono hbl.size)
     have hbT2:Below w.heap.size w W2:=hbW.trans (hB2.mono hbW.size)
     have HX:Hid (∀ u,Below W2.heap.size W2 u→u.cell? ⟨wr.heap.size,0,none⟩=some (.int .i64 y.no)∧u.rangeAt wr.heap.size 1 y.page.cells):=fun u hu=>⟨(b2.below hu b2.lt).cell 0 _ rfl,seat_page y (b2.below hu b2.lt)⟩
     have x0:=(HX.out W2 (Below.refl _ _)).1
     have xp:=(HX.out W2 (Below.refl _ _)).2
     have HIP:=Tryz.infoPg y.page rfl
     have C:=implPageOk_any y.page rfl W2 (hg.keep hbT2) (hrdw.below hB2') hsh
     have e2:y.page.lsn=y.lsn:=rfl
     have e3:y.page.ss=y.ss:=rfl
     rw [e2,e3] at C
     have CN:=pageNoOk_any y.no W2
     have HW2:Hid (W1.setCells wr.heap.size 0 y.cells.toArray.toList=W2):=hW2.out
     have hOz:=seat_one y
     clear hs1 hs2 b1 b2 hb1 hw2 hW2 hbl hbm e2 e3 hrdw hsh hB2'
     cases h6:inB y.no 0 7 with
     | false=>
      have HR2:Hid (R=false):=HN.out (by rw [h6];rfl)
      rw [h6] at CN
      clear HN HY C h6 xp
      go_wp2_with (first | (guard_target=wpList _ _ _ (Oper.mk (some 26) _ _ _ _ _::_) _ _;refine wpList_load_mid rfl 103 (.tmp 25) rfl b (off+k*20) rfl y.cells _ HRG.out Tryz.underlying103 rfl HJ.out ?_) | (guard_target=wpList _ _ _ (Oper.mk none (Op.store _ (Operand.tmp 4) _) _ _ _ _::_) _ _;refine wpList_store_mid rfl 103 (.tmp 4) (.tmp 26) rfl wr.heap.size 0 y.cells.toArray rfl rfl (by rw [hW1.out];exact HT2.out) HJ.out hOz ?_;rw [hW1.out,HW2.out]) | fail)
      refine CN.mono ?_
      rintro e u ⟨rfl,hu⟩
      rw [hu]
      clear hu u CN
      go_wp2_with fail
      go_ret
      exact ⟨ret_bool HR2.out.symm,hbT2⟩
     | true=>
      rw [h6,Bool.true_and] at HN HY
      rw [h6] at CN
      clear h6
      cases h7:okP y.lsn (y.ss.map (·.v)) with
      | false=>
       have HR2:Hid (R=false):=HN.out (by rw [h7];rfl)
       rw [h7] at C
       clear HN HY h7
       generalize y.page.cells=pc at*
       go_wp2_with (first | (guard_target=wpList _ _ _ (Oper.mk (some 26) _ _ _ _ _::_) _ _;refine wpList_load_mid rfl 103 (.tmp 25) rfl b (off+k*20) rfl y.cells _ HRG.out Tryz.underlying103 rfl HJ.out ?_) | (guard_target=wpList _ _ _ (Oper.mk none (Op.store _ (Operand.tmp 4) _) _ _ _ _::_) _ _;refine wpList_store_mid rfl 103 (.tmp 4) (.tmp 26) rfl wr.heap.size 0 y.cells.toArray rfl rfl (by rw [hW1.out];exact HT2.out) HJ.out hOz ?_;rw [hW1.out,HW2.out]) | fail)
       refine CN.mono ?_
       rintro e u ⟨rfl,hu⟩
       rw [hu]
       clear hu u CN
       go_wp2_with (first | (guard_target=wpList _ _ _ (Oper.mk (some 33) _ _ _ _ _::_) _ _;refine wpList_load_mid_if (by rfl) 47 (.tmp 32) rfl wr.heap.size 1 rfl pc _ xp Tryz.underlying47 rfl HIP ?_) | fail)
       refine C.mono ?_
       rintro e w1 ⟨rfl,hb1⟩
       go_wp2_with fail
       go_ret
       exact ⟨ret_bool HR2.out.symm,hbT2.trans (hb1.mono hbT2.size)⟩
      | true=>
       rw [h7,Bool.true_and] at HN HY
       rw [h7] at C
       clear h7
       generalize y.page.cells=pc at*
       go_wp2_with (first | (guard_target=wpList _ _ _ (Oper.mk (some 26) _ _ _ _ _::_) _ _;refine wpList_load_mid rfl 103 (.tmp 25) rfl b (off+k*20) rfl y.cells _ HRG.out Tryz.underlying103 rfl HJ.out ?_) | (guard_target=wpList _ _ _ (Oper.mk none (Op.store _ (Operand.tmp 4) _) _ _ _ _::_) _ _;refine wpList_store_mid rfl 103 (.tmp 4) (.tmp 26) rfl wr.heap.size 0 y.cells.toArray rfl rfl (by rw [hW1.out];exact HT2.out) HJ.out hOz ?_;rw [hW1.out,HW2.out]) | fail)
       refine CN.mono ?_
       rintro e u ⟨rfl,hu⟩
       rw [hu]
       clear hu u CN
       go_wp2_with (first | (guard_target=wpList _ _ _ (Oper.mk (some 33) _ _ _ _ _::_) _ _;refine wpList_load_mid_if (by rfl) 47 (.tmp 32) rfl wr.heap.size 1 rfl pc _ xp Tryz.underlying47 rfl HIP ?_) | fail)
       refine C.mono ?_
       rintro e w1 ⟨rfl,hb1⟩
       have B1:Below W.heap.size W w1:=hB2.trans (hb1.mono hB2.size)
       have B1':Below w.heap.size w w1:=hbW.trans (B1.mono hbW.size)
       have CS:=HST.out y.no w1 B1'
       have p0:=(HP.out w1 B1).1
       have p1:=(HP.out w1 B1).2
       clear x0 xp C
       have x0:=(HX.out w1 hb1).1
       clear HX HP HST hB2 hbT2 hb1
       by_cases h8:SD y.no=(k:Int)
       ·have HR2:=HY.out (by simpa using h8)
        have HR3:Hid _:=HR2
        rw [h8] at CS
        have hne:((k:Int) != (k:Int))=false:=by simp
        clear HN HY HR2 h8
        go_wp2_with fail
        refine CS.mono ?_
        rintro e w2 ⟨rfl,hb2⟩
        have B2:Below W.heap.size W w2:=B1.trans (hb2.mono B1.size)
        go_wp2_with fail
        go_roundw
        case rel=>exact ⟨k+1,by omega,by go_num,HR3,B2⟩
        case measure=>simp [intOf];omega
       ·have HR2:Hid (R=false):=HN.out (by simpa using h8)
        have hne:(SD y.no != (k:Int))=true:=by simpa using h8
        clear HN HY h8
        generalize SD y.no=sd at*
        go_wp2_with fail
        refine CS.mono ?_
        rintro e w2 ⟨rfl,hb2⟩
        go_wp2_with fail
        go_ret
        exact ⟨ret_bool HR2.out.symm,B1'.trans (hb2.mono B1'.size)⟩
    ·have HE:Hid (true=R):=(HALL3.out (fun m hm=>hall.out m (by omega))).symm
     clear hall HALL3
     go_wp2
     go_ret
     exact ⟨ret_bool HE.out,hbm⟩
end Go.Proofs.YtcoeamamaifoeaaGreatDoor