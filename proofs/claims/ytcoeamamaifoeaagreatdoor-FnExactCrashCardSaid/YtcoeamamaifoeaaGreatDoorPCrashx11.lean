/- Several texts in one, in their order. -/
import Derived.Test.YtcoeamamaifoeaaGreatDoorPCrashx8
import Derived.Test.YtcoeamamaifoeaaGreatDoorPCrashx10
import Derived.Test.YtcoeamamaifoeaaGreatDoorPCrashx5
import Derived.Test.YtcoeamamaifoeaaGreatDoorPCrashx3
import Derived.Test.YtcoeamamaifoeaaGreatDoorPCrashx4
import Derived.Test.YtcoeamamaifoeaaGreatDoorPCrashx6
import Derived.Deep.CutRange
import Derived.Test.YtcoeamamaifoeaaGreatDoorPCrashx1
set_option maxHeartbeats 8000000
set_option maxRecDepth 100000
namespace Go.Proofs.YtcoeamamaifoeaaGreatDoor
open Go.RowKit
theorem Tryz.infoSeat:(Tryz.prog.info? 103).map (fun i=>(i.zero,i.size,i.bytes))=some (some (.agg zeroSt.cells.toArray),20,280):=by kernel_rfl
theorem rowSt_apart {w:World} {base lo hi n:Nat} {v:Value} {xs:List Value} {r:SeatA} (h:w.ownsRow base 103 20 v n xs) (hr:r.own w lo hi):∀ k,v.ownBlock=some k→k∉r.blocks:=by
 intro k hk hm
 obtain ⟨cur,hc⟩:=ownsRow_at h hk
 have no:∀ {b2 s2 n2:Nat} {e2:TypeId} {v2:Value} {x2:List Value},w.ownsRow b2 e2 s2 v2 n2 x2→v2.ownBlock=some k→e2=103:=by
  intro b2 s2 n2 e2 v2 x2 h2 hk2
  obtain ⟨cur2,hc2⟩:=ownsRow_at h2 hk2
  rw [hc] at hc2
  simp only [Option.some.injEq,Obj.cells.injEq] at hc2
  exact hc2.2.1.symm
 obtain ⟨x,hx,hm⟩:=List.mem_flatMap.1 hm
 simp only [SlotA.blocks,List.mem_append,Option.mem_toList] at hm
 rcases hm with h1 | h1
 ·have:=no (hr.each x hx).ints.1 h1;cases this
 ·have:=no (hr.each x hx).refs.1 h1;cases this
theorem append_seat {w:World} {ops:Array Oper} {rest:List Oper} {o:Oper} {act:Act} {Q:Exit→Act→World→Prop} (hgd:o.guard=none) (s x:Operand)
  (ho:o.op=.call { callee:=.builtin .append,args:=#[s,x],argTypes:=#[49,49] })
  (lo hi:Nat) (a:Option Addr) (c:Nat) (rs:List SeatA) (hs:act.eval s=.slice a rs.length c) (hown:OwnSts w lo hi a c rs)
  (b off:Nat) (sc:Nat) (q:SeatA) (hx:act.eval x=.slice (some ⟨b,off,none⟩) 1 sc) (hr:w.rangeAt b off q.cells) (l u:Nat) (hq:q.own w l u) (hl:hi≤l) (hu:u≤w.heap.size)
  (hb:rs.length+1≤68719476736) (hlo:lo≤hi)
  (h:∀ a' c' w',OwnSts w' lo w'.heap.size a' c' (rs++[q])→w.grownBy w' (Value.slice a rs.length c).ownBlock→wpList Tryz.prog ops Q rest (act.put o.dst (.slice a' (rs++[q]).length c')) w'):
  wpList Tryz.prog ops Q (o::rest) act w:=by
 obtain ⟨i0,hi0,hz0,hz1,hz2⟩:=info_parts Tryz.infoSeat
 have hqb:=hq.blocks_lt
 have htop:=hown.top
 refine wpList_append_own w hgd s x 49 ho lo 103 i0 (.agg zeroSt.cells.toArray) 20 280 Tryz.underlying49 hi0 hz0 hz1 hz2 rfl (by decide) _ _ _ hs hown.row ⟨b,off,none⟩ 1 sc q.cells hx (by rfl) ?_ (oneSt q) (by simp only [maxLen];omega) (by omega) (by omega) (fun v' w' h1 h2 _=>?_)
 ·intro j v hj
  rw [Addr_add]
  exact hr j v hj
 ·have e:cellsSts rs++q.cells=cellsSts (rs++[q]):=by rw [cellsSts_app,cellsSts_cons];simp [cellsSts]
  have e2:rs.length+1=(rs++[q]).length:=by simp
  rw [e,e2] at h1
  have sh:∃ a' c',v'=.slice a' (rs++[q]).length c':=by
   rcases h1.2 with ⟨rfl,h0⟩ | ⟨g,cap,cur,rfl,_⟩
   ·simp at h0
   ·exact ⟨_,_,rfl⟩
  obtain ⟨a',c',rfl⟩:=sh
  have hsz:=h2.size
  have ht:Touch (Value.slice a rs.length c).ownBlock.toList w w':=Touch.of_grown h2 (fun k hk=>Option.mem_toList.2 hk)
  have hrow:=h1.lt
  have hold:∀ r∈rs,r.own w' lo w'.heap.size:=fun r hr=>((hown.each r hr).touch ht (fun k hk hk'=>(List.nodup_append.1 hown.apart).2.2 k hk' k (List.mem_flatMap.2 ⟨r,hr,hk⟩) rfl)).widen (Nat.le_refl _) (by omega) (Nat.le_refl _)
  have hnew:q.own w' lo w'.heap.size:=(hq.touch ht (fun k hk hk'=>by have:=hqb k hk;have:=hown.blk k (Option.mem_toList.1 hk');omega)).widen (by omega) (by omega) (Nat.le_refl _)
  refine h a' c' w' ⟨h1,Nat.le_refl _,fun k hk=>(hrow k hk).2,fun r hr=>?_,?_⟩ h2
  ·rcases List.mem_append.1 hr with hr | hr
   ·exact hold r hr
   ·obtain rfl:=List.mem_singleton.1 hr
    exact hnew
  ·rw [List.flatMap_append,List.nodup_append,List.nodup_append]
   have hap:=(List.nodup_append.1 hown.apart).2.1
   have hin:∀ x∈rs.flatMap SeatA.blocks,lo≤x∧x<hi:=fun x hx=>by
    obtain ⟨r,hr,hx⟩:=List.mem_flatMap.1 hx
    exact (hown.each r hr).blocks_lt x hx
   refine ⟨by cases (Value.slice a' (rs++[q]).length c').ownBlock<;>simp,⟨hap,by simpa using hq.apart,fun x hx y hy e=>?_⟩,fun x hx y hy e=>?_⟩
   ·have:=hin x hx
    simp only [List.flatMap_cons,List.flatMap_nil,List.append_nil] at hy
    have:=hqb y hy
    omega
   ·have hx':=Option.mem_toList.1 hx
    subst e
    rcases List.mem_append.1 hy with hy | hy
    ·obtain ⟨r,hr,hy⟩:=List.mem_flatMap.1 hy
     exact rowSt_apart h1 (hold r hr) x hx' hy
    ·simp only [List.flatMap_cons,List.flatMap_nil,List.append_nil] at hy
     exact rowSt_apart h1 hnew x hx' hy
structure LogV where
 recs:List RecV
 sure:Int
structure LogA where
 recs:List RecA
 sure:Int
 a:Option Addr
 c:Nat
def LogA.v (l:LogA):LogV:=⟨l.recs.map RecA.v,l.sure⟩
def LogA.cells (l:LogA):List Value:=[.slice l.a l.recs.length l.c,.int .i64 l.sure]
def LogA.reads (w:World) (l:LogA):Prop:=ReadsRs w l.a l.recs
def LogA.own (w:World) (lo hi:Nat) (l:LogA):Prop:=OwnRs w lo hi l.a l.c l.recs
structure LogA.short (l:LogA) (m:Nat):Prop where
 len:l.recs.length≤m
 each:∀ r∈l.recs,r.short m
theorem LogA.short.at {l:LogA} {m:Nat} (h:l.short m) (k:Nat) (hk:k<l.recs.length):(l.recs.getD k zeroR).short m:=h.each _ (recD_mem _ k hk)
theorem mapV_len {rs ts:List RecA} (h:ts.map RecA.v=rs.map RecA.v):ts.length=rs.length:=by simpa using congrArg List.length h
theorem mapV_at {rs ts:List RecA} (h:ts.map RecA.v=rs.map RecA.v) (k:Nat) (hk:k<rs.length):(ts.getD k zeroR).v=(rs.getD k zeroR).v:=by
 have hk':k<ts.length:=by rw [mapV_len h];exact hk
 have:=congrArg (fun x=>x[k]?) h
 simpa [List.getD,hk,hk'] using this
theorem mapV_all {rs ts:List RecA} (h:ts.map RecA.v=rs.map RecA.v) (P:RecA→Prop) (hP:∀ a b:RecA,a.v=b.v→P b→P a) (hall:∀ r∈rs,P r):∀ r∈ts,P r:=by
 intro r hr
 obtain ⟨k,hk,rfl⟩:=List.getElem_of_mem hr
 have hk':k<rs.length:=by rw [← mapV_len h];exact hk
 have e:=mapV_at h k hk'
 refine hP _ (rs.getD k zeroR) ?_ (hall _ (recD_mem rs k hk'))
 rw [← e]
 simp [List.getD,hk]
theorem LogA.short_of {l t:LogA} {m:Nat} (h:t.v=l.v) (hl:l.short m):t.short m:=by
 simp only [LogA.v,LogV.mk.injEq] at h
 exact ⟨by rw [mapV_len h.1];exact hl.len,mapV_all h.1 (fun r=>r.short m) (fun a b e hb=>Go.Proofs.YtcoeamamaifoeaaGreatDoor.short_of e hb) hl.each⟩
theorem LogA.short_wide {l:LogA} (hl:l.short 1048576):l.short 1099511627776:=⟨by have:=hl.len;omega,fun r hr=>Go.Proofs.YtcoeamamaifoeaaGreatDoor.short_wide (hl.each r hr)⟩
structure EngV where
 disk:List (Int × List SlotV)
 seats:List SeatV
 hand:Int
 log:LogV
 txs:List LiveV
 holds:List HoldV
 next:Int
 down:Bool
structure EngA where
 disk:List PageA
 seats:List SeatA
 aS:Option Addr
 cS:Nat
 hand:Int
 log:LogA
 txs:List LiveV
 aT:Option Addr
 cT:Nat
 holds:List HoldV
 aH:Option Addr
 cH:Nat
 next:Int
 down:Bool
def EngA.v (e:EngA):EngV:=⟨e.disk.map (fun p=>(p.lsn,p.ss.map (·.v))),e.seats.map SeatA.v,e.hand,e.log.v,e.txs,e.holds,e.next,e.down⟩
def cellsPs (ps:List PageA):List Value:=ps.flatMap PageA.cells
def EngA.tail (e:EngA):List Value:=[.slice e.aS e.seats.length e.cS,.int .i64 e.hand,.slice e.log.a e.log.recs.length e.log.c,.int .i64 e.log.sure,.slice e.aT e.txs.length e.cT,.slice e.aH e.holds.length e.cH,.int .i64 e.next,.bool e.down]
def EngA.cells (e:EngA):List Value:=cellsPs e.disk++e.tail
structure EngA.shape (e:EngA):Prop where
 eight:e.disk.length=8
 four:∀ p∈e.disk,p.ss.length=4
theorem cellsPs_len:∀ (ps:List PageA),(∀ p∈ps,p.ss.length=4)→(cellsPs ps).length=ps.length*17:=by
 intro ps
 induction ps with
 | nil=>intro _;rfl
 | cons p r ih=>
  intro h
  have h1:=ih (fun q hq=>h q (List.mem_cons_of_mem _ hq))
  have h2:=page_len p (h p List.mem_cons_self)
  simp only [cellsPs,List.flatMap_cons,List.length_append,List.length_cons] at h1 ⊢
  omega
theorem EngA.disk_len {e:EngA} (h:e.shape):(cellsPs e.disk).length=136:=by rw [cellsPs_len _ h.four,h.eight]
theorem EngA.cells_len {e:EngA} (h:e.shape):e.cells.length=144:=by rw [EngA.cells,List.length_append,EngA.disk_len h];rfl
theorem EngA.cell_at {w:World} {B:Nat} {t:TypeId} {e:EngA} (h:e.shape) (b:Box w B e.cells t) (j:Nat) (v:Value) (hv:e.tail[j]? =some v):w.cell? ⟨B,136+j,none⟩=some v:=by
 refine b.cell (136+j) v ?_
 rw [EngA.cells,List.getElem?_append_right (by rw [EngA.disk_len h];omega),EngA.disk_len h,show 136+j-136=j by omega]
 exact hv
theorem cellsPs_split (ps:List PageA) (k:Nat) (hk:k<ps.length):cellsPs ps=cellsPs (ps.take k)++(ps[k].cells++cellsPs (ps.drop (k+1))):=by
 have e:ps=ps.take k++ps[k]::ps.drop (k+1):=by
  conv=>lhs;rw [← List.take_append_drop k ps,List.drop_eq_getElem_cons hk]
 conv=>lhs;rw [e]
 simp only [cellsPs,List.flatMap_append,List.flatMap_cons]
theorem EngA.page_at {w:World} {B:Nat} {t:TypeId} {e:EngA} (h:e.shape) (b:Box w B e.cells t) (k:Nat) (hk:k<e.disk.length):w.rangeAt B (k*17) e.disk[k].cells:=by
 have e1:e.cells=cellsPs (e.disk.take k)++(e.disk[k].cells++(cellsPs (e.disk.drop (k+1))++e.tail)):=by rw [EngA.cells,cellsPs_split e.disk k hk];simp
 have b':=b
 rw [e1] at b'
 have:=Box.range _ _ _ b'
 rwa [cellsPs_len _ (fun p hp=>h.four p (List.mem_of_mem_take hp)),List.length_take,Nat.min_eq_left (Nat.le_of_lt hk)] at this
def rowOf (a:Option Addr) (n c:Nat):List Nat:=(Value.slice a n c).ownBlock.toList
def EngA.diskBl (e:EngA):List Nat:=(e.disk.flatMap (·.ss)).flatMap SlotA.blocks
def EngA.blocks (e:EngA):List Nat:=e.diskBl++(blocksSts e.aS e.cS e.seats++(blocksRs e.log.a e.log.c e.log.recs++(rowOf e.aT e.txs.length e.cT++rowOf e.aH e.holds.length e.cH)))
structure EngA.own (w:World) (lo hi:Nat) (e:EngA):Prop where
 disk:OwnS w lo hi (e.disk.flatMap (·.ss))
 pool:OwnSts w lo hi e.aS e.cS e.seats
 log:OwnRs w lo hi e.log.a e.log.c e.log.recs
 txs:OwnL w lo hi e.aT e.cT e.txs
 holds:OwnH w lo hi e.aH e.cH e.holds
 apart:e.blocks.Nodup
theorem OwnS.touch {w w':World} {lo hi:Nat} {ss:List SlotA} {bl:List Nat} (h:OwnS w lo hi ss) (ht:Touch bl w w') (hd:∀ k∈ss.flatMap SlotA.blocks,k∉bl):OwnS w' lo hi ss:=
 ⟨fun x hx=>SlotA.touch (h.each x hx) ht (fun k hk=>hd k (List.mem_flatMap.2 ⟨x,hx,hk⟩)),h.apart⟩
theorem EngA.own.blocks_lt {w:World} {lo hi:Nat} {e:EngA} (h:e.own w lo hi):∀ k∈e.blocks,lo≤k∧k<hi:=by
 intro k hk
 simp only [EngA.blocks,List.mem_append] at hk
 rcases hk with hk | hk | hk | hk | hk
 ·exact h.disk.blocks_lt k hk
 ·exact h.pool.blocks_lt k hk
 ·exact h.log.blocks_lt k hk
 ·exact h.txs.lt k (Option.mem_toList.1 hk)
 ·exact h.holds.lt k (Option.mem_toList.1 hk)
theorem EngA.own.touch {w w':World} {lo hi:Nat} {e:EngA} {bl:List Nat} (h:e.own w lo hi) (ht:Touch bl w w') (hd:∀ k∈e.blocks,k∉bl):e.own w' lo hi:=by
 simp only [EngA.blocks,List.mem_append] at hd
 exact ⟨h.disk.touch ht (fun k hk=>hd k (.inl hk)),h.pool.touch ht (fun k hk=>hd k (.inr (.inl hk))),h.log.touch ht (fun k hk=>hd k (.inr (.inr (.inl hk)))),h.txs.touch ht (fun k hk=>hd k (.inr (.inr (.inr (.inl (Option.mem_toList.2 hk)))))),h.holds.touch ht (fun k hk=>hd k (.inr (.inr (.inr (.inr (Option.mem_toList.2 hk)))))),h.apart⟩
theorem EngA.own.within {w w':World} {lo hi l r:Nat} {e:EngA} (h:e.own w lo hi) (hw:Within l r w w') (hd:hi≤l∨r≤lo):e.own w' lo hi:=
 ⟨h.disk.within hw hd,h.pool.within hw hd,h.log.within hw hd,h.txs.within hw hd,h.holds.within hw hd,h.apart⟩
theorem EngA.own.below {w w':World} {lo hi:Nat} {e:EngA} (h:e.own w lo hi) (hb:Below w.heap.size w w'):e.own w' lo hi:=
 ⟨h.disk.below hb,h.pool.below hb,h.log.below hb,h.txs.below hb,h.holds.below hb,h.apart⟩
theorem EngA.own.widen {w:World} {lo hi lo' hi':Nat} {e:EngA} (h:e.own w lo hi) (h1:lo'≤lo) (h2:hi≤hi') (h3:hi'≤w.heap.size):e.own w lo' hi':=
 ⟨h.disk.widen h1 h2 h3,h.pool.widen h1 h2 h3,h.log.widen h1 h2 h3,h.txs.widen h1 h2 h3,h.holds.widen h1 h2 h3,h.apart⟩
theorem Tryz.infoEng:(Tryz.prog.info? 58).map (·.size)=some 144:=by kernel_rfl
def zeroP:PageA:=⟨0,[zeroS,zeroS,zeroS,zeroS]⟩
def zeroE:EngA:=⟨[zeroP,zeroP,zeroP,zeroP,zeroP,zeroP,zeroP,zeroP],[],none,0,0,⟨[],0,none,0⟩,[],none,0,[],none,0,0,false⟩
theorem Tryz.zeroEng:(Tryz.prog.info? 58).map (·.zero)=some (some (.agg zeroE.cells.toArray)):=by kernel_rfl
structure Disk8 (ps:List PageA):Prop where
 eight:ps.length=8
 four:∀ p∈ps,p.ss.length=4
theorem pageD_mem {ps:List PageA} {k:Nat} (h:k<ps.length):ps.getD k zeroP∈ps:=by simp [List.getD,h,List.getElem_mem]
theorem Disk8.at {ps:List PageA} (h:Disk8 ps) {k:Nat} (hk:k<8):(ps.getD k zeroP).ss.length=4:=h.four _ (pageD_mem (by rw [h.eight];exact hk))
def pgv (p:PageA):Int × List SlotV:=(p.lsn,p.ss.map (·.v))
def slots8 (ps:List PageA):List SlotA:=ps.flatMap (·.ss)
theorem page_in {w:World} {B:Nat} {t:TypeId} {ps:List PageA} (h:Disk8 ps) (b:Box w B (cellsPs ps) t) (k:Nat) (hk:k<8):w.rangeAt B (k*17) (ps.getD k zeroP).cells:=by
 have hk':k<ps.length:=by rw [h.eight];exact hk
 have e:=cellsPs_split ps k hk'
 have b':=b
 rw [e] at b'
 have:=Box.range _ _ _ b'
 rw [cellsPs_len _ (fun p hp=>h.four p (List.mem_of_mem_take hp)),List.length_take,Nat.min_eq_left (Nat.le_of_lt hk')] at this
 have e2:ps.getD k zeroP=ps[k]:=by simp [List.getD,hk']
 rw [e2];exact this
theorem disk8_info {ps:List PageA} (h:Disk8 ps):(Tryz.prog.info? 48).map (·.size)=some (cellsPs ps).length:=by rw [cellsPs_len _ h.four,h.eight];kernel_rfl
theorem pgv_at {ps ts:List PageA} (he:ts.map pgv=ps.map pgv) (k:Nat) (hk:k<ps.length):pgv (ts.getD k zeroP)=pgv (ps.getD k zeroP):=by
 have hk':k<ts.length:=by have:=congrArg List.length he;simp only [List.length_map] at this;omega
 have:=congrArg (fun l=>l[k]?) he
 simpa [List.getD,hk,hk'] using this
theorem page_infoP (p:PageA) (h:p.ss.length=4):(Tryz.prog.info? 47).map (·.size)=some p.cells.length:=by rw [page_len _ h];kernel_rfl
theorem eqPageA8_same (ps ts:List PageA) (hp:Disk8 ps) (ht:Disk8 ts) (he:ts.map pgv=ps.map pgv) (w:World) (hrp:∀ p∈ps,ReadsS w p.ss) (hrt:∀ p∈ts,ReadsS w p.ss) (hf:∀ p∈ps,Fit p.ss):
  Calls Tryz.prog 29 #[.agg (cellsPs ps).toArray,.agg (cellsPs ts).toArray] w fun e w'=>e=.returned (.bool true)∧Below w.heap.size w w':=by
 obtain ⟨W,hW,b0,b1,hbW,hsW⟩:=boxes2 w (cellsPs ps) (cellsPs ts) 48 48
 go_enter Tryz.func29,Tryz.ntmps29
 go_wp2_with fail
 rw [hW.out]
 clear hW hsW
 go_loopw [5] (fun i wr=>∃ k:Nat,k≤8∧i=.int .i64 (k:Int)∧Below W.heap.size W wr) (fun i _=>8-(intOf i).toNat)
 case atStart=>exact ⟨0,Nat.zero_le _,rfl,Below.refl _ _⟩
 case round=>
  obtain ⟨k,hk,rfl,hbr⟩:=hrel
  by_cases hlt:k<8
  ·have HR:Hid (∀ u,Below W.heap.size W u→u.rangeAt w.heap.size (k*17) (ps.getD k zeroP).cells∧u.rangeAt (w.heap.size+1) (k*17) (ts.getD k zeroP).cells):=fun u hu=>⟨page_in hp (b0.below hu b0.lt) k hlt,page_in ht (b1.below hu b1.lt) k hlt⟩
   have HP4:=hp.at hlt
   have HT4:=ht.at hlt
   have hv:=pgv_at he k (by rw [hp.eight];exact hlt)
   have R1:=hrp _ (pageD_mem (k:=k) (by rw [hp.eight];exact hlt))
   have R2:=hrt _ (pageD_mem (k:=k) (by rw [ht.eight];exact hlt))
   have F1:=hf _ (pageD_mem (k:=k) (by rw [hp.eight];exact hlt))
   generalize ps.getD k zeroP=p at*
   generalize ts.getD k zeroP=t at*
   obtain ⟨n,ss⟩:=p
   obtain ⟨n',ts'⟩:=t
   simp only [pgv,Prod.mk.injEq] at hv
   obtain ⟨rfl,hv⟩:=hv
   have HV:Hid _:=hv
   clear hv
   have hi0:(0:Int)≤(k:Int):=by omega
   have hi8:(k:Int)<8:=by omega
   go_wp2_with fail
   have D0:Below W.heap.size W wr.drew:=hbr.trans ((Below.refl _ _).drew.mono hbr.size)
   refine wp_region_held_drew (S:=fun u=>u.rangeAt w.heap.size (k*17) (PageA.cells ⟨n',ss⟩)∧u.rangeAt (w.heap.size+1) (k*17) (PageA.cells ⟨n',ts'⟩)) (by kernel_rfl) (HR.out _ D0) (fun hHeld=>?_)
   generalize wr.drew=d0 at*
   refine tq 0 (v:=.int .i64 (k:Int)) rfl hHeld ?_
   try simp only [zz]
   refine tq 1 (v:=.pointer (some ⟨w.heap.size,k*17,none⟩)) rfl hHeld ?_
   try simp only [zz]
   refine tk 2 rfl (yieldsIf_load_mid (by rfl) _ _ rfl _ _ rfl (PageA.cells ⟨n',ss⟩) _ (fun _ h=>h.1) Tryz.underlying47 rfl (page_infoP _ HP4)) hHeld ?_
   try simp only [zz]
   refine tq 3 (v:=.int .i64 (k:Int)) rfl hHeld ?_
   try simp only [zz]
   refine tq 4 (v:=.pointer (some ⟨w.heap.size+1,k*17,none⟩)) rfl hHeld ?_
   try simp only [zz]
   refine tk 5 rfl (yieldsIf_load_mid (by rfl) _ _ rfl _ _ rfl (PageA.cells ⟨n',ts'⟩) _ (fun _ h=>h.2) Tryz.underlying47 rfl (page_infoP _ HT4)) hHeld ?_
   try simp only [zz]
   refine wpAnyH_ready (rs:=[6]) (by kernel_rfl) (by simp) ?_
   refine AllReadyH.cons rfl (fun K hK=>?_) AllReadyH.nil
   go_simp
   refine (eqPage_same n' ss ts' HP4 HV.out d0 (R1.below (hbW.trans (D0.mono hbW.size))) (R2.below (hbW.trans (D0.mono hbW.size))) F1).mono ?_
   rintro e d1 ⟨rfl,hb1⟩
   have D1:Below W.heap.size W d1:=D0.trans (hb1.mono D0.size)
   refine hK.out _ _ (HR.out _ D1) (fun hHeld=>?_)
   clear hK K hb1
   try simp only [zz]
   refine tq 7 (v:=.bool false) rfl hHeld ?_
   try simp only [zz]
   refine wpAnyH_done (by kernel_rfl) ?_ _
   clear hHeld
   go_wp2_with fail
   go_roundw
   case rel=>exact ⟨k+1,by omega,by go_num,D1⟩
   case measure=>simp [intOf];omega
  ·obtain rfl:k=8:=by omega
   have hkk:¬ ((8:Nat):Int)<8:=by omega
   have HE:Hid (Below w.heap.size w wr):=hbW.trans (hbr.mono hbW.size)
   go_wp2
   go_ret
   exact ⟨rfl,HE.out⟩
theorem OwnS.part {w:World} {lo hi:Nat} {A M B:List SlotA} (h:OwnS w lo hi (A++(M++B))):OwnS w lo hi M:=by
 refine ⟨fun s hs=>h.each s (by simp [hs]),?_⟩
 have:=h.apart
 simp only [List.flatMap_append,List.nodup_append] at this
 exact this.2.1.1
theorem OwnS.swap {w w':World} {lo hi:Nat} {A M N B:List SlotA} (h:OwnS w lo hi (A++(M++B))) (ht:Touch (M.flatMap SlotA.blocks) w w') (ho:OwnS w' lo hi N) (hb:N.flatMap SlotA.blocks=M.flatMap SlotA.blocks):OwnS w' lo hi (A++(N++B)):=by
 have ha:=h.apart
 simp only [List.flatMap_append,List.nodup_append,List.mem_append] at ha
 obtain ⟨a1,⟨a2,a3,a4⟩,a5⟩:=ha
 refine ⟨fun s hs=>?_,?_⟩
 ·rcases List.mem_append.1 hs with hs | hs
  ·exact SlotA.touch (h.each s (by simp [hs])) ht (fun k hk hk'=>a5 k (List.mem_flatMap.2 ⟨s,hs,hk⟩) k (.inl hk') rfl)
  ·rcases List.mem_append.1 hs with hs | hs
   ·exact ho.each s hs
   ·exact SlotA.touch (h.each s (by simp [hs])) ht (fun k hk hk'=>a4 k hk' k (List.mem_flatMap.2 ⟨s,hs,hk⟩) rfl)
 ·have:=h.apart
  simp only [List.flatMap_append,hb] at this ⊢
  exact this
theorem markSs_blocks (ss:List SlotA):∀ k,(markSs ss k).flatMap SlotA.blocks=ss.flatMap SlotA.blocks:=by
 induction ss with
 | nil=>intro k;rfl
 | cons s r ih=>intro k;simp only [markSs,List.flatMap_cons,mark_blocks,ih]
theorem countS_app (A B:List SlotA):countS (A++B)=countS A+countS B:=by
 induction A with
 | nil=>simp [countS]
 | cons s r ih=>simp only [List.cons_append,countS,ih];omega
theorem slots8_app (a b:List PageA):slots8 (a++b)=slots8 a++slots8 b:=by simp only [slots8,List.flatMap_append]
theorem slots8_cons (p:PageA) (b:List PageA):slots8 (p::b)=p.ss++slots8 b:=by simp only [slots8,List.flatMap_cons]
theorem pageD_eq {ps:List PageA} {k:Nat} (h:k<ps.length):ps[k]=ps.getD k zeroP:=by simp [List.getD,h]
theorem slots_split (ps:List PageA) (k:Nat) (hk:k<ps.length):slots8 ps=slots8 (ps.take k)++((ps.getD k zeroP).ss++slots8 (ps.drop (k+1))):=by
 have e:ps=ps.take k++ps.getD k zeroP::ps.drop (k+1):=by
  conv=>lhs;rw [← List.take_append_drop k ps,List.drop_eq_getElem_cons hk]
  simp [List.getD,hk]
 conv=>lhs;rw [e]
 simp only [slots8,List.flatMap_append,List.flatMap_cons]
theorem slots_next (ps:List PageA) (k:Nat) (hk:k<ps.length):slots8 (ps.take (k+1))=slots8 (ps.take k)++(ps.getD k zeroP).ss:=by
 rw [List.take_succ_eq_append_getElem hk,slots8_app,slots8_cons,pageD_eq hk]
 simp only [slots8,List.flatMap_nil,List.append_nil]
theorem countS_take_le (ps:List PageA) (k:Nat):countS (slots8 (ps.take k))≤countS (slots8 ps):=by
 conv=>rhs;rw [← List.take_append_drop k ps,slots8_app,countS_app]
 omega
theorem markPageA8_touch (ps:List PageA) (hp:Disk8 ps) (lo hi:Nat) (k0:Int) (w:World) (ho:OwnS w lo hi (slots8 ps)) (hf:∀ p∈ps,Fit p.ss) (h0:0≤k0) (hk:k0+countS (slots8 ps)≤10995116277760) (hhi:hi≤w.heap.size):
  Calls Tryz.prog 34 #[.agg (cellsPs ps).toArray,.int .i64 k0] w fun e w'=>e=.returned (.int .i64 (k0+countS (slots8 ps)))∧OwnS w' lo hi (markSs (slots8 ps) k0)∧Touch ((slots8 ps).flatMap SlotA.blocks) w w':=by
 obtain ⟨W,hW,b0,hbW,hsW⟩:=boxes1 w (cellsPs ps) 48
 have hs0:w.heap.size<W.heap.size:=by omega
 have hbl:=ho.blocks_lt
 go_enter Tryz.func34,Tryz.ntmps34
 go_wp2_with fail
 rw [hW.out]
 clear hW hsW
 go_loopw [1,5] (fun kk i wr=>∃ k:Nat,k≤8∧i=.int .i64 (k:Int)∧kk=.int .i64 (k0+countS (slots8 (ps.take k)))∧OwnS wr lo hi (markSs (slots8 (ps.take k)) k0++slots8 (ps.drop k))∧Touch ((slots8 ps).flatMap SlotA.blocks) W wr) (fun _ i _=>8-(intOf i).toNat)
 case atStart=>exact ⟨0,Nat.zero_le _,rfl,by simp [slots8,countS],by simpa [slots8,markSs] using ho.below hbW,Touch.refl _ _⟩
 case round=>
  obtain ⟨k,hk8,rfl,rfl,hor,htr⟩:=hrel
  by_cases hlt:k<8
  ·have hkl:k<ps.length:=by rw [hp.eight];exact hlt
   have hwB:w.heap.size∉(slots8 ps).flatMap SlotA.blocks:=fun h=>by have:=(hbl _ h).2;omega
   have r1:=page_in hp (b0.touch htr hwB) k hlt
   have HP4:=hp.at hlt
   have F1:=hf _ (pageD_mem (k:=k) hkl)
   have e1:slots8 (ps.drop k)=(ps.getD k zeroP).ss++slots8 (ps.drop (k+1)):=by
    rw [List.drop_eq_getElem_cons hkl,slots8_cons,pageD_eq hkl]
   rw [e1] at hor
   have e2:=slots_next ps k hkl
   have HC:Hid (countS (slots8 (ps.take (k+1)))=countS (slots8 (ps.take k))+countS (ps.getD k zeroP).ss):=by rw [Hid,e2,countS_app]
   have HM:Hid (markSs (slots8 (ps.take (k+1))) k0=markSs (slots8 (ps.take k)) k0++markSs (ps.getD k zeroP).ss (k0+countS (slots8 (ps.take k)))):=by rw [Hid,e2,markSs_app]
   have HB:Hid (∀ j∈(ps.getD k zeroP).ss.flatMap SlotA.blocks,j∈(slots8 ps).flatMap SlotA.blocks):=fun j hj=>by
    rw [slots_split ps k hkl]
    simp only [List.flatMap_append,List.mem_append]
    exact .inr (.inl hj)
   have hcl:=countS_take_le ps k
   have C:=markPage_touch (ps.getD k zeroP) HP4 lo hi (k0+countS (slots8 (ps.take k))) wr hor.part F1 (by omega) (by omega) (by have:=htr.size;omega)
   clear e1 e2
   generalize ps.getD k zeroP=p at*
   have HIp:=page_infoP p HP4
   have hi0:(0:Int)≤(k:Int):=by omega
   have hi8:(k:Int)<8:=by omega
   generalize hcc:countS (slots8 (ps.take k))=cc at*
   go_wp2_with (first | (guard_target=wpList _ _ _ (Oper.mk (some 12) _ _ _ _ _::_) _ _;refine wpList_load_mid rfl 47 (.tmp 11) rfl w.heap.size (k*17) rfl p.cells _ r1 Tryz.underlying47 rfl HIp ?_) | fail)
   refine C.mono ?_
   clear C
   rintro e w1 ⟨rfl,ho1,ht1⟩
   have HOK:Hid (OwnS w1 lo hi (markSs (slots8 (ps.take (k+1))) k0++slots8 (ps.drop (k+1)))):=by
    rw [Hid,HM.out,List.append_assoc]
    exact hor.swap ht1 ho1 (markSs_blocks _ _)
   have HTK:Hid (Touch ((slots8 ps).flatMap SlotA.blocks) W w1):=htr.trans (ht1.mono HB.out)
   have HCC:Hid (k0+(cc:Int)+(countS p.ss:Int)=k0+(countS (slots8 (ps.take (k+1))):Int)):=by have:=HC.out;rw [Hid];omega
   clear hor htr ho1 ht1 HC HM
   go_wp2_with fail
   go_roundw
   case rel=>exact ⟨k+1,by omega,by go_num,by rw [HCC.out],HOK.out,HTK.out⟩
   case measure=>simp [intOf];omega
  ·obtain rfl:k=8:=by omega
   have hkk:¬ ((8:Nat):Int)<8:=by omega
   have e1:ps.take 8=ps:=by rw [← hp.eight,List.take_length]
   have e2:ps.drop 8=[]:=by rw [← hp.eight,List.drop_length]
   rw [e1,e2] at hor
   have HE:Hid (OwnS wr lo hi (markSs (slots8 ps) k0)∧Touch ((slots8 ps).flatMap SlotA.blocks) w wr):=⟨by simpa [slots8] using hor,(Touch.of_below hbW).trans htr⟩
   have HT:Hid (k0+(countS (slots8 (ps.take 8)):Int)=k0+countS (slots8 ps)):=by rw [Hid,e1]
   clear e1 e2
   go_wp2
   go_ret
   exact ⟨ret_int HT.out,HE.out.1,HE.out.2⟩
theorem heldPageA8_any (ps:List PageA) (hp:Disk8 ps) (lo hi:Nat) (k0:Int) (w:World) (ho:OwnS w lo hi (markSs (slots8 ps) k0)) (hf:∀ p∈ps,Fit p.ss) (h0:0≤k0) (hk:k0+countS (slots8 ps)≤10995116277760):
  Calls Tryz.prog 39 #[.agg (cellsPs ps).toArray,.int .i64 k0] w fun e w'=>e=.returned (.int .i64 (k0+countS (slots8 ps)))∧Below w.heap.size w w':=by
 obtain ⟨W,hW,b0,hbW,hsW⟩:=boxes1 w (cellsPs ps) 48
 go_enter Tryz.func39,Tryz.ntmps39
 go_wp2_with fail
 rw [hW.out]
 clear hW hsW
 go_loopw [1,5] (fun kk i wr=>∃ k:Nat,k≤8∧i=.int .i64 (k:Int)∧kk=.int .i64 (k0+countS (slots8 (ps.take k)))∧Below W.heap.size W wr) (fun _ i _=>8-(intOf i).toNat)
 case atStart=>exact ⟨0,Nat.zero_le _,rfl,by simp [slots8,countS],Below.refl _ _⟩
 case round=>
  obtain ⟨k,hk8,rfl,rfl,hbr⟩:=hrel
  by_cases hlt:k<8
  ·have hkl:k<ps.length:=by rw [hp.eight];exact hlt
   have r1:=page_in hp (b0.below hbr b0.lt) k hlt
   have HP4:=hp.at hlt
   have F1:=hf _ (pageD_mem (k:=k) hkl)
   have hor:OwnS wr lo hi (markSs (slots8 ps) k0):=ho.below (hbW.trans (hbr.mono hbW.size))
   rw [slots_split ps k hkl,markSs_app,markSs_app] at hor
   have e2:=slots_next ps k hkl
   have HC:Hid (countS (slots8 (ps.take (k+1)))=countS (slots8 (ps.take k))+countS (ps.getD k zeroP).ss):=by rw [Hid,e2,countS_app]
   have hcl:=countS_take_le ps k
   have C:=heldPage_any (ps.getD k zeroP) HP4 lo hi (k0+countS (slots8 (ps.take k))) wr hor.part F1 (by omega) (by omega)
   clear e2 hor
   generalize ps.getD k zeroP=p at*
   have HIp:=page_infoP p HP4
   have hi0:(0:Int)≤(k:Int):=by omega
   have hi8:(k:Int)<8:=by omega
   generalize hcc:countS (slots8 (ps.take k))=cc at*
   go_wp2_with (first | (guard_target=wpList _ _ _ (Oper.mk (some 12) _ _ _ _ _::_) _ _;refine wpList_load_mid rfl 47 (.tmp 11) rfl w.heap.size (k*17) rfl p.cells _ r1 Tryz.underlying47 rfl HIp ?_) | fail)
   refine C.mono ?_
   clear C
   rintro e w1 ⟨rfl,hb1⟩
   have HBK:Hid (Below W.heap.size W w1):=hbr.trans (hb1.mono hbr.size)
   have HCC:Hid (k0+(cc:Int)+(countS p.ss:Int)=k0+(countS (slots8 (ps.take (k+1))):Int)):=by have:=HC.out;rw [Hid];omega
   have hnn:¬ (k0+(cc:Int)+(countS p.ss:Int))<0:=by omega
   clear hbr hb1 HC r1
   go_wp2_with fail
   go_roundw
   case rel=>exact ⟨k+1,by omega,by go_num,by rw [HCC.out],HBK.out⟩
   case measure=>simp [intOf];omega
  ·obtain rfl:k=8:=by omega
   have hkk:¬ ((8:Nat):Int)<8:=by omega
   have e1:ps.take 8=ps:=by rw [← hp.eight,List.take_length]
   have HT:Hid (k0+(countS (slots8 (ps.take 8)):Int)=k0+countS (slots8 ps)):=by rw [Hid,e1]
   have HE:Hid (Below w.heap.size w wr):=hbW.trans (hbr.mono hbW.size)
   clear e1
   go_wp2
   go_ret
   exact ⟨ret_int HT.out,HE.out⟩
structure PoolV where
 seats:List SeatV
 hand:Int
structure PoolA where
 seats:List SeatA
 hand:Int
 a:Option Addr
 c:Nat
def PoolA.v (l:PoolA):PoolV:=⟨l.seats.map SeatA.v,l.hand⟩
def PoolA.cells (l:PoolA):List Value:=[.slice l.a l.seats.length l.c,.int .i64 l.hand]
def PoolA.reads (w:World) (l:PoolA):Prop:=ReadsSts w l.a l.seats
def PoolA.own (w:World) (lo hi:Nat) (l:PoolA):Prop:=OwnSts w lo hi l.a l.c l.seats
def SeatA.short (s:SeatA) (m:Nat):Prop:=∀ x∈s.ss,x.v.o.ints.length≤m∧x.v.o.refs.length≤m
structure PoolA.short (l:PoolA) (m:Nat):Prop where
 len:l.seats.length≤m
 each:∀ r∈l.seats,r.short m
theorem PoolA.short.at {l:PoolA} {m:Nat} (h:l.short m) (k:Nat) (hk:k<l.seats.length):(l.seats.getD k zeroSt).short m:=h.each _ (seatD_mem _ k hk)
theorem SeatA.short_of {a b:SeatA} {m:Nat} (h:a.v=b.v) (hb:b.short m):a.short m:=by
 intro x hx
 have e:a.ss.map (·.v)=b.ss.map (·.v):=congrArg SeatV.ss h
 have:x.v∈b.ss.map (·.v):=by rw [← e];exact List.mem_map.2 ⟨x,hx,rfl⟩
 obtain ⟨y,hy,e⟩:=List.mem_map.1 this
 rw [← e]
 exact hb y hy
theorem SeatA.short.wide {s:SeatA} (h:s.short 1048576):s.short 1099511627776:=fun x hx=>by have:=h x hx;omega
theorem mapSt_len {rs ts:List SeatA} (h:ts.map SeatA.v=rs.map SeatA.v):ts.length=rs.length:=by simpa using congrArg List.length h
theorem mapSt_at {rs ts:List SeatA} (h:ts.map SeatA.v=rs.map SeatA.v) (k:Nat) (hk:k<rs.length):(ts.getD k zeroSt).v=(rs.getD k zeroSt).v:=by
 have hk':k<ts.length:=by rw [mapSt_len h];exact hk
 have:=congrArg (fun x=>x[k]?) h
 simpa [List.getD,hk,hk'] using this
theorem mapSt_all {rs ts:List SeatA} (h:ts.map SeatA.v=rs.map SeatA.v) (P:SeatA→Prop) (hP:∀ a b:SeatA,a.v=b.v→P b→P a) (hall:∀ r∈rs,P r):∀ r∈ts,P r:=by
 intro r hr
 obtain ⟨k,hk,rfl⟩:=List.getElem_of_mem hr
 have hk':k<rs.length:=by rw [← mapSt_len h];exact hk
 have e:=mapSt_at h k hk'
 refine hP _ (rs.getD k zeroSt) ?_ (hall _ (seatD_mem rs k hk'))
 rw [← e]
 simp [List.getD,hk]
theorem PoolA.short_of {l t:PoolA} {m:Nat} (h:t.v=l.v) (hl:l.short m):t.short m:=by
 simp only [PoolA.v,PoolV.mk.injEq] at h
 exact ⟨by rw [mapSt_len h.1];exact hl.len,mapSt_all h.1 (fun r=>r.short m) (fun a b e hb=>SeatA.short_of e hb) hl.each⟩
theorem PoolA.short_wide {l:PoolA} (hl:l.short 1048576):l.short 1099511627776:=⟨by have:=hl.len;omega,fun r hr=>(hl.each r hr).wide⟩
theorem seat_one' (q:SeatA):q.cells.toArray.all (·.oneCell')=true:=all_oneCell_toArray (oneSt q)
theorem zeroSt_own' (w:World) (lo hi:Nat) (h:hi≤w.heap.size):zeroSt.own w lo hi:=⟨fun s hs=>by
 simp only [SeatA.ss,zeroSt,List.mem_cons,List.not_mem_nil,or_false] at hs
 have:s=zeroS:=by rcases hs with h | h | h | h<;>exact h
 subst this
 exact ⟨ownI_nil w lo hi h,ownI_nil w lo hi h,fun k h1 _=>by cases h1⟩,by show ([]:List Nat).Nodup;simp⟩
theorem four_slots' {ts:List SlotA} (h:ts.length=4):∃ a b c d,ts=[a,b,c,d]:=by
 match ts,h with
 | [a,b,c,d],_=>exact ⟨a,b,c,d,rfl⟩
theorem wide_of {ss:List SlotA} (hl:∀ s∈ss,s.v.o.ints.length≤1048576∧s.v.o.refs.length≤1048576):∀ s∈ss,s.v.o.ints.length≤1099511627776∧s.v.o.refs.length≤1099511627776:=fun s hs=>by have:=hl s hs;omega
def liveFrom (tx:Int):List LiveV→Nat→Int
 | [],_=> -1
 | l::r,k=>if l.tx=tx then (k:Int) else liveFrom tx r (k+1)
def liveOf (ls:List LiveV) (tx:Int):Int:=liveFrom tx ls 0
def seatFrom (no:Int):List SeatV→Nat→Int
 | [],_=> -1
 | l::r,k=>if l.no=no then (k:Int) else seatFrom no r (k+1)
def seatedOf (ss:List SeatV) (no:Int):Int:=seatFrom no ss 0
def lastFrom (tx:Int) (rs:List RecV):Nat→Int
 | 0=>0
 | k+1=>if (rs.getD k zeroR.v).tx=tx then (k:Int)+1 else lastFrom tx rs k
def lastOf (rs:List RecV) (tx:Int):Int:=lastFrom tx rs rs.length
theorem dropL_at (ls:List LiveV) (k:Nat) (h:k<ls.length):ls.drop k=ls.getD k zeroL::ls.drop (k+1):=by
 rw [List.drop_eq_getElem_cons h]
 simp [List.getD,h]
theorem dropSt_at (ls:List SeatA) (k:Nat) (h:k<ls.length):(ls.map SeatA.v).drop k=(ls.getD k zeroSt).v::(ls.map SeatA.v).drop (k+1):=by
 rw [List.drop_eq_getElem_cons (by simpa using h)]
 simp [List.getD,h]
theorem l7Live_any (e:EngA) (hsh:e.shape) (tx:Int) (w:World) (hr:ReadsL w e.aT e.txs) (hl:e.txs.length≤1099511627776):
  Calls Tryz.prog 87 #[.agg e.cells.toArray,.int .i64 tx] w fun r w'=>r=.returned (.int .i64 (liveOf e.txs tx))∧Below w.heap.size w w':=by
 obtain ⟨W,hW,b0,hbW,hsW⟩:=boxes1 w e.cells 58
 have HT:Hid (∀ u,Below W.heap.size W u→u.cell? ⟨w.heap.size,140,none⟩=some (.slice e.aT e.txs.length e.cT)):=fun u hu=>EngA.cell_at hsh (b0.below hu b0.lt) 4 _ rfl
 have HR:Hid (∀ u,Below W.heap.size W u→ReadsL u e.aT e.txs):=fun u hu=>hr.below (hbW.trans (hu.mono hbW.size))
 have HF:Hid (liveFrom tx (e.txs.drop 0) 0=liveOf e.txs tx):=rfl
 generalize liveOf e.txs tx=R at*
 generalize e.cells=cs at*
 generalize e.txs=ls at*
 generalize e.aT=a at*
 generalize e.cT=c at*
 clear hsW b0 hsh hr
 go_enter Tryz.func87,Tryz.ntmps87
 go_wp2_with fail
 rw [hW.out]
 clear hW
 go_loopw [5] (fun i wr=>∃ (k:Nat),i=.int .i64 k∧k≤ls.length∧Hid (liveFrom tx (ls.drop k) k=R)∧Below W.heap.size W wr)
  (fun i _=>ls.length-(intOf i).toNat)
 case atStart=>exact ⟨0,rfl,by omega,HF,Below.refl _ _⟩
 case round=>
  obtain ⟨k,rfl,hk,hR,hbl⟩:=hrel
  have x0:=HT.out wr hbl
  have hrr:=HR.out wr hbl
  have hbT:Below w.heap.size w wr:=hbW.trans (hbl.mono hbW.size)
  by_cases hlt:k<ls.length
  ·obtain ⟨b,off,rfl,hcell⟩:=hrr (by rintro rfl;simp at hlt)
   obtain ⟨c0,_,_⟩:=hcell k hlt
   clear hcell
   have hkk:(k:Int)<(ls.length:Int):=by omega
   have hi0:(0:Int)≤(k:Int):=by omega
   have HR2:Hid ((if (ls.getD k zeroL).tx=tx then (k:Int) else liveFrom tx (ls.drop (k+1)) (k+1))=R):=by
    have h:=hR.out
    rw [dropL_at ls k hlt,liveFrom] at h
    exact h
   generalize ls.getD k zeroL=z at*
   by_cases hq:z.tx=tx
   ·have HR3:Hid ((k:Int)=R):=by have h:=HR2.out;rw [if_pos hq] at h;exact h
    have hqb:(z.tx == tx)=true:=by simpa using hq
    clear hq hR HR2
    go_wp2
    go_ret
    exact ⟨ret_int HR3.out,hbT⟩
   ·have HR3:Hid (liveFrom tx (ls.drop (k+1)) (k+1)=R):=by have h:=HR2.out;rw [if_neg hq] at h;exact h
    have hqb:(z.tx == tx)=false:=by simpa using hq
    clear hq hR HR2
    go_wp2_with fail
    go_roundw
    case rel=>exact ⟨k+1,by go_num,by omega,HR3,hbl⟩
    case measure=>simp [intOf];omega
  ·have hkk:¬ (k:Int)<(ls.length:Int):=by omega
   have HR':Hid (-1=R):=by
    have h:=hR.out
    rw [List.drop_eq_nil_of_le (by omega),liveFrom] at h
    exact h
   clear hR
   go_wp2
   go_ret
   exact ⟨ret_int HR'.out,hbT⟩
theorem recV_at (rs:List RecA) (k:Nat):(rs.map RecA.v).getD k zeroR.v=(rs.getD k zeroR).v:=by
 simp only [List.getD,List.getElem?_map]
 cases rs[k]? <;>rfl
theorem l7Last_any (l:LogA) (tx:Int) (w:World) (hr:l.reads w) (hl:l.recs.length≤1099511627776):
  Calls Tryz.prog 86 #[.agg l.cells.toArray,.int .i64 tx] w fun r w'=>r=.returned (.int .i64 (lastOf (l.recs.map RecA.v) tx))∧Below w.heap.size w w':=by
 obtain ⟨rs,sure,a,c⟩:=l
 simp only [LogA.cells,LogA.reads] at*
 obtain ⟨W,hW,b0,hbW,hsW⟩:=boxes1 w [.slice a rs.length c,.int .i64 sure] 54
 have HT:Hid (∀ u,Below W.heap.size W u→u.cell? ⟨w.heap.size,0,none⟩=some (.slice a rs.length c)):=fun u hu=>(b0.below hu b0.lt).cell 0 _ rfl
 have HR:Hid (∀ u,Below W.heap.size W u→ReadsRs u a rs):=fun u hu=>hr.below (hbW.trans (hu.mono hbW.size))
 have HF:Hid (lastFrom tx (rs.map RecA.v) rs.length=lastOf (rs.map RecA.v) tx):=by rw [Hid,lastOf,List.length_map]
 generalize lastOf (rs.map RecA.v) tx=R at*
 have x0:=HT.out W (Below.refl _ _)
 clear hsW b0 hr
 go_enter Tryz.func86,Tryz.ntmps86
 go_wp2_with fail
 rw [hW.out]
 clear hW x0
 go_loopw [5] (fun i wr=>∃ (k:Nat),i=.int .i64 ((k:Int)-1)∧k≤rs.length∧Hid (lastFrom tx (rs.map RecA.v) k=R)∧Below W.heap.size W wr)
  (fun i _=>(intOf i+1).toNat)
 case atStart=>exact ⟨rs.length,by go_num,by omega,HF,Below.refl _ _⟩
 case round=>
  obtain ⟨k,rfl,hk,hR,hbl⟩:=hrel
  have x0:=HT.out wr hbl
  have hrr:=HR.out wr hbl
  have hbT:Below w.heap.size w wr:=hbW.trans (hbl.mono hbW.size)
  cases k with
  | zero=>
   have HR':Hid (0=R):=hR.out
   clear hR
   go_wp2
   go_ret
   exact ⟨ret_int HR'.out,hbT⟩
  | succ k=>
   obtain ⟨b,off,rfl,hcell⟩:=hrr (by rintro rfl;simp at hk)
   have c0:=(hcell k (by omega)).1 1 _ rfl
   clear hcell
   have hkk:(k:Int)<(rs.length:Int):=by omega
   have hi0:(0:Int)≤(k:Int):=by omega
   have HR2:Hid ((if (rs.getD k zeroR).tx=tx then (k:Int)+1 else lastFrom tx (rs.map RecA.v) k)=R):=by
    have h:=hR.out
    rw [lastFrom,recV_at] at h
    exact h
   have hk1:((k+1:Nat):Int)-1=(k:Int):=by omega
   rw [hk1]
   generalize rs.getD k zeroR=z at*
   by_cases hq:z.tx=tx
   ·have HR3:Hid ((k:Int)+1=R):=by have h:=HR2.out;rw [if_pos hq] at h;exact h
    have hqb:(z.tx == tx)=true:=by simpa using hq
    clear hq hR HR2
    go_wp2
    go_ret
    exact ⟨ret_int HR3.out,hbT⟩
   ·have HR3:Hid (lastFrom tx (rs.map RecA.v) k=R):=by have h:=HR2.out;rw [if_neg hq] at h;exact h
    have hqb:(z.tx == tx)=false:=by simpa using hq
    clear hq hR HR2
    go_wp2_with fail
    go_roundw
    case rel=>exact ⟨k,by go_num,by omega,HR3,hbl⟩
    case measure=>simp [intOf]
end Go.Proofs.YtcoeamamaifoeaaGreatDoor
namespace Go.Proofs.YtcoeamamaifoeaaGreatDoor
open Go.RowKit
def RecA.with (r:RecA) (t1 t2:SlotA) (aL:Option Addr) (cL:Nat):RecA:=⟨r.lsn,r.tx,r.prev,r.kind,r.oid,t1,t2,r.next,r.txs,aL,cL⟩
theorem with_v {r:RecA} {t1 t2:SlotA} {aL:Option Addr} {cL:Nat} (h1:t1.v=r.bf.v) (h2:t2.v=r.af.v):(r.with t1 t2 aL cL).v=r.v:=by simp only [RecA.with,RecA.v,h1,h2]
theorem ownL_lit {w W:World} (h:w.alloc (.cells #[] 109)=W):OwnL W w.heap.size W.heap.size (some ⟨w.heap.size,0,none⟩) 0 []:=by
 subst h
 refine ⟨World.ownsRow_lit (size:=3) w #[] 0 (Nat.le_refl _) (by simp [maxLen]) rfl,Nat.le_refl _,fun k hk=>?_⟩
 simp [Value.ownBlock] at hk
 rw [World.size_alloc]
 omega
theorem l5CopyRec_own (r:RecA) (w:World) (hr:r.reads w) (hl:r.short 1099511627776) (hc:r.aL=none→r.cL=0):
  Calls Tryz.prog 83 #[.agg r.cells.toArray] w fun e w'=>∃ t:RecA,e=.returned (.agg t.cells.toArray)∧Hid (t.v=r.v)∧t.own w' w.heap.size w'.heap.size∧Below w.heap.size w w':=by
 obtain ⟨W,hW,b0,b1,hbW,hsW⟩:=boxes2 w r.cells [.int .i64 0,.int .i64 0,.int .i64 0,.int .i64 0,.int .i64 0,.bool false,.int .i64 0,.slice none 0 0,.slice none 0 0,.bool false,.int .i64 0,.slice none 0 0,.slice none 0 0,.int .i64 0,.slice none 0 0] 100 100
 have hs0:w.heap.size+1<W.heap.size:=by omega
 clear hsW
 have C1:=l3CopySlot_own r.bf W (ReadsO.below hr.bf hbW) hl.bf.1 hl.bf.2
 have HC:Hid (r.aL=none→r.cL=0):=hc
 have HWV:Hid (∀ (t1 t2:SlotA) (aL:Option Addr) (cL:Nat),t1.v=r.bf.v→t2.v=r.af.v→(r.with t1 t2 aL cL).v=r.v):=fun t1 t2 aL cL h1 h2=>with_v h1 h2
 have HWC:Hid (∀ (t1 t2:SlotA) (aL:Option Addr) (cL:Nat),(r.with t1 t2 aL cL).cells=[.int .i64 r.lsn,.int .i64 r.tx,.int .i64 r.prev,.int .i64 r.kind,.int .i64 r.oid,.bool t1.v.has,.int .i64 t1.v.o.kind,.slice t1.aI t1.v.o.ints.length t1.cI,.slice t1.aR t1.v.o.refs.length t1.cR,.bool t2.v.has,.int .i64 t2.v.o.kind,.slice t2.aI t2.v.o.ints.length t2.cI,.slice t2.aR t2.v.o.refs.length t2.cR,.int .i64 r.next,.slice aL r.txs.length cL]):=fun _ _ _ _=>rfl
 simp only [RecA.cells] at b0 hW ⊢
 simp only [SlotA.cells] at C1
 clear hc
 go_enter Tryz.func83,Tryz.ntmps83
 go_wp2_with fail
 rw [hW.out]
 clear hW
 refine C1.mono ?_
 clear C1
 rintro e w1 ⟨t1,rfl,hv1,ho1,hb1⟩
 have b01:=b0.below hb1 b0.lt
 have b11:=b1.below hb1 b1.lt
 have hs1:=hb1.size
 clear b0 b1
 have x5:=b01.cell 5 _ rfl
 have xf5:=b01.frozen 5
 have x6:=b01.cell 6 _ rfl
 have xf6:=b01.frozen 6
 have x7:=b01.cell 7 _ rfl
 have xf7:=b01.frozen 7
 have x8:=b01.cell 8 _ rfl
 have xf8:=b01.frozen 8
 obtain ⟨W2,hW2,b02,hw2,hs2⟩:=box_quad b01 5 6 7 8 (.bool t1.v.has) (.int .i64 t1.v.o.kind) (.slice t1.aI t1.v.o.ints.length t1.cI) (.slice t1.aR t1.v.o.refs.length t1.cR)
 have hs2a:=Nat.le_of_eq hs2
 have hs2b:=Nat.le_of_eq hs2.symm
 clear hs2
 simp only [List.set] at b02
 have b12:=b11.within hw2 (by omega)
 have hB2:Below w.heap.size w W2:=(hbW.trans (hb1.mono (by omega))).trans (hw2.below (by omega) (by omega))
 have ho2:=OwnO.within ho1 hw2 (.inr (by omega))
 have C2:=l3CopySlot_own r.af W2 (ReadsO.below hr.af hB2) hl.af.1 hl.af.2
 simp only [SlotA.cells] at C2
 clear b01 b11 hw2 ho1
 go_upto_region 2 with fail
 rw [hW2.out]
 clear x5 x6 x7 x8 xf5 xf6 xf7 xf8 hW2
 have y9:=b02.cell 9 _ rfl
 have y10:=b02.cell 10 _ rfl
 have y11:=b02.cell 11 _ rfl
 have y12:=b02.cell 12 _ rfl
 go_wp2_with fail
 refine C2.mono ?_
 clear C2 y9 y10 y11 y12
 rintro e w3 ⟨t2,rfl,hv2,ho3,hb3⟩
 have b03:=b02.below hb3 b02.lt
 have b13:=b12.below hb3 b12.lt
 have hs3:=hb3.size
 have ho23:=OwnO.below ho2 hb3
 clear b02 b12 ho2
 have x9:=b03.cell 9 _ rfl
 have xf9:=b03.frozen 9
 have x10:=b03.cell 10 _ rfl
 have xf10:=b03.frozen 10
 have x11:=b03.cell 11 _ rfl
 have xf11:=b03.frozen 11
 have x12:=b03.cell 12 _ rfl
 have xf12:=b03.frozen 12
 obtain ⟨W4,hW4,b04,hw4,hs4⟩:=box_quad b03 9 10 11 12 (.bool t2.v.has) (.int .i64 t2.v.o.kind) (.slice t2.aI t2.v.o.ints.length t2.cI) (.slice t2.aR t2.v.o.refs.length t2.cR)
 have hs4a:=Nat.le_of_eq hs4
 have hs4b:=Nat.le_of_eq hs4.symm
 clear hs4
 simp only [List.set] at b04
 have b14:=b13.within hw4 (by omega)
 have hB4:Below w.heap.size w W4:=(hB2.trans (hb3.mono (by omega))).trans (hw4.below (by omega) (by omega))
 have hoA4:=OwnO.within ho23 hw4 (.inr (by omega))
 have hoB4:=OwnO.within ho3 hw4 (.inr (by omega))
 clear b03 b13 hw4 ho3 ho23 hb3
 go_upto_region 3 with fail
 rw [hW4.out]
 clear x9 x10 x11 x12 xf9 xf10 xf11 xf12 hW4
 obtain ⟨W5,hW5,bE,hb5,hs5⟩:=boxes1 W4 [] 109
 have hs5a:=Nat.le_of_eq hs5
 have hs5b:=Nat.le_of_eq hs5.symm
 clear hs5
 have hW5':W4.alloc (.cells #[] 109)=W5:=hW5.out
 have HW5:Hid (W4.alloc (.cells #[] 109)=W5):=hW5'
 have oE:=ownL_lit hW5'
 clear bE hW5 hW5'
 have b05:=b04.below hb5 b04.lt
 have b15:=b14.below hb5 b14.lt
 have hoA5:=OwnO.below hoA4 hb5
 have hoB5:=OwnO.below hoB4 hb5
 have hB5:Below w.heap.size w W5:=hB4.trans (hb5.mono (by omega))
 have k14:=b05.cell 14 _ rfl
 have k14':(W4.alloc (.cells #[] 109)).cell? ⟨w.heap.size,14,none⟩=some (.slice r.aL r.txs.length r.cL):=by rw [HW5.out];exact k14
 have hA1:([]:List LiveV).length+r.txs.length≤1099511627776:=by have:=hl.txs;simp only [List.length_nil];omega
 have hrt:ReadsL W5 r.aL r.txs:=hr.txs.below hB5
 have hs5':=hb5.size
 clear b04 b14 hoA4 hoB4
 have HNC:Hid (r.aL=none→r.cL=0):=HC.out
 go_wp2_with (at_builtin;refine append_lives rfl _ _ rfl W4.heap.size _ (some ⟨W4.heap.size,0,none⟩) 0 [] rfl (by rw [HW5.out];exact oE) r.aL r.cL r.txs rfl (by rw [HW5.out];exact hrt) HNC.out hA1 (by rw [HW5.out];omega) ?_)
 intro aL cL ys w6 hys o6 g6
 rw [HW5.out] at g6
 have hw6:Within W4.heap.size W5.heap.size W5 w6:=Within.of_grown g6 (fun j hj=>oE.lt j hj)
 have hs6:=hw6.size
 have b06:=b05.within hw6 (by omega)
 have b16:=b15.within hw6 (by omega)
 have hoA6:=OwnO.within hoA5 hw6 (.inl (by omega))
 have hoB6:=OwnO.within hoB5 hw6 (.inl (by omega))
 have hB6:Below w.heap.size w w6:=hB5.trans (hw6.below (by omega) (by omega))
 obtain rfl:ys=r.txs:=hys.out.trans (List.nil_append _)
 clear hys g6 hw6 oE b05 b15 hoA5 hoB5 k14 k14' hrt HW5
 have HAP:Hid ((t1.blocks++(t2.blocks++(Value.slice aL r.txs.length cL).ownBlock.toList)).Nodup):=rec_apart (c:=W4.heap.size) (OwnO.widen hoA6 (Nat.le_refl _) (show _≤W2.heap.size by omega) (by omega)) (OwnO.widen hoB6 (Nat.le_refl _) (show _≤W4.heap.size by omega) (by omega)) o6 (by omega)
 have x14:=b06.cell 14 _ rfl
 have f14:=b06.frozen 14
 obtain ⟨W7,hW7,b07,hw7,hs7⟩:=box_set b06 14 (.slice aL r.txs.length cL)
 have hs7a:=Nat.le_of_eq hs7
 have hs7b:=Nat.le_of_eq hs7.symm
 clear hs7
 simp only [List.set] at b07
 have b17:=b16.within hw7 (by omega)
 have b07':Box W7 w.heap.size (r.with t1 t2 aL cL).cells 100:=by rw [HWC.out];exact b07
 have hoA7:=OwnO.within hoA6 hw7 (.inr (by omega))
 have hoB7:=OwnO.within hoB6 hw7 (.inr (by omega))
 have o7:=o6.within hw7 (.inr (by omega))
 have hB7:Below w.heap.size w W7:=hB6.trans (hw7.below (by omega) (by omega))
 clear hw7 b06 b16 hoA6 hoB6 o6
 go_upto_region 4 with fail
 rw [hW7.out]
 clear x14 f14 hW7
 obtain ⟨WF,hWF,hwF,hsF,HTF,HLF,bF⟩:=rec_out (r.with t1 t2 aL cL) _ rfl b17
 have hsFa:=Nat.le_of_eq hsF
 have hsFb:=Nat.le_of_eq hsF.symm
 clear hsF
 have hoF:(r.with t1 t2 aL cL).own WF w.heap.size WF.heap.size:=⟨OwnO.widen (OwnO.within hoA7 hwF (.inr (by omega))) (by omega) (by omega) (Nat.le_refl _),OwnO.widen (OwnO.within hoB7 hwF (.inr (by omega))) (by omega) (by omega) (Nat.le_refl _),(o7.within hwF (.inr (by omega))).widen (by omega) (by omega) (Nat.le_refl _),HAP.out⟩
 have hbF:Below w.heap.size w WF:=hB7.trans (hwF.below (by omega) (by omega))
 have HF:Hid (_∧_∧_):=⟨HWV.out t1 t2 aL cL hv1.out hv2.out,hoF,hbF⟩
 have rT:W7.rangeAt w.heap.size 0 (r.with t1 t2 aL cL).cells:=Box.range [] _ [] (by simpa using b07')
 clear hoF hbF bF hwF b07 b07' b17 hoA7 hoB7 o7 HAP HWC HWV
 generalize r.with t1 t2 aL cL=TT at*
 go_wp2_with (first | (guard_target=wpList _ _ _ (Oper.mk (some 16) _ _ _ _ _::_) _ _;refine wpList_load_mid rfl 100 (.tmp 1) rfl w.heap.size 0 rfl TT.cells _ rT Tryz.underlying100 rfl (rec_info _) ?_) | (guard_target=wpList _ _ _ (Oper.mk none (Op.store _ (Operand.tmp 2) _) _ _ _ _::_) _ _;refine wpList_store_mid rfl 100 (.tmp 2) (.tmp 16) rfl (w.heap.size+1) 0 TT.cells.toArray rfl rfl HTF.out (rec_info _) (rec_one _) ?_) | fail)
 rw [hWF.out]
 exact bodyPost_ret (v:=.agg TT.cells.toArray) (results_one Tryz.results83 rfl HLF.out) rfl ⟨TT,rfl,HF.out.1,HF.out.2.1,HF.out.2.2⟩
end Go.Proofs.YtcoeamamaifoeaaGreatDoor