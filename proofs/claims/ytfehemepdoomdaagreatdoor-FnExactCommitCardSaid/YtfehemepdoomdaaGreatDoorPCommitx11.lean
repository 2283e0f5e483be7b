/- Several texts in one, in their order. -/
import Derived.Test.YtfehemepdoomdaaGreatDoorPCommitx8
import Derived.Test.YtfehemepdoomdaaGreatDoorPCommitx4
import Derived.Deep.CutRange
import Derived.Test.YtfehemepdoomdaaGreatDoorPCommitx10
import Derived.Laws.Tables
import Derived.Test.YtfehemepdoomdaaGreatDoorPCommitx3
import Derived.Test.YtfehemepdoomdaaGreatDoorPCommitx1
set_option maxHeartbeats 8000000
set_option maxRecDepth 100000
namespace Go.Proofs.YtfehemepdoomdaaGreatDoor
open Go.RowKit
def markRA (r:RecA) (k:Int):RecA:=
 ⟨k,k+1,k+1+1,k+1+1+1,k+1+1+1+1,
  ⟨⟨((k+1+1+1+1+1) % 3 == 0),⟨k+1+1+1+1+1+1,marksI (k+1+1+1+1+1+1+1) r.bf.v.o.ints.length,marksI (k+1+1+1+1+1+1+1+r.bf.v.o.ints.length) r.bf.v.o.refs.length⟩⟩,r.bf.aI,r.bf.cI,r.bf.aR,r.bf.cR⟩,
  ⟨⟨((k+1+1+1+1+1+1+1+r.bf.v.o.ints.length+r.bf.v.o.refs.length) % 3 == 0),⟨k+1+1+1+1+1+1+1+r.bf.v.o.ints.length+r.bf.v.o.refs.length+1,marksI (k+1+1+1+1+1+1+1+r.bf.v.o.ints.length+r.bf.v.o.refs.length+1+1) r.af.v.o.ints.length,marksI (k+1+1+1+1+1+1+1+r.bf.v.o.ints.length+r.bf.v.o.refs.length+1+1+r.af.v.o.ints.length) r.af.v.o.refs.length⟩⟩,r.af.aI,r.af.cI,r.af.aR,r.af.cR⟩,
  k+1+1+1+1+1+1+1+r.bf.v.o.ints.length+r.bf.v.o.refs.length+1+1+r.af.v.o.ints.length+r.af.v.o.refs.length,
  marksL (k+1+1+1+1+1+1+1+r.bf.v.o.ints.length+r.bf.v.o.refs.length+1+1+r.af.v.o.ints.length+r.af.v.o.refs.length+1) r.txs.length,r.aL,r.cL⟩
def countRA (r:RecA):Nat:=10+r.bf.v.o.ints.length+r.bf.v.o.refs.length+r.af.v.o.ints.length+r.af.v.o.refs.length+3*r.txs.length
def markRs:List RecA→Int→List RecA
 | [],_=>[]
 | r::t,k=>markRA r k::markRs t (k+countRA r)
def countRs:List RecA→Nat
 | []=>0
 | r::t=>countRA r+countRs t
theorem markRA_blocks (r:RecA) (k:Int):(markRA r k).blocks=r.blocks:=by simp [markRA,RecA.blocks,SlotA.blocks,marksI_len,marksL_len]
theorem markRs_len (rs:List RecA):∀ k,(markRs rs k).length=rs.length:=by
 induction rs with
 | nil=>intro k;rfl
 | cons x r ih=>intro k;simp [markRs,ih]
theorem markRs_app (A B:List RecA):∀ k,markRs (A++B) k=markRs A k++markRs B (k+countRs A):=by
 induction A with
 | nil=>intro k;simp [markRs,countRs]
 | cons x r ih=>
  intro k
  simp only [List.cons_append,markRs,ih,countRs]
  congr 3
  omega
theorem countRs_app (A B:List RecA):countRs (A++B)=countRs A+countRs B:=by
 induction A with
 | nil=>simp [countRs]
 | cons x r ih=>simp only [List.cons_append,countRs,ih];omega
theorem markRs_blocks (rs:List RecA):∀ k,(markRs rs k).flatMap RecA.blocks=rs.flatMap RecA.blocks:=by
 induction rs with
 | nil=>intro k;rfl
 | cons x r ih=>intro k;simp only [markRs,List.flatMap_cons,ih,markRA_blocks]
theorem recs_split (rs:List RecA) (j:Nat) (h:j<rs.length):rs.drop j=rs.getD j zeroR::rs.drop (j+1)∧rs.take (j+1)=rs.take j++[rs.getD j zeroR]:=by
 have e:rs.getD j zeroR=rs[j]:=by simp [List.getD,h]
 exact ⟨by rw [List.drop_eq_getElem_cons h,e],by rw [List.take_succ_eq_append_getElem h,e]⟩
def halfRs (rs:List RecA) (k:Int) (j:Nat):List RecA:=markRs (rs.take j) k++rs.drop j
theorem halfRs_len (rs:List RecA) (k:Int) (j:Nat) (h:j≤rs.length):(halfRs rs k j).length=rs.length:=by simp [halfRs,markRs_len];omega
theorem halfRs_at (rs:List RecA) (k:Int) (j:Nat) (h:j<rs.length):halfRs rs k j=markRs (rs.take j) k++rs.getD j zeroR::rs.drop (j+1):=by rw [halfRs,(recs_split rs j h).1]
theorem halfRs_next (rs:List RecA) (k:Int) (j:Nat) (h:j<rs.length):halfRs rs k (j+1)=markRs (rs.take j) k++markRA (rs.getD j zeroR) (k+countRs (rs.take j))::rs.drop (j+1):=by
 rw [halfRs,(recs_split rs j h).2,markRs_app]
 simp [markRs]
theorem countRs_next (rs:List RecA) (j:Nat) (h:j<rs.length):countRs (rs.take (j+1))=countRs (rs.take j)+countRA (rs.getD j zeroR):=by
 rw [(recs_split rs j h).2,countRs_app]
 simp [countRs]
theorem countRs_le (rs:List RecA) (j:Nat):countRs (rs.take j)≤countRs rs:=by
 have:countRs rs=countRs (rs.take j)+countRs (rs.drop j):=by rw [← countRs_app,List.take_append_drop]
 omega
def RowR (w:World) (base g n cap:Nat) (pre cs post:List Value):Prop:=w.ownsRow base 99 15 (.slice (some ⟨g,0,none⟩) n cap) n (pre++(cs++post))
theorem RowR.cell {w:World} {base g n cap j:Nat} {pre cs post:List Value} (h:RowR w base g n cap pre cs post) (hp:pre.length=j*15) (hc:cs.length=15) (i:Nat) (v:Value) (hv:cs[i]? =some v):w.cell? ⟨g,j*15+i,none⟩=some v:=by
 have hi:i<15:=by have:=(List.getElem?_eq_some_iff.1 hv).1;omega
 have hl:=h.1
 rw [List.length_append,List.length_append] at hl
 rw [World.ownsRow.cellAt h (j*15+i) (by omega),List.getElem?_append_right (by omega),List.getElem?_append_left (by omega),show j*15+i-pre.length=i by omega]
 exact hv
theorem RowR.frozen {w:World} {base g n cap:Nat} {pre cs post:List Value} (h:RowR w base g n cap pre cs post) (i:Nat):w.frozen? ⟨g,i,none⟩=false:=World.ownsRow.frozenAt h i
theorem RowR.set {w:World} {base g n cap j:Nat} {pre cs post:List Value} (h:RowR w base g n cap pre cs post) (hp:pre.length=j*15) (hc:cs.length=15) (i:Nat) (hi:i<15) (v:Value):RowR (w.setCell ⟨g,j*15+i,none⟩ v) base g n cap pre (cs.set i v) post∧w.grownBy (w.setCell ⟨g,j*15+i,none⟩ v) (some g):=by
 have:=World.ownsRow.stored h (j*15+i) v
 rw [List.set_append_right _ _ (by omega),show j*15+i-pre.length=i by omega,List.set_append_left _ _ (by omega)] at this
 exact this
theorem RowR.block {w w':World} {base g n cap:Nat} {pre cs post:List Value} (h:RowR w base g n cap pre cs post) (hb:w'.heap[g]? =w.heap[g]?):RowR w' base g n cap pre cs post:=ownsRow_block h (fun k hk=>by cases hk;exact hb)
theorem RowR.sets7 {w:World} {base g n cap j:Nat} {pre post:List Value} {x0 x1 x2 x3 x4 x5 x6 x7 x8 x9 x10 x11 x12 x13 x14:Value} (h:RowR w base g n cap pre [x0,x1,x2,x3,x4,x5,x6,x7,x8,x9,x10,x11,x12,x13,x14] post) (hp:pre.length=j*15) (v0 v1 v2 v3 v4 v5 v6:Value):
  ∃ W,Hid (((((((w.setCell ⟨g,j*15,none⟩ v0).setCell ⟨g,j*15+1,none⟩ v1).setCell ⟨g,j*15+2,none⟩ v2).setCell ⟨g,j*15+3,none⟩ v3).setCell ⟨g,j*15+4,none⟩ v4).setCell ⟨g,j*15+5,none⟩ v5).setCell ⟨g,j*15+6,none⟩ v6=W)∧RowR W base g n cap pre [v0,v1,v2,v3,v4,v5,v6,x7,x8,x9,x10,x11,x12,x13,x14] post∧Touch [g] w W:=by
 obtain ⟨a0,g0⟩:=h.set hp rfl 0 (by omega) v0
 obtain ⟨a1,g1⟩:=a0.set hp rfl 1 (by omega) v1
 obtain ⟨a2,g2⟩:=a1.set hp rfl 2 (by omega) v2
 obtain ⟨a3,g3⟩:=a2.set hp rfl 3 (by omega) v3
 obtain ⟨a4,g4⟩:=a3.set hp rfl 4 (by omega) v4
 obtain ⟨a5,g5⟩:=a4.set hp rfl 5 (by omega) v5
 obtain ⟨a6,g6⟩:=a5.set hp rfl 6 (by omega) v6
 exact ⟨_,rfl,a6,Touch.of_grown (grownBy_trans (grownBy_trans (grownBy_trans (grownBy_trans (grownBy_trans (grownBy_trans g0 g1) g2) g3) g4) g5) g6) (fun k hk=>by cases hk;simp)⟩
theorem RowR.sets2 {w:World} {base g n cap j:Nat} {pre post:List Value} {x0 x1 x2 x3 x4 x5 x6 x7 x8 x9 x10 x11 x12 x13 x14:Value} (h:RowR w base g n cap pre [x0,x1,x2,x3,x4,x5,x6,x7,x8,x9,x10,x11,x12,x13,x14] post) (hp:pre.length=j*15) (v0 v1:Value):
  ∃ W,Hid ((w.setCell ⟨g,j*15+9,none⟩ v0).setCell ⟨g,j*15+10,none⟩ v1=W)∧RowR W base g n cap pre [x0,x1,x2,x3,x4,x5,x6,x7,x8,v0,v1,x11,x12,x13,x14] post∧Touch [g] w W:=by
 obtain ⟨a0,g0⟩:=h.set hp rfl 9 (by omega) v0
 obtain ⟨a1,g1⟩:=a0.set hp rfl 10 (by omega) v1
 exact ⟨_,rfl,a1,Touch.of_grown (grownBy_trans g0 g1) (fun k hk=>by cases hk;simp)⟩
theorem RowR.set1 {w:World} {base g n cap j:Nat} {pre post:List Value} {x0 x1 x2 x3 x4 x5 x6 x7 x8 x9 x10 x11 x12 x13 x14:Value} (h:RowR w base g n cap pre [x0,x1,x2,x3,x4,x5,x6,x7,x8,x9,x10,x11,x12,x13,x14] post) (hp:pre.length=j*15) (v0:Value):
  ∃ W,Hid (w.setCell ⟨g,j*15+13,none⟩ v0=W)∧RowR W base g n cap pre [x0,x1,x2,x3,x4,x5,x6,x7,x8,x9,x10,x11,x12,v0,x14] post∧Touch [g] w W:=by
 obtain ⟨a0,g0⟩:=h.set hp rfl 13 (by omega) v0
 exact ⟨_,rfl,a0,Touch.of_grown g0 (fun k hk=>by cases hk;simp)⟩
theorem five_apart {L1 L2 L3 L4 L5:List Nat} (h:((L1++L2)++((L3++L4)++L5)).Nodup):
  (∀ k,k∈L1→k∉L2∧k∉L3∧k∉L4∧k∉L5)∧(∀ k,k∈L2→k∉L1∧k∉L3∧k∉L4∧k∉L5)∧(∀ k,k∈L3→k∉L1∧k∉L2∧k∉L4∧k∉L5)∧(∀ k,k∈L4→k∉L1∧k∉L2∧k∉L3∧k∉L5)∧(∀ k,k∈L5→k∉L1∧k∉L2∧k∉L3∧k∉L4):=by
 simp only [List.nodup_append,List.mem_append] at h
 obtain ⟨⟨_,_,h12⟩,⟨⟨_,_,h34⟩,_,h45⟩,hx⟩:=h
 refine ⟨fun k hk=>⟨fun h'=>h12 k hk k h' rfl,fun h'=>hx k (.inl hk) k (.inl (.inl h')) rfl,fun h'=>hx k (.inl hk) k (.inl (.inr h')) rfl,fun h'=>hx k (.inl hk) k (.inr h') rfl⟩,
  fun k hk=>⟨fun h'=>h12 k h' k hk rfl,fun h'=>hx k (.inr hk) k (.inl (.inl h')) rfl,fun h'=>hx k (.inr hk) k (.inl (.inr h')) rfl,fun h'=>hx k (.inr hk) k (.inr h') rfl⟩,
  fun k hk=>⟨fun h'=>hx k (.inl h') k (.inl (.inl hk)) rfl,fun h'=>hx k (.inr h') k (.inl (.inl hk)) rfl,fun h'=>h34 k hk k h' rfl,fun h'=>h45 k (.inl hk) k h' rfl⟩,
  fun k hk=>⟨fun h'=>hx k (.inl h') k (.inl (.inr hk)) rfl,fun h'=>hx k (.inr h') k (.inl (.inr hk)) rfl,fun h'=>h34 k h' k hk rfl,fun h'=>h45 k (.inr hk) k h' rfl⟩,
  fun k hk=>⟨fun h'=>hx k (.inl h') k (.inr hk) rfl,fun h'=>hx k (.inr h') k (.inr hk) rfl,fun h'=>h45 k (.inl h') k hk rfl,fun h'=>h45 k (.inr h') k hk rfl⟩⟩
theorem markIntS_touch (lo hi:Nat) (a:Option Addr) (cap:Nat) (k0:Int) (xs:List Int) (w:World) (ho:OwnI w lo hi a cap xs) (h0:0≤k0) (hl:k0+xs.length≤4611686018427387904):
  Calls Tryz.prog 108 #[.slice a xs.length cap,.int .i64 k0] w fun e w'=>e=.returned (.int .i64 (k0+xs.length))∧OwnI w' lo hi a cap (marksI k0 xs.length)∧Touch (Value.slice a xs.length cap).ownBlock.toList w w':=by
 refine (markIntS_any lo a cap k0 xs w ho.1 h0 hl).mono ?_
 rintro e w' ⟨rfl,h1,h2⟩
 exact ⟨rfl,⟨by rw [marksI_len];exact h1,Nat.le_trans ho.2.1 h2.size,by rw [marksI_len];exact ho.2.2⟩,Touch.of_grown h2 (fun j hj=>Option.mem_toList.2 hj)⟩
theorem OwnI.keep {w w':World} {lo hi:Nat} {a:Option Addr} {c:Nat} {ns:List Int} {bl:List Nat} (h:OwnI w lo hi a c ns) (ht:Touch bl w w') (hd:∀ k,k∈(Value.slice a ns.length c).ownBlock.toList→k∉bl):OwnI w' lo hi a c ns:=h.touch ht (fun k hk=>hd k (Option.mem_toList.2 hk))
theorem OwnL.keep {w w':World} {lo hi:Nat} {a:Option Addr} {c:Nat} {ns:List LiveV} {bl:List Nat} (h:OwnL w lo hi a c ns) (ht:Touch bl w w') (hd:∀ k,k∈(Value.slice a ns.length c).ownBlock.toList→k∉bl):OwnL w' lo hi a c ns:=h.touch ht (fun k hk=>hd k (Option.mem_toList.2 hk))
theorem RowR.keep {w w':World} {base g n cap:Nat} {pre cs post:List Value} {bl:List Nat} (h:RowR w base g n cap pre cs post) (ht:Touch bl w w') (hd:g∉bl):RowR w' base g n cap pre cs post:=h.block (ht.block g (World.ownsRow.lt h g rfl).2 hd)
theorem OwnRs.replace {w w':World} {lo hi g c:Nat} {A B:List RecA} {z y:RecA} (h:OwnRs w lo hi (some ⟨g,0,none⟩) c (A++z::B)) (ht:Touch (g::z.blocks) w w') (hrow:RowR w' lo g (A++z::B).length c (cellsRs A) y.cells (cellsRs B)) (hy:y.own w' lo hi) (hb:y.blocks=z.blocks):OwnRs w' lo hi (some ⟨g,0,none⟩) c (A++y::B):=by
 have hap:=h.apart
 simp only [List.flatMap_append,List.flatMap_cons,Value.ownBlock,Option.toList,List.singleton_append,List.nodup_cons,List.nodup_append,List.mem_append,not_or] at hap
 obtain ⟨⟨n1,n2,n3⟩,a1,⟨a2,a3,a4⟩,a5⟩:=hap
 refine ⟨?_,Nat.le_trans h.top ht.size,fun k hk=>by cases hk;exact h.blk g rfl,fun r hr=>?_,?_⟩
 ·have e:(A++y::B).length=(A++z::B).length:=by simp
  rw [e,cellsRs_app,cellsRs_cons]
  exact hrow
 ·rcases List.mem_append.1 hr with hr | hr
  ·refine (h.each r (by simp [hr])).touch ht (fun k hk hk'=>?_)
   have hm:k∈A.flatMap RecA.blocks:=List.mem_flatMap.2 ⟨r,hr,hk⟩
   rcases List.mem_cons.1 hk' with rfl | hk'
   ·exact n1 hm
   ·exact a5 k hm k (.inl hk') rfl
  ·rcases List.mem_cons.1 hr with rfl | hr
   ·exact hy
   ·refine (h.each r (by simp [hr])).touch ht (fun k hk hk'=>?_)
    have hm:k∈B.flatMap RecA.blocks:=List.mem_flatMap.2 ⟨r,hr,hk⟩
    rcases List.mem_cons.1 hk' with rfl | hk'
    ·exact n3 hm
    ·exact a4 k hk' k hm rfl
 ·have:=h.apart
  simp only [List.flatMap_append,List.flatMap_cons] at this ⊢
  rw [hb]
  exact this
theorem markRecS_touch (lo hi:Nat) (a:Option Addr) (cap:Nat) (k0:Int) (rs:List RecA) (w:World) (ho:OwnRs w lo hi a cap rs) (hl:∀ r∈rs,r.short 1099511627776) (h0:0≤k0) (hk:k0+countRs rs≤1152921504606846976):
  Calls Tryz.prog 75 #[.slice a rs.length cap,.int .i64 k0] w fun e w'=>e=.returned (.int .i64 (k0+countRs rs))∧OwnRs w' lo hi a cap (markRs rs k0)∧Touch (blocksRs a cap rs) w w':=by
 rcases ho.row.2 with ⟨hv,h00⟩ | ⟨g,cap',cur,hv,hg,hgg,hr⟩
 ·simp only [Value.slice.injEq] at hv
  obtain ⟨rfl,_,rfl⟩:=hv
  obtain rfl:=List.length_eq_zero_iff.1 h00
  go_enter Tryz.func75,Tryz.ntmps75
  go_wp2
  refine wp_loop_rounds 1 ?_
  rw [rounds_succ]
  go_wp2
  go_ret
  exact ⟨by simp [countRs],ho,Touch.refl _ _⟩
 ·simp only [Value.slice.injEq] at hv
  obtain ⟨rfl,_,rfl⟩:=hv
  have hlm:rs.length≤maxLen:=Nat.le_trans hr.1 hr.2.1
  simp only [maxLen] at hlm
  clear hgg hr
  have HH:Hid (halfRs rs k0 0=rs∧halfRs rs k0 rs.length=markRs rs k0):=⟨by simp [halfRs,markRs],by simp [halfRs]⟩
  have HST:Hid (OwnRs w lo hi (some ⟨g,0,none⟩) cap (halfRs rs k0 0)):=by rw [HH.out.1];exact ho
  have HSH:Hid (∀ j,j<rs.length→(rs.getD j zeroR).short 1099511627776):=fun j hj=>hl _ (recD_mem rs j hj)
  have HSUB:Hid (∀ j,j<rs.length→∀ k∈g::(rs.getD j zeroR).blocks,k∈blocksRs (some ⟨g,0,none⟩) cap rs):=fun j hj k hk=>by
   rcases List.mem_cons.1 hk with rfl | hk
   ·exact List.mem_append.2 (.inl (by simp [Value.ownBlock]))
   ·exact List.mem_append.2 (.inr (List.mem_flatMap.2 ⟨_,recD_mem rs j hj,hk⟩))
  clear ho hl
  go_enter Tryz.func75,Tryz.ntmps75
  go_wp2
  go_loopw [1,5] (fun kk i wr=>∃ j:Nat,j≤rs.length∧i=.int .i64 j∧kk=.int .i64 (k0+countRs (rs.take j))∧Hid (OwnRs wr lo hi (some ⟨g,0,none⟩) cap (halfRs rs k0 j))∧Touch (blocksRs (some ⟨g,0,none⟩) cap rs) w wr)
   (fun _ i _=>rs.length-(intOf i).toNat)
  case atStart=>exact ⟨0,Nat.zero_le _,rfl,by simp [countRs],HST,Touch.refl _ _⟩
  case round=>
   obtain ⟨j,hj,rfl,rfl,hown,htw⟩:=hrel
   clear HST
   by_cases hlt:j<rs.length
   ·have hsh:=HSH.out j hlt
    have hsub:=HSUB.out j hlt
    have hcn:=countRs_next rs j hlt
    have hcl:=countRs_le rs (j+1)
    have ho:=hown.out
    rw [halfRs_at rs k0 j hlt] at ho
    have hlen:=halfRs_len rs k0 j hj
    rw [halfRs_at rs k0 j hlt] at hlen
    have HN:Hid (halfRs rs k0 (j+1)=_):=halfRs_next rs k0 j hlt
    have hA:(cellsRs (markRs (rs.take j) k0)).length=j*15:=by rw [cellsRs_len,markRs_len,List.length_take];congr 1;omega
    have HCN:Hid (k0+countRs (rs.take (j+1))=k0+countRs (rs.take j)+countRA (rs.getD j zeroR)):=by rw [Hid,hcn];omega
    have hkb:0≤k0+(countRs (rs.take j):Int)∧k0+(countRs (rs.take j):Int)+countRA (rs.getD j zeroR)≤1152921504606846976:=⟨by omega,by omega⟩
    clear hcn hcl hown hk h0
    generalize k0+(countRs (rs.take j):Int)=kk at*
    generalize markRs (rs.take j) k0=A at*
    generalize rs.drop (j+1)=B at*
    generalize rs.getD j zeroR=z at*
    have hz:=ho.each z (List.mem_append.2 (.inr (List.mem_cons.2 (.inl rfl))))
    have HG:Hid (g∉z.blocks):=row_apart ho.row hz g rfl
    have hap:=hz.apart
    have HZA:Hid (z.blocks.Nodup):=hz.apart
    simp only [RecA.blocks,SlotA.blocks] at hap
    have HAP:Hid (_∧_∧_∧_∧_):=five_apart hap
    have HGN:Hid (g∉(Value.slice z.bf.aI z.bf.v.o.ints.length z.bf.cI).ownBlock.toList∧g∉(Value.slice z.bf.aR z.bf.v.o.refs.length z.bf.cR).ownBlock.toList∧g∉(Value.slice z.af.aI z.af.v.o.ints.length z.af.cI).ownBlock.toList∧g∉(Value.slice z.af.aR z.af.v.o.refs.length z.af.cR).ownBlock.toList∧g∉(Value.slice z.aL z.txs.length z.cL).ownBlock.toList):=by
     have:=HG.out
     simp only [RecA.blocks,SlotA.blocks,List.mem_append,not_or] at this
     exact ⟨this.1.1,this.1.2,this.2.1.1,this.2.1.2,this.2.2⟩
    have HM:Hid ((∀ k∈(Value.slice z.bf.aI z.bf.v.o.ints.length z.bf.cI).ownBlock.toList,k∈z.blocks)∧(∀ k∈(Value.slice z.bf.aR z.bf.v.o.refs.length z.bf.cR).ownBlock.toList,k∈z.blocks)∧(∀ k∈(Value.slice z.af.aI z.af.v.o.ints.length z.af.cI).ownBlock.toList,k∈z.blocks)∧(∀ k∈(Value.slice z.af.aR z.af.v.o.refs.length z.af.cR).ownBlock.toList,k∈z.blocks)∧(∀ k∈(Value.slice z.aL z.txs.length z.cL).ownBlock.toList,k∈z.blocks)):=by
     simp only [RecA.blocks,SlotA.blocks]
     exact ⟨fun k h=>List.mem_append.2 (.inl (List.mem_append.2 (.inl h))),fun k h=>List.mem_append.2 (.inl (List.mem_append.2 (.inr h))),fun k h=>List.mem_append.2 (.inr (List.mem_append.2 (.inl (List.mem_append.2 (.inl h))))),fun k h=>List.mem_append.2 (.inr (List.mem_append.2 (.inl (List.mem_append.2 (.inr h))))),fun k h=>List.mem_append.2 (.inr (List.mem_append.2 (.inr h)))⟩
    have row:RowR wr lo g rs.length cap (cellsRs A) z.cells (cellsRs B):=by
     have:=ho.row
     rw [hlen,cellsRs_app,cellsRs_cons] at this
     exact this
    have hbI:=hz.bf.ints
    have hbR:=hz.bf.refs
    have haI:=hz.af.ints
    have haR:=hz.af.refs
    have hL:=hz.txs
    have hcz:countRA z=10+z.bf.v.o.ints.length+z.bf.v.o.refs.length+z.af.v.o.ints.length+z.af.v.o.refs.length+3*z.txs.length:=rfl
    have HBA:Hid (∀ k∈z.blocks,k∈g::z.blocks):=fun k hk=>List.mem_cons.2 (.inr hk)
    have HGB:Hid (∀ k∈[g],k∈g::z.blocks):=fun k hk=>List.mem_cons.2 (.inl (List.mem_singleton.1 hk))
    have HNG:Hid (∀ (L:List Nat),g∉L→∀ k,k∈L→k∉[g]):=fun L hg k hk hk'=>hg (by rw [← List.mem_singleton.1 hk'];exact hk)
    clear hap hz
    simp only [RecA.cells] at row
    have x0:wr.cell? ⟨g,j*15,none⟩=_:=row.cell hA rfl 0 _ rfl
    have x1:=row.cell hA rfl 1 _ rfl
    have x2:=row.cell hA rfl 2 _ rfl
    have x3:=row.cell hA rfl 3 _ rfl
    have x4:=row.cell hA rfl 4 _ rfl
    have x5:=row.cell hA rfl 5 _ rfl
    have x6:=row.cell hA rfl 6 _ rfl
    have f0:wr.frozen? ⟨g,j*15,none⟩=false:=row.frozen _
    have f1:=row.frozen (j*15+1)
    have f2:=row.frozen (j*15+2)
    have f3:=row.frozen (j*15+3)
    have f4:=row.frozen (j*15+4)
    have f5:=row.frozen (j*15+5)
    have f6:=row.frozen (j*15+6)
    obtain ⟨W1,hW1,row1,t1⟩:=row.sets7 hA (.int .i64 kk) (.int .i64 (kk+1)) (.int .i64 (kk+1+1)) (.int .i64 (kk+1+1+1)) (.int .i64 (kk+1+1+1+1)) (.bool ((kk+1+1+1+1+1) % 3 == 0)) (.int .i64 (kk+1+1+1+1+1+1))
    have HT:Hid (Touch (g::z.blocks) wr W1):=t1.mono HGB.out
    have bI1:=hbI.keep t1 (HNG.out _ HGN.out.1)
    have bR1:=hbR.keep t1 (HNG.out _ HGN.out.2.1)
    have aI1:=haI.keep t1 (HNG.out _ HGN.out.2.2.1)
    have aR1:=haR.keep t1 (HNG.out _ HGN.out.2.2.2.1)
    have L1:=hL.keep t1 (HNG.out _ HGN.out.2.2.2.2)
    clear t1 hbI hbR haI haR hL row
    go_upto_region 18 with fail
    rw [hW1.out]
    clear hW1 x0 x1 x2 x3 x4 x5 x6 f0 f1 f2 f3 f4 f5 f6
    have y7:=row1.cell hA rfl 7 _ rfl
    have C:=markIntS_touch lo hi z.bf.aI z.bf.cI (kk+1+1+1+1+1+1+1) z.bf.v.o.ints W1 bI1 (by omega) (by omega)
    go_wp2_with fail
    refine C.mono ?_
    clear C y7
    rintro e w2 ⟨rfl,mI,t2⟩
    have row2:=row1.keep t2 HGN.out.1
    have HT2:Hid (Touch (g::z.blocks) wr w2):=HT.out.trans ((t2.mono HM.out.1).mono HBA.out)
    have bR2:=bR1.keep t2 (fun k hk h=>(HAP.out.1 k h).1 hk)
    have aI2:=aI1.keep t2 (fun k hk h=>(HAP.out.1 k h).2.1 hk)
    have aR2:=aR1.keep t2 (fun k hk h=>(HAP.out.1 k h).2.2.1 hk)
    have L2:=L1.keep t2 (fun k hk h=>(HAP.out.1 k h).2.2.2 hk)
    clear bI1 bR1 aI1 aR1 L1 t2 row1 HT
    have y8:=row2.cell hA rfl 8 _ rfl
    have C:=markIntS_touch lo hi z.bf.aR z.bf.cR (kk+1+1+1+1+1+1+1+z.bf.v.o.ints.length) z.bf.v.o.refs w2 bR2 (by omega) (by omega)
    go_wp2_with fail
    refine C.mono ?_
    clear C y8
    rintro e w3 ⟨rfl,mR,t3⟩
    have row3:=row2.keep t3 HGN.out.2.1
    have HT3:Hid (Touch (g::z.blocks) wr w3):=HT2.out.trans ((t3.mono HM.out.2.1).mono HBA.out)
    have mI3:=mI.keep t3 (fun k hk h=>(HAP.out.2.1 k h).1 (by rw [marksI_len] at hk;exact hk))
    have aI3:=aI2.keep t3 (fun k hk h=>(HAP.out.2.1 k h).2.1 hk)
    have aR3:=aR2.keep t3 (fun k hk h=>(HAP.out.2.1 k h).2.2.1 hk)
    have L3:=L2.keep t3 (fun k hk h=>(HAP.out.2.1 k h).2.2.2 hk)
    clear mI bR2 aI2 aR2 L2 t3 row2 HT2
    have x9:=row3.cell hA rfl 9 _ rfl
    have x10:=row3.cell hA rfl 10 _ rfl
    have f9:=row3.frozen (j*15+9)
    have f10:=row3.frozen (j*15+10)
    obtain ⟨W4,hW4,row4,t4⟩:=row3.sets2 hA (.bool ((kk+1+1+1+1+1+1+1+z.bf.v.o.ints.length+z.bf.v.o.refs.length) % 3 == 0)) (.int .i64 (kk+1+1+1+1+1+1+1+z.bf.v.o.ints.length+z.bf.v.o.refs.length+1))
    have HT4:Hid (Touch (g::z.blocks) wr W4):=HT3.out.trans (t4.mono HGB.out)
    have mI4:=mI3.keep t4 (HNG.out _ (by rw [marksI_len];exact HGN.out.1))
    have mR4:=mR.keep t4 (HNG.out _ (by rw [marksI_len];exact HGN.out.2.1))
    have aI4:=aI3.keep t4 (HNG.out _ HGN.out.2.2.1)
    have aR4:=aR3.keep t4 (HNG.out _ HGN.out.2.2.2.1)
    have L4:=L3.keep t4 (HNG.out _ HGN.out.2.2.2.2)
    clear mI3 mR aI3 aR3 L3 t4 row3 HT3
    go_upto_region 24 with fail
    rw [hW4.out]
    clear hW4 x9 x10 f9 f10
    have y11:=row4.cell hA rfl 11 _ rfl
    have C:=markIntS_touch lo hi z.af.aI z.af.cI (kk+1+1+1+1+1+1+1+z.bf.v.o.ints.length+z.bf.v.o.refs.length+1+1) z.af.v.o.ints W4 aI4 (by omega) (by omega)
    go_wp2_with fail
    refine C.mono ?_
    clear C y11
    rintro e w5 ⟨rfl,nI,t5⟩
    have row5:=row4.keep t5 HGN.out.2.2.1
    have HT5:Hid (Touch (g::z.blocks) wr w5):=HT4.out.trans ((t5.mono HM.out.2.2.1).mono HBA.out)
    have mI5:=mI4.keep t5 (fun k hk h=>(HAP.out.2.2.1 k h).1 (by rw [marksI_len] at hk;exact hk))
    have mR5:=mR4.keep t5 (fun k hk h=>(HAP.out.2.2.1 k h).2.1 (by rw [marksI_len] at hk;exact hk))
    have aR5:=aR4.keep t5 (fun k hk h=>(HAP.out.2.2.1 k h).2.2.1 hk)
    have L5:=L4.keep t5 (fun k hk h=>(HAP.out.2.2.1 k h).2.2.2 hk)
    clear mI4 mR4 aI4 aR4 L4 t5 row4 HT4
    have y12:=row5.cell hA rfl 12 _ rfl
    have C:=markIntS_touch lo hi z.af.aR z.af.cR (kk+1+1+1+1+1+1+1+z.bf.v.o.ints.length+z.bf.v.o.refs.length+1+1+z.af.v.o.ints.length) z.af.v.o.refs w5 aR5 (by omega) (by omega)
    go_wp2_with fail
    refine C.mono ?_
    clear C y12
    rintro e w6 ⟨rfl,nR,t6⟩
    have row6:=row5.keep t6 HGN.out.2.2.2.1
    have HT6:Hid (Touch (g::z.blocks) wr w6):=HT5.out.trans ((t6.mono HM.out.2.2.2.1).mono HBA.out)
    have mI6:=mI5.keep t6 (fun k hk h=>(HAP.out.2.2.2.1 k h).1 (by rw [marksI_len] at hk;exact hk))
    have mR6:=mR5.keep t6 (fun k hk h=>(HAP.out.2.2.2.1 k h).2.1 (by rw [marksI_len] at hk;exact hk))
    have nI6:=nI.keep t6 (fun k hk h=>(HAP.out.2.2.2.1 k h).2.2.1 (by rw [marksI_len] at hk;exact hk))
    have L6:=L5.keep t6 (fun k hk h=>(HAP.out.2.2.2.1 k h).2.2.2 hk)
    clear mI5 mR5 nI aR5 L5 t6 row5 HT5
    have x13:=row6.cell hA rfl 13 _ rfl
    have f13:=row6.frozen (j*15+13)
    obtain ⟨W7,hW7,row7,t7⟩:=row6.set1 hA (.int .i64 (kk+1+1+1+1+1+1+1+z.bf.v.o.ints.length+z.bf.v.o.refs.length+1+1+z.af.v.o.ints.length+z.af.v.o.refs.length))
    have HT7:Hid (Touch (g::z.blocks) wr W7):=HT6.out.trans (t7.mono HGB.out)
    have mI7:=mI6.keep t7 (HNG.out _ (by rw [marksI_len];exact HGN.out.1))
    have mR7:=mR6.keep t7 (HNG.out _ (by rw [marksI_len];exact HGN.out.2.1))
    have nI7:=nI6.keep t7 (HNG.out _ (by rw [marksI_len];exact HGN.out.2.2.1))
    have nR7:=nR.keep t7 (HNG.out _ (by rw [marksI_len];exact HGN.out.2.2.2.1))
    have L7:=L6.keep t7 (HNG.out _ HGN.out.2.2.2.2)
    clear mI6 mR6 nI6 nR L6 t7 row6 HT6
    go_upto_region 28 with fail
    rw [hW7.out]
    clear hW7 x13 f13
    have y14:=row7.cell hA rfl 14 _ rfl
    have C:=markLiveS_own lo hi z.aL z.cL (kk+1+1+1+1+1+1+1+z.bf.v.o.ints.length+z.bf.v.o.refs.length+1+1+z.af.v.o.ints.length+z.af.v.o.refs.length+1) z.txs W7 L7 (by omega) (by omega)
    go_wp2_with fail
    refine C.mono ?_
    clear C y14
    rintro e w8 ⟨rfl,nL,t8⟩
    have row8:=row7.keep t8 HGN.out.2.2.2.2
    have HT8:Hid (Touch (g::z.blocks) wr w8):=HT7.out.trans ((t8.mono HM.out.2.2.2.2).mono HBA.out)
    have mI8:=mI7.keep t8 (fun k hk h=>(HAP.out.2.2.2.2 k h).1 (by rw [marksI_len] at hk;exact hk))
    have mR8:=mR7.keep t8 (fun k hk h=>(HAP.out.2.2.2.2 k h).2.1 (by rw [marksI_len] at hk;exact hk))
    have nI8:=nI7.keep t8 (fun k hk h=>(HAP.out.2.2.2.2 k h).2.2.1 (by rw [marksI_len] at hk;exact hk))
    have nR8:=nR7.keep t8 (fun k hk h=>(HAP.out.2.2.2.2 k h).2.2.2 (by rw [marksI_len] at hk;exact hk))
    have HOY:Hid ((markRA z kk).own w8 lo hi):=⟨⟨mI8,mR8,fun k hk hk'=>by
      have h1:k∈(Value.slice z.bf.aI z.bf.v.o.ints.length z.bf.cI).ownBlock.toList:=by have:=Option.mem_toList.2 hk;simpa only [markRA,marksI_len] using this
      have h2:k∈(Value.slice z.bf.aR z.bf.v.o.refs.length z.bf.cR).ownBlock.toList:=by have:=Option.mem_toList.2 hk';simpa only [markRA,marksI_len] using this
      exact (HAP.out.1 k h1).1 h2⟩,⟨nI8,nR8,fun k hk hk'=>by
      have h1:k∈(Value.slice z.af.aI z.af.v.o.ints.length z.af.cI).ownBlock.toList:=by have:=Option.mem_toList.2 hk;simpa only [markRA,marksI_len] using this
      have h2:k∈(Value.slice z.af.aR z.af.v.o.refs.length z.af.cR).ownBlock.toList:=by have:=Option.mem_toList.2 hk';simpa only [markRA,marksI_len] using this
      exact (HAP.out.2.2.1 k h1).2.2.1 h2⟩,nL,by rw [markRA_blocks];exact HZA.out⟩
    have HROW:Hid (RowR w8 lo g (A++z::B).length cap (cellsRs A) (markRA z kk).cells (cellsRs B)):=by
     rw [hlen]
     simpa only [Hid,RecA.cells,markRA,marksI_len,marksL_len] using row8
    have HFIN:Hid (OwnRs w8 lo hi (some ⟨g,0,none⟩) cap (halfRs rs k0 (j+1))∧Touch (blocksRs (some ⟨g,0,none⟩) cap rs) w w8):=by
     refine ⟨?_,htw.trans (HT8.out.mono hsub)⟩
     rw [HN.out]
     exact ho.replace HT8.out HROW.out HOY.out (markRA_blocks z kk)
    have HNUM:Hid (k0+(countRs (rs.take (j+1)):Int)=kk+1+1+1+1+1+1+1+z.bf.v.o.ints.length+z.bf.v.o.refs.length+1+1+z.af.v.o.ints.length+z.af.v.o.refs.length+1+3*z.txs.length):=by rw [Hid,HCN.out,hcz];omega
    clear mI7 mR7 nI7 nR7 L7 t8 row7 HT7 row8 HT8 mI8 mR8 nI8 nR8 nL HOY HROW ho htw
    go_wp2_with fail
    go_roundw
    case rel=>exact ⟨j+1,by omega,by go_num,by rw [HNUM.out],HFIN.out.1,HFIN.out.2⟩
    case measure=>simp [intOf];omega
   ·have HE:Hid (OwnRs wr lo hi (some ⟨g,0,none⟩) cap (markRs rs k0)∧k0+(countRs (rs.take j):Int)=k0+countRs rs):=by
     have e:j=rs.length:=by omega
     rw [e,HH.out.2] at hown
     exact ⟨hown.out,by rw [e,List.take_length]⟩
    go_wp2
    go_ret
    exact ⟨ret_int HE.out.2,HE.out.1,htw⟩
theorem markRs_at (rs:List RecA) (k:Int) (j:Nat) (h:j<rs.length):(markRs rs k).getD j zeroR=markRA (rs.getD j zeroR) (k+countRs (rs.take j)):=by
 have e:markRs rs k=markRs (rs.take j) k++markRs (rs.drop j) (k+countRs (rs.take j)):=by rw [← markRs_app,List.take_append_drop]
 have hl:(markRs (rs.take j) k).length=j:=by rw [markRs_len,List.length_take];omega
 rw [e,(recs_split rs j h).1,markRs]
 simp [List.getD,hl]
theorem heldRecS_any (a:Option Addr) (cap:Nat) (k0:Int) (rs:List RecA) (w:World) (hr:ReadsRs w a (markRs rs k0)) (h0:0≤k0) (hk:k0+countRs rs≤1152921504606846976) (hlm:rs.length≤9223372036854775807):
  Calls Tryz.prog 78 #[.slice a rs.length cap,.int .i64 k0] w fun e w'=>e=.returned (.int .i64 (k0+countRs rs))∧w'=w:=by
 have hml:=markRs_len rs k0
 rcases hr.cases with h | ⟨b,off,rfl,hpos,hcell⟩
 ·have h':=congrArg List.length h
  rw [hml] at h'
  obtain rfl:=List.length_eq_zero_iff.1 h'
  go_enter Tryz.func78,Tryz.ntmps78
  go_wp2
  refine wp_loop_rounds 1 ?_
  rw [rounds_succ]
  go_wp2
  go_ret
  exact ⟨by simp [countRs],rfl⟩
 ·rw [hml] at hpos hcell
  go_enter Tryz.func78,Tryz.ntmps78
  go_wp2
  go_loop [1,5] (fun kk i=>∃ j:Nat,j≤rs.length∧i=.int .i64 j∧kk=.int .i64 (k0+countRs (rs.take j))) (fun _ i=>rs.length-(intOf i).toNat)
  case atStart=>exact ⟨0,Nat.zero_le _,rfl,by simp [countRs]⟩
  case round=>
   obtain ⟨j,hj,rfl,rfl⟩:=hrel
   by_cases hlt:j<rs.length
   ·obtain ⟨hc,hrd⟩:=hcell j hlt
    have hcn:=countRs_next rs j hlt
    have hcl:=countRs_le rs (j+1)
    rw [markRs_at rs k0 j hlt] at hc hrd
    have HCN:Hid (k0+countRs (rs.take (j+1))=k0+countRs (rs.take j)+countRA (rs.getD j zeroR)):=by rw [Hid,hcn];omega
    have hkb:0≤k0+(countRs (rs.take j):Int)∧k0+(countRs (rs.take j):Int)+countRA (rs.getD j zeroR)≤1152921504606846976:=⟨by omega,by omega⟩
    clear hcn hcl hk h0 hcell hpos hr hml
    generalize k0+(countRs (rs.take j):Int)=kk at*
    generalize rs.getD j zeroR=z at*
    have hcz:countRA z=10+z.bf.v.o.ints.length+z.bf.v.o.refs.length+z.af.v.o.ints.length+z.af.v.o.refs.length+3*z.txs.length:=rfl
    have x0:w.cell? ⟨b,off+j*15,none⟩=some (.int .i64 kk):=hc 0 _ rfl
    have x1:w.cell? ⟨b,off+j*15+1,none⟩=some (.int .i64 (kk+1)):=hc 1 _ rfl
    have x2:w.cell? ⟨b,off+j*15+2,none⟩=some (.int .i64 (kk+1+1)):=hc 2 _ rfl
    have x3:w.cell? ⟨b,off+j*15+3,none⟩=some (.int .i64 (kk+1+1+1)):=hc 3 _ rfl
    have x4:w.cell? ⟨b,off+j*15+4,none⟩=some (.int .i64 (kk+1+1+1+1)):=hc 4 _ rfl
    have x5:w.cell? ⟨b,off+j*15+5,none⟩=some (.bool ((kk+1+1+1+1+1) % 3 == 0)):=hc 5 _ rfl
    have x6:w.cell? ⟨b,off+j*15+6,none⟩=some (.int .i64 (kk+1+1+1+1+1+1)):=hc 6 _ rfl
    have x7:w.cell? ⟨b,off+j*15+7,none⟩=some (.slice z.bf.aI z.bf.v.o.ints.length z.bf.cI):=(hc 7 _ rfl).trans (by simp only [markRA,marksI_len])
    have x8:w.cell? ⟨b,off+j*15+8,none⟩=some (.slice z.bf.aR z.bf.v.o.refs.length z.bf.cR):=(hc 8 _ rfl).trans (by simp only [markRA,marksI_len])
    have x9:w.cell? ⟨b,off+j*15+9,none⟩=some (.bool ((kk+1+1+1+1+1+1+1+z.bf.v.o.ints.length+z.bf.v.o.refs.length) % 3 == 0)):=hc 9 _ rfl
    have x10:w.cell? ⟨b,off+j*15+10,none⟩=some (.int .i64 (kk+1+1+1+1+1+1+1+z.bf.v.o.ints.length+z.bf.v.o.refs.length+1)):=hc 10 _ rfl
    have x11:w.cell? ⟨b,off+j*15+11,none⟩=some (.slice z.af.aI z.af.v.o.ints.length z.af.cI):=(hc 11 _ rfl).trans (by simp only [markRA,marksI_len])
    have x12:w.cell? ⟨b,off+j*15+12,none⟩=some (.slice z.af.aR z.af.v.o.refs.length z.af.cR):=(hc 12 _ rfl).trans (by simp only [markRA,marksI_len])
    have x13:w.cell? ⟨b,off+j*15+13,none⟩=some (.int .i64 (kk+1+1+1+1+1+1+1+z.bf.v.o.ints.length+z.bf.v.o.refs.length+1+1+z.af.v.o.ints.length+z.af.v.o.refs.length)):=hc 13 _ rfl
    have x14:w.cell? ⟨b,off+j*15+14,none⟩=some (.slice z.aL z.txs.length z.cL):=(hc 14 _ rfl).trans (by simp only [markRA,marksL_len])
    have C1:=heldIntS_any z.bf.aI z.bf.cI (kk+1+1+1+1+1+1+1) z.bf.v.o.ints.length w hrd.bf.ints (by omega) (by omega)
    have C2:=heldIntS_any z.bf.aR z.bf.cR (kk+1+1+1+1+1+1+1+z.bf.v.o.ints.length) z.bf.v.o.refs.length w hrd.bf.refs (by omega) (by omega)
    have C3:=heldIntS_any z.af.aI z.af.cI (kk+1+1+1+1+1+1+1+z.bf.v.o.ints.length+z.bf.v.o.refs.length+1+1) z.af.v.o.ints.length w hrd.af.ints (by omega) (by omega)
    have C4:=heldIntS_any z.af.aR z.af.cR (kk+1+1+1+1+1+1+1+z.bf.v.o.ints.length+z.bf.v.o.refs.length+1+1+z.af.v.o.ints.length) z.af.v.o.refs.length w hrd.af.refs (by omega) (by omega)
    have C5:=heldLiveS_any z.aL z.cL (kk+1+1+1+1+1+1+1+z.bf.v.o.ints.length+z.bf.v.o.refs.length+1+1+z.af.v.o.ints.length+z.af.v.o.refs.length+1) z.txs.length w hrd.txs (by omega) (by omega)
    have HNUM:Hid (k0+(countRs (rs.take (j+1)):Int)=kk+1+1+1+1+1+1+1+z.bf.v.o.ints.length+z.bf.v.o.refs.length+1+1+z.af.v.o.ints.length+z.af.v.o.refs.length+1+3*z.txs.length):=by rw [Hid,HCN.out,hcz];omega
    clear hc hrd HCN
    go_wp2_with fail
    refine C1.mono ?_
    clear C1 x0 x1 x2 x3 x4 x5 x6 x7
    rintro e w1 ⟨rfl,h1⟩
    rw [h1]
    clear h1 w1
    go_wp2_with fail
    refine C2.mono ?_
    clear C2 x8
    rintro e w1 ⟨rfl,h1⟩
    rw [h1]
    clear h1 w1
    go_wp2_with fail
    refine C3.mono ?_
    clear C3 x9 x10 x11
    rintro e w1 ⟨rfl,h1⟩
    rw [h1]
    clear h1 w1
    go_wp2_with fail
    refine C4.mono ?_
    clear C4 x12
    rintro e w1 ⟨rfl,h1⟩
    rw [h1]
    clear h1 w1
    go_wp2_with fail
    refine C5.mono ?_
    clear C5 x13 x14
    rintro e w1 ⟨rfl,h1⟩
    rw [h1]
    clear h1 w1
    go_wp2_with fail
    go_round
    case rel=>exact ⟨j+1,by omega,by go_num,by rw [HNUM.out]⟩
    case measure=>simp [intOf];omega
   ·have HE:Hid (k0+(countRs (rs.take j):Int)=k0+countRs rs):=by
     have e:j=rs.length:=by omega
     rw [Hid,e,List.take_length]
    go_wp2
    go_ret
    exact ⟨ret_int HE.out,rfl⟩
def LogA.mark (l:LogA) (k:Int):LogA:={ l with recs:=markRs l.recs k }
def LogA.count (l:LogA):Nat:=countRs l.recs
theorem markLog_touch (l:LogA) (lo hi:Nat) (k0:Int) (w:World) (ho:l.own w lo hi) (hl:l.short 1099511627776) (h0:0≤k0) (hk:k0+l.count≤1152921504606846976):
  Calls Tryz.prog 35 #[.agg l.cells.toArray,.int .i64 k0] w fun e w'=>e=.returned (.int .i64 (k0+l.count))∧(l.mark k0).own w' lo hi∧Touch l.blocks w w':=by
 obtain ⟨rs,s,a,c⟩:=l
 have hl2:=hl.each
 simp only [LogA.cells,LogA.own,LogA.count,LogA.mark,LogA.blocks] at*
 obtain ⟨W,hW,b0,hbW,hsW⟩:=boxes1 w [.slice a rs.length c,.int .i64 s] 54
 have c0:=b0.cell 0 _ rfl
 have C:=markRecS_touch lo hi a c k0 rs W (ho.below hbW) hl2 h0 hk
 clear hsW b0
 go_enter Tryz.func35,Tryz.ntmps35
 go_wp2_with fail
 rw [hW.out]
 clear hW
 refine C.mono ?_
 rintro e w1 ⟨rfl,ho1,ht1⟩
 go_wp2
 go_ret
 exact ⟨rfl,ho1,(Touch.of_below hbW).trans ht1⟩
theorem heldLog_any (l:LogA) (lo hi:Nat) (k0:Int) (w:World) (ho:(l.mark k0).own w lo hi) (hl:l.recs.length≤1099511627776) (h0:0≤k0) (hk:k0+l.count≤1152921504606846976):
  Calls Tryz.prog 40 #[.agg l.cells.toArray,.int .i64 k0] w fun e w'=>e=.returned (.int .i64 (k0+l.count))∧Below w.heap.size w w':=by
 obtain ⟨rs,s,a,c⟩:=l
 simp only [LogA.cells,LogA.own,LogA.count,LogA.mark] at*
 obtain ⟨W,hW,b0,hbW,hsW⟩:=boxes1 w [.slice a rs.length c,.int .i64 s] 54
 have c0:=b0.cell 0 _ rfl
 have C:=heldRecS_any a c k0 rs W (ho.below hbW).reads h0 hk (by omega)
 have hnn:¬ (k0+(countRs rs:Int)<0):=by omega
 clear hsW b0
 go_enter Tryz.func40,Tryz.ntmps40
 go_wp2_with fail
 rw [hW.out]
 clear hW
 refine C.mono ?_
 rintro e w1 ⟨rfl,rfl⟩
 go_wp2
 go_ret
 exact ⟨rfl,hbW⟩
theorem countRs_bound (rs:List RecA) (m:Nat) (h:∀ r∈rs,r.short m):countRs rs≤rs.length*(10+7*m):=by
 induction rs with
 | nil=>simp [countRs]
 | cons x r ih=>
  have h1:=h x (by simp)
  have h2:=ih (fun y hy=>h y (by simp [hy]))
  have hb:=h1.bf
  have ha:=h1.af
  have ht:=h1.txs
  have hx:countRA x≤10+7*m:=by simp only [countRA];omega
  simp only [countRs,List.length_cons,Nat.add_mul,Nat.one_mul]
  omega
def EngA.poolA (e:EngA):PoolA:=⟨e.seats,e.hand,e.aS,e.cS⟩
theorem EngA.shape.disk8 {e:EngA} (h:e.shape):Disk8 e.disk:=⟨h.eight,h.four⟩
structure EngA.reads (w:World) (e:EngA):Prop where
 disk:∀ p∈e.disk,ReadsS w p.ss
 pool:e.poolA.reads w
 log:e.log.reads w
 txs:ReadsL w e.aT e.txs
 holds:ReadsH w e.aH e.holds
structure EngA.short (e:EngA) (m:Nat):Prop where
 disk:∀ p∈e.disk,∀ x∈p.ss,x.v.o.ints.length≤m∧x.v.o.refs.length≤m
 pool:e.poolA.short m
 log:e.log.short m
 txs:e.txs.length≤m
 holds:e.holds.length≤m
theorem EngA.short.fit {e:EngA} (h:e.short 1099511627776):∀ p∈e.disk,Fit p.ss:=fun p hp s hs=>h.disk p hp s hs
theorem EngA.reads.below {w w':World} {e:EngA} (h:e.reads w) (hb:Below w.heap.size w w'):e.reads w':=
 ⟨fun p hp=>(h.disk p hp).below hb,h.pool.below hb,h.log.below hb,h.txs.below hb,h.holds.below hb⟩
theorem OwnS.readsAll {w:World} {lo hi:Nat} {ps:List PageA} (h:OwnS w lo hi (ps.flatMap (·.ss))):∀ p∈ps,ReadsS w p.ss:=fun p hp s hs=>h.reads s (List.mem_flatMap.2 ⟨p,hp,hs⟩)
theorem EngA.own.reads {w:World} {lo hi:Nat} {e:EngA} (h:e.own w lo hi):e.reads w:=⟨OwnS.readsAll h.disk,OwnSts.reads h.pool,OwnRs.reads h.log,h.txs.reads,h.holds.reads⟩
theorem eng_parts {w:World} {B:Nat} {t:TypeId} {e:EngA} (h:e.shape) (b:Box w B e.cells t):
  w.rangeAt B 0 (cellsPs e.disk)∧w.rangeAt B 136 e.poolA.cells∧w.rangeAt B 138 e.log.cells∧w.cell? ⟨B,140,none⟩=some (.slice e.aT e.txs.length e.cT)∧w.cell? ⟨B,141,none⟩=some (.slice e.aH e.holds.length e.cH)∧w.cell? ⟨B,142,none⟩=some (.int .i64 e.next)∧w.cell? ⟨B,143,none⟩=some (.bool e.down):=by
 have hl:=EngA.disk_len h
 refine ⟨?_,?_,?_,EngA.cell_at h b 4 _ rfl,EngA.cell_at h b 5 _ rfl,EngA.cell_at h b 6 _ rfl,EngA.cell_at h b 7 _ rfl⟩
 ·exact Box.range [] (cellsPs e.disk) e.tail b
 ·have:=Box.range (cellsPs e.disk) e.poolA.cells [.slice e.log.a e.log.recs.length e.log.c,.int .i64 e.log.sure,.slice e.aT e.txs.length e.cT,.slice e.aH e.holds.length e.cH,.int .i64 e.next,.bool e.down] b
  rwa [hl] at this
 ·have:=Box.range (cellsPs e.disk++e.poolA.cells) e.log.cells [.slice e.aT e.txs.length e.cT,.slice e.aH e.holds.length e.cH,.int .i64 e.next,.bool e.down] (by rw [List.append_assoc];exact b)
  rw [List.length_append,hl] at this
  exact this
theorem eqEngine_same (e f:EngA) (se:e.shape) (sf:f.shape) (he:f.v=e.v) (w:World) (re:e.reads w) (rf:f.reads w) (hl:e.short 1099511627776):
  Calls Tryz.prog 8 #[.agg e.cells.toArray,.agg f.cells.toArray] w fun r w'=>r=.returned (.bool true)∧Below w.heap.size w w':=by
 simp only [EngA.v,EngV.mk.injEq] at he
 obtain ⟨h1,h2,h3,h4,h5,h6,h7,h8⟩:=he
 have HD:Hid (f.disk.map pgv=e.disk.map pgv):=h1
 have HPV:Hid (f.poolA.v=e.poolA.v):=by rw [Hid,PoolA.v,PoolA.v];simp only [EngA.poolA,h2,h3]
 have HLV:Hid (f.log.v=e.log.v):=h4
 obtain ⟨W,hW,b0,b1,hbW,hsW⟩:=boxes2 w e.cells f.cells 58 58
 have HE:Hid (∀ u,Below W.heap.size W u→_):=fun u hu=>eng_parts se (b0.below hu b0.lt)
 have HF:Hid (∀ u,Below W.heap.size W u→_):=fun u hu=>eng_parts sf (b1.below hu b1.lt)
 have HR:Hid (∀ u,Below W.heap.size W u→e.reads u∧f.reads u):=fun u hu=>⟨(re.below hbW).below hu,(rf.below hbW).below hu⟩
 have hie:=disk8_info se.disk8
 have hif:=disk8_info sf.disk8
 clear h1 h2 h3 h4 hsW b0 b1
 have N:Below W.heap.size W W:=Below.refl _ _
 obtain ⟨p0,p1,p2,p3,p4,p5,p6⟩:=HE.out _ N
 obtain ⟨q0,q1,q2,q3,q4,q5,q6⟩:=HF.out _ N
 go_enter Tryz.func8,Tryz.ntmps8
 go_wp2_with (first | (guard_target=wpList _ _ _ (Oper.mk (some 6) _ _ _ _ _::_) _ _;refine wpList_load_mid rfl 48 (.tmp 5) rfl w.heap.size 0 rfl (cellsPs e.disk) _ (by rw [hW.out];exact p0) Tryz.underlying48 rfl hie ?_) | (guard_target=wpList _ _ _ (Oper.mk (some 8) _ _ _ _ _::_) _ _;refine wpList_load_mid rfl 48 (.tmp 7) rfl (w.heap.size+1) 0 rfl (cellsPs f.disk) _ (by rw [hW.out];exact q0) Tryz.underlying48 rfl hif ?_) | fail)
 rw [hW.out]
 clear hW
 refine (eqPageA8_same e.disk f.disk se.disk8 sf.disk8 HD.out W (HR.out _ N).1.disk (HR.out _ N).2.disk hl.fit).mono ?_
 rintro r w1 ⟨rfl,hbw1⟩
 replace N:=N.trans (hbw1.mono N.size)
 clear p0 p1 p2 p3 p4 p5 p6 q0 q1 q2 q3 q4 q5 q6 hbw1
 obtain ⟨p0,p1,p2,p3,p4,p5,p6⟩:=HE.out _ N
 obtain ⟨q0,q1,q2,q3,q4,q5,q6⟩:=HF.out _ N
 go_wp2_with (first | (guard_target=wpList _ _ _ (Oper.mk (some 12) _ _ _ _ _::_) _ _;refine wpList_load_mid rfl 51 (.tmp 11) rfl w.heap.size 136 rfl (e.poolA.cells) _ p1 Tryz.underlying51 rfl (pool_info _) ?_) | (guard_target=wpList _ _ _ (Oper.mk (some 14) _ _ _ _ _::_) _ _;refine wpList_load_mid rfl 51 (.tmp 13) rfl (w.heap.size+1) 136 rfl (f.poolA.cells) _ q1 Tryz.underlying51 rfl (pool_info _) ?_) | fail)
 refine (eqPool_same e.poolA f.poolA HPV.out w1 (HR.out _ N).1.pool (HR.out _ N).2.pool hl.pool).mono ?_
 rintro r w2 ⟨rfl,hbw2⟩
 replace N:=N.trans (hbw2.mono N.size)
 clear p0 p1 p2 p3 p4 p5 p6 q0 q1 q2 q3 q4 q5 q6 hbw2
 obtain ⟨p0,p1,p2,p3,p4,p5,p6⟩:=HE.out _ N
 obtain ⟨q0,q1,q2,q3,q4,q5,q6⟩:=HF.out _ N
 go_wp2_with (first | (guard_target=wpList _ _ _ (Oper.mk (some 18) _ _ _ _ _::_) _ _;refine wpList_load_mid rfl 54 (.tmp 17) rfl w.heap.size 138 rfl (e.log.cells) _ p2 Tryz.underlying54 rfl (log_info _) ?_) | (guard_target=wpList _ _ _ (Oper.mk (some 20) _ _ _ _ _::_) _ _;refine wpList_load_mid rfl 54 (.tmp 19) rfl (w.heap.size+1) 138 rfl (f.log.cells) _ q2 Tryz.underlying54 rfl (log_info _) ?_) | fail)
 refine (eqLog_same e.log f.log HLV.out w2 (HR.out _ N).1.log (HR.out _ N).2.log hl.log).mono ?_
 rintro r w3 ⟨rfl,hbw3⟩
 replace N:=N.trans (hbw3.mono N.size)
 clear p0 p1 p2 p3 p4 p5 p6 q0 q1 q2 q3 q4 q5 q6 hbw3
 obtain ⟨p0,p1,p2,p3,p4,p5,p6⟩:=HE.out _ N
 obtain ⟨q0,q1,q2,q3,q4,q5,q6⟩:=HF.out _ N
 rw [h5] at q3
 have C4:=eqLiveS_same e.aT f.aT e.cT f.cT e.txs w3 (HR.out _ N).1.txs (by have:=(HR.out _ N).2.txs;rwa [h5] at this) hl.txs
 go_wp2_with fail
 refine (C4).mono ?_
 rintro r w4 ⟨rfl,hbw4⟩
 replace N:=N.trans (hbw4.mono N.size)
 clear p0 p1 p2 p3 p4 p5 p6 q0 q1 q2 q3 q4 q5 q6 hbw4
 obtain ⟨p0,p1,p2,p3,p4,p5,p6⟩:=HE.out _ N
 obtain ⟨q0,q1,q2,q3,q4,q5,q6⟩:=HF.out _ N
 clear C4
 rw [h6] at q4
 have C5:=eqHoldS_same e.aH f.aH e.cH f.cH e.holds w4 (HR.out _ N).1.holds (by have:=(HR.out _ N).2.holds;rwa [h6] at this) hl.holds
 go_wp2_with fail
 refine (C5).mono ?_
 rintro r w5 ⟨rfl,hbw5⟩
 replace N:=N.trans (hbw5.mono N.size)
 clear p0 p1 p2 p3 p4 p5 p6 q0 q1 q2 q3 q4 q5 q6 hbw5
 obtain ⟨p0,p1,p2,p3,p4,p5,p6⟩:=HE.out _ N
 obtain ⟨q0,q1,q2,q3,q4,q5,q6⟩:=HF.out _ N
 clear C5
 rw [h7] at q5
 rw [h8] at q6
 have HEND:Hid (Below w.heap.size w w5):=hbW.trans (N.mono hbW.size)
 clear h5 h6 h7 h8
 go_wp2
 go_ret
 exact ⟨rfl,HEND.out⟩
def EngA.kP (e:EngA) (k:Int):Int:=k+countS (slots8 e.disk)
def EngA.kL (e:EngA) (k:Int):Int:=e.kP k+e.poolA.count
def EngA.kT (e:EngA) (k:Int):Int:=e.kL k+e.log.count
def EngA.kH (e:EngA) (k:Int):Int:=e.kT k+3*e.txs.length
def EngA.kE (e:EngA) (k:Int):Int:=e.kH k+2*e.holds.length
structure EngA.marked (w:World) (lo hi:Nat) (e:EngA) (k:Int):Prop where
 disk:OwnS w lo hi (markSs (slots8 e.disk) k)
 pool:(e.poolA.mark (e.kP k)).own w lo hi
 log:(e.log.mark (e.kL k)).own w lo hi
 txs:OwnL w lo hi e.aT e.cT (marksL (e.kT k) e.txs.length)
 holds:OwnH w lo hi e.aH e.cH (marksH (e.kH k) e.holds.length)
theorem EngA.marked.touch {w w':World} {lo hi:Nat} {e:EngA} {k:Int} {bl:List Nat} (h:e.marked w lo hi k) (ht:Touch bl w w') (hd:∀ j∈e.blocks,j∉bl):e.marked w' lo hi k:=by
 simp only [EngA.blocks,List.mem_append] at hd
 refine ⟨h.disk.touch ht (fun j hj=>hd j (.inl (by rw [markSs_blocks] at hj;exact hj))),h.pool.touch ht (fun j hj=>hd j (.inr (.inl ?_))),h.log.touch ht (fun j hj=>hd j (.inr (.inr (.inl ?_)))),h.txs.touch ht (fun j hj=>hd j (.inr (.inr (.inr (.inl ?_))))),h.holds.touch ht (fun j hj=>hd j (.inr (.inr (.inr (.inr ?_)))))⟩
 ·simpa [PoolA.blocks,PoolA.mark,blocksSts,markSts_len,markSts_blocks,EngA.poolA] using hj
 ·simpa [LogA.blocks,LogA.mark,blocksRs,markRs_len,markRs_blocks] using hj
 ·rw [marksL_len] at hj;exact Option.mem_toList.2 hj
 ·rw [marksH_len] at hj;exact Option.mem_toList.2 hj
theorem EngA.marked.below {w w':World} {lo hi:Nat} {e:EngA} {k:Int} (h:e.marked w lo hi k) (hb:Below w.heap.size w w'):e.marked w' lo hi k:=
 ⟨h.disk.below hb,h.pool.below hb,h.log.below hb,h.txs.below hb,h.holds.below hb⟩
theorem markEngine_touch (e:EngA) (se:e.shape) (lo hi:Nat) (k0:Int) (w:World) (ho:e.own w lo hi) (hl:e.short 1099511627776) (h0:0≤k0) (hk:e.kP k0≤10995116277760∧e.kE k0≤1152921504606846976) (hhi:hi≤w.heap.size):
  Calls Tryz.prog 9 #[.agg e.cells.toArray,.int .i64 k0] w fun r w'=>r=.returned (.int .i64 (e.kE k0))∧e.marked w' lo hi k0∧Touch e.blocks w w':=by
 have hbl:=ho.blocks_lt
 have HAP:=ho.apart
 obtain ⟨W,hW,b0,hbW,hsW⟩:=boxes1 w e.cells 58
 have hs0:w.heap.size<W.heap.size:=by omega
 have hwB:w.heap.size∉e.blocks:=fun h=>by have:=(hbl _ h).2;omega
 have HE:Hid (∀ u,Touch e.blocks W u→_):=fun u hu=>eng_parts se (b0.touch hu hwB)
 have hie:=disk8_info se.disk8
 have hb1:0≤e.kP k0∧e.kP k0≤10995116277760∧0≤e.kL k0∧e.kL k0≤1152921504606846976∧0≤e.kT k0∧e.kT k0≤1152921504606846976∧0≤e.kH k0∧e.kH k0≤1152921504606846976:=by unfold EngA.kE EngA.kH EngA.kT EngA.kL EngA.kP at *;omega
 simp only [EngA.blocks,List.nodup_append,List.mem_append] at HAP
 obtain ⟨_,⟨_,⟨_,⟨_,_,a45⟩,a3⟩,a2⟩,a1⟩:=HAP
 have od:=ho.disk.below hbW
 have op:e.poolA.own W lo hi:=OwnSts.below ho.pool hbW
 have ol:e.log.own W lo hi:=OwnRs.below ho.log hbW
 have ot:=ho.txs.below hbW
 have oh:=ho.holds.below hbW
 have N:Touch e.blocks W W:=Touch.refl _ _
 obtain ⟨p0,p1,p2,p3,p4,_,_⟩:=HE.out _ N
 have C1:=markPageA8_touch e.disk se.disk8 lo hi k0 W od hl.fit h0 (by have:=hb1.2.1;unfold EngA.kP at this;exact this) (by omega)
 go_enter Tryz.func9,Tryz.ntmps9
 go_wp2_with (first | (guard_target=wpList _ _ _ (Oper.mk (some 6) _ _ _ _ _::_) _ _;refine wpList_load_mid rfl 48 (.tmp 5) rfl w.heap.size 0 rfl (cellsPs e.disk) _ (by rw [hW.out];exact p0) Tryz.underlying48 rfl hie ?_) | fail)
 rw [hW.out]
 clear hW hsW
 refine C1.mono ?_
 clear C1 p0 p1 p2 p3 p4 od
 rintro r w1 ⟨rfl,od,t1⟩
 have T1:Touch e.blocks W w1:=t1.mono (fun k hk=>List.mem_append.2 (.inl hk))
 replace op:e.poolA.own w1 lo hi:=op.touch t1 (fun k hk hk'=>a1 k hk' k (.inl hk) rfl)
 replace ol:e.log.own w1 lo hi:=ol.touch t1 (fun k hk hk'=>a1 k hk' k (.inr (.inl hk)) rfl)
 replace ot:=ot.touch t1 (fun k hk hk'=>a1 k hk' k (.inr (.inr (.inl (Option.mem_toList.2 hk)))) rfl)
 replace oh:=oh.touch t1 (fun k hk hk'=>a1 k hk' k (.inr (.inr (.inr (Option.mem_toList.2 hk)))) rfl)
 obtain ⟨p0,p1,p2,p3,p4,_,_⟩:=HE.out _ T1
 have C2:=markPool_touch e.poolA lo hi (e.kP k0) w1 op hl.pool hb1.1 (by have:=hb1.2.2.2.1;unfold EngA.kL at this;omega)
 go_wp2_with (first | (guard_target=wpList _ _ _ (Oper.mk (some 10) _ _ _ _ _::_) _ _;refine wpList_load_mid rfl 51 (.tmp 9) rfl w.heap.size 136 rfl (e.poolA.cells) _ p1 Tryz.underlying51 rfl (pool_info _) ?_) | fail)
 refine C2.mono ?_
 clear C2 p0 p1 p2 p3 p4 op t1
 rintro r w2 ⟨rfl,op,t2⟩
 have hpb:e.poolA.blocks=blocksSts e.aS e.cS e.seats:=rfl
 have T2:Touch e.blocks W w2:=T1.trans (t2.mono (fun k hk=>List.mem_append.2 (.inr (List.mem_append.2 (.inl hk)))))
 replace od:=od.touch t2 (fun k hk hk'=>a1 k (by rw [markSs_blocks] at hk;exact hk) k (.inl hk') rfl)
 replace ol:e.log.own w2 lo hi:=ol.touch t2 (fun k hk hk'=>a2 k hk' k (.inl hk) rfl)
 replace ot:=ot.touch t2 (fun k hk hk'=>a2 k hk' k (.inr (.inl (Option.mem_toList.2 hk))) rfl)
 replace oh:=oh.touch t2 (fun k hk hk'=>a2 k hk' k (.inr (.inr (Option.mem_toList.2 hk))) rfl)
 obtain ⟨p0,p1,p2,p3,p4,_,_⟩:=HE.out _ T2
 have C3:=markLog_touch e.log lo hi (e.kL k0) w2 ol hl.log hb1.2.2.1 (by have:=hb1.2.2.2.2.2.1;unfold EngA.kT at this;omega)
 go_wp2_with (first | (guard_target=wpList _ _ _ (Oper.mk (some 14) _ _ _ _ _::_) _ _;refine wpList_load_mid rfl 54 (.tmp 13) rfl w.heap.size 138 rfl (e.log.cells) _ p2 Tryz.underlying54 rfl (log_info _) ?_) | fail)
 refine C3.mono ?_
 clear C3 p0 p1 p2 p3 p4 ol t2
 rintro r w3 ⟨rfl,ol,t3⟩
 have T3:Touch e.blocks W w3:=T2.trans (t3.mono (fun k hk=>List.mem_append.2 (.inr (List.mem_append.2 (.inr (List.mem_append.2 (.inl hk)))))))
 replace od:=od.touch t3 (fun k hk hk'=>a1 k (by rw [markSs_blocks] at hk;exact hk) k (.inr (.inl hk')) rfl)
 replace op:(e.poolA.mark (e.kP k0)).own w3 lo hi:=op.touch t3 (fun k hk hk'=>a2 k (by simpa [PoolA.blocks,PoolA.mark,blocksSts,markSts_len,markSts_blocks,EngA.poolA] using hk) k (.inl hk') rfl)
 replace ot:=ot.touch t3 (fun k hk hk'=>a3 k hk' k (.inl (Option.mem_toList.2 hk)) rfl)
 replace oh:=oh.touch t3 (fun k hk hk'=>a3 k hk' k (.inr (Option.mem_toList.2 hk)) rfl)
 obtain ⟨p0,p1,p2,p3,p4,_,_⟩:=HE.out _ T3
 have C4:=markLiveS_own lo hi e.aT e.cT (e.kT k0) e.txs w3 ot hb1.2.2.2.2.1 (by have:=hb1.2.2.2.2.2.2.2;unfold EngA.kH at this;omega)
 have E3:Hid (e.kL k0+(e.log.count:Int)=e.kT k0):=rfl
 rw [E3.out]
 go_wp2_with fail
 refine C4.mono ?_
 clear C4 p0 p1 p2 p3 p4 ot t3 E3
 rintro r w4 ⟨rfl,ot,t4⟩
 have T4:Touch e.blocks W w4:=T3.trans (t4.mono (fun k hk=>List.mem_append.2 (.inr (List.mem_append.2 (.inr (List.mem_append.2 (.inr (List.mem_append.2 (.inl hk)))))))))
 replace od:=od.touch t4 (fun k hk hk'=>a1 k (by rw [markSs_blocks] at hk;exact hk) k (.inr (.inr (.inl hk'))) rfl)
 replace op:(e.poolA.mark (e.kP k0)).own w4 lo hi:=op.touch t4 (fun k hk hk'=>a2 k (by simpa [PoolA.blocks,PoolA.mark,blocksSts,markSts_len,markSts_blocks,EngA.poolA] using hk) k (.inr (.inl hk')) rfl)
 replace ol:(e.log.mark (e.kL k0)).own w4 lo hi:=ol.touch t4 (fun k hk hk'=>a3 k (by simpa [LogA.blocks,LogA.mark,blocksRs,markRs_len,markRs_blocks] using hk) k (.inl hk') rfl)
 replace oh:=oh.touch t4 (fun k hk hk'=>a45 k hk' k (Option.mem_toList.2 hk) rfl)
 obtain ⟨p0,p1,p2,p3,p4,_,_⟩:=HE.out _ T4
 have C5:=markHoldS_own lo hi e.aH e.cH (e.kH k0) e.holds w4 oh hb1.2.2.2.2.2.2.1 (by unfold EngA.kE at hk;omega)
 have E4:Hid (e.kT k0+3*(e.txs.length:Int)=e.kH k0):=rfl
 rw [E4.out]
 go_wp2_with fail
 refine C5.mono ?_
 clear C5 p0 p1 p2 p3 p4 oh E4
 rintro r w5 ⟨rfl,oh,t5⟩
 have T5:Touch e.blocks W w5:=T4.trans (t5.mono (fun k hk=>List.mem_append.2 (.inr (List.mem_append.2 (.inr (List.mem_append.2 (.inr (List.mem_append.2 (.inr hk)))))))))
 replace od:=od.touch t5 (fun k hk hk'=>a1 k (by rw [markSs_blocks] at hk;exact hk) k (.inr (.inr (.inr hk'))) rfl)
 replace op:(e.poolA.mark (e.kP k0)).own w5 lo hi:=op.touch t5 (fun k hk hk'=>a2 k (by simpa [PoolA.blocks,PoolA.mark,blocksSts,markSts_len,markSts_blocks,EngA.poolA] using hk) k (.inr (.inr hk')) rfl)
 replace ol:(e.log.mark (e.kL k0)).own w5 lo hi:=ol.touch t5 (fun k hk hk'=>a3 k (by simpa [LogA.blocks,LogA.mark,blocksRs,markRs_len,markRs_blocks] using hk) k (.inr hk') rfl)
 replace ot:=ot.touch t5 (fun k hk hk'=>a45 k (by rw [marksL_len] at hk;exact Option.mem_toList.2 hk) k hk' rfl)
 have HEND:Hid (e.marked w5 lo hi k0∧Touch e.blocks w w5):=⟨⟨od,op,ol,ot,oh⟩,(Touch.of_below hbW).trans T5⟩
 go_wp2
 go_ret
 exact ⟨rfl,HEND.out.1,HEND.out.2⟩
theorem heldEngine_any (e:EngA) (se:e.shape) (lo hi:Nat) (k0:Int) (w:World) (ho:e.marked w lo hi k0) (hl:e.short 1099511627776) (h0:0≤k0) (hk:e.kP k0≤10995116277760∧e.kE k0≤1152921504606846976):
  Calls Tryz.prog 10 #[.agg e.cells.toArray,.int .i64 k0] w fun r w'=>r=.returned (.int .i64 (e.kE k0))∧Below w.heap.size w w':=by
 obtain ⟨W,hW,b0,hbW,hsW⟩:=boxes1 w e.cells 58
 have HE:Hid (∀ u,Below W.heap.size W u→_):=fun u hu=>eng_parts se (b0.below hu b0.lt)
 have hie:=disk8_info se.disk8
 have hb1:0≤e.kP k0∧e.kP k0≤10995116277760∧0≤e.kL k0∧e.kL k0≤1152921504606846976∧0≤e.kT k0∧e.kT k0≤1152921504606846976∧0≤e.kH k0∧e.kH k0≤1152921504606846976∧0≤e.kE k0:=by unfold EngA.kE EngA.kH EngA.kT EngA.kL EngA.kP at *;omega
 have HM:Hid (∀ u,Below W.heap.size W u→e.marked u lo hi k0):=fun u hu=>(ho.below hbW).below hu
 have N:Below W.heap.size W W:=Below.refl _ _
 obtain ⟨p0,p1,p2,p3,p4,_,_⟩:=HE.out _ N
 have C1:=heldPageA8_any e.disk se.disk8 lo hi k0 W (HM.out _ N).disk hl.fit h0 (by have:=hb1.2.1;unfold EngA.kP at this;exact this)
 go_enter Tryz.func10,Tryz.ntmps10
 go_wp2_with (first | (guard_target=wpList _ _ _ (Oper.mk (some 6) _ _ _ _ _::_) _ _;refine wpList_load_mid rfl 48 (.tmp 5) rfl w.heap.size 0 rfl (cellsPs e.disk) _ (by rw [hW.out];exact p0) Tryz.underlying48 rfl hie ?_) | fail)
 rw [hW.out]
 clear hW hsW
 refine C1.mono ?_
 clear C1 p0 p1 p2 p3 p4
 rintro r w1 ⟨rfl,hb⟩
 replace N:=N.trans (hb.mono N.size)
 obtain ⟨p0,p1,p2,p3,p4,_,_⟩:=HE.out _ N
 have E1:Hid (k0+(countS (slots8 e.disk):Int)=e.kP k0):=rfl
 rw [E1.out]
 have n1:¬ e.kP k0<0:=by omega
 have C2:=heldPool_any e.poolA lo hi (e.kP k0) w1 (HM.out _ N).pool hl.pool.len hb1.1 (by have:=hb1.2.2.2.1;unfold EngA.kL at this;omega)
 clear hb E1
 go_wp2_with (first | (guard_target=wpList _ _ _ (Oper.mk (some 12) _ _ _ _ _::_) _ _;refine wpList_load_mid rfl 51 (.tmp 11) rfl w.heap.size 136 rfl (e.poolA.cells) _ p1 Tryz.underlying51 rfl (pool_info _) ?_) | fail)
 refine C2.mono ?_
 clear C2 p0 p1 p2 p3 p4
 rintro r w2 ⟨rfl,hb⟩
 replace N:=N.trans (hb.mono N.size)
 obtain ⟨p0,p1,p2,p3,p4,_,_⟩:=HE.out _ N
 have E1:Hid (e.kP k0+(e.poolA.count:Int)=e.kL k0):=rfl
 rw [E1.out]
 have n2:¬ e.kL k0<0:=by omega
 have C3:=heldLog_any e.log lo hi (e.kL k0) w2 (HM.out _ N).log hl.log.len hb1.2.2.1 (by have:=hb1.2.2.2.2.2.1;unfold EngA.kT at this;omega)
 clear hb E1
 go_wp2_with (first | (guard_target=wpList _ _ _ (Oper.mk (some 18) _ _ _ _ _::_) _ _;refine wpList_load_mid rfl 54 (.tmp 17) rfl w.heap.size 138 rfl (e.log.cells) _ p2 Tryz.underlying54 rfl (log_info _) ?_) | fail)
 refine C3.mono ?_
 clear C3 p0 p1 p2 p3 p4
 rintro r w3 ⟨rfl,hb⟩
 replace N:=N.trans (hb.mono N.size)
 obtain ⟨p0,p1,p2,p3,p4,_,_⟩:=HE.out _ N
 have E1:Hid (e.kL k0+(e.log.count:Int)=e.kT k0):=rfl
 rw [E1.out]
 have n3:¬ e.kT k0<0:=by omega
 have C4:=heldLiveS_any e.aT e.cT (e.kT k0) e.txs.length w3 (HM.out _ N).txs.reads hb1.2.2.2.2.1 (by have:=hb1.2.2.2.2.2.2.2.1;unfold EngA.kH at this;omega)
 clear hb E1
 go_wp2_with fail
 refine C4.mono ?_
 clear C4
 rintro r w4 ⟨rfl,rfl⟩
 have E1:Hid (e.kT k0+3*(e.txs.length:Int)=e.kH k0):=rfl
 rw [E1.out]
 have n4:¬ e.kH k0<0:=by omega
 have C5:=heldHoldS_any e.aH e.cH (e.kH k0) e.holds.length w4 (HM.out _ N).holds.reads hb1.2.2.2.2.2.2.1 (by unfold EngA.kE at hk;omega)
 clear E1
 go_wp2_with fail
 refine C5.mono ?_
 clear C5
 rintro r w5 ⟨rfl,rfl⟩
 have E1:Hid (e.kH k0+2*(e.holds.length:Int)=e.kE k0):=rfl
 rw [E1.out]
 have n5:¬ e.kE k0<0:=by omega
 have HEND:Hid (Below w.heap.size w w5):=hbW.trans (N.mono hbW.size)
 go_wp2
 go_ret
 exact ⟨rfl,HEND.out⟩
theorem eng_info {e:EngA} (h:e.shape):(Tryz.prog.info? 58).map (·.size)=some e.cells.length:=by rw [EngA.cells_len h];exact Tryz.infoEng
theorem oneE (e:EngA):∀ v∈e.cells,v.oneCell'=true:=by
 intro v hv
 simp only [EngA.cells,List.mem_append] at hv
 rcases hv with hv | hv
 ·obtain ⟨p,_,hp⟩:=List.mem_flatMap.1 hv
  exact oneP p v hp
 ·simp only [EngA.tail,List.mem_cons,List.not_mem_nil,or_false] at hv
  rcases hv with rfl | rfl | rfl | rfl | rfl | rfl | rfl | rfl<;>rfl
theorem zeroE_shape:zeroE.shape:=⟨rfl,fun p hp=>by
 simp only [zeroE,List.mem_cons,List.not_mem_nil,or_false] at hp
 have:p=zeroP:=by rcases hp with h | h | h | h | h | h | h | h<;>exact h
 rw [this];rfl⟩
theorem eng_out {w:World} {C:Nat} {q old:EngA} (hq:q.shape) (ho:old.shape) (bC:Box w C old.cells TE):
  ∃ WF,Hid (w.setCells C 0 q.cells.toArray.toList=WF)∧Within C (C+1) w WF∧WF.heap.size=w.heap.size∧Hid (w.there C 0 q.cells.toArray.size)∧Box WF C q.cells TE:=by
 obtain ⟨WF,hWF,bF,hwF,hsF⟩:=range_fill [] old.cells q.cells [] (by simpa using bC) (by rw [EngA.cells_len hq,EngA.cells_len ho])
 refine ⟨WF,hWF,hwF,hsF,bC.there 0 _ (by rw [List.size_toArray,EngA.cells_len hq,EngA.cells_len ho];omega),by simpa using bF⟩
theorem eng_load {w:World} {C:Nat} {q:EngA} (hq:q.shape) (b:Box w C q.cells TE):(loadVar 58 ⟨C,0,none⟩).run Tryz.prog w=.ok (.agg q.cells.toArray) w:=
 run_loadVar_mid (P:=Tryz.prog) w C 0 58 q.cells _ (Box.range [] q.cells [] (by simpa using b)) Tryz.underlying58 rfl (eng_info hq)
theorem alloc_of {w:World} {ops:Array Oper} {rest:List Oper} {dst:Option Nat} {ty:TypeId} {pos:String} {aft:Array Edge} {act:Act} {Q:Exit→Act→World→Prop} (T:TypeId) (cs:List Value)
  (hz:(Tryz.prog.info? T).map (·.zero)=some (some (.agg cs.toArray)))
  (h:wpList Tryz.prog ops Q rest (act.put dst (.pointer (some ⟨w.heap.size,0,none⟩))) (w.alloc (.cells cs.toArray T))):
  wpList Tryz.prog ops Q ({ dst:=dst,op:=.alloc T,type:=ty,pos:=pos,after:=aft,guard:=none }::rest) act w:=by
 refine wpList_plain rfl fun K hK=>?_
 cases hi:Tryz.prog.info? T with
 | none=>rw [hi] at hz;cases hz
 | some inf=>
  rw [hi] at hz
  have hz':inf.zero=some (.agg cs.toArray):=by simpa using hz
  unfold Oper.wp execOp
  have e1:(zeroValue T).run Tryz.prog w=.ok (.agg cs.toArray) w:=by simp [zeroValue,typeInfo,hi,hz']
  have e2:(Instr.alloc T true (.tuple #[])).run Tryz.prog w=.ok (.pointer (some ⟨w.heap.size,0,none⟩)) (w.alloc (.cells cs.toArray T)):=by
   unfold Instr.alloc
   simp only [Sem.run_bind,e1,Result.andThen_ok]
   simp [newVar,go_sem]
  simp only [Sem.run_bind,e2,Result.andThen_ok,Sem.run_pure]
  exact hK _ _ h
def zero8:List PageA:=List.replicate 8 zeroP
theorem zero8_d:Disk8 zero8:=⟨rfl,fun p hp=>by rw [List.eq_of_mem_replicate hp];rfl⟩
theorem Tryz.zeroA8:(Tryz.prog.info? 48).map (·.zero)=some (some (.agg (cellsPs zero8).toArray)):=by kernel_rfl
theorem cellsPs_app (a b:List PageA):cellsPs (a++b)=cellsPs a++cellsPs b:=by simp only [cellsPs,List.flatMap_append]
theorem cellsPs_cons (p:PageA) (b:List PageA):cellsPs (p::b)=p.cells++cellsPs b:=by simp only [cellsPs,List.flatMap_cons]
theorem onePs (ps:List PageA):∀ v∈cellsPs ps,v.oneCell'=true:=fun v hv=>by
 obtain ⟨p,_,hp⟩:=List.mem_flatMap.1 hv
 exact oneP p v hp
theorem lpage_info (p:PageA) (h:p.ss.length=4):(Tryz.prog.info? 29).map (·.size)=some p.cells.length:=by rw [page_len _ h];kernel_rfl
theorem ldisk8_info {ps:List PageA} (h:Disk8 ps):(Tryz.prog.info? 30).map (·.size)=some (cellsPs ps).length:=by rw [cellsPs_len _ h.four,h.eight];kernel_rfl
theorem OwnS.snocs {w:World} {lo mid hi:Nat} {A B:List SlotA} (h:OwnS w lo mid A) (hb:OwnS w mid hi B) (h1:lo≤mid) (h2:mid≤hi) (hhi:hi≤w.heap.size):OwnS w lo hi (A++B):=by
 have ha:=h.widen (Nat.le_refl _) h2 hhi
 have hb':=hb.widen h1 (Nat.le_refl _) hhi
 refine ⟨fun s hs=>(List.mem_append.1 hs).elim (ha.each s) (hb'.each s),?_⟩
 rw [List.flatMap_append,List.nodup_append]
 exact ⟨h.apart,hb.apart,fun x hx y hy e=>by have:=h.blocks_lt x hx;have:=hb.blocks_lt y hy;omega⟩
theorem toPageA8_any (ps:List PageA) (hp:Disk8 ps) (w:World) (hr:∀ p∈ps,ReadsS w p.ss) (hf:∀ p∈ps,Fit p.ss):
  Calls Tryz.prog 18 #[.agg (cellsPs ps).toArray] w fun e w'=>∃ ts:List PageA,e=.returned (.agg (cellsPs ts).toArray)∧Disk8 ts∧Hid (ts.map pgv=ps.map pgv)∧OwnS w' w.heap.size w'.heap.size (slots8 ts)∧Below w.heap.size w w':=by
 obtain ⟨Z,hZ⟩:∃ Z,Hid (zero8=Z):=⟨_,rfl⟩
 have hz8:Disk8 Z:=by rw [← hZ.out];exact zero8_d
 have HZ:=Tryz.zeroA8
 rw [hZ.out] at HZ
 obtain ⟨W,hW,b1,b2,b3,hbW,hsW⟩:=boxes3 w (cellsPs ps) (cellsPs Z) (cellsPs Z) 30 48 48
 have hs0:w.heap.size+1+1<W.heap.size:=by omega
 go_enter Tryz.func18,Tryz.ntmps18
 go_wp2_with (first | (guard_target=wpList _ _ _ (Oper.mk _ (Op.alloc _) _ _ _ _::_) _ _;refine alloc_of 48 (cellsPs Z) HZ ?_) | fail)
 rw [hW.out]
 clear hW hsW
 have b3':Box W (w.heap.size+1+1) (cellsPs ([]++List.replicate (8-0) zeroP)) 48:=by rw [← hZ.out] at b3;exact b3
 clear b3
 go_loopw [4] (fun i wr=>∃ (k:Nat) (ts:List PageA),k≤8∧i=.int .i64 (k:Int)∧Hid (ts.length=k∧(∀ p∈ts,p.ss.length=4)∧ts.map pgv=(ps.take k).map pgv)∧OwnS wr W.heap.size wr.heap.size (slots8 ts)∧Box wr w.heap.size (cellsPs ps) 30∧Box wr (w.heap.size+1) (cellsPs Z) 48∧Box wr (w.heap.size+1+1) (cellsPs (ts++List.replicate (8-k) zeroP)) 48∧Below w.heap.size w wr∧W.heap.size≤wr.heap.size) (fun i _=>8-(intOf i).toNat)
 case atStart=>exact ⟨0,[],Nat.zero_le _,rfl,⟨rfl,fun p hp=>by (simp at hp),rfl⟩,OwnS.nil _ _ _,b1,b2,b3',hbW,Nat.le_refl _⟩
 case round=>
  obtain ⟨k,ts,hk,rfl,hts,hown,c1,c2,c3,hnx,hsr⟩:=hrel
  clear b1 b2 b3'
  by_cases hlt:k<8
  ·have hkl:k<ps.length:=by rw [hp.eight];exact hlt
   have r1:=page_in hp c1 k hlt
   have HP4:=hp.at hlt
   have F1:=hf _ (pageD_mem (k:=k) hkl)
   have R1:=(hr _ (pageD_mem (k:=k) hkl)).below hnx
   have HTK:Hid ((ps.take (k+1)).map pgv=(ps.take k).map pgv++[pgv (ps.getD k zeroP)]):=by rw [Hid,List.take_succ_eq_append_getElem hkl,pageD_eq hkl,List.map_append];rfl
   have C:=toPage_own (ps.getD k zeroP) HP4 wr R1 F1
   generalize ps.getD k zeroP=p at*
   have HIp:=lpage_info p HP4
   have hi0:(0:Int)≤(k:Int):=by omega
   have hi8:(k:Int)<8:=by omega
   go_wp2_with (first | (guard_target=wpList _ _ _ (Oper.mk (some 12) _ _ _ _ _::_) _ _;refine wpList_load_mid rfl 29 (.tmp 11) rfl w.heap.size (k*17) rfl (p.cells) _ r1 Tryz.underlying29 rfl HIp ?_) | fail)
   refine C.mono ?_
   clear C r1
   rintro e w1 ⟨us,rfl,hv,ho1,hb1⟩
   have hu4:us.length=4:=by have:=congrArg List.length hv.out;simp only [List.length_map] at this;omega
   have s1:=hb1.size
   obtain ⟨q,hq⟩:∃ q:PageA,Hid ((⟨p.lsn,us⟩:PageA)=q):=⟨_,rfl⟩
   have hq4:q.ss.length=4:=by rw [← hq.out];exact hu4
   have oq:OwnS w1 wr.heap.size w1.heap.size q.ss:=by rw [← hq.out];exact ho1
   have HQV:Hid (pgv q=pgv p):=by rw [Hid,← hq.out];simp only [pgv];rw [hv.out]
   rw [hq.out]
   clear hq hv ho1 hu4
   replace c1:=c1.below hb1 c1.lt
   replace c2:=c2.below hb1 c2.lt
   replace c3:=c3.below hb1 c3.lt
   have hown1:=hown.below hb1
   replace hnx:=hnx.trans (hb1.mono hnx.size)
   have e8:8-k=(8-(k+1))+1:=by omega
   rw [cellsPs_app,e8,List.replicate_succ,cellsPs_cons] at c3
   obtain ⟨W2,hW2,d3,hw2,hs2⟩:=range_fill (cellsPs ts) zeroP.cells q.cells (cellsPs (List.replicate (8-(k+1)) zeroP)) c3 (by rw [page_len q hq4];rfl)
   have hl3:(cellsPs ts).length=k*17:=by rw [cellsPs_len _ hts.out.2.1,hts.out.1]
   rw [hl3] at hW2
   have HTH:Hid (w1.there (w.heap.size+1+1) (k*17) q.cells.toArray.size):=c3.there _ _ (by rw [List.size_toArray,page_len q hq4,List.length_append,List.length_append,hl3,page_len zeroP rfl];omega)
   have s2:=hw2.size
   have d3':Box W2 (w.heap.size+1+1) (cellsPs ((ts++[q])++List.replicate (8-(k+1)) zeroP)) 48:=by
    rw [List.append_assoc,cellsPs_app,List.singleton_append,cellsPs_cons];exact d3
   have c1':=c1.within hw2 (by omega)
   have c2':=c2.within hw2 (by omega)
   have HOW:Hid (OwnS W2 W.heap.size W2.heap.size (slots8 (ts++[q]))):=by
    rw [Hid,slots8_app,slots8_cons]
    have o:=(hown1.snocs oq hsr (by omega) (Nat.le_refl _))
    simpa [slots8] using (o.within hw2 (.inr (by omega))).widen (Nat.le_refl _) s2 (Nat.le_refl _)
   have HTS:Hid ((ts++[q]).length=k+1∧(∀ p∈ts++[q],p.ss.length=4)∧(ts++[q]).map pgv=(ps.take (k+1)).map pgv):=by
    refine ⟨by rw [List.length_append,hts.out.1];rfl,fun x hx=>?_,?_⟩
    ·rcases List.mem_append.1 hx with h | h
     ·exact hts.out.2.1 x h
     ·rw [List.mem_singleton.1 h];exact hq4
    ·rw [HTK.out,List.map_append,hts.out.2.2,← HQV.out];rfl
   have HN:Hid (Below w.heap.size w W2∧W.heap.size≤W2.heap.size):=⟨hnx.trans (hw2.below (by have:=hbW.size;omega) (by omega)),by omega⟩
   have HIq:Hid ((Tryz.prog.info? 47).map (·.size)=some q.cells.toArray.size):=page_infoP q hq4
   have HOq:=all_oneCell_toArray (oneP q)
   have HW2:Hid (w1.setCells (w.heap.size+1+1) (k*17) q.cells.toArray.toList=W2):=hW2.out
   clear c1 c2 c3 d3 hown hown1 oq hw2 hs2 hW2 hnx hts HTK HQV hl3 e8 hb1
   go_wp2_with (first | (guard_target=wpList _ _ _ (Oper.mk none (Op.store _ (Operand.tmp 14) _) _ _ _ _::_) _ _;refine wpList_store_mid rfl 47 (.tmp 14) (.tmp 13) rfl (w.heap.size+1+1) (k*17) (q.cells).toArray rfl rfl HTH.out HIq.out HOq ?_) | fail)
   rw [HW2.out]
   go_roundw
   case rel=>exact ⟨k+1,ts++[q],by omega,by go_num,HTS,HOW.out,c1',c2',d3',HN.out.1,HN.out.2⟩
   case measure=>simp [intOf];omega
  ·obtain rfl:k=8:=by omega
   have hkk:¬ ((8:Nat):Int)<8:=by omega
   have e0:ts++List.replicate (8-8) zeroP=ts:=by simp
   rw [e0] at c3
   have ht8:Disk8 ts:=⟨hts.out.1,hts.out.2.1⟩
   have HV:Hid (ts.map pgv=ps.map pgv):=by rw [Hid,hts.out.2.2,← hp.eight,List.take_length]
   have r3:wr.rangeAt (w.heap.size+1+1) 0 (cellsPs ts):=Box.range [] (cellsPs ts) [] (by simpa using c3)
   obtain ⟨WF,hWF,bF,hwF,hsF⟩:=range_fill [] (cellsPs Z) (cellsPs ts) [] (by simpa using c2) (by rw [cellsPs_len _ ht8.four,cellsPs_len _ hz8.four,ht8.eight,hz8.eight])
   have sF:=hwF.size
   have bF':Box WF (w.heap.size+1) (cellsPs ts) 48:=by simpa using bF
   have HTH:Hid (wr.there (w.heap.size+1) 0 (cellsPs ts).toArray.size):=c2.there _ _ (by rw [List.size_toArray,cellsPs_len _ ht8.four,cellsPs_len _ hz8.four,ht8.eight,hz8.eight];omega)
   have HL:Hid ((loadVar 48 ⟨w.heap.size+1,0,none⟩).run Tryz.prog WF=.ok (.agg (cellsPs ts).toArray) WF):=run_loadVar_mid (P:=Tryz.prog) WF (w.heap.size+1) 0 48 (cellsPs ts) _ (Box.range [] (cellsPs ts) [] (by simpa using bF')) Tryz.underlying48 rfl (disk8_info ht8)
   have HEND:Hid (OwnS WF w.heap.size WF.heap.size (slots8 ts)∧Below w.heap.size w WF):=⟨(hown.within hwF (.inr (by omega))).widen (by omega) (by omega) (Nat.le_refl _),hnx.trans (hwF.below (by omega) (by have:=hnx.size;omega))⟩
   have HWF:Hid (wr.setCells (w.heap.size+1) 0 (cellsPs ts).toArray.toList=WF):=hWF.out
   have HI:=disk8_info ht8
   have HO:=all_oneCell_toArray (onePs ts)
   clear c1 c2 c3 hown hwF hsF bF bF' hWF hnx e0 hts
   go_wp2_with (first | (guard_target=wpList _ _ _ (Oper.mk (some 15) _ _ _ _ _::_) _ _;refine wpList_load_mid rfl 48 (.tmp 3) rfl (w.heap.size+1+1) 0 rfl (cellsPs ts) _ r3 Tryz.underlying48 rfl HI ?_) | (guard_target=wpList _ _ _ (Oper.mk none (Op.store _ (Operand.tmp 2) _) _ _ _ _::_) _ _;refine wpList_store_mid rfl 48 (.tmp 2) (.tmp 15) rfl (w.heap.size+1) 0 (cellsPs ts).toArray rfl rfl HTH.out (by rw [List.size_toArray];exact HI) HO ?_) | fail)
   rw [HWF.out]
   exact bodyPost_ret (v:=.agg (cellsPs ts).toArray) (results_one Tryz.results18 rfl HL.out) rfl ⟨ts,rfl,ht8,HV,HEND.out.1,HEND.out.2⟩
theorem szPageA8_any (ps:List PageA) (hp:Disk8 ps) (left:Int) (w:World) (hn:∀ p∈ps,Small p.ss) (h0:0≤left∧left≤1048576):
  Calls Tryz.prog 11 #[.agg (cellsPs ps).toArray,.int .i64 left] w fun e w'=>∃ z:Int,e=.returned (.int .i64 z)∧(z<0∨(0≤z∧z≤left∧∀ p∈ps,∀ s∈p.ss,s.v.o.ints.length≤1048576∧s.v.o.refs.length≤1048576))∧Below w.heap.size w w':=by
 obtain ⟨W,hW,b0,hbW,hsW⟩:=boxes1 w (cellsPs ps) 30
 go_enter Tryz.func11,Tryz.ntmps11
 go_wp2_with fail
 rw [hW.out]
 clear hW hsW
 go_loopw [1,5] (fun kk i wr=>∃ (k:Nat) (z:Int),k≤8∧i=.int .i64 (k:Int)∧kk=.int .i64 z∧Hid (0≤z∧z≤left∧∀ p∈ps.take k,∀ s∈p.ss,s.v.o.ints.length≤1048576∧s.v.o.refs.length≤1048576)∧Below W.heap.size W wr) (fun _ i _=>8-(intOf i).toNat)
 case atStart=>exact ⟨0,left,Nat.zero_le _,rfl,rfl,⟨h0.1,Int.le_refl _,fun p hp=>by (simp at hp)⟩,Below.refl _ _⟩
 case round=>
  obtain ⟨k,z,hk8,rfl,rfl,hz,hbr⟩:=hrel
  have hz0:=hz.out.1
  have hz1:=hz.out.2.1
  by_cases hlt:k<8
  ·have hkl:k<ps.length:=by rw [hp.eight];exact hlt
   have r1:=page_in hp (b0.below hbr b0.lt) k hlt
   have HP4:=hp.at hlt
   have C:=szPage_any (ps.getD k zeroP) HP4 z wr (hn _ (pageD_mem (k:=k) hkl)) ⟨hz0,by omega⟩
   have HTK:Hid (∀ p∈ps.take (k+1),p∈ps.take k∨p=ps.getD k zeroP):=fun p hp=>by
    rw [List.take_succ_eq_append_getElem hkl,pageD_eq hkl] at hp
    rcases List.mem_append.1 hp with h | h
    ·exact .inl h
    ·exact .inr (List.mem_singleton.1 h)
   generalize ps.getD k zeroP=p at*
   have HIp:=lpage_info p HP4
   have hi0:(0:Int)≤(k:Int):=by omega
   have hi8:(k:Int)<8:=by omega
   go_wp2_with (first | (guard_target=wpList _ _ _ (Oper.mk (some 12) _ _ _ _ _::_) _ _;refine wpList_load_mid rfl 29 (.tmp 11) rfl w.heap.size (k*17) rfl (p.cells) _ r1 Tryz.underlying29 rfl HIp ?_) | fail)
   refine C.mono ?_
   clear C r1
   rintro e w1 ⟨y,rfl,hy,hb1⟩
   have HB:Hid (Below W.heap.size W w1):=hbr.trans (hb1.mono hbr.size)
   clear hbr hb1
   rcases hy with hy | ⟨hy0,hyz,hys⟩
   ·have HE:Hid (Below w.heap.size w w1):=hbW.trans (HB.out.mono hbW.size)
    go_wp2
    go_ret
    exact ⟨-1,rfl,.inl (by omega),HE.out⟩
   ·have hny:¬ y<0:=by omega
    have HH:Hid (0≤y∧y≤left∧∀ p∈ps.take (k+1),∀ s∈p.ss,s.v.o.ints.length≤1048576∧s.v.o.refs.length≤1048576):=⟨hy0,by omega,fun q hq s hs=>by
     rcases HTK.out q hq with h | h
     ·exact hz.out.2.2 q h s hs
     ·rw [h] at hs;exact hys s hs⟩
    clear hys hz HTK
    go_wp2_with fail
    go_roundw
    case rel=>exact ⟨k+1,y,by omega,by go_num,rfl,HH,HB.out⟩
    case measure=>simp [intOf];omega
  ·obtain rfl:k=8:=by omega
   have hkk:¬ ((8:Nat):Int)<8:=by omega
   have e1:ps.take 8=ps:=by rw [← hp.eight,List.take_length]
   have HE:Hid (Below w.heap.size w wr∧(0≤z∧z≤left∧∀ p∈ps,∀ s∈p.ss,s.v.o.ints.length≤1048576∧s.v.o.refs.length≤1048576)):=⟨hbW.trans (hbr.mono hbW.size),by have:=hz.out;rw [e1] at this;exact this⟩
   clear e1 hz
   go_wp2
   go_ret
   exact ⟨z,rfl,.inr HE.out.2,HE.out.1⟩
theorem szHoldS_any (a:Option Addr) (c n:Nat) (left:Int) (w:World) (hn:n≤9223372036854775807) (h0:0≤left∧left≤1048576):
  Calls Tryz.prog 15 #[.slice a n c,.int .i64 left] w fun e w'=>e=.returned (.int .i64 (szOf n left))∧w'=w:=by
 by_cases h:left-n<0
 ·have HS:Hid (szOf n left= -1):=by unfold szOf;rw [Hid,if_pos h]
  go_enter Tryz.func15,Tryz.ntmps15
  go_wp2
  go_ret
  exact ⟨ret_int HS.out.symm,rfl⟩
 ·have HS:Hid (szOf n left=left-n):=by unfold szOf;rw [Hid,if_neg h]
  go_enter Tryz.func15,Tryz.ntmps15
  go_wp2
  go_ret
  exact ⟨ret_int HS.out.symm,rfl⟩
end Go.Proofs.YtfehemepdoomdaaGreatDoor
namespace Go.Proofs.YtfehemepdoomdaaGreatDoor
open Go.RowKit
theorem leng_info {e:EngA} (h:e.shape):(Tryz.prog.info? 40).map (·.size)=some e.cells.length:=by rw [EngA.cells_len h];kernel_rfl
theorem lpool_infoE (q:PoolA):(Tryz.prog.info? 33).map (·.size)=some q.cells.length:=by show _=some 2;kernel_rfl
theorem llog_infoE (q:LogA):(Tryz.prog.info? 36).map (·.size)=some q.cells.length:=by show _=some 2;kernel_rfl
theorem tail_fill {w:World} {B:Nat} {A R:List Value} {t:TypeId} (b:Box w B (A++R) t) (hA:A.length=136) (j:Nat) (v:Value):
  ∃ W,Hid (w.setCell ⟨B,136+j,none⟩ v=W)∧Box W B (A++R.set j v) t∧Within B (B+1) w W∧W.heap.size=w.heap.size:=by
 obtain ⟨W,hW,b',hw,hs⟩:=box_set b (136+j) v
 refine ⟨W,hW,?_,hw,hs⟩
 rw [List.set_append_right _ _ (by omega),hA,show 136+j-136=j by omega] at b'
 exact b'
theorem eng_own_of {w:World} {e:EngA} {a0 a1 a2 a3 a4 a5:Nat} (h1:OwnS w a0 a1 (slots8 e.disk)) (h2:OwnSts w a1 a2 e.aS e.cS e.seats) (h3:OwnRs w a2 a3 e.log.a e.log.c e.log.recs) (h4:OwnL w a3 a4 e.aT e.cT e.txs) (h5:OwnH w a4 a5 e.aH e.cH e.holds)
  (l1:a0≤a1) (l2:a1≤a2) (l3:a2≤a3) (l4:a3≤a4) (l5:a4≤a5) (h:a5≤w.heap.size):e.own w a0 a5:=by
 refine ⟨h1.widen (Nat.le_refl _) (by omega) h,h2.widen (by omega) (by omega) h,h3.widen (by omega) (by omega) h,h4.widen (by omega) (by omega) h,h5.widen (by omega) (Nat.le_refl _) h,?_⟩
 simp only [EngA.blocks,List.nodup_append,List.mem_append]
 have b1:=h1.blocks_lt
 have b2:=h2.blocks_lt
 have b3:=h3.blocks_lt
 have b4:∀ k∈rowOf e.aT e.txs.length e.cT,a3≤k∧k<a4:=fun k hk=>h4.lt k (Option.mem_toList.1 hk)
 have b5:∀ k∈rowOf e.aH e.holds.length e.cH,a4≤k∧k<a5:=fun k hk=>h5.lt k (Option.mem_toList.1 hk)
 have nr:∀ o:Option Nat,o.toList.Nodup:=fun o=>by cases o<;>simp
 refine ⟨h1.apart,⟨h2.apart,⟨h3.apart,⟨nr _,nr _,fun x hx y hy q=>?_⟩,fun x hx y hy q=>?_⟩,fun x hx y hy q=>?_⟩,fun x hx y hy q=>?_⟩
 ·have:=b4 x hx;have:=b5 y hy;omega
 ·have:=b3 x hx
  rcases hy with hy | hy
  ·have:=b4 y hy;omega
  ·have:=b5 y hy;omega
 ·have:=b2 x hx
  rcases hy with hy | hy | hy
  ·have:=b3 y hy;omega
  ·have:=b4 y hy;omega
  ·have:=b5 y hy;omega
 ·have:=b1 x hx
  rcases hy with hy | hy | hy | hy
  ·have:=b2 y hy;omega
  ·have:=b3 y hy;omega
  ·have:=b4 y hy;omega
  ·have:=b5 y hy;omega
theorem toEngine_any (e:EngA) (se:e.shape) (w:World) (re:e.reads w) (hl:e.short 1048576):
  Calls Tryz.prog 6 #[.agg e.cells.toArray] w fun r w'=>∃ t:EngA,r=.returned (.agg t.cells.toArray)∧t.shape∧Hid (t.v=e.v)∧t.own w' w.heap.size w'.heap.size∧Below w.heap.size w w':=by
 obtain ⟨Z,hZ⟩:∃ Z,Hid (zeroE=Z):=⟨_,rfl⟩
 have sZ:Z.shape:=by rw [← hZ.out];exact zeroE_shape
 have HZ:=Tryz.zeroEng
 rw [hZ.out] at HZ
 obtain ⟨W,hW,b1,b2,b3,hbW,hsW⟩:=boxes3 w e.cells Z.cells Z.cells 40 58 58
 have hs0:w.heap.size+1+1<W.heap.size:=by omega
 have N:Below w.heap.size w W:=hbW
 have b3':Box W (w.heap.size+1+1) (cellsPs Z.disk++[.slice none 0 0,.int .i64 0,.slice none 0 0,.int .i64 0,.slice none 0 0,.slice none 0 0,.int .i64 0,.bool false]) 58:=by rw [← hZ.out] at b3 ⊢;exact b3
 have HE:Hid (∀ u,Below w.heap.size w u→e.reads u):=fun u hu=>re.below hu
 have hld:=ldisk8_info se.disk8
 clear b3 hsW hbW
 go_enter Tryz.func6,Tryz.ntmps6
 obtain ⟨p0,p1,p2,p3,p4,p5,p6⟩:=eng_parts se b1
 go_wp2_with (first | (guard_target=wpList _ _ _ (Oper.mk _ (Op.alloc _) _ _ _ _::_) _ _;refine alloc_of 58 Z.cells HZ ?_) | (guard_target=wpList _ _ _ (Oper.mk (some 5) _ _ _ _ _::_) _ _;refine wpList_load_mid rfl 30 (.tmp 4) rfl w.heap.size 0 rfl (cellsPs e.disk) _ (by rw [hW.out];exact p0) Tryz.underlying30 rfl hld ?_) | fail)
 rw [hW.out]
 clear hW p0 p1 p2 p3 p4 p5 p6
 refine (toPageA8_any e.disk se.disk8 W (HE.out _ N).disk (fun p hp s hs=>by have:=hl.disk p hp s hs;omega)).mono ?_
 rintro r w1 ⟨ts,rfl,ht8,hvd,od,hb⟩
 have s1:=hb.size
 have sz:=hb.size
 replace b1:=b1.below hb b1.lt
 replace b2:=b2.below hb b2.lt
 replace b3':=b3'.below hb b3'.lt
 replace N:=N.trans (hb.mono N.size)
 clear hb
 obtain ⟨w2,h2,c3,hw,hs⟩:=range_fill [] (cellsPs Z.disk) (cellsPs ts) [.slice none 0 0,.int .i64 0,.slice none 0 0,.int .i64 0,.slice none 0 0,.slice none 0 0,.int .i64 0,.bool false] b3' (by rw [cellsPs_len _ ht8.four,ht8.eight,EngA.disk_len sZ])
 have HT:Hid (w1.there (w.heap.size+1+1) 0 (cellsPs ts).toArray.size):=b3'.there _ _ (by rw [List.size_toArray,cellsPs_len _ ht8.four,ht8.eight,List.length_append,EngA.disk_len sZ];simp)
 have sy:=hw.size
 replace b1:=b1.within hw (by omega)
 replace b2:=b2.within hw (by omega)
 replace N:=N.trans (hw.below (by omega) (by have:=N.size;omega))
 replace od:=od.within hw (.inr (by omega))
 clear hw hs
 have hA:(cellsPs ts).length=136:=by rw [cellsPs_len _ ht8.four,ht8.eight]
 have E2:Hid (w1.setCells (w.heap.size+1+1) 0 (cellsPs ts).toArray.toList=w2):=h2.out
 have HI:=disk8_info ht8
 have HO:=all_oneCell_toArray (onePs ts)
 clear h2 b3'
 have b3':Box w2 (w.heap.size+1+1) (cellsPs ts++[.slice none 0 0,.int .i64 0,.slice none 0 0,.int .i64 0,.slice none 0 0,.slice none 0 0,.int .i64 0,.bool false]) 58:=c3
 clear c3
 have HA:Hid ((cellsPs ts).length=136):=hA
 clear hA
 obtain ⟨p0,p1,p2,p3,p4,p5,p6⟩:=eng_parts se b1
 go_wp2_with (first | (guard_target=wpList _ _ _ (Oper.mk none (Op.store _ (Operand.tmp 7) _) _ _ _ _::_) _ _;refine wpList_store_mid rfl 48 (.tmp 7) (.tmp 6) rfl (w.heap.size+1+1) 0 (cellsPs ts).toArray rfl rfl HT.out (by rw [List.size_toArray];exact HI) HO ?_) | (guard_target=wpList _ _ _ (Oper.mk (some 9) _ _ _ _ _::_) _ _;refine wpList_load_mid rfl 33 (.tmp 8) rfl w.heap.size 136 rfl (e.poolA.cells) _ (by rw [E2.out];exact p1) Tryz.underlying33 rfl (lpool_infoE _) ?_) | fail)
 rw [E2.out]
 clear E2 HT HI HO p0 p1 p2 p3 p4 p5 p6
 refine (toPool_any e.poolA w2 (HE.out _ N).pool hl.pool).mono ?_
 rintro r w3 ⟨q,rfl,hvp,op,hb⟩
 have s3:=hb.size
 have sz:=hb.size
 replace b1:=b1.below hb b1.lt
 replace b2:=b2.below hb b2.lt
 replace b3':=b3'.below hb b3'.lt
 replace N:=N.trans (hb.mono N.size)
 replace od:=od.below hb
 clear hb
 obtain ⟨w4,h4,c3,hw,hs⟩:=range_fill (cellsPs ts) [.slice none 0 0,.int .i64 0] q.cells [.slice none 0 0,.int .i64 0,.slice none 0 0,.slice none 0 0,.int .i64 0,.bool false] b3' rfl
 rw [HA.out] at h4
 have HT:Hid (w3.there (w.heap.size+1+1) 136 q.cells.toArray.size):=b3'.there _ _ (by rw [List.length_append,HA.out];show 136+2≤_;simp)
 have sy:=hw.size
 replace b1:=b1.within hw (by omega)
 replace b2:=b2.within hw (by omega)
 replace N:=N.trans (hw.below (by omega) (by have:=N.size;omega))
 replace od:=od.within hw (.inr (by omega))
 replace op:=op.within hw (.inr (by omega))
 clear hw hs
 have E4:Hid (w3.setCells (w.heap.size+1+1) 136 q.cells.toArray.toList=w4):=h4.out
 clear h4 b3'
 have b3':Box w4 (w.heap.size+1+1) ((cellsPs ts++q.cells)++[.slice none 0 0,.int .i64 0,.slice none 0 0,.slice none 0 0,.int .i64 0,.bool false]) 58:=by rw [List.append_assoc];exact c3
 clear c3
 have HA2:Hid ((cellsPs ts++q.cells).length=138):=by rw [Hid,List.length_append,HA.out];rfl
 obtain ⟨p0,p1,p2,p3,p4,p5,p6⟩:=eng_parts se b1
 go_wp2_with (first | (guard_target=wpList _ _ _ (Oper.mk none (Op.store _ (Operand.tmp 11) _) _ _ _ _::_) _ _;refine wpList_store_mid rfl 51 (.tmp 11) (.tmp 10) rfl (w.heap.size+1+1) 136 (q.cells).toArray rfl rfl HT.out (by rw [List.size_toArray];exact pool_info _) (pool_one _) ?_) | (guard_target=wpList _ _ _ (Oper.mk (some 13) _ _ _ _ _::_) _ _;refine wpList_load_mid rfl 36 (.tmp 12) rfl w.heap.size 138 rfl (e.log.cells) _ (by rw [E4.out];exact p2) Tryz.underlying36 rfl (llog_infoE _) ?_) | fail)
 rw [E4.out]
 clear E4 HT p0 p1 p2 p3 p4 p5 p6
 refine (toLog_any e.log w4 (HE.out _ N).log hl.log).mono ?_
 rintro r w5 ⟨l,rfl,hvl,ol,hb⟩
 have s5:=hb.size
 have sz:=hb.size
 replace b1:=b1.below hb b1.lt
 replace b2:=b2.below hb b2.lt
 replace b3':=b3'.below hb b3'.lt
 replace N:=N.trans (hb.mono N.size)
 replace od:=od.below hb
 replace op:=op.below hb
 clear hb
 obtain ⟨w6,h6,c3,hw,hs⟩:=range_fill (cellsPs ts++q.cells) [.slice none 0 0,.int .i64 0] l.cells [.slice none 0 0,.slice none 0 0,.int .i64 0,.bool false] b3' rfl
 rw [HA2.out] at h6
 have HT:Hid (w5.there (w.heap.size+1+1) 138 l.cells.toArray.size):=b3'.there _ _ (by rw [List.length_append,HA2.out];show 138+2≤_;simp)
 have sy:=hw.size
 replace b1:=b1.within hw (by omega)
 replace b2:=b2.within hw (by omega)
 replace N:=N.trans (hw.below (by omega) (by have:=N.size;omega))
 replace od:=od.within hw (.inr (by omega))
 replace op:=op.within hw (.inr (by omega))
 replace ol:=ol.within hw (.inr (by omega))
 clear hw hs
 have E6:Hid (w5.setCells (w.heap.size+1+1) 138 l.cells.toArray.toList=w6):=h6.out
 clear h6 b3'
 have b3':Box w6 (w.heap.size+1+1) (cellsPs ts++[.slice q.a q.seats.length q.c,.int .i64 q.hand,.slice l.a l.recs.length l.c,.int .i64 l.sure,.slice none 0 0,.slice none 0 0,.int .i64 0,.bool false]) 58:=by rw [List.append_assoc] at c3;exact c3
 clear c3
 obtain ⟨p0,p1,p2,p3,p4,p5,p6⟩:=eng_parts se b1
 have C7:=toLiveS_any e.aT e.cT e.txs w6 (HE.out _ N).txs (by have:=hl.txs;omega)
 go_upto_region 5 with (first | (guard_target=wpList _ _ _ (Oper.mk none (Op.store _ (Operand.tmp 15) _) _ _ _ _::_) _ _;refine wpList_store_mid rfl 54 (.tmp 15) (.tmp 14) rfl (w.heap.size+1+1) 138 (l.cells).toArray rfl rfl HT.out (by rw [List.size_toArray];exact log_info _) (log_one _) ?_) | fail)
 rw [E6.out]
 clear E6 HT
 go_wp2_with fail
 refine C7.mono ?_
 clear C7 p0 p1 p2 p3 p4 p5 p6
 rintro r w7 ⟨aT,cT,rfl,ot,hb⟩
 have s7:=hb.size
 have sz:=hb.size
 replace b1:=b1.below hb b1.lt
 replace b2:=b2.below hb b2.lt
 replace b3':=b3'.below hb b3'.lt
 replace N:=N.trans (hb.mono N.size)
 replace od:=od.below hb
 replace op:=op.below hb
 replace ol:=ol.below hb
 clear hb
 have x0:=b3'.cell 140 (.slice none 0 0) (by rw [List.getElem?_append_right (by rw [HA.out];omega),HA.out];rfl)
 have f0:=b3'.frozen 140
 obtain ⟨w8,hw8,c3,hw,hs⟩:=tail_fill b3' HA.out 4 (.slice aT e.txs.length cT)
 have sy:=hw.size
 replace b1:=b1.within hw (by omega)
 replace b2:=b2.within hw (by omega)
 replace N:=N.trans (hw.below (by omega) (by have:=N.size;omega))
 replace od:=od.within hw (.inr (by omega))
 replace op:=op.within hw (.inr (by omega))
 replace ol:=ol.within hw (.inr (by omega))
 replace ot:=ot.within hw (.inr (by omega))
 clear hw hs
 have Ew8:Hid (w7.setCell ⟨w.heap.size+1+1,140,none⟩ (.slice aT e.txs.length cT)=w8):=hw8.out
 clear hw8 b3'
 have b3':Box w8 (w.heap.size+1+1) (cellsPs ts++[.slice q.a q.seats.length q.c,.int .i64 q.hand,.slice l.a l.recs.length l.c,.int .i64 l.sure,.slice aT e.txs.length cT,.slice none 0 0,.int .i64 0,.bool false]) 58:=c3
 clear c3
 obtain ⟨p0,p1,p2,p3,p4,p5,p6⟩:=eng_parts se b1
 have C9:=toHoldS_any e.aH e.cH e.holds w8 (HE.out _ N).holds (by have:=hl.holds;omega)
 go_upto_region 6 with fail
 rw [Ew8.out]
 clear Ew8 x0 f0
 go_wp2_with fail
 refine C9.mono ?_
 clear C9 p0 p1 p2 p3 p4 p5 p6
 rintro r w9 ⟨aH,cH,rfl,oh,hb⟩
 have s9:=hb.size
 have sz:=hb.size
 replace b1:=b1.below hb b1.lt
 replace b2:=b2.below hb b2.lt
 replace b3':=b3'.below hb b3'.lt
 replace N:=N.trans (hb.mono N.size)
 replace od:=od.below hb
 replace op:=op.below hb
 replace ol:=ol.below hb
 replace ot:=ot.below hb
 clear hb
 have x0:=b3'.cell 141 (.slice none 0 0) (by rw [List.getElem?_append_right (by rw [HA.out];omega),HA.out];rfl)
 have f0:=b3'.frozen 141
 obtain ⟨w10,hw10,c3,hw,hs⟩:=tail_fill b3' HA.out 5 (.slice aH e.holds.length cH)
 have sy:=hw.size
 replace b1:=b1.within hw (by omega)
 replace b2:=b2.within hw (by omega)
 replace N:=N.trans (hw.below (by omega) (by have:=N.size;omega))
 replace od:=od.within hw (.inr (by omega))
 replace op:=op.within hw (.inr (by omega))
 replace ol:=ol.within hw (.inr (by omega))
 replace ot:=ot.within hw (.inr (by omega))
 replace oh:=oh.within hw (.inr (by omega))
 clear hw hs
 have Ew10:Hid (w9.setCell ⟨w.heap.size+1+1,141,none⟩ (.slice aH e.holds.length cH)=w10):=hw10.out
 clear hw10 b3'
 have b3':Box w10 (w.heap.size+1+1) (cellsPs ts++[.slice q.a q.seats.length q.c,.int .i64 q.hand,.slice l.a l.recs.length l.c,.int .i64 l.sure,.slice aT e.txs.length cT,.slice aH e.holds.length cH,.int .i64 0,.bool false]) 58:=c3
 clear c3
 obtain ⟨p0,p1,p2,p3,p4,p5,p6⟩:=eng_parts se b1
 go_upto_region 7 with fail
 rw [Ew10.out]
 clear Ew10 x0 f0
 have x0:=b3'.cell 142 (.int .i64 0) (by rw [List.getElem?_append_right (by rw [HA.out];omega),HA.out];rfl)
 have f0:=b3'.frozen 142
 obtain ⟨w11,hw11,c3,hw,hs⟩:=tail_fill b3' HA.out 6 (.int .i64 e.next)
 have sy:=hw.size
 replace b1:=b1.within hw (by omega)
 replace b2:=b2.within hw (by omega)
 replace N:=N.trans (hw.below (by omega) (by have:=N.size;omega))
 replace od:=od.within hw (.inr (by omega))
 replace op:=op.within hw (.inr (by omega))
 replace ol:=ol.within hw (.inr (by omega))
 replace ot:=ot.within hw (.inr (by omega))
 replace oh:=oh.within hw (.inr (by omega))
 clear hw hs
 have Ew11:Hid (w10.setCell ⟨w.heap.size+1+1,142,none⟩ (.int .i64 e.next)=w11):=hw11.out
 clear hw11 b3'
 have b3':Box w11 (w.heap.size+1+1) (cellsPs ts++[.slice q.a q.seats.length q.c,.int .i64 q.hand,.slice l.a l.recs.length l.c,.int .i64 l.sure,.slice aT e.txs.length cT,.slice aH e.holds.length cH,.int .i64 e.next,.bool false]) 58:=c3
 clear c3
 clear p0 p1 p2 p3 p4 p6
 go_upto_region 8 with fail
 rw [Ew11.out]
 clear Ew11 x0 f0 p5
 obtain ⟨p0,p1,p2,p3,p4,p5,p6⟩:=eng_parts se b1
 have x0:=b3'.cell 143 (.bool false) (by rw [List.getElem?_append_right (by rw [HA.out];omega),HA.out];rfl)
 have f0:=b3'.frozen 143
 obtain ⟨w12,hw12,c3,hw,hs⟩:=tail_fill b3' HA.out 7 (.bool e.down)
 have sy:=hw.size
 replace b1:=b1.within hw (by omega)
 replace b2:=b2.within hw (by omega)
 replace N:=N.trans (hw.below (by omega) (by have:=N.size;omega))
 replace od:=od.within hw (.inr (by omega))
 replace op:=op.within hw (.inr (by omega))
 replace ol:=ol.within hw (.inr (by omega))
 replace ot:=ot.within hw (.inr (by omega))
 replace oh:=oh.within hw (.inr (by omega))
 clear hw hs
 have Ew12:Hid (w11.setCell ⟨w.heap.size+1+1,143,none⟩ (.bool e.down)=w12):=hw12.out
 clear hw12 b3'
 have b3':Box w12 (w.heap.size+1+1) (cellsPs ts++[.slice q.a q.seats.length q.c,.int .i64 q.hand,.slice l.a l.recs.length l.c,.int .i64 l.sure,.slice aT e.txs.length cT,.slice aH e.holds.length cH,.int .i64 e.next,.bool e.down]) 58:=c3
 clear c3
 clear p0 p1 p2 p3 p4 p5
 go_upto_region 9 with fail
 rw [Ew12.out]
 clear Ew12 x0 f0 p6
 obtain ⟨T,hT⟩:∃ T:EngA,Hid ((⟨ts,q.seats,q.a,q.c,q.hand,l,e.txs,aT,cT,e.holds,aH,cH,e.next,e.down⟩:EngA)=T):=⟨_,rfl⟩
 have sT:T.shape:=by rw [← hT.out];exact ⟨ht8.eight,ht8.four⟩
 have bT:Box w12 (w.heap.size+1+1) T.cells 58:=by rw [← hT.out];exact b3'
 have HV:Hid (T.v=e.v):=by
  rw [Hid,← hT.out]
  have v1:=hvd.out
  have v2:=hvp.out
  have v3:=hvl.out
  simp only [PoolA.v,EngA.poolA,PoolV.mk.injEq] at v2
  simp only [EngA.v,v2.1,v2.2,v3]
  congr 1
 have oT:T.own w12 W.heap.size w12.heap.size:=by
  rw [← hT.out]
  exact eng_own_of (a0:=W.heap.size) (a1:=w1.heap.size) (a2:=w3.heap.size) (a3:=w5.heap.size) (a4:=w7.heap.size) (a5:=w12.heap.size) od (OwnSts.widen op (by omega) (Nat.le_refl _) (by omega)) (OwnRs.widen ol (by omega) (Nat.le_refl _) (by omega)) (ot.widen (by omega) (Nat.le_refl _) (by omega)) (oh.widen (by omega) (by omega) (Nat.le_refl _)) (by omega) (by omega) (by omega) (by omega) (by omega) (Nat.le_refl _)
 clear od op ol ot oh b3' hT hvd hvp hvl
 obtain ⟨WF,hWF,hwF,hsF,HTF,bF⟩:=eng_out sT sZ b2
 have HLF:=eng_load sT bF
 have HLF':Hid (_=_):=HLF
 have rT:w12.rangeAt (w.heap.size+1+1) 0 T.cells:=Box.range [] T.cells [] (by simpa using bT)
 have HEND:Hid (T.own WF w.heap.size WF.heap.size∧Below w.heap.size w WF):=⟨(oT.within hwF (.inr (by omega))).widen (by omega) (by omega) (Nat.le_refl _),N.trans (hwF.below (by omega) (by have:=N.size;omega))⟩
 have HI:=eng_info sT
 have HO:=all_oneCell_toArray (oneE T)
 clear hwF hsF bF HLF oT bT b1 b2
 go_wp2_with (first | (guard_target=wpList _ _ _ (Oper.mk (some 30) _ _ _ _ _::_) _ _;refine wpList_load_mid rfl 58 (.tmp 3) rfl (w.heap.size+1+1) 0 rfl (T.cells) _ rT Tryz.underlying58 rfl HI ?_) | (guard_target=wpList _ _ _ (Oper.mk none (Op.store _ (Operand.tmp 2) _) _ _ _ _::_) _ _;refine wpList_store_mid rfl 58 (.tmp 2) (.tmp 30) rfl (w.heap.size+1) 0 (T.cells).toArray rfl rfl HTF.out (by rw [List.size_toArray];exact HI) HO ?_) | fail)
 rw [hWF.out]
 exact bodyPost_ret (v:=.agg T.cells.toArray) (results_one Tryz.results6 rfl HLF'.out) rfl ⟨T,rfl,sT,HV,HEND.out.1,HEND.out.2⟩
structure EngA.wide (e:EngA):Prop where
 disk:∀ p∈e.disk,Small p.ss
 pool:e.poolA.short 9223372036854775807
 log:e.log.short 9223372036854775807
 txs:e.txs.length≤9223372036854775807
 holds:e.holds.length≤9223372036854775807
theorem szOf_ans {n:Nat} {left:Int} (h:0≤left∧left≤1048576):szOf n left<0∨(0≤szOf n left∧szOf n left≤left∧n≤1048576):=by
 unfold szOf
 split
 ·exact .inl (by omega)
 ·exact .inr (by omega)
theorem szEngine_any (e:EngA) (se:e.shape) (w:World) (re:e.reads w) (hw:e.wide):
  Calls Tryz.prog 4 #[.agg e.cells.toArray,.int .i64 1048576] w fun r w'=>∃ z:Int,r=.returned (.int .i64 z)∧(z<0∨(0≤z∧e.short 1048576))∧Below w.heap.size w w':=by
 obtain ⟨W,hW,b0,hbW,hsW⟩:=boxes1 w e.cells 40
 have HE:Hid (∀ u,Below W.heap.size W u→_):=fun u hu=>eng_parts se (b0.below hu b0.lt)
 have hie:=ldisk8_info se.disk8
 have HR:Hid (∀ u,Below W.heap.size W u→e.reads u):=fun u hu=>(re.below hbW).below hu
 have N:Below W.heap.size W W:=Below.refl _ _
 obtain ⟨p0,p1,p2,p3,p4,_,_⟩:=HE.out _ N
 have C1:=szPageA8_any e.disk se.disk8 1048576 W hw.disk (by omega)
 go_enter Tryz.func4,Tryz.ntmps4
 go_wp2_with (first | (guard_target=wpList _ _ _ (Oper.mk (some 6) _ _ _ _ _::_) _ _;refine wpList_load_mid rfl 30 (.tmp 5) rfl w.heap.size 0 rfl (cellsPs e.disk) _ (by rw [hW.out];exact p0) Tryz.underlying30 rfl hie ?_) | fail)
 rw [hW.out]
 clear hW hsW
 refine C1.mono ?_
 clear C1 p0 p1 p2 p3 p4
 rintro r w1 ⟨z1,rfl,hz1,hb⟩
 replace N:=N.trans (hb.mono N.size)
 clear hb
 rcases hz1 with hz1 | ⟨hz10,hz11,hz1s⟩
 ·have HB:Hid (Below w.heap.size w w1):=hbW.trans (N.mono hbW.size)
  go_wp2
  go_ret
  exact ⟨-1,rfl,.inl (by omega),HB.out⟩
 have nz1:¬ z1<0:=by omega
 obtain ⟨p0,p1,p2,p3,p4,_,_⟩:=HE.out _ N
 have Hz1:Hid _:=hz1s
 clear hz1s
 have C2:=szPool_any e.poolA z1 w1 (HR.out _ N).pool hw.pool ⟨hz10,by omega⟩
 go_wp2_with (first | (guard_target=wpList _ _ _ (Oper.mk (some 12) _ _ _ _ _::_) _ _;refine wpList_load_mid rfl 33 (.tmp 11) rfl w.heap.size 136 rfl (e.poolA.cells) _ p1 Tryz.underlying33 rfl (lpool_infoE _) ?_) | fail)
 refine C2.mono ?_
 clear C2 p0 p1 p2 p3 p4
 rintro r w2 ⟨z2,rfl,hz2,hb⟩
 replace N:=N.trans (hb.mono N.size)
 clear hb
 rcases hz2 with hz2 | ⟨hz20,hz21,hz2s⟩
 ·have HB:Hid (Below w.heap.size w w2):=hbW.trans (N.mono hbW.size)
  go_wp2
  go_ret
  exact ⟨-1,rfl,.inl (by omega),HB.out⟩
 have nz2:¬ z2<0:=by omega
 obtain ⟨p0,p1,p2,p3,p4,_,_⟩:=HE.out _ N
 have Hz2:Hid _:=hz2s
 clear hz2s
 have C3:=szLog_any e.log z2 w2 (HR.out _ N).log hw.log ⟨hz20,by omega⟩
 go_wp2_with (first | (guard_target=wpList _ _ _ (Oper.mk (some 18) _ _ _ _ _::_) _ _;refine wpList_load_mid rfl 36 (.tmp 17) rfl w.heap.size 138 rfl (e.log.cells) _ p2 Tryz.underlying36 rfl (llog_infoE _) ?_) | fail)
 refine C3.mono ?_
 clear C3 p0 p1 p2 p3 p4
 rintro r w3 ⟨z3,rfl,hz3,hb⟩
 replace N:=N.trans (hb.mono N.size)
 clear hb
 rcases hz3 with hz3 | ⟨hz30,hz31,hz3s⟩
 ·have HB:Hid (Below w.heap.size w w3):=hbW.trans (N.mono hbW.size)
  go_wp2
  go_ret
  exact ⟨-1,rfl,.inl (by omega),HB.out⟩
 have nz3:¬ z3<0:=by omega
 obtain ⟨p0,p1,p2,p3,p4,_,_⟩:=HE.out _ N
 have Hz3:Hid _:=hz3s
 clear hz3s
 have C4:=szLiveS_any e.aT e.cT e.txs.length z3 w3 hw.txs ⟨hz30,by omega⟩
 have A4:=szOf_ans (n:=e.txs.length) (left:=z3) ⟨hz30,by omega⟩
 go_wp2_with fail
 refine C4.mono ?_
 clear C4
 rintro r w4 ⟨rfl,rfl⟩
 generalize szOf e.txs.length z3=z4 at*
 rcases A4 with hz4 | ⟨hz40,hz41,hz4s⟩
 ·have HB:Hid (Below w.heap.size w w4):=hbW.trans (N.mono hbW.size)
  go_wp2
  go_ret
  exact ⟨-1,rfl,.inl (by omega),HB.out⟩
 have nz4:¬ z4<0:=by omega
 have C5:=szHoldS_any e.aH e.cH e.holds.length z4 w4 hw.holds ⟨hz40,by omega⟩
 have A5:=szOf_ans (n:=e.holds.length) (left:=z4) ⟨hz40,by omega⟩
 go_wp2_with fail
 refine C5.mono ?_
 clear C5
 rintro r w5 ⟨rfl,rfl⟩
 generalize szOf e.holds.length z4=z5 at*
 have HB:Hid (Below w.heap.size w w5):=hbW.trans (N.mono hbW.size)
 rcases A5 with hz5 | ⟨hz50,hz51,hz5s⟩
 ·go_wp2
  go_ret
  exact ⟨-1,rfl,.inl (by omega),HB.out⟩
 have nz5:¬ z5<0:=by omega
 have HS:Hid (e.short 1048576):=⟨Hz1.out,Hz2.out,Hz3.out,hz4s,hz5s⟩
 clear Hz1 Hz2 Hz3 hz4s hz5s
 go_wp2
 go_ret
 exact ⟨z5,rfl,.inr ⟨hz50,HS.out⟩,HB.out⟩
end Go.Proofs.YtfehemepdoomdaaGreatDoor