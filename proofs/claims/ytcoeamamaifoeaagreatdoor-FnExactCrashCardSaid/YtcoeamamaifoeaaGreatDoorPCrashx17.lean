/- Several texts in one, in their order. -/
import Derived.Test.YtcoeamamaifoeaaGreatDoorPCrashx12
import Derived.Test.YtcoeamamaifoeaaGreatDoorPCrashx7
import Derived.Deep.CutRange
import Derived.Test.YtcoeamamaifoeaaGreatDoorPCrashx1
set_option maxHeartbeats 8000000
set_option maxRecDepth 100000
namespace Go.Proofs.YtcoeamamaifoeaaGreatDoor
open Go.RowKit
def markRA (r:RecA) (k:Int):RecA:=
 ⟨k,k+1,k+1+1,k+1+1+1,k+1+1+1+1,
  ⟨⟨((k+1+1+1+1+1) % 3 == 0),⟨k+1+1+1+1+1+1,marksI (k+1+1+1+1+1+1+1) r.bf.v.o.ints.length,marksI (k+1+1+1+1+1+1+1+r.bf.v.o.ints.length) r.bf.v.o.refs.length⟩⟩,r.bf.aI,r.bf.cI,r.bf.aR,r.bf.cR⟩,
  ⟨⟨((k+1+1+1+1+1+1+1+r.bf.v.o.ints.length+r.bf.v.o.refs.length) % 3 == 0),⟨k+1+1+1+1+1+1+1+r.bf.v.o.ints.length+r.bf.v.o.refs.length+1,marksI (k+1+1+1+1+1+1+1+r.bf.v.o.ints.length+r.bf.v.o.refs.length+1+1) r.af.v.o.ints.length,marksI (k+1+1+1+1+1+1+1+r.bf.v.o.ints.length+r.bf.v.o.refs.length+1+1+r.af.v.o.ints.length) r.af.v.o.refs.length⟩⟩,r.af.aI,r.af.cI,r.af.aR,r.af.cR⟩,
  k+1+1+1+1+1+1+1+r.bf.v.o.ints.length+r.bf.v.o.refs.length+1+1+r.af.v.o.ints.length+r.af.v.o.refs.length,
  marksL (k+1+1+1+1+1+1+1+r.bf.v.o.ints.length+r.bf.v.o.refs.length+1+1+r.af.v.o.ints.length+r.af.v.o.refs.length+1) r.txs.length,r.aL,r.cL⟩
def countRA (r:RecA):Nat:=10+r.bf.v.o.ints.length+r.bf.v.o.refs.length+r.af.v.o.ints.length+r.af.v.o.refs.length+3*r.txs.length
def markRs:List RecA→Int→List RecA
 | [],_=>[]
 | r::t,k=>markRA r k::markRs t (k+countRA r)
def countRs:List RecA→Nat
 | []=>0
 | r::t=>countRA r+countRs t
theorem markRA_blocks (r:RecA) (k:Int):(markRA r k).blocks=r.blocks:=by simp [markRA,RecA.blocks,SlotA.blocks,marksI_len,marksL_len]
theorem markRs_len (rs:List RecA):∀ k,(markRs rs k).length=rs.length:=by
 induction rs with
 | nil=>intro k;rfl
 | cons x r ih=>intro k;simp [markRs,ih]
theorem markRs_app (A B:List RecA):∀ k,markRs (A++B) k=markRs A k++markRs B (k+countRs A):=by
 induction A with
 | nil=>intro k;simp [markRs,countRs]
 | cons x r ih=>
  intro k
  simp only [List.cons_append,markRs,ih,countRs]
  congr 3
  omega
theorem countRs_app (A B:List RecA):countRs (A++B)=countRs A+countRs B:=by
 induction A with
 | nil=>simp [countRs]
 | cons x r ih=>simp only [List.cons_append,countRs,ih];omega
theorem markRs_blocks (rs:List RecA):∀ k,(markRs rs k).flatMap RecA.blocks=rs.flatMap RecA.blocks:=by
 induction rs with
 | nil=>intro k;rfl
 | cons x r ih=>intro k;simp only [markRs,List.flatMap_cons,ih,markRA_blocks]
theorem recs_split (rs:List RecA) (j:Nat) (h:j<rs.length):rs.drop j=rs.getD j zeroR::rs.drop (j+1)∧rs.take (j+1)=rs.take j++[rs.getD j zeroR]:=by
 have e:rs.getD j zeroR=rs[j]:=by simp [List.getD,h]
 exact ⟨by rw [List.drop_eq_getElem_cons h,e],by rw [List.take_succ_eq_append_getElem h,e]⟩
def halfRs (rs:List RecA) (k:Int) (j:Nat):List RecA:=markRs (rs.take j) k++rs.drop j
theorem halfRs_len (rs:List RecA) (k:Int) (j:Nat) (h:j≤rs.length):(halfRs rs k j).length=rs.length:=by simp [halfRs,markRs_len];omega
theorem halfRs_at (rs:List RecA) (k:Int) (j:Nat) (h:j<rs.length):halfRs rs k j=markRs (rs.take j) k++rs.getD j zeroR::rs.drop (j+1):=by rw [halfRs,(recs_split rs j h).1]
theorem halfRs_next (rs:List RecA) (k:Int) (j:Nat) (h:j<rs.length):halfRs rs k (j+1)=markRs (rs.take j) k++markRA (rs.getD j zeroR) (k+countRs (rs.take j))::rs.drop (j+1):=by
 rw [halfRs,(recs_split rs j h).2,markRs_app]
 simp [markRs]
theorem countRs_next (rs:List RecA) (j:Nat) (h:j<rs.length):countRs (rs.take (j+1))=countRs (rs.take j)+countRA (rs.getD j zeroR):=by
 rw [(recs_split rs j h).2,countRs_app]
 simp [countRs]
theorem countRs_le (rs:List RecA) (j:Nat):countRs (rs.take j)≤countRs rs:=by
 have:countRs rs=countRs (rs.take j)+countRs (rs.drop j):=by rw [← countRs_app,List.take_append_drop]
 omega
def RowR (w:World) (base g n cap:Nat) (pre cs post:List Value):Prop:=w.ownsRow base 100 15 (.slice (some ⟨g,0,none⟩) n cap) n (pre++(cs++post))
theorem RowR.cell {w:World} {base g n cap j:Nat} {pre cs post:List Value} (h:RowR w base g n cap pre cs post) (hp:pre.length=j*15) (hc:cs.length=15) (i:Nat) (v:Value) (hv:cs[i]? =some v):w.cell? ⟨g,j*15+i,none⟩=some v:=by
 have hi:i<15:=by have:=(List.getElem?_eq_some_iff.1 hv).1;omega
 have hl:=h.1
 rw [List.length_append,List.length_append] at hl
 rw [World.ownsRow.cellAt h (j*15+i) (by omega),List.getElem?_append_right (by omega),List.getElem?_append_left (by omega),show j*15+i-pre.length=i by omega]
 exact hv
theorem RowR.frozen {w:World} {base g n cap:Nat} {pre cs post:List Value} (h:RowR w base g n cap pre cs post) (i:Nat):w.frozen? ⟨g,i,none⟩=false:=World.ownsRow.frozenAt h i
theorem RowR.set {w:World} {base g n cap j:Nat} {pre cs post:List Value} (h:RowR w base g n cap pre cs post) (hp:pre.length=j*15) (hc:cs.length=15) (i:Nat) (hi:i<15) (v:Value):RowR (w.setCell ⟨g,j*15+i,none⟩ v) base g n cap pre (cs.set i v) post∧w.grownBy (w.setCell ⟨g,j*15+i,none⟩ v) (some g):=by
 have:=World.ownsRow.stored h (j*15+i) v
 rw [List.set_append_right _ _ (by omega),show j*15+i-pre.length=i by omega,List.set_append_left _ _ (by omega)] at this
 exact this
theorem RowR.block {w w':World} {base g n cap:Nat} {pre cs post:List Value} (h:RowR w base g n cap pre cs post) (hb:w'.heap[g]? =w.heap[g]?):RowR w' base g n cap pre cs post:=ownsRow_block h (fun k hk=>by cases hk;exact hb)
theorem RowR.sets7 {w:World} {base g n cap j:Nat} {pre post:List Value} {x0 x1 x2 x3 x4 x5 x6 x7 x8 x9 x10 x11 x12 x13 x14:Value} (h:RowR w base g n cap pre [x0,x1,x2,x3,x4,x5,x6,x7,x8,x9,x10,x11,x12,x13,x14] post) (hp:pre.length=j*15) (v0 v1 v2 v3 v4 v5 v6:Value):
  ∃ W,Hid (((((((w.setCell ⟨g,j*15,none⟩ v0).setCell ⟨g,j*15+1,none⟩ v1).setCell ⟨g,j*15+2,none⟩ v2).setCell ⟨g,j*15+3,none⟩ v3).setCell ⟨g,j*15+4,none⟩ v4).setCell ⟨g,j*15+5,none⟩ v5).setCell ⟨g,j*15+6,none⟩ v6=W)∧RowR W base g n cap pre [v0,v1,v2,v3,v4,v5,v6,x7,x8,x9,x10,x11,x12,x13,x14] post∧Touch [g] w W:=by
 obtain ⟨a0,g0⟩:=h.set hp rfl 0 (by omega) v0
 obtain ⟨a1,g1⟩:=a0.set hp rfl 1 (by omega) v1
 obtain ⟨a2,g2⟩:=a1.set hp rfl 2 (by omega) v2
 obtain ⟨a3,g3⟩:=a2.set hp rfl 3 (by omega) v3
 obtain ⟨a4,g4⟩:=a3.set hp rfl 4 (by omega) v4
 obtain ⟨a5,g5⟩:=a4.set hp rfl 5 (by omega) v5
 obtain ⟨a6,g6⟩:=a5.set hp rfl 6 (by omega) v6
 exact ⟨_,rfl,a6,Touch.of_grown (grownBy_trans (grownBy_trans (grownBy_trans (grownBy_trans (grownBy_trans (grownBy_trans g0 g1) g2) g3) g4) g5) g6) (fun k hk=>by cases hk;simp)⟩
theorem RowR.sets2 {w:World} {base g n cap j:Nat} {pre post:List Value} {x0 x1 x2 x3 x4 x5 x6 x7 x8 x9 x10 x11 x12 x13 x14:Value} (h:RowR w base g n cap pre [x0,x1,x2,x3,x4,x5,x6,x7,x8,x9,x10,x11,x12,x13,x14] post) (hp:pre.length=j*15) (v0 v1:Value):
  ∃ W,Hid ((w.setCell ⟨g,j*15+9,none⟩ v0).setCell ⟨g,j*15+10,none⟩ v1=W)∧RowR W base g n cap pre [x0,x1,x2,x3,x4,x5,x6,x7,x8,v0,v1,x11,x12,x13,x14] post∧Touch [g] w W:=by
 obtain ⟨a0,g0⟩:=h.set hp rfl 9 (by omega) v0
 obtain ⟨a1,g1⟩:=a0.set hp rfl 10 (by omega) v1
 exact ⟨_,rfl,a1,Touch.of_grown (grownBy_trans g0 g1) (fun k hk=>by cases hk;simp)⟩
theorem RowR.set1 {w:World} {base g n cap j:Nat} {pre post:List Value} {x0 x1 x2 x3 x4 x5 x6 x7 x8 x9 x10 x11 x12 x13 x14:Value} (h:RowR w base g n cap pre [x0,x1,x2,x3,x4,x5,x6,x7,x8,x9,x10,x11,x12,x13,x14] post) (hp:pre.length=j*15) (v0:Value):
  ∃ W,Hid (w.setCell ⟨g,j*15+13,none⟩ v0=W)∧RowR W base g n cap pre [x0,x1,x2,x3,x4,x5,x6,x7,x8,x9,x10,x11,x12,v0,x14] post∧Touch [g] w W:=by
 obtain ⟨a0,g0⟩:=h.set hp rfl 13 (by omega) v0
 exact ⟨_,rfl,a0,Touch.of_grown g0 (fun k hk=>by cases hk;simp)⟩
theorem five_apart {L1 L2 L3 L4 L5:List Nat} (h:((L1++L2)++((L3++L4)++L5)).Nodup):
  (∀ k,k∈L1→k∉L2∧k∉L3∧k∉L4∧k∉L5)∧(∀ k,k∈L2→k∉L1∧k∉L3∧k∉L4∧k∉L5)∧(∀ k,k∈L3→k∉L1∧k∉L2∧k∉L4∧k∉L5)∧(∀ k,k∈L4→k∉L1∧k∉L2∧k∉L3∧k∉L5)∧(∀ k,k∈L5→k∉L1∧k∉L2∧k∉L3∧k∉L4):=by
 simp only [List.nodup_append,List.mem_append] at h
 obtain ⟨⟨_,_,h12⟩,⟨⟨_,_,h34⟩,_,h45⟩,hx⟩:=h
 refine ⟨fun k hk=>⟨fun h'=>h12 k hk k h' rfl,fun h'=>hx k (.inl hk) k (.inl (.inl h')) rfl,fun h'=>hx k (.inl hk) k (.inl (.inr h')) rfl,fun h'=>hx k (.inl hk) k (.inr h') rfl⟩,
  fun k hk=>⟨fun h'=>h12 k h' k hk rfl,fun h'=>hx k (.inr hk) k (.inl (.inl h')) rfl,fun h'=>hx k (.inr hk) k (.inl (.inr h')) rfl,fun h'=>hx k (.inr hk) k (.inr h') rfl⟩,
  fun k hk=>⟨fun h'=>hx k (.inl h') k (.inl (.inl hk)) rfl,fun h'=>hx k (.inr h') k (.inl (.inl hk)) rfl,fun h'=>h34 k hk k h' rfl,fun h'=>h45 k (.inl hk) k h' rfl⟩,
  fun k hk=>⟨fun h'=>hx k (.inl h') k (.inl (.inr hk)) rfl,fun h'=>hx k (.inr h') k (.inl (.inr hk)) rfl,fun h'=>h34 k h' k hk rfl,fun h'=>h45 k (.inr hk) k h' rfl⟩,
  fun k hk=>⟨fun h'=>hx k (.inl h') k (.inr hk) rfl,fun h'=>hx k (.inr h') k (.inr hk) rfl,fun h'=>h45 k (.inl h') k hk rfl,fun h'=>h45 k (.inr h') k hk rfl⟩⟩
theorem markIntS_touch (lo hi:Nat) (a:Option Addr) (cap:Nat) (k0:Int) (xs:List Int) (w:World) (ho:OwnI w lo hi a cap xs) (h0:0≤k0) (hl:k0+xs.length≤4611686018427387904):
  Calls Tryz.prog 108 #[.slice a xs.length cap,.int .i64 k0] w fun e w'=>e=.returned (.int .i64 (k0+xs.length))∧OwnI w' lo hi a cap (marksI k0 xs.length)∧Touch (Value.slice a xs.length cap).ownBlock.toList w w':=by
 refine (markIntS_any lo a cap k0 xs w ho.1 h0 hl).mono ?_
 rintro e w' ⟨rfl,h1,h2⟩
 exact ⟨rfl,⟨by rw [marksI_len];exact h1,Nat.le_trans ho.2.1 h2.size,by rw [marksI_len];exact ho.2.2⟩,Touch.of_grown h2 (fun j hj=>Option.mem_toList.2 hj)⟩
theorem OwnI.keep {w w':World} {lo hi:Nat} {a:Option Addr} {c:Nat} {ns:List Int} {bl:List Nat} (h:OwnI w lo hi a c ns) (ht:Touch bl w w') (hd:∀ k,k∈(Value.slice a ns.length c).ownBlock.toList→k∉bl):OwnI w' lo hi a c ns:=h.touch ht (fun k hk=>hd k (Option.mem_toList.2 hk))
theorem OwnL.keep {w w':World} {lo hi:Nat} {a:Option Addr} {c:Nat} {ns:List LiveV} {bl:List Nat} (h:OwnL w lo hi a c ns) (ht:Touch bl w w') (hd:∀ k,k∈(Value.slice a ns.length c).ownBlock.toList→k∉bl):OwnL w' lo hi a c ns:=h.touch ht (fun k hk=>hd k (Option.mem_toList.2 hk))
theorem RowR.keep {w w':World} {base g n cap:Nat} {pre cs post:List Value} {bl:List Nat} (h:RowR w base g n cap pre cs post) (ht:Touch bl w w') (hd:g∉bl):RowR w' base g n cap pre cs post:=h.block (ht.block g (World.ownsRow.lt h g rfl).2 hd)
theorem OwnRs.replace {w w':World} {lo hi g c:Nat} {A B:List RecA} {z y:RecA} (h:OwnRs w lo hi (some ⟨g,0,none⟩) c (A++z::B)) (ht:Touch (g::z.blocks) w w') (hrow:RowR w' lo g (A++z::B).length c (cellsRs A) y.cells (cellsRs B)) (hy:y.own w' lo hi) (hb:y.blocks=z.blocks):OwnRs w' lo hi (some ⟨g,0,none⟩) c (A++y::B):=by
 have hap:=h.apart
 simp only [List.flatMap_append,List.flatMap_cons,Value.ownBlock,Option.toList,List.singleton_append,List.nodup_cons,List.nodup_append,List.mem_append,not_or] at hap
 obtain ⟨⟨n1,n2,n3⟩,a1,⟨a2,a3,a4⟩,a5⟩:=hap
 refine ⟨?_,Nat.le_trans h.top ht.size,fun k hk=>by cases hk;exact h.blk g rfl,fun r hr=>?_,?_⟩
 ·have e:(A++y::B).length=(A++z::B).length:=by simp
  rw [e,cellsRs_app,cellsRs_cons]
  exact hrow
 ·rcases List.mem_append.1 hr with hr | hr
  ·refine (h.each r (by simp [hr])).touch ht (fun k hk hk'=>?_)
   have hm:k∈A.flatMap RecA.blocks:=List.mem_flatMap.2 ⟨r,hr,hk⟩
   rcases List.mem_cons.1 hk' with rfl | hk'
   ·exact n1 hm
   ·exact a5 k hm k (.inl hk') rfl
  ·rcases List.mem_cons.1 hr with rfl | hr
   ·exact hy
   ·refine (h.each r (by simp [hr])).touch ht (fun k hk hk'=>?_)
    have hm:k∈B.flatMap RecA.blocks:=List.mem_flatMap.2 ⟨r,hr,hk⟩
    rcases List.mem_cons.1 hk' with rfl | hk'
    ·exact n3 hm
    ·exact a4 k hk' k hm rfl
 ·have:=h.apart
  simp only [List.flatMap_append,List.flatMap_cons] at this ⊢
  rw [hb]
  exact this
theorem markRecS_touch (lo hi:Nat) (a:Option Addr) (cap:Nat) (k0:Int) (rs:List RecA) (w:World) (ho:OwnRs w lo hi a cap rs) (hl:∀ r∈rs,r.short 1099511627776) (h0:0≤k0) (hk:k0+countRs rs≤1152921504606846976):
  Calls Tryz.prog 75 #[.slice a rs.length cap,.int .i64 k0] w fun e w'=>e=.returned (.int .i64 (k0+countRs rs))∧OwnRs w' lo hi a cap (markRs rs k0)∧Touch (blocksRs a cap rs) w w':=by
 rcases ho.row.2 with ⟨hv,h00⟩ | ⟨g,cap',cur,hv,hg,hgg,hr⟩
 ·simp only [Value.slice.injEq] at hv
  obtain ⟨rfl,_,rfl⟩:=hv
  obtain rfl:=List.length_eq_zero_iff.1 h00
  go_enter Tryz.func75,Tryz.ntmps75
  go_wp2
  refine wp_loop_rounds 1 ?_
  rw [rounds_succ]
  go_wp2
  go_ret
  exact ⟨by simp [countRs],ho,Touch.refl _ _⟩
 ·simp only [Value.slice.injEq] at hv
  obtain ⟨rfl,_,rfl⟩:=hv
  have hlm:rs.length≤maxLen:=Nat.le_trans hr.1 hr.2.1
  simp only [maxLen] at hlm
  clear hgg hr
  have HH:Hid (halfRs rs k0 0=rs∧halfRs rs k0 rs.length=markRs rs k0):=⟨by simp [halfRs,markRs],by simp [halfRs]⟩
  have HST:Hid (OwnRs w lo hi (some ⟨g,0,none⟩) cap (halfRs rs k0 0)):=by rw [HH.out.1];exact ho
  have HSH:Hid (∀ j,j<rs.length→(rs.getD j zeroR).short 1099511627776):=fun j hj=>hl _ (recD_mem rs j hj)
  have HSUB:Hid (∀ j,j<rs.length→∀ k∈g::(rs.getD j zeroR).blocks,k∈blocksRs (some ⟨g,0,none⟩) cap rs):=fun j hj k hk=>by
   rcases List.mem_cons.1 hk with rfl | hk
   ·exact List.mem_append.2 (.inl (by simp [Value.ownBlock]))
   ·exact List.mem_append.2 (.inr (List.mem_flatMap.2 ⟨_,recD_mem rs j hj,hk⟩))
  clear ho hl
  go_enter Tryz.func75,Tryz.ntmps75
  go_wp2
  go_loopw [1,5] (fun kk i wr=>∃ j:Nat,j≤rs.length∧i=.int .i64 j∧kk=.int .i64 (k0+countRs (rs.take j))∧Hid (OwnRs wr lo hi (some ⟨g,0,none⟩) cap (halfRs rs k0 j))∧Touch (blocksRs (some ⟨g,0,none⟩) cap rs) w wr)
   (fun _ i _=>rs.length-(intOf i).toNat)
  case atStart=>exact ⟨0,Nat.zero_le _,rfl,by simp [countRs],HST,Touch.refl _ _⟩
  case round=>
   obtain ⟨j,hj,rfl,rfl,hown,htw⟩:=hrel
   clear HST
   by_cases hlt:j<rs.length
   ·have hsh:=HSH.out j hlt
    have hsub:=HSUB.out j hlt
    have hcn:=countRs_next rs j hlt
    have hcl:=countRs_le rs (j+1)
    have ho:=hown.out
    rw [halfRs_at rs k0 j hlt] at ho
    have hlen:=halfRs_len rs k0 j hj
    rw [halfRs_at rs k0 j hlt] at hlen
    have HN:Hid (halfRs rs k0 (j+1)=_):=halfRs_next rs k0 j hlt
    have hA:(cellsRs (markRs (rs.take j) k0)).length=j*15:=by rw [cellsRs_len,markRs_len,List.length_take];congr 1;omega
    have HCN:Hid (k0+countRs (rs.take (j+1))=k0+countRs (rs.take j)+countRA (rs.getD j zeroR)):=by rw [Hid,hcn];omega
    have hkb:0≤k0+(countRs (rs.take j):Int)∧k0+(countRs (rs.take j):Int)+countRA (rs.getD j zeroR)≤1152921504606846976:=⟨by omega,by omega⟩
    clear hcn hcl hown hk h0
    generalize k0+(countRs (rs.take j):Int)=kk at*
    generalize markRs (rs.take j) k0=A at*
    generalize rs.drop (j+1)=B at*
    generalize rs.getD j zeroR=z at*
    have hz:=ho.each z (List.mem_append.2 (.inr (List.mem_cons.2 (.inl rfl))))
    have HG:Hid (g∉z.blocks):=row_apart ho.row hz g rfl
    have hap:=hz.apart
    have HZA:Hid (z.blocks.Nodup):=hz.apart
    simp only [RecA.blocks,SlotA.blocks] at hap
    have HAP:Hid (_∧_∧_∧_∧_):=five_apart hap
    have HGN:Hid (g∉(Value.slice z.bf.aI z.bf.v.o.ints.length z.bf.cI).ownBlock.toList∧g∉(Value.slice z.bf.aR z.bf.v.o.refs.length z.bf.cR).ownBlock.toList∧g∉(Value.slice z.af.aI z.af.v.o.ints.length z.af.cI).ownBlock.toList∧g∉(Value.slice z.af.aR z.af.v.o.refs.length z.af.cR).ownBlock.toList∧g∉(Value.slice z.aL z.txs.length z.cL).ownBlock.toList):=by
     have:=HG.out
     simp only [RecA.blocks,SlotA.blocks,List.mem_append,not_or] at this
     exact ⟨this.1.1,this.1.2,this.2.1.1,this.2.1.2,this.2.2⟩
    have HM:Hid ((∀ k∈(Value.slice z.bf.aI z.bf.v.o.ints.length z.bf.cI).ownBlock.toList,k∈z.blocks)∧(∀ k∈(Value.slice z.bf.aR z.bf.v.o.refs.length z.bf.cR).ownBlock.toList,k∈z.blocks)∧(∀ k∈(Value.slice z.af.aI z.af.v.o.ints.length z.af.cI).ownBlock.toList,k∈z.blocks)∧(∀ k∈(Value.slice z.af.aR z.af.v.o.refs.length z.af.cR).ownBlock.toList,k∈z.blocks)∧(∀ k∈(Value.slice z.aL z.txs.length z.cL).ownBlock.toList,k∈z.blocks)):=by
     simp only [RecA.blocks,SlotA.blocks]
     exact ⟨fun k h=>List.mem_append.2 (.inl (List.mem_append.2 (.inl h))),fun k h=>List.mem_append.2 (.inl (List.mem_append.2 (.inr h))),fun k h=>List.mem_append.2 (.inr (List.mem_append.2 (.inl (List.mem_append.2 (.inl h))))),fun k h=>List.mem_append.2 (.inr (List.mem_append.2 (.inl (List.mem_append.2 (.inr h))))),fun k h=>List.mem_append.2 (.inr (List.mem_append.2 (.inr h)))⟩
    have row:RowR wr lo g rs.length cap (cellsRs A) z.cells (cellsRs B):=by
     have:=ho.row
     rw [hlen,cellsRs_app,cellsRs_cons] at this
     exact this
    have hbI:=hz.bf.ints
    have hbR:=hz.bf.refs
    have haI:=hz.af.ints
    have haR:=hz.af.refs
    have hL:=hz.txs
    have hcz:countRA z=10+z.bf.v.o.ints.length+z.bf.v.o.refs.length+z.af.v.o.ints.length+z.af.v.o.refs.length+3*z.txs.length:=rfl
    have HBA:Hid (∀ k∈z.blocks,k∈g::z.blocks):=fun k hk=>List.mem_cons.2 (.inr hk)
    have HGB:Hid (∀ k∈[g],k∈g::z.blocks):=fun k hk=>List.mem_cons.2 (.inl (List.mem_singleton.1 hk))
    have HNG:Hid (∀ (L:List Nat),g∉L→∀ k,k∈L→k∉[g]):=fun L hg k hk hk'=>hg (by rw [← List.mem_singleton.1 hk'];exact hk)
    clear hap hz
    simp only [RecA.cells] at row
    have x0:wr.cell? ⟨g,j*15,none⟩=_:=row.cell hA rfl 0 _ rfl
    have x1:=row.cell hA rfl 1 _ rfl
    have x2:=row.cell hA rfl 2 _ rfl
    have x3:=row.cell hA rfl 3 _ rfl
    have x4:=row.cell hA rfl 4 _ rfl
    have x5:=row.cell hA rfl 5 _ rfl
    have x6:=row.cell hA rfl 6 _ rfl
    have f0:wr.frozen? ⟨g,j*15,none⟩=false:=row.frozen _
    have f1:=row.frozen (j*15+1)
    have f2:=row.frozen (j*15+2)
    have f3:=row.frozen (j*15+3)
    have f4:=row.frozen (j*15+4)
    have f5:=row.frozen (j*15+5)
    have f6:=row.frozen (j*15+6)
    obtain ⟨W1,hW1,row1,t1⟩:=row.sets7 hA (.int .i64 kk) (.int .i64 (kk+1)) (.int .i64 (kk+1+1)) (.int .i64 (kk+1+1+1)) (.int .i64 (kk+1+1+1+1)) (.bool ((kk+1+1+1+1+1) % 3 == 0)) (.int .i64 (kk+1+1+1+1+1+1))
    have HT:Hid (Touch (g::z.blocks) wr W1):=t1.mono HGB.out
    have bI1:=hbI.keep t1 (HNG.out _ HGN.out.1)
    have bR1:=hbR.keep t1 (HNG.out _ HGN.out.2.1)
    have aI1:=haI.keep t1 (HNG.out _ HGN.out.2.2.1)
    have aR1:=haR.keep t1 (HNG.out _ HGN.out.2.2.2.1)
    have L1:=hL.keep t1 (HNG.out _ HGN.out.2.2.2.2)
    clear t1 hbI hbR haI haR hL row
    go_upto_region 18 with fail
    rw [hW1.out]
    clear hW1 x0 x1 x2 x3 x4 x5 x6 f0 f1 f2 f3 f4 f5 f6
    have y7:=row1.cell hA rfl 7 _ rfl
    have C:=markIntS_touch lo hi z.bf.aI z.bf.cI (kk+1+1+1+1+1+1+1) z.bf.v.o.ints W1 bI1 (by omega) (by omega)
    go_wp2_with fail
    refine C.mono ?_
    clear C y7
    rintro e w2 ⟨rfl,mI,t2⟩
    have row2:=row1.keep t2 HGN.out.1
    have HT2:Hid (Touch (g::z.blocks) wr w2):=HT.out.trans ((t2.mono HM.out.1).mono HBA.out)
    have bR2:=bR1.keep t2 (fun k hk h=>(HAP.out.1 k h).1 hk)
    have aI2:=aI1.keep t2 (fun k hk h=>(HAP.out.1 k h).2.1 hk)
    have aR2:=aR1.keep t2 (fun k hk h=>(HAP.out.1 k h).2.2.1 hk)
    have L2:=L1.keep t2 (fun k hk h=>(HAP.out.1 k h).2.2.2 hk)
    clear bI1 bR1 aI1 aR1 L1 t2 row1 HT
    have y8:=row2.cell hA rfl 8 _ rfl
    have C:=markIntS_touch lo hi z.bf.aR z.bf.cR (kk+1+1+1+1+1+1+1+z.bf.v.o.ints.length) z.bf.v.o.refs w2 bR2 (by omega) (by omega)
    go_wp2_with fail
    refine C.mono ?_
    clear C y8
    rintro e w3 ⟨rfl,mR,t3⟩
    have row3:=row2.keep t3 HGN.out.2.1
    have HT3:Hid (Touch (g::z.blocks) wr w3):=HT2.out.trans ((t3.mono HM.out.2.1).mono HBA.out)
    have mI3:=mI.keep t3 (fun k hk h=>(HAP.out.2.1 k h).1 (by rw [marksI_len] at hk;exact hk))
    have aI3:=aI2.keep t3 (fun k hk h=>(HAP.out.2.1 k h).2.1 hk)
    have aR3:=aR2.keep t3 (fun k hk h=>(HAP.out.2.1 k h).2.2.1 hk)
    have L3:=L2.keep t3 (fun k hk h=>(HAP.out.2.1 k h).2.2.2 hk)
    clear mI bR2 aI2 aR2 L2 t3 row2 HT2
    have x9:=row3.cell hA rfl 9 _ rfl
    have x10:=row3.cell hA rfl 10 _ rfl
    have f9:=row3.frozen (j*15+9)
    have f10:=row3.frozen (j*15+10)
    obtain ⟨W4,hW4,row4,t4⟩:=row3.sets2 hA (.bool ((kk+1+1+1+1+1+1+1+z.bf.v.o.ints.length+z.bf.v.o.refs.length) % 3 == 0)) (.int .i64 (kk+1+1+1+1+1+1+1+z.bf.v.o.ints.length+z.bf.v.o.refs.length+1))
    have HT4:Hid (Touch (g::z.blocks) wr W4):=HT3.out.trans (t4.mono HGB.out)
    have mI4:=mI3.keep t4 (HNG.out _ (by rw [marksI_len];exact HGN.out.1))
    have mR4:=mR.keep t4 (HNG.out _ (by rw [marksI_len];exact HGN.out.2.1))
    have aI4:=aI3.keep t4 (HNG.out _ HGN.out.2.2.1)
    have aR4:=aR3.keep t4 (HNG.out _ HGN.out.2.2.2.1)
    have L4:=L3.keep t4 (HNG.out _ HGN.out.2.2.2.2)
    clear mI3 mR aI3 aR3 L3 t4 row3 HT3
    go_upto_region 24 with fail
    rw [hW4.out]
    clear hW4 x9 x10 f9 f10
    have y11:=row4.cell hA rfl 11 _ rfl
    have C:=markIntS_touch lo hi z.af.aI z.af.cI (kk+1+1+1+1+1+1+1+z.bf.v.o.ints.length+z.bf.v.o.refs.length+1+1) z.af.v.o.ints W4 aI4 (by omega) (by omega)
    go_wp2_with fail
    refine C.mono ?_
    clear C y11
    rintro e w5 ⟨rfl,nI,t5⟩
    have row5:=row4.keep t5 HGN.out.2.2.1
    have HT5:Hid (Touch (g::z.blocks) wr w5):=HT4.out.trans ((t5.mono HM.out.2.2.1).mono HBA.out)
    have mI5:=mI4.keep t5 (fun k hk h=>(HAP.out.2.2.1 k h).1 (by rw [marksI_len] at hk;exact hk))
    have mR5:=mR4.keep t5 (fun k hk h=>(HAP.out.2.2.1 k h).2.1 (by rw [marksI_len] at hk;exact hk))
    have aR5:=aR4.keep t5 (fun k hk h=>(HAP.out.2.2.1 k h).2.2.1 hk)
    have L5:=L4.keep t5 (fun k hk h=>(HAP.out.2.2.1 k h).2.2.2 hk)
    clear mI4 mR4 aI4 aR4 L4 t5 row4 HT4
    have y12:=row5.cell hA rfl 12 _ rfl
    have C:=markIntS_touch lo hi z.af.aR z.af.cR (kk+1+1+1+1+1+1+1+z.bf.v.o.ints.length+z.bf.v.o.refs.length+1+1+z.af.v.o.ints.length) z.af.v.o.refs w5 aR5 (by omega) (by omega)
    go_wp2_with fail
    refine C.mono ?_
    clear C y12
    rintro e w6 ⟨rfl,nR,t6⟩
    have row6:=row5.keep t6 HGN.out.2.2.2.1
    have HT6:Hid (Touch (g::z.blocks) wr w6):=HT5.out.trans ((t6.mono HM.out.2.2.2.1).mono HBA.out)
    have mI6:=mI5.keep t6 (fun k hk h=>(HAP.out.2.2.2.1 k h).1 (by rw [marksI_len] at hk;exact hk))
    have mR6:=mR5.keep t6 (fun k hk h=>(HAP.out.2.2.2.1 k h).2.1 (by rw [marksI_len] at hk;exact hk))
    have nI6:=nI.keep t6 (fun k hk h=>(HAP.out.2.2.2.1 k h).2.2.1 (by rw [marksI_len] at hk;exact hk))
    have L6:=L5.keep t6 (fun k hk h=>(HAP.out.2.2.2.1 k h).2.2.2 hk)
    clear mI5 mR5 nI aR5 L5 t6 row5 HT5
    have x13:=row6.cell hA rfl 13 _ rfl
    have f13:=row6.frozen (j*15+13)
    obtain ⟨W7,hW7,row7,t7⟩:=row6.set1 hA (.int .i64 (kk+1+1+1+1+1+1+1+z.bf.v.o.ints.length+z.bf.v.o.refs.length+1+1+z.af.v.o.ints.length+z.af.v.o.refs.length))
    have HT7:Hid (Touch (g::z.blocks) wr W7):=HT6.out.trans (t7.mono HGB.out)
    have mI7:=mI6.keep t7 (HNG.out _ (by rw [marksI_len];exact HGN.out.1))
    have mR7:=mR6.keep t7 (HNG.out _ (by rw [marksI_len];exact HGN.out.2.1))
    have nI7:=nI6.keep t7 (HNG.out _ (by rw [marksI_len];exact HGN.out.2.2.1))
    have nR7:=nR.keep t7 (HNG.out _ (by rw [marksI_len];exact HGN.out.2.2.2.1))
    have L7:=L6.keep t7 (HNG.out _ HGN.out.2.2.2.2)
    clear mI6 mR6 nI6 nR L6 t7 row6 HT6
    go_upto_region 28 with fail
    rw [hW7.out]
    clear hW7 x13 f13
    have y14:=row7.cell hA rfl 14 _ rfl
    have C:=markLiveS_own lo hi z.aL z.cL (kk+1+1+1+1+1+1+1+z.bf.v.o.ints.length+z.bf.v.o.refs.length+1+1+z.af.v.o.ints.length+z.af.v.o.refs.length+1) z.txs W7 L7 (by omega) (by omega)
    go_wp2_with fail
    refine C.mono ?_
    clear C y14
    rintro e w8 ⟨rfl,nL,t8⟩
    have row8:=row7.keep t8 HGN.out.2.2.2.2
    have HT8:Hid (Touch (g::z.blocks) wr w8):=HT7.out.trans ((t8.mono HM.out.2.2.2.2).mono HBA.out)
    have mI8:=mI7.keep t8 (fun k hk h=>(HAP.out.2.2.2.2 k h).1 (by rw [marksI_len] at hk;exact hk))
    have mR8:=mR7.keep t8 (fun k hk h=>(HAP.out.2.2.2.2 k h).2.1 (by rw [marksI_len] at hk;exact hk))
    have nI8:=nI7.keep t8 (fun k hk h=>(HAP.out.2.2.2.2 k h).2.2.1 (by rw [marksI_len] at hk;exact hk))
    have nR8:=nR7.keep t8 (fun k hk h=>(HAP.out.2.2.2.2 k h).2.2.2 (by rw [marksI_len] at hk;exact hk))
    have HOY:Hid ((markRA z kk).own w8 lo hi):=⟨⟨mI8,mR8,fun k hk hk'=>by
      have h1:k∈(Value.slice z.bf.aI z.bf.v.o.ints.length z.bf.cI).ownBlock.toList:=by have:=Option.mem_toList.2 hk;simpa only [markRA,marksI_len] using this
      have h2:k∈(Value.slice z.bf.aR z.bf.v.o.refs.length z.bf.cR).ownBlock.toList:=by have:=Option.mem_toList.2 hk';simpa only [markRA,marksI_len] using this
      exact (HAP.out.1 k h1).1 h2⟩,⟨nI8,nR8,fun k hk hk'=>by
      have h1:k∈(Value.slice z.af.aI z.af.v.o.ints.length z.af.cI).ownBlock.toList:=by have:=Option.mem_toList.2 hk;simpa only [markRA,marksI_len] using this
      have h2:k∈(Value.slice z.af.aR z.af.v.o.refs.length z.af.cR).ownBlock.toList:=by have:=Option.mem_toList.2 hk';simpa only [markRA,marksI_len] using this
      exact (HAP.out.2.2.1 k h1).2.2.1 h2⟩,nL,by rw [markRA_blocks];exact HZA.out⟩
    have HROW:Hid (RowR w8 lo g (A++z::B).length cap (cellsRs A) (markRA z kk).cells (cellsRs B)):=by
     rw [hlen]
     simpa only [Hid,RecA.cells,markRA,marksI_len,marksL_len] using row8
    have HFIN:Hid (OwnRs w8 lo hi (some ⟨g,0,none⟩) cap (halfRs rs k0 (j+1))∧Touch (blocksRs (some ⟨g,0,none⟩) cap rs) w w8):=by
     refine ⟨?_,htw.trans (HT8.out.mono hsub)⟩
     rw [HN.out]
     exact ho.replace HT8.out HROW.out HOY.out (markRA_blocks z kk)
    have HNUM:Hid (k0+(countRs (rs.take (j+1)):Int)=kk+1+1+1+1+1+1+1+z.bf.v.o.ints.length+z.bf.v.o.refs.length+1+1+z.af.v.o.ints.length+z.af.v.o.refs.length+1+3*z.txs.length):=by rw [Hid,HCN.out,hcz];omega
    clear mI7 mR7 nI7 nR7 L7 t8 row7 HT7 row8 HT8 mI8 mR8 nI8 nR8 nL HOY HROW ho htw
    go_wp2_with fail
    go_roundw
    case rel=>exact ⟨j+1,by omega,by go_num,by rw [HNUM.out],HFIN.out.1,HFIN.out.2⟩
    case measure=>simp [intOf];omega
   ·have HE:Hid (OwnRs wr lo hi (some ⟨g,0,none⟩) cap (markRs rs k0)∧k0+(countRs (rs.take j):Int)=k0+countRs rs):=by
     have e:j=rs.length:=by omega
     rw [e,HH.out.2] at hown
     exact ⟨hown.out,by rw [e,List.take_length]⟩
    go_wp2
    go_ret
    exact ⟨ret_int HE.out.2,HE.out.1,htw⟩
theorem markRs_at (rs:List RecA) (k:Int) (j:Nat) (h:j<rs.length):(markRs rs k).getD j zeroR=markRA (rs.getD j zeroR) (k+countRs (rs.take j)):=by
 have e:markRs rs k=markRs (rs.take j) k++markRs (rs.drop j) (k+countRs (rs.take j)):=by rw [← markRs_app,List.take_append_drop]
 have hl:(markRs (rs.take j) k).length=j:=by rw [markRs_len,List.length_take];omega
 rw [e,(recs_split rs j h).1,markRs]
 simp [List.getD,hl]
theorem heldRecS_any (a:Option Addr) (cap:Nat) (k0:Int) (rs:List RecA) (w:World) (hr:ReadsRs w a (markRs rs k0)) (h0:0≤k0) (hk:k0+countRs rs≤1152921504606846976) (hlm:rs.length≤9223372036854775807):
  Calls Tryz.prog 78 #[.slice a rs.length cap,.int .i64 k0] w fun e w'=>e=.returned (.int .i64 (k0+countRs rs))∧w'=w:=by
 have hml:=markRs_len rs k0
 rcases hr.cases with h | ⟨b,off,rfl,hpos,hcell⟩
 ·have h':=congrArg List.length h
  rw [hml] at h'
  obtain rfl:=List.length_eq_zero_iff.1 h'
  go_enter Tryz.func78,Tryz.ntmps78
  go_wp2
  refine wp_loop_rounds 1 ?_
  rw [rounds_succ]
  go_wp2
  go_ret
  exact ⟨by simp [countRs],rfl⟩
 ·rw [hml] at hpos hcell
  go_enter Tryz.func78,Tryz.ntmps78
  go_wp2
  go_loop [1,5] (fun kk i=>∃ j:Nat,j≤rs.length∧i=.int .i64 j∧kk=.int .i64 (k0+countRs (rs.take j))) (fun _ i=>rs.length-(intOf i).toNat)
  case atStart=>exact ⟨0,Nat.zero_le _,rfl,by simp [countRs]⟩
  case round=>
   obtain ⟨j,hj,rfl,rfl⟩:=hrel
   by_cases hlt:j<rs.length
   ·obtain ⟨hc,hrd⟩:=hcell j hlt
    have hcn:=countRs_next rs j hlt
    have hcl:=countRs_le rs (j+1)
    rw [markRs_at rs k0 j hlt] at hc hrd
    have HCN:Hid (k0+countRs (rs.take (j+1))=k0+countRs (rs.take j)+countRA (rs.getD j zeroR)):=by rw [Hid,hcn];omega
    have hkb:0≤k0+(countRs (rs.take j):Int)∧k0+(countRs (rs.take j):Int)+countRA (rs.getD j zeroR)≤1152921504606846976:=⟨by omega,by omega⟩
    clear hcn hcl hk h0 hcell hpos hr hml
    generalize k0+(countRs (rs.take j):Int)=kk at*
    generalize rs.getD j zeroR=z at*
    have hcz:countRA z=10+z.bf.v.o.ints.length+z.bf.v.o.refs.length+z.af.v.o.ints.length+z.af.v.o.refs.length+3*z.txs.length:=rfl
    have x0:w.cell? ⟨b,off+j*15,none⟩=some (.int .i64 kk):=hc 0 _ rfl
    have x1:w.cell? ⟨b,off+j*15+1,none⟩=some (.int .i64 (kk+1)):=hc 1 _ rfl
    have x2:w.cell? ⟨b,off+j*15+2,none⟩=some (.int .i64 (kk+1+1)):=hc 2 _ rfl
    have x3:w.cell? ⟨b,off+j*15+3,none⟩=some (.int .i64 (kk+1+1+1)):=hc 3 _ rfl
    have x4:w.cell? ⟨b,off+j*15+4,none⟩=some (.int .i64 (kk+1+1+1+1)):=hc 4 _ rfl
    have x5:w.cell? ⟨b,off+j*15+5,none⟩=some (.bool ((kk+1+1+1+1+1) % 3 == 0)):=hc 5 _ rfl
    have x6:w.cell? ⟨b,off+j*15+6,none⟩=some (.int .i64 (kk+1+1+1+1+1+1)):=hc 6 _ rfl
    have x7:w.cell? ⟨b,off+j*15+7,none⟩=some (.slice z.bf.aI z.bf.v.o.ints.length z.bf.cI):=(hc 7 _ rfl).trans (by simp only [markRA,marksI_len])
    have x8:w.cell? ⟨b,off+j*15+8,none⟩=some (.slice z.bf.aR z.bf.v.o.refs.length z.bf.cR):=(hc 8 _ rfl).trans (by simp only [markRA,marksI_len])
    have x9:w.cell? ⟨b,off+j*15+9,none⟩=some (.bool ((kk+1+1+1+1+1+1+1+z.bf.v.o.ints.length+z.bf.v.o.refs.length) % 3 == 0)):=hc 9 _ rfl
    have x10:w.cell? ⟨b,off+j*15+10,none⟩=some (.int .i64 (kk+1+1+1+1+1+1+1+z.bf.v.o.ints.length+z.bf.v.o.refs.length+1)):=hc 10 _ rfl
    have x11:w.cell? ⟨b,off+j*15+11,none⟩=some (.slice z.af.aI z.af.v.o.ints.length z.af.cI):=(hc 11 _ rfl).trans (by simp only [markRA,marksI_len])
    have x12:w.cell? ⟨b,off+j*15+12,none⟩=some (.slice z.af.aR z.af.v.o.refs.length z.af.cR):=(hc 12 _ rfl).trans (by simp only [markRA,marksI_len])
    have x13:w.cell? ⟨b,off+j*15+13,none⟩=some (.int .i64 (kk+1+1+1+1+1+1+1+z.bf.v.o.ints.length+z.bf.v.o.refs.length+1+1+z.af.v.o.ints.length+z.af.v.o.refs.length)):=hc 13 _ rfl
    have x14:w.cell? ⟨b,off+j*15+14,none⟩=some (.slice z.aL z.txs.length z.cL):=(hc 14 _ rfl).trans (by simp only [markRA,marksL_len])
    have C1:=heldIntS_any z.bf.aI z.bf.cI (kk+1+1+1+1+1+1+1) z.bf.v.o.ints.length w hrd.bf.ints (by omega) (by omega)
    have C2:=heldIntS_any z.bf.aR z.bf.cR (kk+1+1+1+1+1+1+1+z.bf.v.o.ints.length) z.bf.v.o.refs.length w hrd.bf.refs (by omega) (by omega)
    have C3:=heldIntS_any z.af.aI z.af.cI (kk+1+1+1+1+1+1+1+z.bf.v.o.ints.length+z.bf.v.o.refs.length+1+1) z.af.v.o.ints.length w hrd.af.ints (by omega) (by omega)
    have C4:=heldIntS_any z.af.aR z.af.cR (kk+1+1+1+1+1+1+1+z.bf.v.o.ints.length+z.bf.v.o.refs.length+1+1+z.af.v.o.ints.length) z.af.v.o.refs.length w hrd.af.refs (by omega) (by omega)
    have C5:=heldLiveS_any z.aL z.cL (kk+1+1+1+1+1+1+1+z.bf.v.o.ints.length+z.bf.v.o.refs.length+1+1+z.af.v.o.ints.length+z.af.v.o.refs.length+1) z.txs.length w hrd.txs (by omega) (by omega)
    have HNUM:Hid (k0+(countRs (rs.take (j+1)):Int)=kk+1+1+1+1+1+1+1+z.bf.v.o.ints.length+z.bf.v.o.refs.length+1+1+z.af.v.o.ints.length+z.af.v.o.refs.length+1+3*z.txs.length):=by rw [Hid,HCN.out,hcz];omega
    clear hc hrd HCN
    go_wp2_with fail
    refine C1.mono ?_
    clear C1 x0 x1 x2 x3 x4 x5 x6 x7
    rintro e w1 ⟨rfl,h1⟩
    rw [h1]
    clear h1 w1
    go_wp2_with fail
    refine C2.mono ?_
    clear C2 x8
    rintro e w1 ⟨rfl,h1⟩
    rw [h1]
    clear h1 w1
    go_wp2_with fail
    refine C3.mono ?_
    clear C3 x9 x10 x11
    rintro e w1 ⟨rfl,h1⟩
    rw [h1]
    clear h1 w1
    go_wp2_with fail
    refine C4.mono ?_
    clear C4 x12
    rintro e w1 ⟨rfl,h1⟩
    rw [h1]
    clear h1 w1
    go_wp2_with fail
    refine C5.mono ?_
    clear C5 x13 x14
    rintro e w1 ⟨rfl,h1⟩
    rw [h1]
    clear h1 w1
    go_wp2_with fail
    go_round
    case rel=>exact ⟨j+1,by omega,by go_num,by rw [HNUM.out]⟩
    case measure=>simp [intOf];omega
   ·have HE:Hid (k0+(countRs (rs.take j):Int)=k0+countRs rs):=by
     have e:j=rs.length:=by omega
     rw [Hid,e,List.take_length]
    go_wp2
    go_ret
    exact ⟨ret_int HE.out,rfl⟩
def LogA.mark (l:LogA) (k:Int):LogA:={ l with recs:=markRs l.recs k }
def LogA.count (l:LogA):Nat:=countRs l.recs
theorem markLog_touch (l:LogA) (lo hi:Nat) (k0:Int) (w:World) (ho:l.own w lo hi) (hl:l.short 1099511627776) (h0:0≤k0) (hk:k0+l.count≤1152921504606846976):
  Calls Tryz.prog 36 #[.agg l.cells.toArray,.int .i64 k0] w fun e w'=>e=.returned (.int .i64 (k0+l.count))∧(l.mark k0).own w' lo hi∧Touch l.blocks w w':=by
 obtain ⟨rs,s,a,c⟩:=l
 have hl2:=hl.each
 simp only [LogA.cells,LogA.own,LogA.count,LogA.mark,LogA.blocks] at*
 obtain ⟨W,hW,b0,hbW,hsW⟩:=boxes1 w [.slice a rs.length c,.int .i64 s] 54
 have c0:=b0.cell 0 _ rfl
 have C:=markRecS_touch lo hi a c k0 rs W (ho.below hbW) hl2 h0 hk
 clear hsW b0
 go_enter Tryz.func36,Tryz.ntmps36
 go_wp2_with fail
 rw [hW.out]
 clear hW
 refine C.mono ?_
 rintro e w1 ⟨rfl,ho1,ht1⟩
 go_wp2
 go_ret
 exact ⟨rfl,ho1,(Touch.of_below hbW).trans ht1⟩
theorem heldLog_any (l:LogA) (lo hi:Nat) (k0:Int) (w:World) (ho:(l.mark k0).own w lo hi) (hl:l.recs.length≤1099511627776) (h0:0≤k0) (hk:k0+l.count≤1152921504606846976):
  Calls Tryz.prog 41 #[.agg l.cells.toArray,.int .i64 k0] w fun e w'=>e=.returned (.int .i64 (k0+l.count))∧Below w.heap.size w w':=by
 obtain ⟨rs,s,a,c⟩:=l
 simp only [LogA.cells,LogA.own,LogA.count,LogA.mark] at*
 obtain ⟨W,hW,b0,hbW,hsW⟩:=boxes1 w [.slice a rs.length c,.int .i64 s] 54
 have c0:=b0.cell 0 _ rfl
 have C:=heldRecS_any a c k0 rs W (ho.below hbW).reads h0 hk (by omega)
 have hnn:¬ (k0+(countRs rs:Int)<0):=by omega
 clear hsW b0
 go_enter Tryz.func41,Tryz.ntmps41
 go_wp2_with fail
 rw [hW.out]
 clear hW
 refine C.mono ?_
 rintro e w1 ⟨rfl,rfl⟩
 go_wp2
 go_ret
 exact ⟨rfl,hbW⟩
theorem countRs_bound (rs:List RecA) (m:Nat) (h:∀ r∈rs,r.short m):countRs rs≤rs.length*(10+7*m):=by
 induction rs with
 | nil=>simp [countRs]
 | cons x r ih=>
  have h1:=h x (by simp)
  have h2:=ih (fun y hy=>h y (by simp [hy]))
  have hb:=h1.bf
  have ha:=h1.af
  have ht:=h1.txs
  have hx:countRA x≤10+7*m:=by simp only [countRA];omega
  simp only [countRs,List.length_cons,Nat.add_mul,Nat.one_mul]
  omega
end Go.Proofs.YtcoeamamaifoeaaGreatDoor