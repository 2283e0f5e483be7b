/- Several texts in one, in their order. -/
import Derived.Test.YtjkckhfddgeboaaGreatDoorPGetx8
import Derived.Test.YtjkckhfddgeboaaGreatDoorPGetx4
import Derived.Deep.CutRange
import Derived.Test.YtjkckhfddgeboaaGreatDoorPGetx10
import Derived.Laws.Tables
import Derived.Test.YtjkckhfddgeboaaGreatDoorPGetx3
import Derived.Test.YtjkckhfddgeboaaGreatDoorPGetx1
set_option maxHeartbeats 8000000
set_option maxRecDepth 100000
namespace Go.Proofs.YtjkckhfddgeboaaGreatDoor
open Go.RowKit
def zN (r:qg) (k:Int):qg:=
 ⟨k,k+1,k+1+1,k+1+1+1,k+1+1+1+1,
  ⟨⟨((k+1+1+1+1+1) % 3 == 0),⟨k+1+1+1+1+1+1,xS (k+1+1+1+1+1+1+1) r.bf.v.o.ints.length,xS (k+1+1+1+1+1+1+1+r.bf.v.o.ints.length) r.bf.v.o.refs.length⟩⟩,r.bf.aI,r.bf.cI,r.bf.aR,r.bf.cR⟩,
  ⟨⟨((k+1+1+1+1+1+1+1+r.bf.v.o.ints.length+r.bf.v.o.refs.length) % 3 == 0),⟨k+1+1+1+1+1+1+1+r.bf.v.o.ints.length+r.bf.v.o.refs.length+1,xS (k+1+1+1+1+1+1+1+r.bf.v.o.ints.length+r.bf.v.o.refs.length+1+1) r.af.v.o.ints.length,xS (k+1+1+1+1+1+1+1+r.bf.v.o.ints.length+r.bf.v.o.refs.length+1+1+r.af.v.o.ints.length) r.af.v.o.refs.length⟩⟩,r.af.aI,r.af.cI,r.af.aR,r.af.cR⟩,
  k+1+1+1+1+1+1+1+r.bf.v.o.ints.length+r.bf.v.o.refs.length+1+1+r.af.v.o.ints.length+r.af.v.o.refs.length,
  marksL (k+1+1+1+1+1+1+1+r.bf.v.o.ints.length+r.bf.v.o.refs.length+1+1+r.af.v.o.ints.length+r.af.v.o.refs.length+1) r.txs.length,r.aL,r.cL⟩
def vY (r:qg):Nat:=10+r.bf.v.o.ints.length+r.bf.v.o.refs.length+r.af.v.o.ints.length+r.af.v.o.refs.length+3*r.txs.length
def kX:List qg→Int→List qg
 | [],_=>[]
 | r::t,k=>zN r k::kX t (k+vY r)
def qU:List qg→Nat
 | []=>0
 | r::t=>vY r+qU t
theorem KI (r:qg) (k:Int):(zN r k).blocks=r.blocks:=by simp [zN,qg.blocks,qf.blocks,qP,yz]
theorem um (rs:List qg):∀ k,(kX rs k).length=rs.length:=by
 induction rs with
 | nil=>intro k;rfl
 | cons x r ih=>intro k;simp [kX,ih]
theorem mr (A B:List qg):∀ k,kX (A++B) k=kX A k++kX B (k+qU A):=by
 induction A with
 | nil=>intro k;simp [kX,qU]
 | cons x r ih=>
  intro k;simp only [List.cons_append,kX,ih,qU];congr 3;omega
theorem UL (A B:List qg):qU (A++B)=qU A+qU B:=by
 induction A with
 | nil=>simp [qU]
 | cons x r ih=>simp only [List.cons_append,qU,ih];omega
theorem KJ (rs:List qg):∀ k,(kX rs k).flatMap qg.blocks=rs.flatMap qg.blocks:=by
 induction rs with
 | nil=>intro k;rfl
 | cons x r ih=>intro k;simp only [kX,List.flatMap_cons,ih,KI]
theorem K7 (rs:List qg) (j:Nat) (h:j<rs.length):rs.drop j=rs.getD j qm::rs.drop (j+1)∧rs.take (j+1)=rs.take j++[rs.getD j qm]:=by
 have e:rs.getD j qm=rs[j]:=by simp [List.getD,h]
 exact ⟨by rw [List.drop_eq_getElem_cons h,e],by rw [List.take_succ_eq_append_getElem h,e]⟩
def vI (rs:List qg) (k:Int) (j:Nat):List qg:=kX (rs.take j) k++rs.drop j
theorem BM (rs:List qg) (k:Int) (j:Nat) (h:j≤rs.length):(vI rs k j).length=rs.length:=by simp [vI,um];omega
theorem Gx (rs:List qg) (k:Int) (j:Nat) (h:j<rs.length):vI rs k j=kX (rs.take j) k++rs.getD j qm::rs.drop (j+1):=by rw [vI,(K7 rs j h).1]
theorem Di (rs:List qg) (k:Int) (j:Nat) (h:j<rs.length):vI rs k (j+1)=kX (rs.take j) k++zN (rs.getD j qm) (k+qU (rs.take j))::rs.drop (j+1):=by
 rw [vI,(K7 rs j h).2,mr];simp [kX]
theorem VY (rs:List qg) (j:Nat) (h:j<rs.length):qU (rs.take (j+1))=qU (rs.take j)+vY (rs.getD j qm):=by
 rw [(K7 rs j h).2,UL];simp [qU]
theorem mD (rs:List qg) (j:Nat):qU (rs.take j)≤qU rs:=by
 have:qU rs=qU (rs.take j)+qU (rs.drop j):=by rw [← UL,List.take_append_drop]
 omega
def wu (w:World) (base g n cap:Nat) (pre cs post:List Value):Prop:=w.ownsRow base 189 15 (.slice (some ⟨g,0,none⟩) n cap) n (pre++(cs++post))
theorem wu.cell {w:World} {base g n cap j:Nat} {pre cs post:List Value} (h:wu w base g n cap pre cs post) (hp:pre.length=j*15) (hc:cs.length=15) (i:Nat) (v:Value) (hv:cs[i]? =some v):w.cell? ⟨g,j*15+i,none⟩=some v:=by
 have hi:i<15:=by have:=(List.getElem?_eq_some_iff.1 hv).1;omega
 have hl:=h.1;rw [List.length_append,List.length_append] at hl;rw [World.ownsRow.cellAt h (j*15+i) (by omega),List.getElem?_append_right (by omega),List.getElem?_append_left (by omega),show j*15+i-pre.length=i by omega];exact hv
theorem wu.frozen {w:World} {base g n cap:Nat} {pre cs post:List Value} (h:wu w base g n cap pre cs post) (i:Nat):w.frozen? ⟨g,i,none⟩=false:=World.ownsRow.frozenAt h i
theorem wu.set {w:World} {base g n cap j:Nat} {pre cs post:List Value} (h:wu w base g n cap pre cs post) (hp:pre.length=j*15) (hc:cs.length=15) (i:Nat) (hi:i<15) (v:Value):wu (w.setCell ⟨g,j*15+i,none⟩ v) base g n cap pre (cs.set i v) post∧w.grownBy (w.setCell ⟨g,j*15+i,none⟩ v) (some g):=by
 have:=World.ownsRow.stored h (j*15+i) v;rw [List.set_append_right _ _ (by omega),show j*15+i-pre.length=i by omega,List.set_append_left _ _ (by omega)] at this;exact this
theorem wu.block {w w':World} {base g n cap:Nat} {pre cs post:List Value} (h:wu w base g n cap pre cs post) (hb:w'.heap[g]? =w.heap[g]?):wu w' base g n cap pre cs post:=jE h (fun k hk=>by cases hk;exact hb)
theorem wu.O7 {w:World} {base g n cap j:Nat} {pre post:List Value} {x0 x1 x2 x3 x4 x5 x6 x7 x8 x9 kJ xy xz xG xm:Value} (h:wu w base g n cap pre [x0,x1,x2,x3,x4,x5,x6,x7,x8,x9,kJ,xy,xz,xG,xm] post) (hp:pre.length=j*15) (v0 v1 v2 v3 v4 v5 v6:Value):
  ∃ W,Hid (((((((w.setCell ⟨g,j*15,none⟩ v0).setCell ⟨g,j*15+1,none⟩ v1).setCell ⟨g,j*15+2,none⟩ v2).setCell ⟨g,j*15+3,none⟩ v3).setCell ⟨g,j*15+4,none⟩ v4).setCell ⟨g,j*15+5,none⟩ v5).setCell ⟨g,j*15+6,none⟩ v6=W)∧wu W base g n cap pre [v0,v1,v2,v3,v4,v5,v6,x7,x8,x9,kJ,xy,xz,xG,xm] post∧Touch [g] w W:=by
 obtain ⟨a0,g0⟩:=h.set hp rfl 0 (by omega) v0;obtain ⟨a1,g1⟩:=a0.set hp rfl 1 (by omega) v1;obtain ⟨a2,g2⟩:=a1.set hp rfl 2 (by omega) v2;obtain ⟨a3,g3⟩:=a2.set hp rfl 3 (by omega) v3;obtain ⟨a4,g4⟩:=a3.set hp rfl 4 (by omega) v4;obtain ⟨a5,g5⟩:=a4.set hp rfl 5 (by omega) v5;obtain ⟨a6,g6⟩:=a5.set hp rfl 6 (by omega) v6;exact ⟨_,rfl,a6,Touch.jw (grownBy_trans (grownBy_trans (grownBy_trans (grownBy_trans (grownBy_trans (grownBy_trans g0 g1) g2) g3) g4) g5) g6) (fun k hk=>by cases hk;simp)⟩
theorem wu.O8 {w:World} {base g n cap j:Nat} {pre post:List Value} {x0 x1 x2 x3 x4 x5 x6 x7 x8 x9 kJ xy xz xG xm:Value} (h:wu w base g n cap pre [x0,x1,x2,x3,x4,x5,x6,x7,x8,x9,kJ,xy,xz,xG,xm] post) (hp:pre.length=j*15) (v0 v1:Value):
  ∃ W,Hid ((w.setCell ⟨g,j*15+9,none⟩ v0).setCell ⟨g,j*15+10,none⟩ v1=W)∧wu W base g n cap pre [x0,x1,x2,x3,x4,x5,x6,x7,x8,v0,v1,xy,xz,xG,xm] post∧Touch [g] w W:=by
 obtain ⟨a0,g0⟩:=h.set hp rfl 9 (by omega) v0;obtain ⟨a1,g1⟩:=a0.set hp rfl 10 (by omega) v1;exact ⟨_,rfl,a1,Touch.jw (grownBy_trans g0 g1) (fun k hk=>by cases hk;simp)⟩
theorem wu.set1 {w:World} {base g n cap j:Nat} {pre post:List Value} {x0 x1 x2 x3 x4 x5 x6 x7 x8 x9 kJ xy xz xG xm:Value} (h:wu w base g n cap pre [x0,x1,x2,x3,x4,x5,x6,x7,x8,x9,kJ,xy,xz,xG,xm] post) (hp:pre.length=j*15) (v0:Value):
  ∃ W,Hid (w.setCell ⟨g,j*15+13,none⟩ v0=W)∧wu W base g n cap pre [x0,x1,x2,x3,x4,x5,x6,x7,x8,x9,kJ,xy,xz,v0,xm] post∧Touch [g] w W:=by
 obtain ⟨a0,g0⟩:=h.set hp rfl 13 (by omega) v0;exact ⟨_,rfl,a0,Touch.jw g0 (fun k hk=>by cases hk;simp)⟩
theorem BN {L1 L2 L3 L4 L5:List Nat} (h:((L1++L2)++((L3++L4)++L5)).Nodup):
  (∀ k,k∈L1→k∉L2∧k∉L3∧k∉L4∧k∉L5)∧(∀ k,k∈L2→k∉L1∧k∉L3∧k∉L4∧k∉L5)∧(∀ k,k∈L3→k∉L1∧k∉L2∧k∉L4∧k∉L5)∧(∀ k,k∈L4→k∉L1∧k∉L2∧k∉L3∧k∉L5)∧(∀ k,k∈L5→k∉L1∧k∉L2∧k∉L3∧k∉L4):=by
 simp only [List.nodup_append,List.mem_append] at h;obtain ⟨⟨_,_,h12⟩,⟨⟨_,_,fu⟩,_,h45⟩,hx⟩:=h;refine ⟨fun k hk=>⟨fun h'=>h12 k hk k h' rfl,fun h'=>hx k (.inl hk) k (.inl (.inl h')) rfl,fun h'=>hx k (.inl hk) k (.inl (.inr h')) rfl,fun h'=>hx k (.inl hk) k (.inr h') rfl⟩,
  fun k hk=>⟨fun h'=>h12 k h' k hk rfl,fun h'=>hx k (.inr hk) k (.inl (.inl h')) rfl,fun h'=>hx k (.inr hk) k (.inl (.inr h')) rfl,fun h'=>hx k (.inr hk) k (.inr h') rfl⟩,
  fun k hk=>⟨fun h'=>hx k (.inl h') k (.inl (.inl hk)) rfl,fun h'=>hx k (.inr h') k (.inl (.inl hk)) rfl,fun h'=>fu k hk k h' rfl,fun h'=>h45 k (.inl hk) k h' rfl⟩,
  fun k hk=>⟨fun h'=>hx k (.inl h') k (.inl (.inr hk)) rfl,fun h'=>hx k (.inr h') k (.inl (.inr hk)) rfl,fun h'=>fu k h' k hk rfl,fun h'=>h45 k (.inr hk) k h' rfl⟩,
  fun k hk=>⟨fun h'=>hx k (.inl h') k (.inr hk) rfl,fun h'=>hx k (.inr h') k (.inr hk) rfl,fun h'=>h45 k (.inl h') k hk rfl,fun h'=>h45 k (.inr h') k hk rfl⟩⟩
theorem Qo (lo hi:Nat) (a:Option Addr) (cap:Nat) (k0:Int) (xs:List Int) (w:World) (ho:jG w lo hi a cap xs) (h0:0≤k0) (hl:k0+xs.length≤4611686018427387904):
  Calls Tryz.prog 138 #[.slice a xs.length cap,.int .i64 k0] w fun e w'=>e=.returned (.int .i64 (k0+xs.length))∧jG w' lo hi a cap (xS k0 xs.length)∧Touch (Value.slice a xs.length cap).ownBlock.toList w w':=by
 refine (Xw lo a cap k0 xs w ho.1 h0 hl).mono ?_;rintro e w' ⟨rfl,h1,h2⟩;exact ⟨rfl,⟨by rw [qP];exact h1,Nat.le_trans ho.2.1 h2.size,by rw [qP];exact ho.2.2⟩,Touch.jw h2 (fun j hj=>Option.mem_toList.2 hj)⟩
theorem jG.keep {w w':World} {lo hi:Nat} {a:Option Addr} {c:Nat} {ns:List Int} {bl:List Nat} (h:jG w lo hi a c ns) (ht:Touch bl w w') (hd:∀ k,k∈(Value.slice a ns.length c).ownBlock.toList→k∉bl):jG w' lo hi a c ns:=h.touch ht (fun k hk=>hd k (Option.mem_toList.2 hk))
theorem OwnL.keep {w w':World} {lo hi:Nat} {a:Option Addr} {c:Nat} {ns:List qC} {bl:List Nat} (h:OwnL w lo hi a c ns) (ht:Touch bl w w') (hd:∀ k,k∈(Value.slice a ns.length c).ownBlock.toList→k∉bl):OwnL w' lo hi a c ns:=h.touch ht (fun k hk=>hd k (Option.mem_toList.2 hk))
theorem wu.keep {w w':World} {base g n cap:Nat} {pre cs post:List Value} {bl:List Nat} (h:wu w base g n cap pre cs post) (ht:Touch bl w w') (hd:g∉bl):wu w' base g n cap pre cs post:=h.block (ht.block g (World.ownsRow.lt h g rfl).2 hd)
theorem qV.replace {w w':World} {lo hi g c:Nat} {A B:List qg} {z y:qg} (h:qV w lo hi (some ⟨g,0,none⟩) c (A++z::B)) (ht:Touch (g::z.blocks) w w') (hrow:wu w' lo g (A++z::B).length c (jO A) y.cells (jO B)) (hy:y.own w' lo hi) (hb:y.blocks=z.blocks):qV w' lo hi (some ⟨g,0,none⟩) c (A++y::B):=by
 have hap:=h.apart;simp only [List.flatMap_append,List.flatMap_cons,Value.ownBlock,Option.toList,List.singleton_append,List.nodup_cons,List.nodup_append,List.mem_append,not_or] at hap;obtain ⟨⟨n1,n2,n3⟩,a1,⟨a2,a3,a4⟩,a5⟩:=hap;refine ⟨?_,Nat.le_trans h.top ht.size,fun k hk=>by cases hk;exact h.blk g rfl,fun r hr=>?_,?_⟩
 ·have e:(A++y::B).length=(A++z::B).length:=by simp
  rw [e,QK,vW];exact hrow
 ·rcases List.mem_append.1 hr with hr | hr
  ·refine (h.each r (by simp [hr])).touch ht (fun k hk hk'=>?_);have hm:k∈A.flatMap qg.blocks:=List.mem_flatMap.2 ⟨r,hr,hk⟩;rcases List.mem_cons.1 hk' with rfl | hk'
   ·exact n1 hm
   ·exact a5 k hm k (.inl hk') rfl
  ·rcases List.mem_cons.1 hr with rfl | hr
   ·exact hy
   ·refine (h.each r (by simp [hr])).touch ht (fun k hk hk'=>?_);have hm:k∈B.flatMap qg.blocks:=List.mem_flatMap.2 ⟨r,hr,hk⟩;rcases List.mem_cons.1 hk' with rfl | hk'
    ·exact n3 hm
    ·exact a4 k hk' k hm rfl
 ·have:=h.apart;simp only [List.flatMap_append,List.flatMap_cons] at this ⊢;rw [hb];exact this
theorem pY (lo hi:Nat) (a:Option Addr) (cap:Nat) (k0:Int) (rs:List qg) (w:World) (ho:qV w lo hi a cap rs) (hl:∀ r∈rs,r.short 1099511627776) (h0:0≤k0) (hk:k0+qU rs≤1152921504606846976):
  Calls Tryz.prog 226 #[.slice a rs.length cap,.int .i64 k0] w fun e w'=>e=.returned (.int .i64 (k0+qU rs))∧qV w' lo hi a cap (kX rs k0)∧Touch (kr a cap rs) w w':=by
 rcases ho.row.2 with ⟨hv,h00⟩ | ⟨g,cap',cur,hv,hg,hgg,hr⟩
 ·simp only [Value.slice.injEq] at hv;obtain ⟨rfl,_,rfl⟩:=hv;obtain rfl:=List.length_eq_zero_iff.1 h00;go_enter Tryz.func226,Tryz.ntmps226;go_wp2;refine wp_loop_rounds 1 ?_;rw [rounds_succ];go_wp2;go_ret;exact ⟨by simp [qU],ho,Touch.refl _ _⟩
 ·simp only [Value.slice.injEq] at hv;obtain ⟨rfl,_,rfl⟩:=hv;have hlm:rs.length≤maxLen:=Nat.le_trans hr.1 hr.2.1;simp only [maxLen] at hlm;clear hgg hr;have HH:Hid (vI rs k0 0=rs∧vI rs k0 rs.length=kX rs k0):=⟨by simp [vI,kX],by simp [vI]⟩;have HST:Hid (qV w lo hi (some ⟨g,0,none⟩) cap (vI rs k0 0)):=by rw [HH.out.1];exact ho
  have Gc:Hid (∀ j,j<rs.length→(rs.getD j qm).short 1099511627776):=fun j hj=>hl _ (zZ rs j hj)
  have eF:Hid (∀ j,j<rs.length→∀ k∈g::(rs.getD j qm).blocks,k∈kr (some ⟨g,0,none⟩) cap rs):=fun j hj k hk=>by
   rcases List.mem_cons.1 hk with rfl | hk
   ·exact List.mem_append.2 (.inl (by simp [Value.ownBlock]))
   ·exact List.mem_append.2 (.inr (List.mem_flatMap.2 ⟨_,zZ rs j hj,hk⟩))
  clear ho hl;go_enter Tryz.func226,Tryz.ntmps226;go_wp2;go_loopw [1,5] (fun kk i wr=>∃ j:Nat,j≤rs.length∧i=.int .i64 j∧kk=.int .i64 (k0+qU (rs.take j))∧Hid (qV wr lo hi (some ⟨g,0,none⟩) cap (vI rs k0 j))∧Touch (kr (some ⟨g,0,none⟩) cap rs) w wr)
   (fun _ i _=>rs.length-(intOf i).toNat)
  case atStart=>exact ⟨0,Nat.zero_le _,rfl,by simp [qU],HST,Touch.refl _ _⟩
  case round=>
   obtain ⟨j,hj,rfl,rfl,hown,NF⟩:=hrel;clear HST;by_cases hlt:j<rs.length
   ·have hsh:=Gc.out j hlt;have hsub:=eF.out j hlt;have hcn:=VY rs j hlt;have hcl:=mD rs (j+1);have ho:=hown.out;rw [Gx rs k0 j hlt] at ho;have hlen:=BM rs k0 j hj;rw [Gx rs k0 j hlt] at hlen;have HN:Hid (vI rs k0 (j+1)=_):=Di rs k0 j hlt;have hA:(jO (kX (rs.take j) k0)).length=j*15:=by rw [YG,um,List.length_take];congr 1;omega
    have oM:Hid (k0+qU (rs.take (j+1))=k0+qU (rs.take j)+vY (rs.getD j qm)):=by rw [Hid,hcn];omega
    have hkb:0≤k0+(qU (rs.take j):Int)∧k0+(qU (rs.take j):Int)+vY (rs.getD j qm)≤1152921504606846976:=⟨by omega,by omega⟩;clear hcn hcl hown hk h0;generalize k0+(qU (rs.take j):Int)=kk at*
    generalize kX (rs.take j) k0=A at*
    generalize rs.drop (j+1)=B at*
    generalize rs.getD j qm=z at*
    have hz:=ho.each z (List.mem_append.2 (.inr (List.mem_cons.2 (.inl rfl))));have HG:Hid (g∉z.blocks):=VI ho.row hz g rfl;have hap:=hz.apart;have HZA:Hid (z.blocks.Nodup):=hz.apart;simp only [qg.blocks,qf.blocks] at hap;have zX:Hid (_∧_∧_∧_∧_):=BN hap;have Jc:Hid (g∉(Value.slice z.bf.aI z.bf.v.o.ints.length z.bf.cI).ownBlock.toList∧g∉(Value.slice z.bf.aR z.bf.v.o.refs.length z.bf.cR).ownBlock.toList∧g∉(Value.slice z.af.aI z.af.v.o.ints.length z.af.cI).ownBlock.toList∧g∉(Value.slice z.af.aR z.af.v.o.refs.length z.af.cR).ownBlock.toList∧g∉(Value.slice z.aL z.txs.length z.cL).ownBlock.toList):=by
     have:=HG.out;simp only [qg.blocks,qf.blocks,List.mem_append,not_or] at this;exact ⟨this.1.1,this.1.2,this.2.1.1,this.2.1.2,this.2.2⟩
    have HM:Hid ((∀ k∈(Value.slice z.bf.aI z.bf.v.o.ints.length z.bf.cI).ownBlock.toList,k∈z.blocks)∧(∀ k∈(Value.slice z.bf.aR z.bf.v.o.refs.length z.bf.cR).ownBlock.toList,k∈z.blocks)∧(∀ k∈(Value.slice z.af.aI z.af.v.o.ints.length z.af.cI).ownBlock.toList,k∈z.blocks)∧(∀ k∈(Value.slice z.af.aR z.af.v.o.refs.length z.af.cR).ownBlock.toList,k∈z.blocks)∧(∀ k∈(Value.slice z.aL z.txs.length z.cL).ownBlock.toList,k∈z.blocks)):=by
     simp only [qg.blocks,qf.blocks];exact ⟨fun k h=>List.mem_append.2 (.inl (List.mem_append.2 (.inl h))),fun k h=>List.mem_append.2 (.inl (List.mem_append.2 (.inr h))),fun k h=>List.mem_append.2 (.inr (List.mem_append.2 (.inl (List.mem_append.2 (.inl h))))),fun k h=>List.mem_append.2 (.inr (List.mem_append.2 (.inl (List.mem_append.2 (.inr h))))),fun k h=>List.mem_append.2 (.inr (List.mem_append.2 (.inr h)))⟩
    have row:wu wr lo g rs.length cap (jO A) z.cells (jO B):=by
     have:=ho.row;rw [hlen,QK,vW] at this;exact this
    have Gj:=hz.bf.ints;have hbR:=hz.bf.refs;have Gh:=hz.af.ints;have Gi:=hz.af.refs;have hL:=hz.txs;have hcz:vY z=10+z.bf.v.o.ints.length+z.bf.v.o.refs.length+z.af.v.o.ints.length+z.af.v.o.refs.length+3*z.txs.length:=rfl;have Sr:Hid (∀ k∈z.blocks,k∈g::z.blocks):=fun k hk=>List.mem_cons.2 (.inr hk)
    have Lf:Hid (∀ k∈[g],k∈g::z.blocks):=fun k hk=>List.mem_cons.2 (.inl (List.mem_singleton.1 hk))
    have XM:Hid (∀ (L:List Nat),g∉L→∀ k,k∈L→k∉[g]):=fun L hg k hk hk'=>hg (by rw [← List.mem_singleton.1 hk'];exact hk)
    clear hap hz;simp only [qg.cells] at row;have x0:wr.cell? ⟨g,j*15,none⟩=_:=row.cell hA rfl 0 _ rfl;have x1:=row.cell hA rfl 1 _ rfl;have x2:=row.cell hA rfl 2 _ rfl;have x3:=row.cell hA rfl 3 _ rfl;have x4:=row.cell hA rfl 4 _ rfl;have x5:=row.cell hA rfl 5 _ rfl;have x6:=row.cell hA rfl 6 _ rfl;have f0:wr.frozen? ⟨g,j*15,none⟩=false:=row.frozen _;have f1:=row.frozen (j*15+1);have f2:=row.frozen (j*15+2);have f3:=row.frozen (j*15+3);have f4:=row.frozen (j*15+4);have f5:=row.frozen (j*15+5);have f6:=row.frozen (j*15+6);obtain ⟨W1,hW1,eG,t1⟩:=row.O7 hA (.int .i64 kk) (.int .i64 (kk+1)) (.int .i64 (kk+1+1)) (.int .i64 (kk+1+1+1)) (.int .i64 (kk+1+1+1+1)) (.bool ((kk+1+1+1+1+1) % 3 == 0)) (.int .i64 (kk+1+1+1+1+1+1));have HT:Hid (Touch (g::z.blocks) wr W1):=t1.mono Lf.out;have bI1:=Gj.keep t1 (XM.out _ Jc.out.1);have Vv:=hbR.keep t1 (XM.out _ Jc.out.2.1);have aI1:=Gh.keep t1 (XM.out _ Jc.out.2.2.1);have aR1:=Gi.keep t1 (XM.out _ Jc.out.2.2.2.1);have L1:=hL.keep t1 (XM.out _ Jc.out.2.2.2.2);clear t1 Gj hbR Gh Gi hL row;go_upto_region 18 with fail;rw [hW1.out];clear hW1 x0 x1 x2 x3 x4 x5 x6 f0 f1 f2 f3 f4 f5 f6;have y7:=eG.cell hA rfl 7 _ rfl;have C:=Qo lo hi z.bf.aI z.bf.cI (kk+1+1+1+1+1+1+1) z.bf.v.o.ints W1 bI1 (by omega) (by omega);go_wp2_with fail;refine C.mono ?_;clear C y7;rintro e w2 ⟨rfl,mI,t2⟩;have p9:=eG.keep t2 Jc.out.1;have HT2:Hid (Touch (g::z.blocks) wr w2):=HT.out.trans ((t2.mono HM.out.1).mono Sr.out);have Vw:=Vv.keep t2 (fun k hk h=>(zX.out.1 k h).1 hk);have aI2:=aI1.keep t2 (fun k hk h=>(zX.out.1 k h).2.1 hk);have aR2:=aR1.keep t2 (fun k hk h=>(zX.out.1 k h).2.2.1 hk);have L2:=L1.keep t2 (fun k hk h=>(zX.out.1 k h).2.2.2 hk);clear bI1 Vv aI1 aR1 L1 t2 eG HT;have y8:=p9.cell hA rfl 8 _ rfl;have C:=Qo lo hi z.bf.aR z.bf.cR (kk+1+1+1+1+1+1+1+z.bf.v.o.ints.length) z.bf.v.o.refs w2 Vw (by omega) (by omega);go_wp2_with fail;refine C.mono ?_;clear C y8;rintro e w3 ⟨rfl,mR,t3⟩;have df:=p9.keep t3 Jc.out.2.1;have HT3:Hid (Touch (g::z.blocks) wr w3):=HT2.out.trans ((t3.mono HM.out.2.1).mono Sr.out);have mI3:=mI.keep t3 (fun k hk h=>(zX.out.2.1 k h).1 (by rw [qP] at hk;exact hk));have aI3:=aI2.keep t3 (fun k hk h=>(zX.out.2.1 k h).2.1 hk);have aR3:=aR2.keep t3 (fun k hk h=>(zX.out.2.1 k h).2.2.1 hk);have L3:=L2.keep t3 (fun k hk h=>(zX.out.2.1 k h).2.2.2 hk);clear mI Vw aI2 aR2 L2 t3 p9 HT2;have x9:=df.cell hA rfl 9 _ rfl;have kJ:=df.cell hA rfl 10 _ rfl;have f9:=df.frozen (j*15+9);have f10:=df.frozen (j*15+10);obtain ⟨W4,vg,eH,t4⟩:=df.O8 hA (.bool ((kk+1+1+1+1+1+1+1+z.bf.v.o.ints.length+z.bf.v.o.refs.length) % 3 == 0)) (.int .i64 (kk+1+1+1+1+1+1+1+z.bf.v.o.ints.length+z.bf.v.o.refs.length+1));have MZ:Hid (Touch (g::z.blocks) wr W4):=HT3.out.trans (t4.mono Lf.out);have mI4:=mI3.keep t4 (XM.out _ (by rw [qP];exact Jc.out.1));have mR4:=mR.keep t4 (XM.out _ (by rw [qP];exact Jc.out.2.1));have aI4:=aI3.keep t4 (XM.out _ Jc.out.2.2.1);have aR4:=aR3.keep t4 (XM.out _ Jc.out.2.2.2.1);have L4:=L3.keep t4 (XM.out _ Jc.out.2.2.2.2);clear mI3 mR aI3 aR3 L3 t4 df HT3
    go_upto_region 24 with fail;rw [vg.out];clear vg x9 kJ f9 f10;have YQ:=eH.cell hA rfl 11 _ rfl;have C:=Qo lo hi z.af.aI z.af.cI (kk+1+1+1+1+1+1+1+z.bf.v.o.ints.length+z.bf.v.o.refs.length+1+1) z.af.v.o.ints W4 aI4 (by omega) (by omega);go_wp2_with fail;refine C.mono ?_;clear C YQ;rintro e w5 ⟨rfl,nI,t5⟩;have eO:=eH.keep t5 Jc.out.2.2.1;have FT:Hid (Touch (g::z.blocks) wr w5):=MZ.out.trans ((t5.mono HM.out.2.2.1).mono Sr.out);have mI5:=mI4.keep t5 (fun k hk h=>(zX.out.2.2.1 k h).1 (by rw [qP] at hk;exact hk));have mR5:=mR4.keep t5 (fun k hk h=>(zX.out.2.2.1 k h).2.1 (by rw [qP] at hk;exact hk));have aR5:=aR4.keep t5 (fun k hk h=>(zX.out.2.2.1 k h).2.2.1 hk);have L5:=L4.keep t5 (fun k hk h=>(zX.out.2.2.1 k h).2.2.2 hk);clear mI4 mR4 aI4 aR4 L4 t5 eH MZ;have YR:=eO.cell hA rfl 12 _ rfl;have C:=Qo lo hi z.af.aR z.af.cR (kk+1+1+1+1+1+1+1+z.bf.v.o.ints.length+z.bf.v.o.refs.length+1+1+z.af.v.o.ints.length) z.af.v.o.refs w5 aR5 (by omega) (by omega);go_wp2_with fail;refine C.mono ?_;clear C YR;rintro e w6 ⟨rfl,nR,t6⟩;have BP:=eO.keep t6 Jc.out.2.2.2.1;have Rf:Hid (Touch (g::z.blocks) wr w6):=FT.out.trans ((t6.mono HM.out.2.2.2.1).mono Sr.out);have mI6:=mI5.keep t6 (fun k hk h=>(zX.out.2.2.2.1 k h).1 (by rw [qP] at hk;exact hk));have mR6:=mR5.keep t6 (fun k hk h=>(zX.out.2.2.2.1 k h).2.1 (by rw [qP] at hk;exact hk));have nI6:=nI.keep t6 (fun k hk h=>(zX.out.2.2.2.1 k h).2.2.1 (by rw [qP] at hk;exact hk));have L6:=L5.keep t6 (fun k hk h=>(zX.out.2.2.2.1 k h).2.2.2 hk);clear mI5 mR5 nI aR5 L5 t6 eO FT;have xG:=BP.cell hA rfl 13 _ rfl;have f13:=BP.frozen (j*15+13);obtain ⟨W7,JP,eP,t7⟩:=BP.set1 hA (.int .i64 (kk+1+1+1+1+1+1+1+z.bf.v.o.ints.length+z.bf.v.o.refs.length+1+1+z.af.v.o.ints.length+z.af.v.o.refs.length));have Gq:Hid (Touch (g::z.blocks) wr W7):=Rf.out.trans (t7.mono Lf.out);have mI7:=mI6.keep t7 (XM.out _ (by rw [qP];exact Jc.out.1));have mR7:=mR6.keep t7 (XM.out _ (by rw [qP];exact Jc.out.2.1));have nI7:=nI6.keep t7 (XM.out _ (by rw [qP];exact Jc.out.2.2.1));have nR7:=nR.keep t7 (XM.out _ (by rw [qP];exact Jc.out.2.2.2.1));have L7:=L6.keep t7 (XM.out _ Jc.out.2.2.2.2);clear mI6 mR6 nI6 nR L6 t7 BP Rf;go_upto_region 28 with fail;rw [JP.out];clear JP xG f13;have WO:=eP.cell hA rfl 14 _ rfl;have C:=ZX lo hi z.aL z.cL (kk+1+1+1+1+1+1+1+z.bf.v.o.ints.length+z.bf.v.o.refs.length+1+1+z.af.v.o.ints.length+z.af.v.o.refs.length+1) z.txs W7 L7 (by omega) (by omega);go_wp2_with fail;refine C.mono ?_;clear C WO;rintro e w8 ⟨rfl,nL,t8⟩;have Lg:=eP.keep t8 Jc.out.2.2.2.2;have mi:Hid (Touch (g::z.blocks) wr w8):=Gq.out.trans ((t8.mono HM.out.2.2.2.2).mono Sr.out);have mI8:=mI7.keep t8 (fun k hk h=>(zX.out.2.2.2.2 k h).1 (by rw [qP] at hk;exact hk));have mR8:=mR7.keep t8 (fun k hk h=>(zX.out.2.2.2.2 k h).2.1 (by rw [qP] at hk;exact hk));have nI8:=nI7.keep t8 (fun k hk h=>(zX.out.2.2.2.2 k h).2.2.1 (by rw [qP] at hk;exact hk));have nR8:=nR7.keep t8 (fun k hk h=>(zX.out.2.2.2.2 k h).2.2.2 (by rw [qP] at hk;exact hk));have HOY:Hid ((zN z kk).own w8 lo hi):=⟨⟨mI8,mR8,fun k hk hk'=>by
      have h1:k∈(Value.slice z.bf.aI z.bf.v.o.ints.length z.bf.cI).ownBlock.toList:=by have:=Option.mem_toList.2 hk;simpa only [zN,qP] using this
      have h2:k∈(Value.slice z.bf.aR z.bf.v.o.refs.length z.bf.cR).ownBlock.toList:=by have:=Option.mem_toList.2 hk';simpa only [zN,qP] using this
      exact (zX.out.1 k h1).1 h2⟩,⟨nI8,nR8,fun k hk hk'=>by
      have h1:k∈(Value.slice z.af.aI z.af.v.o.ints.length z.af.cI).ownBlock.toList:=by have:=Option.mem_toList.2 hk;simpa only [zN,qP] using this
      have h2:k∈(Value.slice z.af.aR z.af.v.o.refs.length z.af.cR).ownBlock.toList:=by have:=Option.mem_toList.2 hk';simpa only [zN,qP] using this
      exact (zX.out.2.2.1 k h1).2.2.1 h2⟩,nL,by rw [KI];exact HZA.out⟩
    have Lh:Hid (wu w8 lo g (A++z::B).length cap (jO A) (zN z kk).cells (jO B)):=by
     rw [hlen]
     simpa only [Hid,qg.cells,zN,qP,yz] using Lg
    have vX:Hid (qV w8 lo hi (some ⟨g,0,none⟩) cap (vI rs k0 (j+1))∧Touch (kr (some ⟨g,0,none⟩) cap rs) w w8):=by
     refine ⟨?_,NF.trans (mi.out.mono hsub)⟩;rw [HN.out];exact ho.replace mi.out Lh.out HOY.out (KI z kk)
    have eQ:Hid (k0+(qU (rs.take (j+1)):Int)=kk+1+1+1+1+1+1+1+z.bf.v.o.ints.length+z.bf.v.o.refs.length+1+1+z.af.v.o.ints.length+z.af.v.o.refs.length+1+3*z.txs.length):=by rw [Hid,oM.out,hcz];omega
    clear mI7 mR7 nI7 nR7 L7 t8 eP Gq Lg mi mI8 mR8 nI8 nR8 nL HOY Lh ho NF;go_wp2_with fail;go_roundw
    case rel=>exact ⟨j+1,by omega,by go_num,by rw [eQ.out],vX.out.1,vX.out.2⟩
    case measure=>simp [intOf];omega
   ·have HE:Hid (qV wr lo hi (some ⟨g,0,none⟩) cap (kX rs k0)∧k0+(qU (rs.take j):Int)=k0+qU rs):=by
     have e:j=rs.length:=by omega
     rw [e,HH.out.2] at hown;exact ⟨hown.out,by rw [e,List.take_length]⟩
    go_wp2;go_ret;exact ⟨ja HE.out.2,HE.out.1,NF⟩
theorem Su (rs:List qg) (k:Int) (j:Nat) (h:j<rs.length):(kX rs k).getD j qm=zN (rs.getD j qm) (k+qU (rs.take j)):=by
 have e:kX rs k=kX (rs.take j) k++kX (rs.drop j) (k+qU (rs.take j)):=by rw [← mr,List.take_append_drop]
 have hl:(kX (rs.take j) k).length=j:=by rw [um,List.length_take];omega
 rw [e,(K7 rs j h).1,kX];simp [List.getD,hl]
theorem NG (a:Option Addr) (cap:Nat) (k0:Int) (rs:List qg) (w:World) (hr:xc w a (kX rs k0)) (h0:0≤k0) (hk:k0+qU rs≤1152921504606846976) (hlm:rs.length≤9223372036854775807):
  Calls Tryz.prog 229 #[.slice a rs.length cap,.int .i64 k0] w fun e w'=>e=.returned (.int .i64 (k0+qU rs))∧w'=w:=by
 have Y9:=um rs k0;rcases hr.cases with h | ⟨b,off,rfl,hpos,hcell⟩
 ·have h':=congrArg List.length h;rw [Y9] at h';obtain rfl:=List.length_eq_zero_iff.1 h';go_enter Tryz.func229,Tryz.ntmps229;go_wp2;refine wp_loop_rounds 1 ?_;rw [rounds_succ];go_wp2;go_ret;exact ⟨by simp [qU],rfl⟩
 ·rw [Y9] at hpos hcell;go_enter Tryz.func229,Tryz.ntmps229;go_wp2
  go_loop [1,5] (fun kk i=>∃ j:Nat,j≤rs.length∧i=.int .i64 j∧kk=.int .i64 (k0+qU (rs.take j))) (fun _ i=>rs.length-(intOf i).toNat)
  case atStart=>exact ⟨0,Nat.zero_le _,rfl,by simp [qU]⟩
  case round=>
   obtain ⟨j,hj,rfl,rfl⟩:=hrel;by_cases hlt:j<rs.length
   ·obtain ⟨hc,hrd⟩:=hcell j hlt;have hcn:=VY rs j hlt;have hcl:=mD rs (j+1);rw [Su rs k0 j hlt] at hc hrd;have oM:Hid (k0+qU (rs.take (j+1))=k0+qU (rs.take j)+vY (rs.getD j qm)):=by rw [Hid,hcn];omega
    have hkb:0≤k0+(qU (rs.take j):Int)∧k0+(qU (rs.take j):Int)+vY (rs.getD j qm)≤1152921504606846976:=⟨by omega,by omega⟩;clear hcn hcl hk h0 hcell hpos hr Y9;generalize k0+(qU (rs.take j):Int)=kk at*
    generalize rs.getD j qm=z at*
    have hcz:vY z=10+z.bf.v.o.ints.length+z.bf.v.o.refs.length+z.af.v.o.ints.length+z.af.v.o.refs.length+3*z.txs.length:=rfl;have x0:w.cell? ⟨b,off+j*15,none⟩=some (.int .i64 kk):=hc 0 _ rfl;have x1:w.cell? ⟨b,off+j*15+1,none⟩=some (.int .i64 (kk+1)):=hc 1 _ rfl;have x2:w.cell? ⟨b,off+j*15+2,none⟩=some (.int .i64 (kk+1+1)):=hc 2 _ rfl;have x3:w.cell? ⟨b,off+j*15+3,none⟩=some (.int .i64 (kk+1+1+1)):=hc 3 _ rfl;have x4:w.cell? ⟨b,off+j*15+4,none⟩=some (.int .i64 (kk+1+1+1+1)):=hc 4 _ rfl;have x5:w.cell? ⟨b,off+j*15+5,none⟩=some (.bool ((kk+1+1+1+1+1) % 3 == 0)):=hc 5 _ rfl;have x6:w.cell? ⟨b,off+j*15+6,none⟩=some (.int .i64 (kk+1+1+1+1+1+1)):=hc 6 _ rfl;have x7:w.cell? ⟨b,off+j*15+7,none⟩=some (.slice z.bf.aI z.bf.v.o.ints.length z.bf.cI):=(hc 7 _ rfl).trans (by simp only [zN,qP]);have x8:w.cell? ⟨b,off+j*15+8,none⟩=some (.slice z.bf.aR z.bf.v.o.refs.length z.bf.cR):=(hc 8 _ rfl).trans (by simp only [zN,qP]);have x9:w.cell? ⟨b,off+j*15+9,none⟩=some (.bool ((kk+1+1+1+1+1+1+1+z.bf.v.o.ints.length+z.bf.v.o.refs.length) % 3 == 0)):=hc 9 _ rfl;have kJ:w.cell? ⟨b,off+j*15+10,none⟩=some (.int .i64 (kk+1+1+1+1+1+1+1+z.bf.v.o.ints.length+z.bf.v.o.refs.length+1)):=hc 10 _ rfl;have xy:w.cell? ⟨b,off+j*15+11,none⟩=some (.slice z.af.aI z.af.v.o.ints.length z.af.cI):=(hc 11 _ rfl).trans (by simp only [zN,qP]);have xz:w.cell? ⟨b,off+j*15+12,none⟩=some (.slice z.af.aR z.af.v.o.refs.length z.af.cR):=(hc 12 _ rfl).trans (by simp only [zN,qP]);have xG:w.cell? ⟨b,off+j*15+13,none⟩=some (.int .i64 (kk+1+1+1+1+1+1+1+z.bf.v.o.ints.length+z.bf.v.o.refs.length+1+1+z.af.v.o.ints.length+z.af.v.o.refs.length)):=hc 13 _ rfl;have xm:w.cell? ⟨b,off+j*15+14,none⟩=some (.slice z.aL z.txs.length z.cL):=(hc 14 _ rfl).trans (by simp only [zN,yz]);have C1:=heldIntS_any z.bf.aI z.bf.cI (kk+1+1+1+1+1+1+1) z.bf.v.o.ints.length w hrd.bf.ints (by omega) (by omega);have C2:=heldIntS_any z.bf.aR z.bf.cR (kk+1+1+1+1+1+1+1+z.bf.v.o.ints.length) z.bf.v.o.refs.length w hrd.bf.refs (by omega) (by omega);have C3:=heldIntS_any z.af.aI z.af.cI (kk+1+1+1+1+1+1+1+z.bf.v.o.ints.length+z.bf.v.o.refs.length+1+1) z.af.v.o.ints.length w hrd.af.ints (by omega) (by omega);have C4:=heldIntS_any z.af.aR z.af.cR (kk+1+1+1+1+1+1+1+z.bf.v.o.ints.length+z.bf.v.o.refs.length+1+1+z.af.v.o.ints.length) z.af.v.o.refs.length w hrd.af.refs (by omega) (by omega);have C5:=ZY z.aL z.cL (kk+1+1+1+1+1+1+1+z.bf.v.o.ints.length+z.bf.v.o.refs.length+1+1+z.af.v.o.ints.length+z.af.v.o.refs.length+1) z.txs.length w hrd.txs (by omega) (by omega);have eQ:Hid (k0+(qU (rs.take (j+1)):Int)=kk+1+1+1+1+1+1+1+z.bf.v.o.ints.length+z.bf.v.o.refs.length+1+1+z.af.v.o.ints.length+z.af.v.o.refs.length+1+3*z.txs.length):=by rw [Hid,oM.out,hcz];omega
    clear hc hrd oM;go_wp2_with fail;refine C1.mono ?_;clear C1 x0 x1 x2 x3 x4 x5 x6 x7;rintro e w1 ⟨rfl,h1⟩;rw [h1];clear h1 w1;go_wp2_with fail;refine C2.mono ?_;clear C2 x8;rintro e w1 ⟨rfl,h1⟩;rw [h1];clear h1 w1;go_wp2_with fail;refine C3.mono ?_;clear C3 x9 kJ xy;rintro e w1 ⟨rfl,h1⟩;rw [h1];clear h1 w1;go_wp2_with fail;refine C4.mono ?_;clear C4 xz;rintro e w1 ⟨rfl,h1⟩;rw [h1];clear h1 w1;go_wp2_with fail;refine C5.mono ?_;clear C5 xG xm;rintro e w1 ⟨rfl,h1⟩;rw [h1];clear h1 w1;go_wp2_with fail
    go_round
    case rel=>exact ⟨j+1,by omega,by go_num,by rw [eQ.out]⟩
    case measure=>simp [intOf];omega
   ·have HE:Hid (k0+(qU (rs.take j):Int)=k0+qU rs):=by
     have e:j=rs.length:=by omega
     rw [Hid,e,List.take_length]
    go_wp2;go_ret;exact ⟨ja HE.out,rfl⟩
def qz.mark (l:qz) (k:Int):qz:={ l with recs:=kX l.recs k }
def qz.count (l:qz):Nat:=qU l.recs
theorem Hm (l:qz) (lo hi:Nat) (k0:Int) (w:World) (ho:l.own w lo hi) (hl:l.short 1099511627776) (h0:0≤k0) (hk:k0+l.count≤1152921504606846976):
  Calls Tryz.prog 123 #[.agg l.cells.toArray,.int .i64 k0] w fun e w'=>e=.returned (.int .i64 (k0+l.count))∧(l.mark k0).own w' lo hi∧Touch l.blocks w w':=by
 obtain ⟨rs,s,a,c⟩:=l;have hl2:=hl.each;simp only [qz.cells,qz.own,qz.count,qz.mark,qz.blocks] at*
 obtain ⟨W,hW,b0,hbW,qp⟩:=qx w [.slice a rs.length c,.int .i64 s] 38;have c0:=b0.cell 0 _ rfl;have C:=pY lo hi a c k0 rs W (ho.below hbW) hl2 h0 hk;clear qp b0;go_enter Tryz.func123,Tryz.ntmps123;go_wp2_with fail;rw [hW.out];clear hW;refine C.mono ?_;rintro e w1 ⟨rfl,ho1,ht1⟩;go_wp2;go_ret;exact ⟨rfl,ho1,(Touch.of_below hbW).trans ht1⟩
theorem Dj (l:qz) (lo hi:Nat) (k0:Int) (w:World) (ho:(l.mark k0).own w lo hi) (hl:l.recs.length≤1099511627776) (h0:0≤k0) (hk:k0+l.count≤1152921504606846976):
  Calls Tryz.prog 128 #[.agg l.cells.toArray,.int .i64 k0] w fun e w'=>e=.returned (.int .i64 (k0+l.count))∧Below w.heap.size w w':=by
 obtain ⟨rs,s,a,c⟩:=l;simp only [qz.cells,qz.own,qz.count,qz.mark] at*
 obtain ⟨W,hW,b0,hbW,qp⟩:=qx w [.slice a rs.length c,.int .i64 s] 38;have c0:=b0.cell 0 _ rfl;have C:=NG a c k0 rs W (ho.below hbW).reads h0 hk (by omega);have hnn:¬ (k0+(qU rs:Int)<0):=by omega
 clear qp b0;go_enter Tryz.func128,Tryz.ntmps128;go_wp2_with fail;rw [hW.out];clear hW;refine C.mono ?_;rintro e w1 ⟨rfl,rfl⟩;go_wp2;go_ret;exact ⟨rfl,hbW⟩
theorem G5 (rs:List qg) (m:Nat) (h:∀ r∈rs,r.short m):qU rs≤rs.length*(10+7*m):=by
 induction rs with
 | nil=>simp [qU]
 | cons x r ih=>
  have h1:=h x (by simp);have h2:=ih (fun y hy=>h y (by simp [hy]));have hb:=h1.bf;have ha:=h1.af;have ht:=h1.txs;have hx:vY x≤10+7*m:=by simp only [vY];omega
  simp only [qU,List.length_cons,Nat.add_mul,Nat.one_mul];omega
def qa.qB (e:qa):qi:=⟨e.seats,e.hand,e.aS,e.cS⟩
theorem qa.shape.yQ {e:qa} (h:e.shape):zS e.disk:=⟨h.eight,h.four⟩
structure qa.reads (w:World) (e:qa):Prop where
 disk:∀ p∈e.disk,jK w p.ss
 pool:e.qB.reads w
 log:e.log.reads w
 txs:jW w e.aT e.txs
 holds:yt w e.aH e.holds
structure qa.short (e:qa) (m:Nat):Prop where
 disk:∀ p∈e.disk,∀ x∈p.ss,x.v.o.ints.length≤m∧x.v.o.refs.length≤m
 pool:e.qB.short m
 log:e.log.short m
 txs:e.txs.length≤m
 holds:e.holds.length≤m
theorem qa.short.fit {e:qa} (h:e.short 1099511627776):∀ p∈e.disk,Fit p.ss:=fun p hp s hs=>h.disk p hp s hs
theorem qa.reads.below {w w':World} {e:qa} (h:e.reads w) (hb:Below w.heap.size w w'):e.reads w':=
 ⟨fun p hp=>(h.disk p hp).below hb,h.pool.below hb,h.log.below hb,h.txs.below hb,h.holds.below hb⟩
theorem qG.eT {w:World} {lo hi:Nat} {ps:List qw} (h:qG w lo hi (ps.flatMap (·.ss))):∀ p∈ps,jK w p.ss:=fun p hp s hs=>h.reads s (List.mem_flatMap.2 ⟨p,hp,hs⟩)
theorem qa.own.reads {w:World} {lo hi:Nat} {e:qa} (h:e.own w lo hi):e.reads w:=⟨qG.eT h.disk,OwnSts.reads h.pool,qV.reads h.log,h.txs.reads,h.holds.reads⟩
theorem qH {w:World} {B:Nat} {t:TypeId} {e:qa} (h:e.shape) (b:Box w B e.cells t):
  w.rangeAt B 0 (qj e.disk)∧w.rangeAt B 136 e.qB.cells∧w.rangeAt B 138 e.log.cells∧w.cell? ⟨B,140,none⟩=some (.slice e.aT e.txs.length e.cT)∧w.cell? ⟨B,141,none⟩=some (.slice e.aH e.holds.length e.cH)∧w.cell? ⟨B,142,none⟩=some (.int .i64 e.next)∧w.cell? ⟨B,143,none⟩=some (.bool e.down):=by
 have hl:=qa.xx h;refine ⟨?_,?_,?_,qa.vV h b 4 _ rfl,qa.vV h b 5 _ rfl,qa.vV h b 6 _ rfl,qa.vV h b 7 _ rfl⟩
 ·exact Box.range [] (qj e.disk) e.tail b
 ·have:=Box.range (qj e.disk) e.qB.cells [.slice e.log.a e.log.recs.length e.log.c,.int .i64 e.log.sure,.slice e.aT e.txs.length e.cT,.slice e.aH e.holds.length e.cH,.int .i64 e.next,.bool e.down] b
  rwa [hl] at this
 ·have:=Box.range (qj e.disk++e.qB.cells) e.log.cells [.slice e.aT e.txs.length e.cT,.slice e.aH e.holds.length e.cH,.int .i64 e.next,.bool e.down] (by rw [List.append_assoc];exact b);rw [List.length_append,hl] at this;exact this
theorem QS (e f:qa) (se:e.shape) (sf:f.shape) (he:f.v=e.v) (w:World) (re:e.reads w) (rf:f.reads w) (hl:e.short 1099511627776):
  Calls Tryz.prog 32 #[.agg e.cells.toArray,.agg f.cells.toArray] w fun r w'=>r=.returned (.bool true)∧Below w.heap.size w w':=by
 simp only [qa.v,ji.mk.injEq] at he;obtain ⟨h1,h2,h3,h4,h5,h6,h7,h8⟩:=he;have HD:Hid (f.disk.map xH=e.disk.map xH):=h1;have lX:Hid (f.qB.v=e.qB.v):=by rw [Hid,qi.v,qi.v];simp only [qa.qB,h2,h3]
 have Iu:Hid (f.log.v=e.log.v):=h4;obtain ⟨W,hW,b0,b1,hbW,qp⟩:=jf w e.cells f.cells 42 42;have HE:Hid (∀ u,Below W.heap.size W u→_):=fun u hu=>qH se (b0.below hu b0.lt)
 have HF:Hid (∀ u,Below W.heap.size W u→_):=fun u hu=>qH sf (b1.below hu b1.lt)
 have HR:Hid (∀ u,Below W.heap.size W u→e.reads u∧f.reads u):=fun u hu=>⟨(re.below hbW).below hu,(rf.below hbW).below hu⟩
 have hie:=wD se.yQ;have hif:=wD sf.yQ;clear h1 h2 h3 h4 qp b0 b1;have N:Below W.heap.size W W:=Below.refl _ _;obtain ⟨p0,p1,p2,p3,p4,p5,p6⟩:=HE.out _ N;obtain ⟨q0,q1,q2,q3,q4,q5,q6⟩:=HF.out _ N;go_enter Tryz.func32,Tryz.ntmps32;go_wp2_with (first | (guard_target=wpList _ _ _ (Oper.mk (some 6) _ _ _ _ _::_) _ _;refine wpList_load_mid rfl 32 (.tmp 5) rfl w.heap.size 0 rfl (qj e.disk) _ (by rw [hW.out];exact p0) Tryz.underlying32 rfl hie ?_) | (guard_target=wpList _ _ _ (Oper.mk (some 8) _ _ _ _ _::_) _ _;refine wpList_load_mid rfl 32 (.tmp 7) rfl (w.heap.size+1) 0 rfl (qj f.disk) _ (by rw [hW.out];exact q0) Tryz.underlying32 rfl hif ?_) | fail);rw [hW.out];clear hW;refine (Hf e.disk f.disk se.yQ sf.yQ HD.out W (HR.out _ N).1.disk (HR.out _ N).2.disk hl.fit).mono ?_;rintro r w1 ⟨rfl,Li⟩;replace N:=N.trans (Li.mono N.size);clear p0 p1 p2 p3 p4 p5 p6 q0 q1 q2 q3 q4 q5 q6 Li;obtain ⟨p0,p1,p2,p3,p4,p5,p6⟩:=HE.out _ N;obtain ⟨q0,q1,q2,q3,q4,q5,q6⟩:=HF.out _ N;go_wp2_with (first | (guard_target=wpList _ _ _ (Oper.mk (some 12) _ _ _ _ _::_) _ _;refine wpList_load_mid rfl 35 (.tmp 11) rfl w.heap.size 136 rfl (e.qB.cells) _ p1 Tryz.underlying35 rfl (kY _) ?_) | (guard_target=wpList _ _ _ (Oper.mk (some 14) _ _ _ _ _::_) _ _;refine wpList_load_mid rfl 35 (.tmp 13) rfl (w.heap.size+1) 136 rfl (f.qB.cells) _ q1 Tryz.underlying35 rfl (kY _) ?_) | fail);refine (Dk e.qB f.qB lX.out w1 (HR.out _ N).1.pool (HR.out _ N).2.pool hl.pool).mono ?_;rintro r w2 ⟨rfl,hbw2⟩;replace N:=N.trans (hbw2.mono N.size);clear p0 p1 p2 p3 p4 p5 p6 q0 q1 q2 q3 q4 q5 q6 hbw2;obtain ⟨p0,p1,p2,p3,p4,p5,p6⟩:=HE.out _ N;obtain ⟨q0,q1,q2,q3,q4,q5,q6⟩:=HF.out _ N;go_wp2_with (first | (guard_target=wpList _ _ _ (Oper.mk (some 18) _ _ _ _ _::_) _ _;refine wpList_load_mid rfl 38 (.tmp 17) rfl w.heap.size 138 rfl (e.log.cells) _ p2 Tryz.underlying38 rfl (xQ _) ?_) | (guard_target=wpList _ _ _ (Oper.mk (some 20) _ _ _ _ _::_) _ _;refine wpList_load_mid rfl 38 (.tmp 19) rfl (w.heap.size+1) 138 rfl (f.log.cells) _ q2 Tryz.underlying38 rfl (xQ _) ?_) | fail);refine (Bj e.log f.log Iu.out w2 (HR.out _ N).1.log (HR.out _ N).2.log hl.log).mono ?_;rintro r w3 ⟨rfl,Lj⟩;replace N:=N.trans (Lj.mono N.size);clear p0 p1 p2 p3 p4 p5 p6 q0 q1 q2 q3 q4 q5 q6 Lj;obtain ⟨p0,p1,p2,p3,p4,p5,p6⟩:=HE.out _ N;obtain ⟨q0,q1,q2,q3,q4,q5,q6⟩:=HF.out _ N;rw [h5] at q3;have C4:=VZ e.aT f.aT e.cT f.cT e.txs w3 (HR.out _ N).1.txs (by have:=(HR.out _ N).2.txs;rwa [h5] at this) hl.txs;go_wp2_with fail;refine (C4).mono ?_;rintro r w4 ⟨rfl,Ll⟩;replace N:=N.trans (Ll.mono N.size);clear p0 p1 p2 p3 p4 p5 p6 q0 q1 q2 q3 q4 q5 q6 Ll;obtain ⟨p0,p1,p2,p3,p4,p5,p6⟩:=HE.out _ N;obtain ⟨q0,q1,q2,q3,q4,q5,q6⟩:=HF.out _ N;clear C4;rw [h6] at q4;have C5:=NH e.aH f.aH e.cH f.cH e.holds w4 (HR.out _ N).1.holds (by have:=(HR.out _ N).2.holds;rwa [h6] at this) hl.holds;go_wp2_with fail;refine (C5).mono ?_;rintro r w5 ⟨rfl,Lm⟩;replace N:=N.trans (Lm.mono N.size);clear p0 p1 p2 p3 p4 p5 p6 q0 q1 q2 q3 q4 q5 q6 Lm;obtain ⟨p0,p1,p2,p3,p4,p5,p6⟩:=HE.out _ N
 obtain ⟨q0,q1,q2,q3,q4,q5,q6⟩:=HF.out _ N;clear C5;rw [h7] at q5;rw [h8] at q6;have qR:Hid (Below w.heap.size w w5):=hbW.trans (N.mono hbW.size);clear h5 h6 h7 h8;go_wp2;go_ret;exact ⟨rfl,qR.out⟩
def qa.kP (e:qa) (k:Int):Int:=k+qO (qI e.disk)
def qa.kL (e:qa) (k:Int):Int:=e.kP k+e.qB.count
def qa.kT (e:qa) (k:Int):Int:=e.kL k+e.log.count
def qa.kH (e:qa) (k:Int):Int:=e.kT k+3*e.txs.length
def qa.kE (e:qa) (k:Int):Int:=e.kH k+2*e.holds.length
structure qa.marked (w:World) (lo hi:Nat) (e:qa) (k:Int):Prop where
 disk:qG w lo hi (jH (qI e.disk) k)
 pool:(e.qB.mark (e.kP k)).own w lo hi
 log:(e.log.mark (e.kL k)).own w lo hi
 txs:OwnL w lo hi e.aT e.cT (marksL (e.kT k) e.txs.length)
 holds:OwnH w lo hi e.aH e.cH (wX (e.kH k) e.holds.length)
theorem qa.marked.touch {w w':World} {lo hi:Nat} {e:qa} {k:Int} {bl:List Nat} (h:e.marked w lo hi k) (ht:Touch bl w w') (hd:∀ j∈e.blocks,j∉bl):e.marked w' lo hi k:=by
 simp only [qa.blocks,List.mem_append] at hd;refine ⟨h.disk.touch ht (fun j hj=>hd j (.inl (by rw [vw] at hj;exact hj))),h.pool.touch ht (fun j hj=>hd j (.inr (.inl ?_))),h.log.touch ht (fun j hj=>hd j (.inr (.inr (.inl ?_)))),h.txs.touch ht (fun j hj=>hd j (.inr (.inr (.inr (.inl ?_))))),h.holds.touch ht (fun j hj=>hd j (.inr (.inr (.inr (.inr ?_)))))⟩
 ·simpa [qi.blocks,qi.mark,qo,vR,Qp,qa.qB] using hj
 ·simpa [qz.blocks,qz.mark,kr,um,KJ] using hj
 ·rw [yz] at hj;exact Option.mem_toList.2 hj
 ·rw [vJ] at hj;exact Option.mem_toList.2 hj
theorem qa.marked.below {w w':World} {lo hi:Nat} {e:qa} {k:Int} (h:e.marked w lo hi k) (hb:Below w.heap.size w w'):e.marked w' lo hi k:=
 ⟨h.disk.below hb,h.pool.below hb,h.log.below hb,h.txs.below hb,h.holds.below hb⟩
theorem Xz (e:qa) (se:e.shape) (lo hi:Nat) (k0:Int) (w:World) (ho:e.own w lo hi) (hl:e.short 1099511627776) (h0:0≤k0) (hk:e.kP k0≤10995116277760∧e.kE k0≤1152921504606846976) (hhi:hi≤w.heap.size):
  Calls Tryz.prog 34 #[.agg e.cells.toArray,.int .i64 k0] w fun r w'=>r=.returned (.int .i64 (e.kE k0))∧e.marked w' lo hi k0∧Touch e.blocks w w':=by
 have hbl:=ho.ql;have zX:=ho.apart;obtain ⟨W,hW,b0,hbW,qp⟩:=qx w e.cells 42;have hs0:w.heap.size<W.heap.size:=by omega
 have Ib:w.heap.size∉e.blocks:=fun h=>by have:=(hbl _ h).2;omega
 have HE:Hid (∀ u,Touch e.blocks W u→_):=fun u hu=>qH se (b0.touch hu Ib)
 have hie:=wD se.yQ;have hb1:0≤e.kP k0∧e.kP k0≤10995116277760∧0≤e.kL k0∧e.kL k0≤1152921504606846976∧0≤e.kT k0∧e.kT k0≤1152921504606846976∧0≤e.kH k0∧e.kH k0≤1152921504606846976:=by unfold qa.kE qa.kH qa.kT qa.kL qa.kP at *;omega
 simp only [qa.blocks,List.nodup_append,List.mem_append] at zX;obtain ⟨_,⟨_,⟨_,⟨_,_,a45⟩,a3⟩,a2⟩,a1⟩:=zX;have od:=ho.disk.below hbW;have op:e.qB.own W lo hi:=OwnSts.below ho.pool hbW;have ol:e.log.own W lo hi:=qV.below ho.log hbW;have ot:=ho.txs.below hbW;have oh:=ho.holds.below hbW;have N:Touch e.blocks W W:=Touch.refl _ _;obtain ⟨p0,p1,p2,p3,p4,_,_⟩:=HE.out _ N;have C1:=Wj e.disk se.yQ lo hi k0 W od hl.fit h0 (by have:=hb1.2.1;unfold qa.kP at this;exact this) (by omega);go_enter Tryz.func34,Tryz.ntmps34;go_wp2_with (first | (guard_target=wpList _ _ _ (Oper.mk (some 6) _ _ _ _ _::_) _ _;refine wpList_load_mid rfl 32 (.tmp 5) rfl w.heap.size 0 rfl (qj e.disk) _ (by rw [hW.out];exact p0) Tryz.underlying32 rfl hie ?_) | fail);rw [hW.out];clear hW qp;refine C1.mono ?_;clear C1 p0 p1 p2 p3 p4 od;rintro r w1 ⟨rfl,od,t1⟩;have T1:Touch e.blocks W w1:=t1.mono (fun k hk=>List.mem_append.2 (.inl hk));replace op:e.qB.own w1 lo hi:=op.touch t1 (fun k hk hk'=>a1 k hk' k (.inl hk) rfl);replace ol:e.log.own w1 lo hi:=ol.touch t1 (fun k hk hk'=>a1 k hk' k (.inr (.inl hk)) rfl);replace ot:=ot.touch t1 (fun k hk hk'=>a1 k hk' k (.inr (.inr (.inl (Option.mem_toList.2 hk)))) rfl);replace oh:=oh.touch t1 (fun k hk hk'=>a1 k hk' k (.inr (.inr (.inr (Option.mem_toList.2 hk)))) rfl);obtain ⟨p0,p1,p2,p3,p4,_,_⟩:=HE.out _ T1;have C2:=di e.qB lo hi (e.kP k0) w1 op hl.pool hb1.1 (by have:=hb1.2.2.2.1;unfold qa.kL at this;omega);go_wp2_with (first | (guard_target=wpList _ _ _ (Oper.mk (some 10) _ _ _ _ _::_) _ _;refine wpList_load_mid rfl 35 (.tmp 9) rfl w.heap.size 136 rfl (e.qB.cells) _ p1 Tryz.underlying35 rfl (kY _) ?_) | fail);refine C2.mono ?_;clear C2 p0 p1 p2 p3 p4 op t1;rintro r w2 ⟨rfl,op,t2⟩;have hpb:e.qB.blocks=qo e.aS e.cS e.seats:=rfl;have T2:Touch e.blocks W w2:=T1.trans (t2.mono (fun k hk=>List.mem_append.2 (.inr (List.mem_append.2 (.inl hk)))));replace od:=od.touch t2 (fun k hk hk'=>a1 k (by rw [vw] at hk;exact hk) k (.inl hk') rfl);replace ol:e.log.own w2 lo hi:=ol.touch t2 (fun k hk hk'=>a2 k hk' k (.inl hk) rfl);replace ot:=ot.touch t2 (fun k hk hk'=>a2 k hk' k (.inr (.inl (Option.mem_toList.2 hk))) rfl);replace oh:=oh.touch t2 (fun k hk hk'=>a2 k hk' k (.inr (.inr (Option.mem_toList.2 hk))) rfl);obtain ⟨p0,p1,p2,p3,p4,_,_⟩:=HE.out _ T2;have C3:=Hm e.log lo hi (e.kL k0) w2 ol hl.log hb1.2.2.1 (by have:=hb1.2.2.2.2.2.1;unfold qa.kT at this;omega);go_wp2_with (first | (guard_target=wpList _ _ _ (Oper.mk (some 14) _ _ _ _ _::_) _ _;refine wpList_load_mid rfl 38 (.tmp 13) rfl w.heap.size 138 rfl (e.log.cells) _ p2 Tryz.underlying38 rfl (xQ _) ?_) | fail);refine C3.mono ?_;clear C3 p0 p1 p2 p3 p4 ol t2;rintro r w3 ⟨rfl,ol,t3⟩;have T3:Touch e.blocks W w3:=T2.trans (t3.mono (fun k hk=>List.mem_append.2 (.inr (List.mem_append.2 (.inr (List.mem_append.2 (.inl hk)))))));replace od:=od.touch t3 (fun k hk hk'=>a1 k (by rw [vw] at hk;exact hk) k (.inr (.inl hk')) rfl);replace op:(e.qB.mark (e.kP k0)).own w3 lo hi:=op.touch t3 (fun k hk hk'=>a2 k (by simpa [qi.blocks,qi.mark,qo,vR,Qp,qa.qB] using hk) k (.inl hk') rfl)
 replace ot:=ot.touch t3 (fun k hk hk'=>a3 k hk' k (.inl (Option.mem_toList.2 hk)) rfl);replace oh:=oh.touch t3 (fun k hk hk'=>a3 k hk' k (.inr (Option.mem_toList.2 hk)) rfl);obtain ⟨p0,p1,p2,p3,p4,_,_⟩:=HE.out _ T3;have C4:=ZX lo hi e.aT e.cT (e.kT k0) e.txs w3 ot hb1.2.2.2.2.1 (by have:=hb1.2.2.2.2.2.2.2;unfold qa.kH at this;omega);have E3:Hid (e.kL k0+(e.log.count:Int)=e.kT k0):=rfl;rw [E3.out];go_wp2_with fail;refine C4.mono ?_;clear C4 p0 p1 p2 p3 p4 ot t3 E3;rintro r w4 ⟨rfl,ot,t4⟩;have T4:Touch e.blocks W w4:=T3.trans (t4.mono (fun k hk=>List.mem_append.2 (.inr (List.mem_append.2 (.inr (List.mem_append.2 (.inr (List.mem_append.2 (.inl hk)))))))));replace od:=od.touch t4 (fun k hk hk'=>a1 k (by rw [vw] at hk;exact hk) k (.inr (.inr (.inl hk'))) rfl);replace op:(e.qB.mark (e.kP k0)).own w4 lo hi:=op.touch t4 (fun k hk hk'=>a2 k (by simpa [qi.blocks,qi.mark,qo,vR,Qp,qa.qB] using hk) k (.inr (.inl hk')) rfl);replace ol:(e.log.mark (e.kL k0)).own w4 lo hi:=ol.touch t4 (fun k hk hk'=>a3 k (by simpa [qz.blocks,qz.mark,kr,um,KJ] using hk) k (.inl hk') rfl);replace oh:=oh.touch t4 (fun k hk hk'=>a45 k hk' k (Option.mem_toList.2 hk) rfl);obtain ⟨p0,p1,p2,p3,p4,_,_⟩:=HE.out _ T4;have C5:=Ho lo hi e.aH e.cH (e.kH k0) e.holds w4 oh hb1.2.2.2.2.2.2.1 (by unfold qa.kE at hk;omega);have E4:Hid (e.kT k0+3*(e.txs.length:Int)=e.kH k0):=rfl;rw [E4.out];go_wp2_with fail;refine C5.mono ?_;clear C5 p0 p1 p2 p3 p4 oh E4;rintro r w5 ⟨rfl,oh,t5⟩;have T5:Touch e.blocks W w5:=T4.trans (t5.mono (fun k hk=>List.mem_append.2 (.inr (List.mem_append.2 (.inr (List.mem_append.2 (.inr (List.mem_append.2 (.inr hk)))))))));replace od:=od.touch t5 (fun k hk hk'=>a1 k (by rw [vw] at hk;exact hk) k (.inr (.inr (.inr hk'))) rfl);replace op:(e.qB.mark (e.kP k0)).own w5 lo hi:=op.touch t5 (fun k hk hk'=>a2 k (by simpa [qi.blocks,qi.mark,qo,vR,Qp,qa.qB] using hk) k (.inr (.inr hk')) rfl);replace ol:(e.log.mark (e.kL k0)).own w5 lo hi:=ol.touch t5 (fun k hk hk'=>a3 k (by simpa [qz.blocks,qz.mark,kr,um,KJ] using hk) k (.inr hk') rfl);replace ot:=ot.touch t5 (fun k hk hk'=>a45 k (by rw [yz] at hk;exact Option.mem_toList.2 hk) k hk' rfl);have qR:Hid (e.marked w5 lo hi k0∧Touch e.blocks w w5):=⟨⟨od,op,ol,ot,oh⟩,(Touch.of_below hbW).trans T5⟩;go_wp2;go_ret;exact ⟨rfl,qR.out.1,qR.out.2⟩
theorem Y6 (e:qa) (se:e.shape) (lo hi:Nat) (k0:Int) (w:World) (ho:e.marked w lo hi k0) (hl:e.short 1099511627776) (h0:0≤k0) (hk:e.kP k0≤10995116277760∧e.kE k0≤1152921504606846976):
  Calls Tryz.prog 36 #[.agg e.cells.toArray,.int .i64 k0] w fun r w'=>r=.returned (.int .i64 (e.kE k0))∧Below w.heap.size w w':=by
 obtain ⟨W,hW,b0,hbW,qp⟩:=qx w e.cells 42;have HE:Hid (∀ u,Below W.heap.size W u→_):=fun u hu=>qH se (b0.below hu b0.lt)
 have hie:=wD se.yQ;have hb1:0≤e.kP k0∧e.kP k0≤10995116277760∧0≤e.kL k0∧e.kL k0≤1152921504606846976∧0≤e.kT k0∧e.kT k0≤1152921504606846976∧0≤e.kH k0∧e.kH k0≤1152921504606846976∧0≤e.kE k0:=by unfold qa.kE qa.kH qa.kT qa.kL qa.kP at *;omega
 have HM:Hid (∀ u,Below W.heap.size W u→e.marked u lo hi k0):=fun u hu=>(ho.below hbW).below hu
 have N:Below W.heap.size W W:=Below.refl _ _;obtain ⟨p0,p1,p2,p3,p4,_,_⟩:=HE.out _ N;have C1:=pJ e.disk se.yQ lo hi k0 W (HM.out _ N).disk hl.fit h0 (by have:=hb1.2.1;unfold qa.kP at this;exact this);go_enter Tryz.func36,Tryz.ntmps36;go_wp2_with (first | (guard_target=wpList _ _ _ (Oper.mk (some 6) _ _ _ _ _::_) _ _;refine wpList_load_mid rfl 32 (.tmp 5) rfl w.heap.size 0 rfl (qj e.disk) _ (by rw [hW.out];exact p0) Tryz.underlying32 rfl hie ?_) | fail);rw [hW.out];clear hW qp;refine C1.mono ?_;clear C1 p0 p1 p2 p3 p4;rintro r w1 ⟨rfl,hb⟩;replace N:=N.trans (hb.mono N.size);obtain ⟨p0,p1,p2,p3,p4,_,_⟩:=HE.out _ N;have E1:Hid (k0+(qO (qI e.disk):Int)=e.kP k0):=rfl;rw [E1.out];have n1:¬ e.kP k0<0:=by omega
 have C2:=NJ e.qB lo hi (e.kP k0) w1 (HM.out _ N).pool hl.pool.len hb1.1 (by have:=hb1.2.2.2.1;unfold qa.kL at this;omega);clear hb E1;go_wp2_with (first | (guard_target=wpList _ _ _ (Oper.mk (some 12) _ _ _ _ _::_) _ _;refine wpList_load_mid rfl 35 (.tmp 11) rfl w.heap.size 136 rfl (e.qB.cells) _ p1 Tryz.underlying35 rfl (kY _) ?_) | fail);refine C2.mono ?_;clear C2 p0 p1 p2 p3 p4;rintro r w2 ⟨rfl,hb⟩;replace N:=N.trans (hb.mono N.size);obtain ⟨p0,p1,p2,p3,p4,_,_⟩:=HE.out _ N;have E1:Hid (e.kP k0+(e.qB.count:Int)=e.kL k0):=rfl;rw [E1.out];have n2:¬ e.kL k0<0:=by omega
 have C3:=Dj e.log lo hi (e.kL k0) w2 (HM.out _ N).log hl.log.len hb1.2.2.1 (by have:=hb1.2.2.2.2.2.1;unfold qa.kT at this;omega);clear hb E1;go_wp2_with (first | (guard_target=wpList _ _ _ (Oper.mk (some 18) _ _ _ _ _::_) _ _;refine wpList_load_mid rfl 38 (.tmp 17) rfl w.heap.size 138 rfl (e.log.cells) _ p2 Tryz.underlying38 rfl (xQ _) ?_) | fail);refine C3.mono ?_;clear C3 p0 p1 p2 p3 p4;rintro r w3 ⟨rfl,hb⟩;replace N:=N.trans (hb.mono N.size);obtain ⟨p0,p1,p2,p3,p4,_,_⟩:=HE.out _ N;have E1:Hid (e.kL k0+(e.log.count:Int)=e.kT k0):=rfl;rw [E1.out];have n3:¬ e.kT k0<0:=by omega
 have C4:=ZY e.aT e.cT (e.kT k0) e.txs.length w3 (HM.out _ N).txs.reads hb1.2.2.2.2.1 (by have:=hb1.2.2.2.2.2.2.2.1;unfold qa.kH at this;omega);clear hb E1;go_wp2_with fail;refine C4.mono ?_;clear C4;rintro r w4 ⟨rfl,rfl⟩;have E1:Hid (e.kT k0+3*(e.txs.length:Int)=e.kH k0):=rfl;rw [E1.out];have n4:¬ e.kH k0<0:=by omega
 have C5:=Hq e.aH e.cH (e.kH k0) e.holds.length w4 (HM.out _ N).holds.reads hb1.2.2.2.2.2.2.1 (by unfold qa.kE at hk;omega);clear E1;go_wp2_with fail;refine C5.mono ?_;clear C5;rintro r w5 ⟨rfl,rfl⟩;have E1:Hid (e.kH k0+2*(e.holds.length:Int)=e.kE k0):=rfl;rw [E1.out];have n5:¬ e.kE k0<0:=by omega
 have qR:Hid (Below w.heap.size w w5):=hbW.trans (N.mono hbW.size);go_wp2;go_ret;exact ⟨rfl,qR.out⟩
theorem kI {e:qa} (h:e.shape):(Tryz.prog.info? 42).map (·.size)=some e.cells.length:=by rw [qa.xR h];exact Tryz.AP
theorem JW (e:qa):∀ v∈e.cells,v.oneCell'=true:=by
 intro v hv;simp only [qa.cells,List.mem_append] at hv;rcases hv with hv | hv
 ·obtain ⟨p,_,hp⟩:=List.mem_flatMap.1 hv;exact Qx p v hp
 ·simp only [qa.tail,List.mem_cons,List.not_mem_nil,or_false] at hv;rcases hv with rfl | rfl | rfl | rfl | rfl | rfl | rfl | rfl<;>rfl
theorem yM:zeroE.shape:=⟨rfl,fun p hp=>by
 simp only [zeroE,List.mem_cons,List.not_mem_nil,or_false] at hp;have:p=qM:=by rcases hp with h | h | h | h | h | h | h | h<;>exact h
 rw [this];rfl⟩
theorem Qj {w:World} {C:Nat} {q old:qa} (hq:q.shape) (ho:old.shape) (bC:Box w C old.cells TE):
  ∃ WF,Hid (w.setCells C 0 q.cells.toArray.toList=WF)∧Within C (C+1) w WF∧WF.heap.size=w.heap.size∧Hid (w.there C 0 q.cells.toArray.size)∧Box WF C q.cells TE:=by
 obtain ⟨WF,qF,bF,hwF,qN⟩:=jb [] old.cells q.cells [] (by simpa using bC) (by rw [qa.xR hq,qa.xR ho]);refine ⟨WF,qF,hwF,qN,bC.there 0 _ (by rw [List.size_toArray,qa.xR hq,qa.xR ho];omega),by simpa using bF⟩
theorem Xn {w:World} {C:Nat} {q:qa} (hq:q.shape) (b:Box w C q.cells TE):(loadVar 42 ⟨C,0,none⟩).run Tryz.prog w=.ok (.agg q.cells.toArray) w:=
 run_loadVar_mid (P:=Tryz.prog) w C 0 42 q.cells _ (Box.range [] q.cells [] (by simpa using b)) Tryz.underlying42 rfl (kI hq)
theorem z8 {w:World} {ops:Array Oper} {rest:List Oper} {dst:Option Nat} {ty:TypeId} {pos:String} {KN:Array Edge} {act:Act} {Q:Exit→Act→World→Prop} (T:TypeId) (cs:List Value)
  (hz:(Tryz.prog.info? T).map (·.zero)=some (some (.agg cs.toArray)))
  (h:wpList Tryz.prog ops Q rest (act.put dst (.pointer (some ⟨w.heap.size,0,none⟩))) (w.alloc (.cells cs.toArray T))):
  wpList Tryz.prog ops Q ({ dst:=dst,op:=.alloc T,type:=ty,pos:=pos,after:=KN,guard:=none }::rest) act w:=by
 refine wpList_plain rfl fun K hK=>?_
 cases hi:Tryz.prog.info? T with
 | none=>rw [hi] at hz;cases hz
 | some inf=>
  rw [hi] at hz;have hz':inf.zero=some (.agg cs.toArray):=by simpa using hz
  unfold Oper.wp execOp;have e1:(zeroValue T).run Tryz.prog w=.ok (.agg cs.toArray) w:=by simp [zeroValue,typeInfo,hi,hz']
  have e2:(Instr.alloc T true (.tuple #[])).run Tryz.prog w=.ok (.pointer (some ⟨w.heap.size,0,none⟩)) (w.alloc (.cells cs.toArray T)):=by
   unfold Instr.alloc;simp only [Sem.run_bind,e1,Result.andThen_ok];simp [newVar,go_sem]
  simp only [Sem.run_bind,e2,Result.andThen_ok,Sem.run_pure];exact hK _ _ h
def BQ:List qw:=List.replicate 8 qM
theorem AQ:zS BQ:=⟨rfl,fun p hp=>by rw [List.eq_of_mem_replicate hp];rfl⟩
theorem Tryz.Lp:(Tryz.prog.info? 32).map (·.zero)=some (some (.agg (qj BQ).toArray)):=by kernel_rfl
theorem vM (a b:List qw):qj (a++b)=qj a++qj b:=by simp only [qj,List.flatMap_append]
theorem wS (p:qw) (b:List qw):qj (p::b)=p.cells++qj b:=by simp only [qj,List.flatMap_cons]
theorem oN (ps:List qw):∀ v∈qj ps,v.oneCell'=true:=fun v hv=>by
 obtain ⟨p,_,hp⟩:=List.mem_flatMap.1 hv;exact Qx p v hp
theorem mF (p:qw) (h:p.ss.length=4):(Tryz.prog.info? 66).map (·.size)=some p.cells.length:=by rw [jo _ h];kernel_rfl
theorem UM {ps:List qw} (h:zS ps):(Tryz.prog.info? 67).map (·.size)=some (qj ps).length:=by rw [jL _ h.four,h.eight];kernel_rfl
theorem qG.sO {w:World} {lo mid hi:Nat} {A B:List qf} (h:qG w lo mid A) (hb:qG w mid hi B) (h1:lo≤mid) (h2:mid≤hi) (hhi:hi≤w.heap.size):qG w lo hi (A++B):=by
 have ha:=h.widen (Nat.le_refl _) h2 hhi;have hb':=hb.widen h1 (Nat.le_refl _) hhi;refine ⟨fun s hs=>(List.mem_append.1 hs).elim (ha.each s) (hb'.each s),?_⟩;rw [List.flatMap_append,List.nodup_append];exact ⟨h.apart,hb.apart,fun x hx y hy e=>by have:=h.ql x hx;have:=hb.ql y hy;omega⟩
theorem NK (ps:List qw) (hp:zS ps) (w:World) (hr:∀ p∈ps,jK w p.ss) (hf:∀ p∈ps,Fit p.ss):
  Calls Tryz.prog 110 #[.agg (qj ps).toArray] w fun e w'=>∃ ts:List qw,e=.returned (.agg (qj ts).toArray)∧zS ts∧Hid (ts.map xH=ps.map xH)∧qG w' w.heap.size w'.heap.size (qI ts)∧Below w.heap.size w w':=by
 obtain ⟨Z,hZ⟩:∃ Z,Hid (BQ=Z):=⟨_,rfl⟩;have oO:zS Z:=by rw [← hZ.out];exact AQ
 have HZ:=Tryz.Lp;rw [hZ.out] at HZ;obtain ⟨W,hW,b1,b2,b3,hbW,qp⟩:=yn w (qj ps) (qj Z) (qj Z) 67 32 32;have hs0:w.heap.size+1+1<W.heap.size:=by omega
 go_enter Tryz.func110,Tryz.ntmps110;go_wp2_with (first | (guard_target=wpList _ _ _ (Oper.mk _ (Op.alloc _) _ _ _ _::_) _ _;refine z8 32 (qj Z) HZ ?_) | fail);rw [hW.out];clear hW qp;have b3':Box W (w.heap.size+1+1) (qj ([]++List.replicate (8-0) qM)) 32:=by rw [← hZ.out] at b3;exact b3
 clear b3;go_loopw [4] (fun i wr=>∃ (k:Nat) (ts:List qw),k≤8∧i=.int .i64 (k:Int)∧Hid (ts.length=k∧(∀ p∈ts,p.ss.length=4)∧ts.map xH=(ps.take k).map xH)∧qG wr W.heap.size wr.heap.size (qI ts)∧Box wr w.heap.size (qj ps) 67∧Box wr (w.heap.size+1) (qj Z) 32∧Box wr (w.heap.size+1+1) (qj (ts++List.replicate (8-k) qM)) 32∧Below w.heap.size w wr∧W.heap.size≤wr.heap.size) (fun i _=>8-(intOf i).toNat)
 case atStart=>exact ⟨0,[],Nat.zero_le _,rfl,⟨rfl,fun p hp=>by (simp at hp),rfl⟩,qG.nil _ _ _,b1,b2,b3',hbW,Nat.le_refl _⟩
 case round=>
  obtain ⟨k,ts,hk,rfl,hts,hown,c1,c2,c3,hnx,uX⟩:=hrel;clear b1 b2 b3';by_cases hlt:k<8
  ·have hkl:k<ps.length:=by rw [hp.eight];exact hlt
   have r1:=Xd hp c1 k hlt;have zT:=hp.at hlt;have F1:=hf _ (j4 (k:=k) hkl);have R1:=(hr _ (j4 (k:=k) hkl)).below hnx;have Qs:Hid ((ps.take (k+1)).map xH=(ps.take k).map xH++[xH (ps.getD k qM)]):=by rw [Hid,List.take_succ_eq_append_getElem hkl,zm hkl,List.map_append];rfl
   have C:=mG (ps.getD k qM) zT wr R1 F1;generalize ps.getD k qM=p at*
   have JK:=mF p zT;have hi0:(0:Int)≤(k:Int):=by omega
   have dW:(k:Int)<8:=by omega
   go_wp2_with (first | (guard_target=wpList _ _ _ (Oper.mk (some 12) _ _ _ _ _::_) _ _;refine wpList_load_mid rfl 66 (.tmp 11) rfl w.heap.size (k*17) rfl (p.cells) _ r1 Tryz.underlying66 rfl JK ?_) | fail);refine C.mono ?_;clear C r1;rintro e w1 ⟨us,rfl,hv,ho1,hb1⟩;have dZ:us.length=4:=by have:=congrArg List.length hv.out;simp only [List.length_map] at this;omega
   have s1:=hb1.size;obtain ⟨q,hq⟩:∃ q:qw,Hid ((⟨p.lsn,us⟩:qw)=q):=⟨_,rfl⟩;have hq4:q.ss.length=4:=by rw [← hq.out];exact dZ
   have oq:qG w1 wr.heap.size w1.heap.size q.ss:=by rw [← hq.out];exact ho1
   have KO:Hid (xH q=xH p):=by rw [Hid,← hq.out];simp only [xH];rw [hv.out]
   rw [hq.out];clear hq hv ho1 dZ;replace c1:=c1.below hb1 c1.lt;replace c2:=c2.below hb1 c2.lt;replace c3:=c3.below hb1 c3.lt;have hown1:=hown.below hb1;replace hnx:=hnx.trans (hb1.mono hnx.size);have e8:8-k=(8-(k+1))+1:=by omega
   rw [vM,e8,List.replicate_succ,wS] at c3;obtain ⟨W2,hW2,d3,hw2,hs2⟩:=jb (qj ts) qM.cells q.cells (qj (List.replicate (8-(k+1)) qM)) c3 (by rw [jo q hq4];rfl);have hl3:(qj ts).length=k*17:=by rw [jL _ hts.out.2.1,hts.out.1]
   rw [hl3] at hW2;have XX:Hid (w1.there (w.heap.size+1+1) (k*17) q.cells.toArray.size):=c3.there _ _ (by rw [List.size_toArray,jo q hq4,List.length_append,List.length_append,hl3,jo qM rfl];omega);have s2:=hw2.size;have FN:Box W2 (w.heap.size+1+1) (qj ((ts++[q])++List.replicate (8-(k+1)) qM)) 32:=by
    rw [List.append_assoc,vM,List.singleton_append,wS];exact d3
   have c1':=c1.within hw2 (by omega);have c2':=c2.within hw2 (by omega);have HOW:Hid (qG W2 W.heap.size W2.heap.size (qI (ts++[q]))):=by
    rw [Hid,Jn,QC];have o:=(hown1.sO oq uX (by omega) (Nat.le_refl _))
    simpa [qI] using (o.within hw2 (.inr (by omega))).widen (Nat.le_refl _) s2 (Nat.le_refl _)
   have Ga:Hid ((ts++[q]).length=k+1∧(∀ p∈ts++[q],p.ss.length=4)∧(ts++[q]).map xH=(ps.take (k+1)).map xH):=by
    refine ⟨by rw [List.length_append,hts.out.1];rfl,fun x hx=>?_,?_⟩
    ·rcases List.mem_append.1 hx with h | h
     ·exact hts.out.2.1 x h
     ·rw [List.mem_singleton.1 h];exact hq4
    ·rw [Qs.out,List.map_append,hts.out.2.2,← KO.out];rfl
   have HN:Hid (Below w.heap.size w W2∧W.heap.size≤W2.heap.size):=⟨hnx.trans (hw2.below (by have:=hbW.size;omega) (by omega)),by omega⟩;have Xl:Hid ((Tryz.prog.info? 31).map (·.size)=some q.cells.toArray.size):=jM q hq4;have Gb:=all_oneCell_toArray (Qx q);have HW2:Hid (w1.setCells (w.heap.size+1+1) (k*17) q.cells.toArray.toList=W2):=hW2.out;clear c1 c2 c3 d3 hown hown1 oq hw2 hs2 hW2 hnx hts Qs KO hl3 e8 hb1;go_wp2_with (first | (guard_target=wpList _ _ _ (Oper.mk none (Op.store _ (Operand.tmp 14) _) _ _ _ _::_) _ _;refine wpList_store_mid rfl 31 (.tmp 14) (.tmp 13) rfl (w.heap.size+1+1) (k*17) (q.cells).toArray rfl rfl XX.out Xl.out Gb ?_) | fail);rw [HW2.out];go_roundw
   case rel=>exact ⟨k+1,ts++[q],by omega,by go_num,Ga,HOW.out,c1',c2',FN,HN.out.1,HN.out.2⟩
   case measure=>simp [intOf];omega
  ·obtain rfl:k=8:=by omega
   have hkk:¬ ((8:Nat):Int)<8:=by omega
   have e0:ts++List.replicate (8-8) qM=ts:=by simp
   rw [e0] at c3;have Qt:zS ts:=⟨hts.out.1,hts.out.2.1⟩;have HV:Hid (ts.map xH=ps.map xH):=by rw [Hid,hts.out.2.2,← hp.eight,List.take_length]
   have r3:wr.rangeAt (w.heap.size+1+1) 0 (qj ts):=Box.range [] (qj ts) [] (by simpa using c3);obtain ⟨WF,qF,bF,hwF,qN⟩:=jb [] (qj Z) (qj ts) [] (by simpa using c2) (by rw [jL _ Qt.four,jL _ oO.four,Qt.eight,oO.eight]);have sF:=hwF.size;have Jp:Box WF (w.heap.size+1) (qj ts) 32:=by simpa using bF
   have XX:Hid (wr.there (w.heap.size+1) 0 (qj ts).toArray.size):=c2.there _ _ (by rw [List.size_toArray,jL _ Qt.four,jL _ oO.four,Qt.eight,oO.eight];omega);have HL:Hid ((loadVar 32 ⟨w.heap.size+1,0,none⟩).run Tryz.prog WF=.ok (.agg (qj ts).toArray) WF):=run_loadVar_mid (P:=Tryz.prog) WF (w.heap.size+1) 0 32 (qj ts) _ (Box.range [] (qj ts) [] (by simpa using Jp)) Tryz.underlying32 rfl (wD Qt);have qR:Hid (qG WF w.heap.size WF.heap.size (qI ts)∧Below w.heap.size w WF):=⟨(hown.within hwF (.inr (by omega))).widen (by omega) (by omega) (Nat.le_refl _),hnx.trans (hwF.below (by omega) (by have:=hnx.size;omega))⟩;have zK:Hid (wr.setCells (w.heap.size+1) 0 (qj ts).toArray.toList=WF):=qF.out;have HI:=wD Qt;have HO:=all_oneCell_toArray (oN ts);clear c1 c2 c3 hown hwF qN bF Jp qF hnx e0 hts;go_wp2_with (first | (guard_target=wpList _ _ _ (Oper.mk (some 15) _ _ _ _ _::_) _ _;refine wpList_load_mid rfl 32 (.tmp 3) rfl (w.heap.size+1+1) 0 rfl (qj ts) _ r3 Tryz.underlying32 rfl HI ?_) | (guard_target=wpList _ _ _ (Oper.mk none (Op.store _ (Operand.tmp 2) _) _ _ _ _::_) _ _;refine wpList_store_mid rfl 32 (.tmp 2) (.tmp 15) rfl (w.heap.size+1) 0 (qj ts).toArray rfl rfl XX.out (by rw [List.size_toArray];exact HI) HO ?_) | fail);rw [zK.out];exact bodyPost_ret (v:=.agg (qj ts).toArray) (jk Tryz.results110 rfl HL.out) rfl ⟨ts,rfl,Qt,HV,qR.out.1,qR.out.2⟩
theorem NL (ps:List qw) (hp:zS ps) (left:Int) (w:World) (hn:∀ p∈ps,Small p.ss) (h0:0≤left∧left≤1048576):
  Calls Tryz.prog 101 #[.agg (qj ps).toArray,.int .i64 left] w fun e w'=>∃ z:Int,e=.returned (.int .i64 z)∧(z<0∨(0≤z∧z≤left∧∀ p∈ps,∀ s∈p.ss,s.v.o.ints.length≤1048576∧s.v.o.refs.length≤1048576))∧Below w.heap.size w w':=by
 obtain ⟨W,hW,b0,hbW,qp⟩:=qx w (qj ps) 67;go_enter Tryz.func101,Tryz.ntmps101;go_wp2_with fail;rw [hW.out];clear hW qp;go_loopw [1,5] (fun kk i wr=>∃ (k:Nat) (z:Int),k≤8∧i=.int .i64 (k:Int)∧kk=.int .i64 z∧Hid (0≤z∧z≤left∧∀ p∈ps.take k,∀ s∈p.ss,s.v.o.ints.length≤1048576∧s.v.o.refs.length≤1048576)∧Below W.heap.size W wr) (fun _ i _=>8-(intOf i).toNat)
 case atStart=>exact ⟨0,left,Nat.zero_le _,rfl,rfl,⟨h0.1,Int.le_refl _,fun p hp=>by (simp at hp)⟩,Below.refl _ _⟩
 case round=>
  obtain ⟨k,z,fe,rfl,rfl,hz,hbr⟩:=hrel;have hz0:=hz.out.1;have hz1:=hz.out.2.1;by_cases hlt:k<8
  ·have hkl:k<ps.length:=by rw [hp.eight];exact hlt
   have r1:=Xd hp (b0.below hbr b0.lt) k hlt;have zT:=hp.at hlt;have C:=mH (ps.getD k qM) zT z wr (hn _ (j4 (k:=k) hkl)) ⟨hz0,by omega⟩;have Qs:Hid (∀ p∈ps.take (k+1),p∈ps.take k∨p=ps.getD k qM):=fun p hp=>by
    rw [List.take_succ_eq_append_getElem hkl,zm hkl] at hp;rcases List.mem_append.1 hp with h | h
    ·exact .inl h
    ·exact .inr (List.mem_singleton.1 h)
   generalize ps.getD k qM=p at*
   have JK:=mF p zT;have hi0:(0:Int)≤(k:Int):=by omega
   have dW:(k:Int)<8:=by omega
   go_wp2_with (first | (guard_target=wpList _ _ _ (Oper.mk (some 12) _ _ _ _ _::_) _ _;refine wpList_load_mid rfl 66 (.tmp 11) rfl w.heap.size (k*17) rfl (p.cells) _ r1 Tryz.underlying66 rfl JK ?_) | fail);refine C.mono ?_;clear C r1;rintro e w1 ⟨y,rfl,hy,hb1⟩;have HB:Hid (Below W.heap.size W w1):=hbr.trans (hb1.mono hbr.size);clear hbr hb1;rcases hy with hy | ⟨hy0,hyz,hys⟩
   ·have HE:Hid (Below w.heap.size w w1):=hbW.trans (HB.out.mono hbW.size);go_wp2;go_ret;exact ⟨-1,rfl,.inl (by omega),HE.out⟩
   ·have hny:¬ y<0:=by omega
    have HH:Hid (0≤y∧y≤left∧∀ p∈ps.take (k+1),∀ s∈p.ss,s.v.o.ints.length≤1048576∧s.v.o.refs.length≤1048576):=⟨hy0,by omega,fun q hq s hs=>by
     rcases Qs.out q hq with h | h
     ·exact hz.out.2.2 q h s hs
     ·rw [h] at hs;exact hys s hs⟩
    clear hys hz Qs;go_wp2_with fail;go_roundw
    case rel=>exact ⟨k+1,y,by omega,by go_num,rfl,HH,HB.out⟩
    case measure=>simp [intOf];omega
  ·obtain rfl:k=8:=by omega
   have hkk:¬ ((8:Nat):Int)<8:=by omega
   have e1:ps.take 8=ps:=by rw [← hp.eight,List.take_length]
   have HE:Hid (Below w.heap.size w wr∧(0≤z∧z≤left∧∀ p∈ps,∀ s∈p.ss,s.v.o.ints.length≤1048576∧s.v.o.refs.length≤1048576)):=⟨hbW.trans (hbr.mono hbW.size),by have:=hz.out;rw [e1] at this;exact this⟩;clear e1 hz;go_wp2;go_ret;exact ⟨z,rfl,.inr HE.out.2,HE.out.1⟩
theorem Dl (a:Option Addr) (c n:Nat) (left:Int) (w:World) (hn:n≤9223372036854775807) (h0:0≤left∧left≤1048576):
  Calls Tryz.prog 105 #[.slice a n c,.int .i64 left] w fun e w'=>e=.returned (.int .i64 (yj n left))∧w'=w:=by
 by_cases h:left-n<0
 ·have HS:Hid (yj n left= -1):=by unfold yj;rw [Hid,if_pos h]
  go_enter Tryz.func105,Tryz.ntmps105;go_wp2;go_ret;exact ⟨ja HS.out.symm,rfl⟩
 ·have HS:Hid (yj n left=left-n):=by unfold yj;rw [Hid,if_neg h]
  go_enter Tryz.func105,Tryz.ntmps105;go_wp2;go_ret;exact ⟨ja HS.out.symm,rfl⟩
end Go.Proofs.YtjkckhfddgeboaaGreatDoor
namespace Go.Proofs.YtjkckhfddgeboaaGreatDoor
open Go.RowKit
theorem Re {e:qa} (h:e.shape):(Tryz.prog.info? 77).map (·.size)=some e.cells.length:=by rw [qa.xR h];kernel_rfl
theorem UN (q:qi):(Tryz.prog.info? 70).map (·.size)=some q.cells.length:=by show _=some 2;kernel_rfl
theorem mJ (q:qz):(Tryz.prog.info? 73).map (·.size)=some q.cells.length:=by show _=some 2;kernel_rfl
theorem uZ {w:World} {B:Nat} {A R:List Value} {t:TypeId} (b:Box w B (A++R) t) (hA:A.length=136) (j:Nat) (v:Value):
  ∃ W,Hid (w.setCell ⟨B,136+j,none⟩ v=W)∧Box W B (A++R.set j v) t∧Within B (B+1) w W∧W.heap.size=w.heap.size:=by
 obtain ⟨W,hW,b',hw,hs⟩:=jB b (136+j) v;refine ⟨W,hW,?_,hw,hs⟩;rw [List.set_append_right _ _ (by omega),hA,show 136+j-136=j by omega] at b';exact b'
theorem WW {w:World} {e:qa} {a0 a1 a2 a3 a4 a5:Nat} (h1:qG w a0 a1 (qI e.disk)) (h2:OwnSts w a1 a2 e.aS e.cS e.seats) (h3:qV w a2 a3 e.log.a e.log.c e.log.recs) (h4:OwnL w a3 a4 e.aT e.cT e.txs) (h5:OwnH w a4 a5 e.aH e.cH e.holds)
  (l1:a0≤a1) (l2:a1≤a2) (l3:a2≤a3) (l4:a3≤a4) (l5:a4≤a5) (h:a5≤w.heap.size):e.own w a0 a5:=by
 refine ⟨h1.widen (Nat.le_refl _) (by omega) h,h2.widen (by omega) (by omega) h,h3.widen (by omega) (by omega) h,h4.widen (by omega) (by omega) h,h5.widen (by omega) (Nat.le_refl _) h,?_⟩;simp only [qa.blocks,List.nodup_append,List.mem_append];have b1:=h1.ql;have b2:=h2.ql;have b3:=h3.ql;have b4:∀ k∈rowOf e.aT e.txs.length e.cT,a3≤k∧k<a4:=fun k hk=>h4.lt k (Option.mem_toList.1 hk)
 have b5:∀ k∈rowOf e.aH e.holds.length e.cH,a4≤k∧k<a5:=fun k hk=>h5.lt k (Option.mem_toList.1 hk)
 have nr:∀ o:Option Nat,o.toList.Nodup:=fun o=>by cases o<;>simp
 refine ⟨h1.apart,⟨h2.apart,⟨h3.apart,⟨nr _,nr _,fun x hx y hy q=>?_⟩,fun x hx y hy q=>?_⟩,fun x hx y hy q=>?_⟩,fun x hx y hy q=>?_⟩
 ·have:=b4 x hx;have:=b5 y hy;omega
 ·have:=b3 x hx;rcases hy with hy | hy
  ·have:=b4 y hy;omega
  ·have:=b5 y hy;omega
 ·have:=b2 x hx;rcases hy with hy | hy | hy
  ·have:=b3 y hy;omega
  ·have:=b4 y hy;omega
  ·have:=b5 y hy;omega
 ·have:=b1 x hx;rcases hy with hy | hy | hy | hy
  ·have:=b2 y hy;omega
  ·have:=b3 y hy;omega
  ·have:=b4 y hy;omega
  ·have:=b5 y hy;omega
theorem Ju (e:qa) (se:e.shape) (w:World) (re:e.reads w) (hl:e.short 1048576):
  Calls Tryz.prog 29 #[.agg e.cells.toArray] w fun r w'=>∃ t:qa,r=.returned (.agg t.cells.toArray)∧t.shape∧Hid (t.v=e.v)∧t.own w' w.heap.size w'.heap.size∧Below w.heap.size w w':=by
 obtain ⟨Z,hZ⟩:∃ Z,Hid (zeroE=Z):=⟨_,rfl⟩;have sZ:Z.shape:=by rw [← hZ.out];exact yM
 have HZ:=Tryz.JV;rw [hZ.out] at HZ;obtain ⟨W,hW,b1,b2,b3,hbW,qp⟩:=yn w e.cells Z.cells Z.cells 77 42 42;have hs0:w.heap.size+1+1<W.heap.size:=by omega
 have N:Below w.heap.size w W:=hbW;have b3':Box W (w.heap.size+1+1) (qj Z.disk++[.slice none 0 0,.int .i64 0,.slice none 0 0,.int .i64 0,.slice none 0 0,.slice none 0 0,.int .i64 0,.bool false]) 42:=by rw [← hZ.out] at b3 ⊢;exact b3
 have HE:Hid (∀ u,Below w.heap.size w u→e.reads u):=fun u hu=>re.below hu
 have hld:=UM se.yQ;clear b3 qp hbW;go_enter Tryz.func29,Tryz.ntmps29;obtain ⟨p0,p1,p2,p3,p4,p5,p6⟩:=qH se b1;go_wp2_with (first | (guard_target=wpList _ _ _ (Oper.mk _ (Op.alloc _) _ _ _ _::_) _ _;refine z8 42 Z.cells HZ ?_) | (guard_target=wpList _ _ _ (Oper.mk (some 5) _ _ _ _ _::_) _ _;refine wpList_load_mid rfl 67 (.tmp 4) rfl w.heap.size 0 rfl (qj e.disk) _ (by rw [hW.out];exact p0) Tryz.underlying67 rfl hld ?_) | fail);rw [hW.out];clear hW p0 p1 p2 p3 p4 p5 p6;refine (NK e.disk se.yQ W (HE.out _ N).disk (fun p hp s hs=>by have:=hl.disk p hp s hs;omega)).mono ?_;rintro r w1 ⟨ts,rfl,Qt,hvd,od,hb⟩;have s1:=hb.size;have sz:=hb.size;replace b1:=b1.below hb b1.lt;replace b2:=b2.below hb b2.lt;replace b3':=b3'.below hb b3'.lt;replace N:=N.trans (hb.mono N.size);clear hb;obtain ⟨w2,h2,c3,hw,hs⟩:=jb [] (qj Z.disk) (qj ts) [.slice none 0 0,.int .i64 0,.slice none 0 0,.int .i64 0,.slice none 0 0,.slice none 0 0,.int .i64 0,.bool false] b3' (by rw [jL _ Qt.four,Qt.eight,qa.xx sZ]);have HT:Hid (w1.there (w.heap.size+1+1) 0 (qj ts).toArray.size):=b3'.there _ _ (by rw [List.size_toArray,jL _ Qt.four,Qt.eight,List.length_append,qa.xx sZ];simp);have sy:=hw.size;replace b1:=b1.within hw (by omega);replace b2:=b2.within hw (by omega);replace N:=N.trans (hw.below (by omega) (by have:=N.size;omega));replace od:=od.within hw (.inr (by omega));clear hw hs;have hA:(qj ts).length=136:=by rw [jL _ Qt.four,Qt.eight]
 have E2:Hid (w1.setCells (w.heap.size+1+1) 0 (qj ts).toArray.toList=w2):=h2.out;have HI:=wD Qt;have HO:=all_oneCell_toArray (oN ts);clear h2 b3';have b3':Box w2 (w.heap.size+1+1) (qj ts++[.slice none 0 0,.int .i64 0,.slice none 0 0,.int .i64 0,.slice none 0 0,.slice none 0 0,.int .i64 0,.bool false]) 42:=c3;clear c3;have HA:Hid ((qj ts).length=136):=hA;clear hA;obtain ⟨p0,p1,p2,p3,p4,p5,p6⟩:=qH se b1;go_wp2_with (first | (guard_target=wpList _ _ _ (Oper.mk none (Op.store _ (Operand.tmp 7) _) _ _ _ _::_) _ _;refine wpList_store_mid rfl 32 (.tmp 7) (.tmp 6) rfl (w.heap.size+1+1) 0 (qj ts).toArray rfl rfl HT.out (by rw [List.size_toArray];exact HI) HO ?_) | (guard_target=wpList _ _ _ (Oper.mk (some 9) _ _ _ _ _::_) _ _;refine wpList_load_mid rfl 70 (.tmp 8) rfl w.heap.size 136 rfl (e.qB.cells) _ (by rw [E2.out];exact p1) Tryz.underlying70 rfl (UN _) ?_) | fail);rw [E2.out];clear E2 HT HI HO p0 p1 p2 p3 p4 p5 p6;refine (BR e.qB w2 (HE.out _ N).pool hl.pool).mono ?_;rintro r w3 ⟨q,rfl,hvp,op,hb⟩;have s3:=hb.size;have sz:=hb.size;replace b1:=b1.below hb b1.lt;replace b2:=b2.below hb b2.lt;replace b3':=b3'.below hb b3'.lt;replace N:=N.trans (hb.mono N.size);replace od:=od.below hb;clear hb;obtain ⟨w4,h4,c3,hw,hs⟩:=jb (qj ts) [.slice none 0 0,.int .i64 0] q.cells [.slice none 0 0,.int .i64 0,.slice none 0 0,.slice none 0 0,.int .i64 0,.bool false] b3' rfl;rw [HA.out] at h4;have HT:Hid (w3.there (w.heap.size+1+1) 136 q.cells.toArray.size):=b3'.there _ _ (by rw [List.length_append,HA.out];show 136+2≤_;simp);have sy:=hw.size;replace b1:=b1.within hw (by omega);replace b2:=b2.within hw (by omega);replace N:=N.trans (hw.below (by omega) (by have:=N.size;omega));replace od:=od.within hw (.inr (by omega));replace op:=op.within hw (.inr (by omega));clear hw hs;have E4:Hid (w3.setCells (w.heap.size+1+1) 136 q.cells.toArray.toList=w4):=h4.out;clear h4 b3';have b3':Box w4 (w.heap.size+1+1) ((qj ts++q.cells)++[.slice none 0 0,.int .i64 0,.slice none 0 0,.slice none 0 0,.int .i64 0,.bool false]) 42:=by rw [List.append_assoc];exact c3
 clear c3;have HA2:Hid ((qj ts++q.cells).length=138):=by rw [Hid,List.length_append,HA.out];rfl
 obtain ⟨p0,p1,p2,p3,p4,p5,p6⟩:=qH se b1;go_wp2_with (first | (guard_target=wpList _ _ _ (Oper.mk none (Op.store _ (Operand.tmp 11) _) _ _ _ _::_) _ _;refine wpList_store_mid rfl 35 (.tmp 11) (.tmp 10) rfl (w.heap.size+1+1) 136 (q.cells).toArray rfl rfl HT.out (by rw [List.size_toArray];exact kY _) (XH _) ?_) | (guard_target=wpList _ _ _ (Oper.mk (some 13) _ _ _ _ _::_) _ _;refine wpList_load_mid rfl 73 (.tmp 12) rfl w.heap.size 138 rfl (e.log.cells) _ (by rw [E4.out];exact p2) Tryz.underlying73 rfl (mJ _) ?_) | fail);rw [E4.out];clear E4 HT p0 p1 p2 p3 p4 p5 p6;refine (Ru e.log w4 (HE.out _ N).log hl.log).mono ?_;rintro r w5 ⟨l,rfl,hvl,ol,hb⟩;have s5:=hb.size;have sz:=hb.size;replace b1:=b1.below hb b1.lt;replace b2:=b2.below hb b2.lt;replace b3':=b3'.below hb b3'.lt;replace N:=N.trans (hb.mono N.size);replace od:=od.below hb;replace op:=op.below hb;clear hb;obtain ⟨w6,h6,c3,hw,hs⟩:=jb (qj ts++q.cells) [.slice none 0 0,.int .i64 0] l.cells [.slice none 0 0,.slice none 0 0,.int .i64 0,.bool false] b3' rfl;rw [HA2.out] at h6;have HT:Hid (w5.there (w.heap.size+1+1) 138 l.cells.toArray.size):=b3'.there _ _ (by rw [List.length_append,HA2.out];show 138+2≤_;simp);have sy:=hw.size;replace b1:=b1.within hw (by omega);replace b2:=b2.within hw (by omega);replace N:=N.trans (hw.below (by omega) (by have:=N.size;omega));replace od:=od.within hw (.inr (by omega));replace op:=op.within hw (.inr (by omega));replace ol:=ol.within hw (.inr (by omega));clear hw hs;have E6:Hid (w5.setCells (w.heap.size+1+1) 138 l.cells.toArray.toList=w6):=h6.out;clear h6 b3';have b3':Box w6 (w.heap.size+1+1) (qj ts++[.slice q.a q.seats.length q.c,.int .i64 q.hand,.slice l.a l.recs.length l.c,.int .i64 l.sure,.slice none 0 0,.slice none 0 0,.int .i64 0,.bool false]) 42:=by rw [List.append_assoc] at c3;exact c3
 clear c3;obtain ⟨p0,p1,p2,p3,p4,p5,p6⟩:=qH se b1;have C7:=UO e.aT e.cT e.txs w6 (HE.out _ N).txs (by have:=hl.txs;omega);go_upto_region 5 with (first | (guard_target=wpList _ _ _ (Oper.mk none (Op.store _ (Operand.tmp 15) _) _ _ _ _::_) _ _;refine wpList_store_mid rfl 38 (.tmp 15) (.tmp 14) rfl (w.heap.size+1+1) 138 (l.cells).toArray rfl rfl HT.out (by rw [List.size_toArray];exact xQ _) (Az _) ?_) | fail);rw [E6.out];clear E6 HT;go_wp2_with fail;refine C7.mono ?_;clear C7 p0 p1 p2 p3 p4 p5 p6;rintro r w7 ⟨aT,cT,rfl,ot,hb⟩;have s7:=hb.size;have sz:=hb.size;replace b1:=b1.below hb b1.lt;replace b2:=b2.below hb b2.lt;replace b3':=b3'.below hb b3'.lt;replace N:=N.trans (hb.mono N.size);replace od:=od.below hb;replace op:=op.below hb;replace ol:=ol.below hb;clear hb;have x0:=b3'.cell 140 (.slice none 0 0) (by rw [List.getElem?_append_right (by rw [HA.out];omega),HA.out];rfl);have f0:=b3'.frozen 140;obtain ⟨w8,hw8,c3,hw,hs⟩:=uZ b3' HA.out 4 (.slice aT e.txs.length cT);have sy:=hw.size;replace b1:=b1.within hw (by omega);replace b2:=b2.within hw (by omega);replace N:=N.trans (hw.below (by omega) (by have:=N.size;omega));replace od:=od.within hw (.inr (by omega));replace op:=op.within hw (.inr (by omega));replace ol:=ol.within hw (.inr (by omega));replace ot:=ot.within hw (.inr (by omega));clear hw hs;have Ew8:Hid (w7.setCell ⟨w.heap.size+1+1,140,none⟩ (.slice aT e.txs.length cT)=w8):=hw8.out;clear hw8 b3';have b3':Box w8 (w.heap.size+1+1) (qj ts++[.slice q.a q.seats.length q.c,.int .i64 q.hand,.slice l.a l.recs.length l.c,.int .i64 l.sure,.slice aT e.txs.length cT,.slice none 0 0,.int .i64 0,.bool false]) 42:=c3;clear c3;obtain ⟨p0,p1,p2,p3,p4,p5,p6⟩:=qH se b1;have C9:=Dm e.aH e.cH e.holds w8 (HE.out _ N).holds (by have:=hl.holds;omega);go_upto_region 6 with fail;rw [Ew8.out];clear Ew8 x0 f0;go_wp2_with fail;refine C9.mono ?_;clear C9 p0 p1 p2 p3 p4 p5 p6;rintro r w9 ⟨aH,cH,rfl,oh,hb⟩;have s9:=hb.size;have sz:=hb.size;replace b1:=b1.below hb b1.lt;replace b2:=b2.below hb b2.lt;replace b3':=b3'.below hb b3'.lt;replace N:=N.trans (hb.mono N.size);replace od:=od.below hb;replace op:=op.below hb;replace ol:=ol.below hb;replace ot:=ot.below hb;clear hb;have x0:=b3'.cell 141 (.slice none 0 0) (by rw [List.getElem?_append_right (by rw [HA.out];omega),HA.out];rfl);have f0:=b3'.frozen 141;obtain ⟨Q4,Vt,c3,hw,hs⟩:=uZ b3' HA.out 5 (.slice aH e.holds.length cH);have sy:=hw.size;replace b1:=b1.within hw (by omega);replace b2:=b2.within hw (by omega);replace N:=N.trans (hw.below (by omega) (by have:=N.size;omega));replace od:=od.within hw (.inr (by omega));replace op:=op.within hw (.inr (by omega));replace ol:=ol.within hw (.inr (by omega));replace ot:=ot.within hw (.inr (by omega));replace oh:=oh.within hw (.inr (by omega));clear hw hs;have Lr:Hid (w9.setCell ⟨w.heap.size+1+1,141,none⟩ (.slice aH e.holds.length cH)=Q4):=Vt.out;clear Vt b3';have b3':Box Q4 (w.heap.size+1+1) (qj ts++[.slice q.a q.seats.length q.c,.int .i64 q.hand,.slice l.a l.recs.length l.c,.int .i64 l.sure,.slice aT e.txs.length cT,.slice aH e.holds.length cH,.int .i64 0,.bool false]) 42:=c3
 clear c3;obtain ⟨p0,p1,p2,p3,p4,p5,p6⟩:=qH se b1;go_upto_region 7 with fail;rw [Lr.out];clear Lr x0 f0;have x0:=b3'.cell 142 (.int .i64 0) (by rw [List.getElem?_append_right (by rw [HA.out];omega),HA.out];rfl);have f0:=b3'.frozen 142;obtain ⟨VF,Ls,c3,hw,hs⟩:=uZ b3' HA.out 6 (.int .i64 e.next);have sy:=hw.size;replace b1:=b1.within hw (by omega);replace b2:=b2.within hw (by omega);replace N:=N.trans (hw.below (by omega) (by have:=N.size;omega));replace od:=od.within hw (.inr (by omega));replace op:=op.within hw (.inr (by omega));replace ol:=ol.within hw (.inr (by omega));replace ot:=ot.within hw (.inr (by omega));replace oh:=oh.within hw (.inr (by omega));clear hw hs;have Lt:Hid (Q4.setCell ⟨w.heap.size+1+1,142,none⟩ (.int .i64 e.next)=VF):=Ls.out;clear Ls b3';have b3':Box VF (w.heap.size+1+1) (qj ts++[.slice q.a q.seats.length q.c,.int .i64 q.hand,.slice l.a l.recs.length l.c,.int .i64 l.sure,.slice aT e.txs.length cT,.slice aH e.holds.length cH,.int .i64 e.next,.bool false]) 42:=c3;clear c3;clear p0 p1 p2 p3 p4 p6;go_upto_region 8 with fail;rw [Lt.out];clear Lt x0 f0 p5;obtain ⟨p0,p1,p2,p3,p4,p5,p6⟩:=qH se b1;have x0:=b3'.cell 143 (.bool false) (by rw [List.getElem?_append_right (by rw [HA.out];omega),HA.out];rfl);have f0:=b3'.frozen 143;obtain ⟨JN,Wm,c3,hw,hs⟩:=uZ b3' HA.out 7 (.bool e.down);have sy:=hw.size;replace b1:=b1.within hw (by omega);replace b2:=b2.within hw (by omega);replace N:=N.trans (hw.below (by omega) (by have:=N.size;omega));replace od:=od.within hw (.inr (by omega));replace op:=op.within hw (.inr (by omega));replace ol:=ol.within hw (.inr (by omega));replace ot:=ot.within hw (.inr (by omega));replace oh:=oh.within hw (.inr (by omega));clear hw hs;have Lu:Hid (VF.setCell ⟨w.heap.size+1+1,143,none⟩ (.bool e.down)=JN):=Wm.out;clear Wm b3';have b3':Box JN (w.heap.size+1+1) (qj ts++[.slice q.a q.seats.length q.c,.int .i64 q.hand,.slice l.a l.recs.length l.c,.int .i64 l.sure,.slice aT e.txs.length cT,.slice aH e.holds.length cH,.int .i64 e.next,.bool e.down]) 42:=c3;clear c3;clear p0 p1 p2 p3 p4 p5;go_upto_region 9 with fail;rw [Lu.out];clear Lu x0 f0 p6;obtain ⟨T,hT⟩:∃ T:qa,Hid ((⟨ts,q.seats,q.a,q.c,q.hand,l,e.txs,aT,cT,e.holds,aH,cH,e.next,e.down⟩:qa)=T):=⟨_,rfl⟩;have sT:T.shape:=by rw [← hT.out];exact ⟨Qt.eight,Qt.four⟩
 have bT:Box JN (w.heap.size+1+1) T.cells 42:=by rw [← hT.out];exact b3'
 have HV:Hid (T.v=e.v):=by
  rw [Hid,← hT.out];have v1:=hvd.out;have v2:=hvp.out;have v3:=hvl.out;simp only [qi.v,qa.qB,jN.mk.injEq] at v2;simp only [qa.v,v2.1,v2.2,v3];congr 1
 have oT:T.own JN W.heap.size JN.heap.size:=by
  rw [← hT.out];exact WW (a0:=W.heap.size) (a1:=w1.heap.size) (a2:=w3.heap.size) (a3:=w5.heap.size) (a4:=w7.heap.size) (a5:=JN.heap.size) od (OwnSts.widen op (by omega) (Nat.le_refl _) (by omega)) (qV.widen ol (by omega) (Nat.le_refl _) (by omega)) (ot.widen (by omega) (Nat.le_refl _) (by omega)) (oh.widen (by omega) (by omega) (Nat.le_refl _)) (by omega) (by omega) (by omega) (by omega) (by omega) (Nat.le_refl _)
 clear od op ol ot oh b3' hT hvd hvp hvl;obtain ⟨WF,qF,hwF,qN,kz,bF⟩:=Qj sT sZ b2;have yG:=Xn sT bF;have MC:Hid (_=_):=yG;have rT:JN.rangeAt (w.heap.size+1+1) 0 T.cells:=Box.range [] T.cells [] (by simpa using bT);have qR:Hid (T.own WF w.heap.size WF.heap.size∧Below w.heap.size w WF):=⟨(oT.within hwF (.inr (by omega))).widen (by omega) (by omega) (Nat.le_refl _),N.trans (hwF.below (by omega) (by have:=N.size;omega))⟩;have HI:=kI sT;have HO:=all_oneCell_toArray (JW T);clear hwF qN bF yG oT bT b1 b2;go_wp2_with (first | (guard_target=wpList _ _ _ (Oper.mk (some 30) _ _ _ _ _::_) _ _;refine wpList_load_mid rfl 42 (.tmp 3) rfl (w.heap.size+1+1) 0 rfl (T.cells) _ rT Tryz.underlying42 rfl HI ?_) | (guard_target=wpList _ _ _ (Oper.mk none (Op.store _ (Operand.tmp 2) _) _ _ _ _::_) _ _;refine wpList_store_mid rfl 42 (.tmp 2) (.tmp 30) rfl (w.heap.size+1) 0 (T.cells).toArray rfl rfl kz.out (by rw [List.size_toArray];exact HI) HO ?_) | fail);rw [qF.out];exact bodyPost_ret (v:=.agg T.cells.toArray) (jk Tryz.results29 rfl MC.out) rfl ⟨T,rfl,sT,HV,qR.out.1,qR.out.2⟩
structure qa.wide (e:qa):Prop where
 disk:∀ p∈e.disk,Small p.ss
 pool:e.qB.short 9223372036854775807
 log:e.log.short 9223372036854775807
 txs:e.txs.length≤9223372036854775807
 holds:e.holds.length≤9223372036854775807
theorem NM {n:Nat} {left:Int} (h:0≤left∧left≤1048576):yj n left<0∨(0≤yj n left∧yj n left≤left∧n≤1048576):=by
 unfold yj;split
 ·exact .inl (by omega)
 ·exact .inr (by omega)
theorem MW (e:qa) (se:e.shape) (w:World) (re:e.reads w) (hw:e.wide):
  Calls Tryz.prog 26 #[.agg e.cells.toArray,.int .i64 1048576] w fun r w'=>∃ z:Int,r=.returned (.int .i64 z)∧(z<0∨(0≤z∧e.short 1048576))∧Below w.heap.size w w':=by
 obtain ⟨W,hW,b0,hbW,qp⟩:=qx w e.cells 77;have HE:Hid (∀ u,Below W.heap.size W u→_):=fun u hu=>qH se (b0.below hu b0.lt)
 have hie:=UM se.yQ;have HR:Hid (∀ u,Below W.heap.size W u→e.reads u):=fun u hu=>(re.below hbW).below hu
 have N:Below W.heap.size W W:=Below.refl _ _;obtain ⟨p0,p1,p2,p3,p4,_,_⟩:=HE.out _ N;have C1:=NL e.disk se.yQ 1048576 W hw.disk (by omega);go_enter Tryz.func26,Tryz.ntmps26;go_wp2_with (first | (guard_target=wpList _ _ _ (Oper.mk (some 6) _ _ _ _ _::_) _ _;refine wpList_load_mid rfl 67 (.tmp 5) rfl w.heap.size 0 rfl (qj e.disk) _ (by rw [hW.out];exact p0) Tryz.underlying67 rfl hie ?_) | fail);rw [hW.out];clear hW qp;refine C1.mono ?_;clear C1 p0 p1 p2 p3 p4;rintro r w1 ⟨z1,rfl,hz1,hb⟩;replace N:=N.trans (hb.mono N.size);clear hb;rcases hz1 with hz1 | ⟨qdO,qfF,Lv⟩
 ·have HB:Hid (Below w.heap.size w w1):=hbW.trans (N.mono hbW.size);go_wp2;go_ret;exact ⟨-1,rfl,.inl (by omega),HB.out⟩
 have nz1:¬ z1<0:=by omega
 obtain ⟨p0,p1,p2,p3,p4,_,_⟩:=HE.out _ N;have Hz1:Hid _:=Lv;clear Lv;have C2:=BS e.qB z1 w1 (HR.out _ N).pool hw.pool ⟨qdO,by omega⟩;go_wp2_with (first | (guard_target=wpList _ _ _ (Oper.mk (some 12) _ _ _ _ _::_) _ _;refine wpList_load_mid rfl 70 (.tmp 11) rfl w.heap.size 136 rfl (e.qB.cells) _ p1 Tryz.underlying70 rfl (UN _) ?_) | fail);refine C2.mono ?_;clear C2 p0 p1 p2 p3 p4;rintro r w2 ⟨z2,rfl,hz2,hb⟩;replace N:=N.trans (hb.mono N.size);clear hb;rcases hz2 with hz2 | ⟨Lx,qfG,LB⟩
 ·have HB:Hid (Below w.heap.size w w2):=hbW.trans (N.mono hbW.size);go_wp2;go_ret;exact ⟨-1,rfl,.inl (by omega),HB.out⟩
 have nz2:¬ z2<0:=by omega
 obtain ⟨p0,p1,p2,p3,p4,_,_⟩:=HE.out _ N;have Hz2:Hid _:=LB;clear LB;have C3:=Rw e.log z2 w2 (HR.out _ N).log hw.log ⟨Lx,by omega⟩;go_wp2_with (first | (guard_target=wpList _ _ _ (Oper.mk (some 18) _ _ _ _ _::_) _ _;refine wpList_load_mid rfl 73 (.tmp 17) rfl w.heap.size 138 rfl (e.log.cells) _ p2 Tryz.underlying73 rfl (mJ _) ?_) | fail);refine C3.mono ?_;clear C3 p0 p1 p2 p3 p4;rintro r w3 ⟨z3,rfl,hz3,hb⟩;replace N:=N.trans (hb.mono N.size);clear hb;rcases hz3 with hz3 | ⟨LC,qfH,LD⟩
 ·have HB:Hid (Below w.heap.size w w3):=hbW.trans (N.mono hbW.size);go_wp2;go_ret;exact ⟨-1,rfl,.inl (by omega),HB.out⟩
 have nz3:¬ z3<0:=by omega
 obtain ⟨p0,p1,p2,p3,p4,_,_⟩:=HE.out _ N;have Hz3:Hid _:=LD;clear LD;have C4:=UQ e.aT e.cT e.txs.length z3 w3 hw.txs ⟨LC,by omega⟩;have A4:=NM (n:=e.txs.length) (left:=z3) ⟨LC,by omega⟩;go_wp2_with fail;refine C4.mono ?_;clear C4;rintro r w4 ⟨rfl,rfl⟩;generalize yj e.txs.length z3=z4 at*
 rcases A4 with hz4 | ⟨LF,qfI,LG⟩
 ·have HB:Hid (Below w.heap.size w w4):=hbW.trans (N.mono hbW.size);go_wp2;go_ret;exact ⟨-1,rfl,.inl (by omega),HB.out⟩
 have nz4:¬ z4<0:=by omega
 have C5:=Dl e.aH e.cH e.holds.length z4 w4 hw.holds ⟨LF,by omega⟩;have A5:=NM (n:=e.holds.length) (left:=z4) ⟨LF,by omega⟩;go_wp2_with fail;refine C5.mono ?_;clear C5;rintro r w5 ⟨rfl,rfl⟩;generalize yj e.holds.length z4=z5 at*
 have HB:Hid (Below w.heap.size w w5):=hbW.trans (N.mono hbW.size);rcases A5 with hz5 | ⟨qdP,qfJ,LH⟩
 ·go_wp2;go_ret;exact ⟨-1,rfl,.inl (by omega),HB.out⟩
 have nz5:¬ z5<0:=by omega
 have HS:Hid (e.short 1048576):=⟨Hz1.out,Hz2.out,Hz3.out,LG,LH⟩;clear Hz1 Hz2 Hz3 LG LH;go_wp2;go_ret;exact ⟨z5,rfl,.inr ⟨qdP,HS.out⟩,HB.out⟩
end Go.Proofs.YtjkckhfddgeboaaGreatDoor