/- Several texts in one, in their order. -/
import Derived.Test.YtcoeamamaifoeaaGreatDoorPCrashx2
import Derived.Test.YtcoeamamaifoeaaGreatDoorPCrashx3
import Derived.Test.YtcoeamamaifoeaaGreatDoorPCrashx1
import Derived.Deep.QuietTactic
import Derived.BigQuiet
set_option maxHeartbeats 8000000
set_option maxRecDepth 100000
namespace Go.Proofs.YtcoeamamaifoeaaGreatDoor
open Go.RowKit
def SzAns (ss:List SlotA) (left z:Int):Prop:=z<0∨(0≤z∧z≤left∧∀ s∈ss,s.v.o.ints.length≤1048576∧s.v.o.refs.length≤1048576)
theorem szAns_obj (s:SlotA) (left:Int) (h:0≤left∧left≤1048576):SzAns [s] left (szObjOf s.v.o left):=by
 unfold SzAns szObjOf
 split
 ·exact .inl (by omega)
 ·split
  ·exact .inl (by omega)
  ·exact .inr ⟨by omega,by omega,by intro t ht;obtain rfl:=List.mem_singleton.1 ht;omega⟩
def Small (ss:List SlotA):Prop:=∀ s∈ss,s.v.o.ints.length≤9223372036854775807∧s.v.o.refs.length≤9223372036854775807
theorem szSlot_any (s:SlotA) (left:Int) (w:World) (hn:Small [s]) (h0:0≤left∧left≤1048576):
  Calls Tryz.prog 111 #[.agg s.cells.toArray,.int .i64 left] w fun e w'=>∃ z,e=.returned (.int .i64 z)∧SzAns [s] left z∧Below w.heap.size w w':=by
 have HA:Hid _:=szAns_obj s left h0
 obtain ⟨h1,h2⟩:=hn s (List.mem_singleton.2 rfl)
 obtain ⟨W,hW,b0,hbW,hsW⟩:=boxes1 w s.cells 26
 simp only [SlotA.cells] at*
 go_enter Tryz.func111,Tryz.ntmps111
 go_wp2_with fail
 rw [hW.out]
 refine (szObj_any s.v.o s.aI s.cI s.aR s.cR left W h1 h2 h0).mono ?_
 rintro e w1 ⟨rfl,hb1⟩
 generalize szObjOf s.v.o left=z at*
 clear hsW
 by_cases hz:z<0
 ·go_wp2
  go_ret
  exact ⟨-1,rfl,.inl (by omega),hbW.trans (hb1.mono hbW.size)⟩
 ·go_wp2
  go_ret
  exact ⟨z,rfl,HA.out,hbW.trans (hb1.mono hbW.size)⟩
theorem szSlotA4_any (ss:List SlotA) (h4:ss.length=4) (left:Int) (w:World) (hn:Small ss) (h0:0≤left∧left≤1048576):
  Calls Tryz.prog 79 #[.agg (cellsS ss).toArray,.int .i64 left] w fun e w'=>∃ z,e=.returned (.int .i64 z)∧SzAns ss left z∧Below w.heap.size w w':=by
 obtain ⟨W,hW,b0,hbW,hsW⟩:=boxes1 w (cellsS ss) 27
 have H4:Hid (ss.length=4):=h4
 clear hsW h4
 go_enter Tryz.func79,Tryz.ntmps79
 go_wp2_with fail
 rw [hW.out]
 clear hW
 go_loopw [1,5] (fun l i wr=>∃ (k:Nat) (z:Int),i=.int .i64 k∧l=.int .i64 z∧k≤4∧(0≤z∧z≤left)∧Hid (∀ s∈ss.take k,s.v.o.ints.length≤1048576∧s.v.o.refs.length≤1048576)∧Below W.heap.size W wr)
  (fun _ i _=>4-(RowKit.intOf i).toNat)
 case atStart=>exact ⟨0,left,rfl,rfl,by omega,by omega,by intro s hs;simp at hs,Below.refl _ _⟩
 case round=>
  obtain ⟨k,z,rfl,rfl,hk,hz,hsm,hbl⟩:=hrel
  have b0r:=b0.below hbl b0.lt
  by_cases hlt:k<4
  ·have hkl:k<ss.length:=by rw [H4.out];exact hlt
   obtain ⟨c0,c1,c2,c3,_⟩:=b0r.slot k hkl
   have hnk:Small [ss.getD k zeroS]:=fun s hs=>by obtain rfl:=List.mem_singleton.1 hs;exact hn _ (getD_mem hkl)
   have HV:Hid (∀ s∈ss.take (k+1),s∈ss.take k∨s=ss.getD k zeroS):=by
    intro s hs
    rw [List.take_add_one,List.mem_append] at hs
    rcases hs with hs | hs
    ·exact .inl hs
    ·right
     simp only [List.getD,hkl,List.getElem?_eq_getElem,Option.toList_some,List.mem_singleton] at hs ⊢
     simpa using hs
   generalize ss.getD k zeroS=s at*
   go_wp2_with fail
   refine (szSlot_any s z wr hnk (by omega)).mono ?_
   clear c0 c1 c2 c3
   rintro e w1 ⟨z1,rfl,hz1,hb1⟩
   rcases hz1 with hneg | ⟨hp,hle,hs1⟩
   ·go_wp2
    go_ret
    exact ⟨-1,rfl,.inl (by omega),(hbW.trans (hbl.mono hbW.size)).trans (hb1.mono (Nat.le_trans hbW.size hbl.size))⟩
   ·have hz1n:¬ z1<0:=by omega
    have HS:Hid (∀ s∈ss.take (k+1),s.v.o.ints.length≤1048576∧s.v.o.refs.length≤1048576):=by
     intro t ht
     rcases HV.out t ht with h | rfl
     ·exact hsm.out t h
     ·exact hs1 _ (List.mem_singleton.2 rfl)
    clear hs1 HV
    go_wp2_with fail
    go_roundw
    case rel=>exact ⟨k+1,z1,by go_num,rfl,by omega,by omega,HS,hbl.trans (hb1.mono hbl.size)⟩
    case measure=>simp [RowKit.intOf];omega
  ·have hkk:¬ (k:Int)<4:=by omega
   have HS:Hid (∀ s∈ss,s.v.o.ints.length≤1048576∧s.v.o.refs.length≤1048576):=by
    have h:=hsm.out
    rw [List.take_of_length_le (by rw [H4.out];omega)] at h
    exact h
   go_wp2
   go_ret
   exact ⟨z,rfl,.inr ⟨hz.1,hz.2,HS.out⟩,hbW.trans (hbl.mono hbW.size)⟩
theorem szPage_any (p:PageA) (h4:p.ss.length=4) (left:Int) (w:World) (hn:Small p.ss) (h0:0≤left∧left≤1048576):
  Calls Tryz.prog 44 #[.agg p.cells.toArray,.int .i64 left] w fun e w'=>∃ z,e=.returned (.int .i64 z)∧SzAns p.ss left z∧Below w.heap.size w w':=by
 obtain ⟨n,ss⟩:=p
 simp only [PageA.cells] at*
 obtain ⟨W,hW,b0,hbW,hsW⟩:=boxes1 w (.int .i64 n::cellsS ss) 29
 have hrg0:W.rangeAt w.heap.size 1 (cellsS ss):=Box.range [.int .i64 n] (cellsS ss) [] (by simpa using b0)
 have hi0:(Tryz.prog.info? 27).map (·.size)=some (cellsS ss).length:=by rw [cellsS_len,h4];kernel_rfl
 go_enter Tryz.func44,Tryz.ntmps44
 go_wp2_with (first | (guard_target=wpList _ _ _ (Oper.mk (some 6) _ _ _ _ _::_) _ _;refine wpList_load_mid rfl 27 (.tmp 5) rfl w.heap.size 1 rfl (cellsS ss) _ (by rw [hW.out];exact hrg0) Tryz.underlying27 rfl hi0 ?_) | fail)
 rw [hW.out]
 clear hW hrg0 hi0 hsW
 refine (szSlotA4_any ss h4 left W hn h0).mono ?_
 rintro e w1 ⟨z,rfl,hz,hb1⟩
 have HZ:Hid _:=hz
 clear hz
 by_cases hneg:z<0
 ·go_wp2
  go_ret
  exact ⟨-1,rfl,.inl (by omega),hbW.trans (hb1.mono hbW.size)⟩
 ·go_wp2
  go_ret
  exact ⟨z,rfl,HZ.out,hbW.trans (hb1.mono hbW.size)⟩
theorem szLiveS_any (a:Option Addr) (c n:Nat) (left:Int) (w:World) (hn:n≤9223372036854775807) (h0:0≤left∧left≤1048576):
  Calls Tryz.prog 14 #[.slice a n c,.int .i64 left] w fun e w'=>e=.returned (.int .i64 (szOf n left))∧w'=w:=by
 by_cases h:left-n<0
 ·have HS:Hid (szOf n left= -1):=by unfold szOf;rw [Hid,if_pos h]
  go_enter Tryz.func14,Tryz.ntmps14
  go_wp2
  go_ret
  exact ⟨ret_int HS.out.symm,rfl⟩
 ·have HS:Hid (szOf n left=left-n):=by unfold szOf;rw [Hid,if_neg h]
  go_enter Tryz.func14,Tryz.ntmps14
  go_wp2
  go_ret
  exact ⟨ret_int HS.out.symm,rfl⟩
structure RecA.short (r:RecA) (m:Nat):Prop where
 bf:r.bf.v.o.ints.length≤m∧r.bf.v.o.refs.length≤m
 af:r.af.v.o.ints.length≤m∧r.af.v.o.refs.length≤m
 txs:r.txs.length≤m
theorem szRec_any (r:RecA) (left:Int) (w:World) (hn:r.short 9223372036854775807) (h0:0≤left∧left≤1048576):
  Calls Tryz.prog 81 #[.agg r.cells.toArray,.int .i64 left] w fun e w'=>∃ z,e=.returned (.int .i64 z)∧(z<0∨(0≤z∧z≤left∧r.short 1048576))∧Below w.heap.size w w':=by
 obtain ⟨W,hW,b0,hbW,hsW⟩:=boxes1 w r.cells 131
 have hb0:Below w.heap.size w W:=hbW
 have C1:=szSlot_any r.bf left W (by intro s hs;obtain rfl:=List.mem_singleton.1 hs;exact hn.bf) h0
 have hnl:=hn.txs
 have hna:Small [r.af]:=by intro s hs;obtain rfl:=List.mem_singleton.1 hs;exact hn.af
 clear hsW hn
 simp only [RecA.cells] at*
 simp only [SlotA.cells] at C1
 go_enter Tryz.func81,Tryz.ntmps81
 go_wp2_with fail
 rw [hW.out]
 clear hW
 refine C1.mono ?_
 clear C1
 rintro e w1 ⟨z1,rfl,hz1,hb1⟩
 have b01:=b0.below hb1 b0.lt
 have B1:Below w.heap.size w w1:=hbW.trans (hb1.mono hbW.size)
 clear b0 hb1 hbW
 rcases hz1 with hz | ⟨hz0,hzl,hs1⟩
 ·go_wp2
  go_ret
  exact ⟨-1,rfl,.inl (by omega),B1⟩
 have hzn:¬ z1<0:=by omega
 have c9:=b01.cell 9 _ rfl
 have c10:=b01.cell 10 _ rfl
 have c11:=b01.cell 11 _ rfl
 have c12:=b01.cell 12 _ rfl
 have C2:=szSlot_any r.af z1 w1 hna (by omega)
 simp only [SlotA.cells] at C2
 go_wp2_with fail
 refine C2.mono ?_
 clear C2 c9 c10 c11 c12
 rintro e w2 ⟨z2,rfl,hz2,hb2⟩
 have b02:=b01.below hb2 b01.lt
 have B2:Below w.heap.size w w2:=B1.trans (hb2.mono B1.size)
 clear b01 hb2 B1
 rcases hz2 with hz | ⟨hz20,hz2l,hs2⟩
 ·go_wp2
  go_ret
  exact ⟨-1,rfl,.inl (by omega),B2⟩
 have hzn2:¬ z2<0:=by omega
 have c14:=b02.cell 14 _ rfl
 have C3:=szLiveS_any r.aL r.cL r.txs.length z2 w2 hnl (by omega)
 go_wp2_with fail
 refine C3.mono ?_
 clear C3 c14
 rintro e w3 ⟨rfl,rfl⟩
 by_cases h:z2-r.txs.length<0
 ·have HS:Hid (szOf r.txs.length z2= -1):=by unfold szOf;rw [Hid,if_pos h]
  rw [HS.out]
  go_wp2
  go_ret
  exact ⟨-1,rfl,.inl (by omega),B2⟩
 ·have HS:Hid (szOf r.txs.length z2=z2-r.txs.length):=by unfold szOf;rw [Hid,if_neg h]
  have HR:Hid (r.short 1048576):=⟨hs1 _ (List.mem_singleton.2 rfl),hs2 _ (List.mem_singleton.2 rfl),by omega⟩
  rw [HS.out]
  go_wp2
  go_ret
  exact ⟨z2-r.txs.length,rfl,.inr ⟨by omega,by omega,HR.out⟩,B2⟩
theorem eqRec_same (r t:RecA) (he:t.v=r.v) (w:World) (hr:r.reads w) (ht:t.reads w) (hl:r.short 1099511627776):
  Calls Tryz.prog 106 #[.agg r.cells.toArray,.agg t.cells.toArray] w fun e w'=>e=.returned (.bool true)∧Below w.heap.size w w':=by
 obtain ⟨W,hW,b0,b1,hbW,hsW⟩:=boxes2 w r.cells t.cells 100 100
 simp only [RecA.v,RecV.mk.injEq] at he
 obtain ⟨e1,e2,e3,e4,e5,e6,e7,e8,e9⟩:=he
 have C1:=eqSlot_same r.bf t.bf e6 W (ReadsO.below hr.bf hbW) (ReadsO.below ht.bf hbW) hl.bf.1 hl.bf.2
 have HL:Hid (_∧_):=⟨hl.af,hl.txs⟩
 have HR:Hid (_∧_):=⟨hr,ht⟩
 have HE:Hid (_∧_):=⟨e7,e9⟩
 clear hsW hl hr ht e6 e7 e9
 simp only [RecA.cells] at*
 simp only [SlotA.cells] at C1
 simp only [e1,e2,e3,e4,e5,e8] at b1 hW ⊢
 clear e1 e2 e3 e4 e5 e8
 go_enter Tryz.func106,Tryz.ntmps106
 go_wp2_with fail
 rw [hW.out]
 clear hW
 refine C1.mono ?_
 clear C1
 rintro e w1 ⟨rfl,hb1⟩
 have b01:=b0.below hb1 b0.lt
 have b11:=b1.below hb1 b1.lt
 have B1:Below w.heap.size w w1:=hbW.trans (hb1.mono hbW.size)
 clear b0 b1 hb1 hbW
 have c9:=b01.cell 9 _ rfl
 have d9:=b11.cell 9 _ rfl
 have c10:=b01.cell 10 _ rfl
 have d10:=b11.cell 10 _ rfl
 have c11:=b01.cell 11 _ rfl
 have d11:=b11.cell 11 _ rfl
 have c12:=b01.cell 12 _ rfl
 have d12:=b11.cell 12 _ rfl
 have C2:=eqSlot_same r.af t.af HE.out.1 w1 (ReadsO.below HR.out.1.af B1) (ReadsO.below HR.out.2.af B1) HL.out.1.1 HL.out.1.2
 simp only [SlotA.cells] at C2
 go_wp2_with fail
 refine C2.mono ?_
 clear C2
 rintro e w2 ⟨rfl,hb2⟩
 have b02:=b01.below hb2 b01.lt
 have b12:=b11.below hb2 b11.lt
 have B2:Below w.heap.size w w2:=B1.trans (hb2.mono B1.size)
 clear b01 b11 hb2 B1 c9 d9 c10 d10 c11 d11 c12 d12
 have c13:=b02.cell 13 _ rfl
 have d13:=b12.cell 13 _ rfl
 have c14:=b02.cell 14 _ rfl
 have d14:=b12.cell 14 _ rfl
 have C3:=eqLiveS_same r.aL t.aL r.cL t.cL r.txs w2 (HR.out.1.txs.below B2) (by have:=HR.out.2.txs.below B2;rw [HE.out.2] at this;exact this) HL.out.2
 have hte:t.txs.length=r.txs.length:=by rw [HE.out.2]
 rw [hte] at d14
 go_wp2_with fail
 refine C3.mono ?_
 clear C3
 rintro e w3 ⟨rfl,hb3⟩
 go_wp2
 go_ret
 exact ⟨rfl,B2.trans (hb3.mono B2.size)⟩
theorem ne_at {xs ys:List Int} (j:Nat) (h:xs.getD j 0≠ys.getD j 0):decide (xs=ys)=false:=by
 rw [decide_eq_false_iff_not]
 intro e
 exact h (by rw [e])
theorem ne_len {xs ys:List Int} (h:xs.length≠ys.length):decide (xs=ys)=false:=by
 rw [decide_eq_false_iff_not]
 intro e
 exact h (by rw [e])
theorem eq_all {xs ys:List Int} (hl:xs.length=ys.length) (h:∀ t,t<xs.length→xs.getD t 0=ys.getD t 0):decide (xs=ys)=true:=by
 rw [decide_eq_true_eq]
 apply List.ext_getElem hl
 intro i h1 h2
 have:=h i h1
 simpa [List.getD,h1,h2] using this
theorem l2SameInts_any (a b:Option Addr) (ca cb:Nat) (xs ys:List Int) (w:World) (ha:ReadsI w a xs) (hb:ReadsI w b ys) (hl:xs.length≤1099511627776) (hl2:ys.length≤1099511627776):
  Calls Tryz.prog 135 #[.slice a xs.length ca,.slice b ys.length cb] w fun e w'=>e=.returned (.bool (decide (xs=ys)))∧∃ n,w'=w.drewN n:=by
 by_cases hle:xs.length=ys.length
 case neg=>
  have HE:Hid (_=_):=ne_len hle
  have hle':((xs.length:Int) == (ys.length:Int))=false:=by simp;omega
  go_enter Tryz.func135,Tryz.ntmps135
  go_wp2
  go_ret
  exact ⟨ret_bool HE.out.symm,0,rfl⟩
 case pos=>
 have HL:Hid (xs.length=ys.length):=hle
 have hle':((xs.length:Int) == (ys.length:Int))=true:=by simp;omega
 rcases ha.cases with rfl | ⟨b1,o1,rfl,hpos,hc1⟩
 ·obtain rfl:ys=[]:=List.length_eq_zero_iff.1 (by simpa using hle.symm)
  have HE:Hid (decide (([]:List Int)=[])=true):=by simp [Hid]
  clear hle hle' HL
  go_enter Tryz.func135,Tryz.ntmps135
  go_wp2
  refine wp_loop_rounds 1 ?_
  rw [rounds_succ]
  go_wp2
  go_ret
  exact ⟨ret_bool HE.out.symm,0,rfl⟩
 ·rcases hb.cases with rfl | ⟨b2,o2,rfl,_,hc2⟩
  ·simp at hle;simp [hle] at hpos
  ·clear hle
   go_enter Tryz.func135,Tryz.ntmps135
   go_wp2
   go_loopw [5] (fun i wr=>∃ k:Nat,k≤xs.length∧i=.int .i64 k∧Hid (∀ t,t<k→xs.getD t 0=ys.getD t 0)∧∃ n,wr=w.drewN n) (fun i _=>xs.length-(RowKit.intOf i).toNat)
   case atStart=>exact ⟨0,Nat.zero_le _,rfl,fun t ht=>by omega,0,rfl⟩
   case round=>
    obtain ⟨k,hk,rfl,hall,n,rfl⟩:=hrel
    by_cases hlt:k<xs.length
    ·have h1:=hc1 k hlt
     have h2:=hc2 k (by have:=HL.out;omega)
     have hlt2:(k:Int)<(ys.length:Int):=by have:=HL.out;omega
     clear hc1 hc2
     by_cases hz:xs.getD k 0=ys.getD k 0
     ·have HN:Hid (∀ t,t<k+1→xs.getD t 0=ys.getD t 0):=by
       intro t ht
       by_cases e:t=k
       ·rw [e];exact hz
       ·exact hall.out t (by omega)
      rw [← hz] at h2
      clear hz
      generalize xs.getD k 0=z at*
      go_wp2
      go_quiet (fail)
      go_wp2
      go_roundw
      case rel=>exact ⟨k+1,by omega,by go_num,HN,_,rfl⟩
      case measure=>simp [RowKit.intOf];omega
     ·have HE:Hid (_=_):=ne_at k hz
      have hzb:(xs.getD k 0 == ys.getD k 0)=false:=by simpa using hz
      clear hz
      generalize xs.getD k 0=z at*
      generalize ys.getD k 0=y at*
      go_wp2
      go_quiet (fail)
      go_wp2
      go_ret
      exact ⟨ret_bool HE.out.symm,n+nq,by first | rfl | simp⟩
    ·have HE:Hid (_=_):=eq_all HL.out (fun t ht=>hall.out t (by omega))
     go_wp2
     go_ret
     exact ⟨ret_bool HE.out.symm,n,rfl⟩
def sameO (a b:ObjV):Bool:=decide (a.kind=b.kind) && (decide (a.ints=b.ints) && decide (a.refs=b.refs))
theorem specSameObj_any (o p:ObjV) (aI:Option Addr) (cI:Nat) (aR:Option Addr) (cR:Nat) (bI:Option Addr) (dI:Nat) (bR:Option Addr) (dR:Nat) (w:World) (ha:ReadsO w aI cI aR cR o) (hb:ReadsO w bI dI bR dR p) (h1:o.ints.length≤1099511627776) (h2:o.refs.length≤1099511627776) (h3:p.ints.length≤1099511627776) (h4:p.refs.length≤1099511627776):
  Calls Tryz.prog 116 #[.agg #[.int .i64 o.kind,.slice aI o.ints.length cI,.slice aR o.refs.length cR],.agg #[.int .i64 p.kind,.slice bI p.ints.length dI,.slice bR p.refs.length dR]] w fun e w'=>e=.returned (.bool (sameO o p))∧Below w.heap.size w w':=by
 obtain ⟨k,ints,refs⟩:=o
 obtain ⟨k',ints',refs'⟩:=p
 obtain ⟨haI,haR,_,_⟩:=ha
 obtain ⟨hbI,hbR,_,_⟩:=hb
 simp only at*
 obtain ⟨W,hW,b0,b1,hbW,hsW⟩:=boxes2 w [.int .i64 k,.slice aI ints.length cI,.slice aR refs.length cR] [.int .i64 k',.slice bI ints'.length dI,.slice bR refs'.length dR] 42 42
 by_cases hk:k=k'
 case neg=>
  have HE:Hid (sameO ⟨k,ints,refs⟩ ⟨k',ints',refs'⟩=false):=by simp [Hid,sameO,hk]
  have hkb:(k == k')=false:=by simpa using hk
  clear hk
  go_enter Tryz.func116,Tryz.ntmps116
  go_wp2
  go_ret
  exact ⟨ret_bool HE.out.symm,by rw [hW.out];exact hbW⟩
 case pos=>
 subst hk
 have HE:Hid (sameO ⟨k,ints,refs⟩ ⟨k,ints',refs'⟩=(decide (ints=ints') && decide (refs=refs'))):=by simp [Hid,sameO]
 go_enter Tryz.func116,Tryz.ntmps116
 go_wp2_with fail
 rw [hW.out]
 refine (l2SameInts_any aI bI cI dI ints ints' W (haI.below hbW) (hbI.below hbW) h1 h3).mono ?_
 rintro e w1 ⟨rfl,n1,rfl⟩
 have c0:=(b0.drewN n1).cell 2 _ rfl
 have c1:=(b1.drewN n1).cell 2 _ rfl
 have hb1:Below w.heap.size w (W.drewN n1):=below_drewN hbW n1
 cases hd:decide (ints=ints') with
 | false=>
  rw [hd] at HE
  clear hd
  go_wp2
  go_ret
  exact ⟨ret_bool (by rw [HE.out];rfl),hb1⟩
 | true=>
  rw [hd] at HE
  clear hd
  go_wp2_with fail
  refine (l2SameInts_any aR bR cR dR refs refs' (W.drewN n1) (haR.below hb1) (hbR.below hb1) h2 h4).mono ?_
  rintro e w2 ⟨rfl,n2,rfl⟩
  generalize decide (refs=refs')=D at*
  go_wp2
  go_ret
  exact ⟨ret_bool (by rw [HE.out];rfl),below_drewN hbW (n1+n2)⟩
def isNo (v:SlotV):Bool:=if v.has then false else sameO v.o ⟨0,[],[]⟩
theorem isNo_has {v:SlotV} (h:v.has=true):isNo v=false:=by unfold isNo;rw [if_pos h]
theorem isNo_not {v:SlotV} (h:v.has=false):isNo v=sameO v.o ⟨0,[],[]⟩:=by unfold isNo;rw [if_neg (by rw [h];decide)]
theorem l3SameNone_any (s:SlotA) (w:World) (hr:s.reads w) (hl:Fit [s]):
  Calls Tryz.prog 89 #[.agg s.cells.toArray,.agg #[.bool false,.int .i64 0,.slice none 0 0,.slice none 0 0]] w fun e w'=>e=.returned (.bool (isNo s.v))∧Below w.heap.size w w':=by
 obtain ⟨h1,h2⟩:=hl s (List.mem_singleton.2 rfl)
 obtain ⟨W,hW,b0,b1,hbW,hsW⟩:=boxes2 w s.cells [.bool false,.int .i64 0,.slice none 0 0,.slice none 0 0] 44 44
 have hr':s.reads W:=ReadsO.below hr hbW
 obtain ⟨⟨h,o⟩,aI,cI,aR,cR⟩:=s
 simp only [SlotA.cells,SlotA.reads] at*
 clear hsW
 cases h with
 | true=>
  have HE:Hid (isNo ⟨true,o⟩=false):=isNo_has rfl
  generalize isNo ⟨true,o⟩=R at*
  go_enter Tryz.func89,Tryz.ntmps89
  go_wp2
  go_ret
  exact ⟨ret_bool HE.out.symm,by rw [hW.out];exact hbW⟩
 | false=>
  have C1:=specSameObj_any o ⟨0,[],[]⟩ aI cI aR cR none 0 none 0 W hr' ⟨ReadsI.nil _ _,ReadsI.nil _ _,fun _=>rfl,fun _=>rfl⟩ h1 h2 (by simp) (by simp)
  simp only [List.length_nil] at C1
  have HE:Hid (isNo ⟨false,o⟩=sameO o ⟨0,[],[]⟩):=isNo_not rfl
  generalize isNo ⟨false,o⟩=R at*
  generalize sameO o ⟨0,[],[]⟩=R2 at*
  go_enter Tryz.func89,Tryz.ntmps89
  go_wp2_with fail
  rw [hW.out]
  refine C1.mono ?_
  rintro e w1 ⟨rfl,hb1⟩
  go_wp2
  go_ret
  exact ⟨ret_bool HE.out.symm,hbW.trans (hb1.mono hbW.size)⟩
def zeroB (r:RecV) (tx oid bf next txs:Bool):Bool:=(tx || (decide (r.tx=0) && decide (r.prev=0))) && (oid || (decide (r.oid=0) && isNo r.af)) && (bf || isNo r.bf) && (next || decide (r.next=0)) && (txs || decide (r.txs.length=0))
theorem l4Zero_check (r:RecA) (w:World) (hr:r.reads w) (hl:r.short 1099511627776):
  Calls Tryz.prog 113 #[.agg r.cells.toArray,.bool false,.bool false,.bool false,.bool false,.bool true] w fun e w'=>e=.returned (.bool (zeroB r.v false false false false true))∧Below w.heap.size w w':=by
 obtain ⟨W,hW,b0,b1,hbW,hsW⟩:=boxes2 w r.cells [.bool false,.int .i64 0,.slice none 0 0,.slice none 0 0] 100 44
 have CB:∀ u,Below w.heap.size w u→_:=fun u hu=>l3SameNone_any r.bf u (ReadsO.below hr.bf hu) (fun s hs=>by obtain rfl:=List.mem_singleton.1 hs;exact hl.bf)
 have CA:∀ u,Below w.heap.size w u→_:=fun u hu=>l3SameNone_any r.af u (ReadsO.below hr.af hu) (fun s hs=>by obtain rfl:=List.mem_singleton.1 hs;exact hl.af)
 have HZ:Hid (zeroB r.v false false false false true=((false || (decide (r.tx=0) && decide (r.prev=0))) && (false || (decide (r.oid=0) && isNo r.af.v)) && (false || isNo r.bf.v) && (false || decide (r.next=0)) && (true || decide (r.txs.length=0)))):=rfl
 generalize zeroB r.v false false false false true=R at*
 simp only [RecA.cells] at*
 simp only [SlotA.cells] at CA CB
 clear hsW hr hl
 by_cases h_tx:r.tx=0
 case neg=>
  have HR:Hid (R=false):=by rw [Hid,HZ.out];simp [h_tx]
  have h_txb:(r.tx == 0)=false:=by simp;exact h_tx
  clear HZ h_tx
  go_enter Tryz.func113,Tryz.ntmps113
  go_wp2
  rw [hW.out]
  go_ret
  exact ⟨ret_bool HR.out.symm,hbW⟩
 case pos=>
 by_cases h_prev:r.prev=0
 case neg=>
  have HR:Hid (R=false):=by rw [Hid,HZ.out];simp [h_tx,h_prev]
  have h_txb:(r.tx == 0)=true:=by simp;exact h_tx
  have h_prevb:(r.prev == 0)=false:=by simp;exact h_prev
  clear HZ h_tx h_prev
  go_enter Tryz.func113,Tryz.ntmps113
  go_wp2
  rw [hW.out]
  go_ret
  exact ⟨ret_bool HR.out.symm,hbW⟩
 case pos=>
 by_cases h_oid:r.oid=0
 case neg=>
  have HR:Hid (R=false):=by rw [Hid,HZ.out];simp [h_tx,h_prev,h_oid]
  have h_txb:(r.tx == 0)=true:=by simp;exact h_tx
  have h_prevb:(r.prev == 0)=true:=by simp;exact h_prev
  have h_oidb:(r.oid == 0)=false:=by simp;exact h_oid
  clear HZ h_tx h_prev h_oid
  go_enter Tryz.func113,Tryz.ntmps113
  go_wp2
  rw [hW.out]
  go_ret
  exact ⟨ret_bool HR.out.symm,hbW⟩
 case pos=>
 by_cases h_af:isNo r.af.v=true
 case neg=>
  have HR:Hid (R=false):=by rw [Hid,HZ.out];simp [h_tx,h_prev,h_oid,h_af]
  have h_txb:(r.tx == 0)=true:=by simp;exact h_tx
  have h_prevb:(r.prev == 0)=true:=by simp;exact h_prev
  have h_oidb:(r.oid == 0)=true:=by simp;exact h_oid
  have h_afb:isNo r.af.v=false:=by simpa using h_af
  clear HZ h_tx h_prev h_oid
  go_enter Tryz.func113,Tryz.ntmps113
  go_wp2_with fail
  rw [hW.out]
  clear hW
  refine (CA W hbW).mono ?_
  rintro e w_af ⟨rfl,hb_af⟩
  rw [h_afb]
  have B_af:Below w.heap.size w w_af:=(hbW).trans (hb_af.mono (hbW).size)
  have b0_af:=b0.below hb_af (b0).lt
  have b1_af:=b1.below hb_af (b1).lt
  have x_af5:=b0_af.cell 5 _ rfl
  have x_af6:=b0_af.cell 6 _ rfl
  have x_af7:=b0_af.cell 7 _ rfl
  have x_af8:=b0_af.cell 8 _ rfl
  have x_af13:=b0_af.cell 13 _ rfl
  have x_af14:=b0_af.cell 14 _ rfl
  have y_af0:=b1_af.cell 0 _ rfl
  have y_af1:=b1_af.cell 1 _ rfl
  have y_af2:=b1_af.cell 2 _ rfl
  have y_af3:=b1_af.cell 3 _ rfl
  go_wp2
  go_ret
  exact ⟨ret_bool HR.out.symm,B_af⟩
 case pos=>
 by_cases h_bf:isNo r.bf.v=true
 case neg=>
  have HR:Hid (R=false):=by rw [Hid,HZ.out];simp [h_tx,h_prev,h_oid,h_af,h_bf]
  have h_txb:(r.tx == 0)=true:=by simp;exact h_tx
  have h_prevb:(r.prev == 0)=true:=by simp;exact h_prev
  have h_oidb:(r.oid == 0)=true:=by simp;exact h_oid
  have h_bfb:isNo r.bf.v=false:=by simpa using h_bf
  clear HZ h_tx h_prev h_oid
  go_enter Tryz.func113,Tryz.ntmps113
  go_wp2_with fail
  rw [hW.out]
  clear hW
  refine (CA W hbW).mono ?_
  rintro e w_af ⟨rfl,hb_af⟩
  rw [h_af]
  have B_af:Below w.heap.size w w_af:=(hbW).trans (hb_af.mono (hbW).size)
  have b0_af:=b0.below hb_af (b0).lt
  have b1_af:=b1.below hb_af (b1).lt
  have x_af5:=b0_af.cell 5 _ rfl
  have x_af6:=b0_af.cell 6 _ rfl
  have x_af7:=b0_af.cell 7 _ rfl
  have x_af8:=b0_af.cell 8 _ rfl
  have x_af13:=b0_af.cell 13 _ rfl
  have x_af14:=b0_af.cell 14 _ rfl
  have y_af0:=b1_af.cell 0 _ rfl
  have y_af1:=b1_af.cell 1 _ rfl
  have y_af2:=b1_af.cell 2 _ rfl
  have y_af3:=b1_af.cell 3 _ rfl
  go_wp2_with fail
  refine (CB w_af B_af).mono ?_
  rintro e w_bf ⟨rfl,hb_bf⟩
  rw [h_bfb]
  have B_bf:Below w.heap.size w w_bf:=(B_af).trans (hb_bf.mono (B_af).size)
  have b0_bf:=b0_af.below hb_bf (b0_af).lt
  have b1_bf:=b1_af.below hb_bf (b1_af).lt
  have x_bf13:=b0_bf.cell 13 _ rfl
  have x_bf14:=b0_bf.cell 14 _ rfl
  go_wp2
  go_ret
  exact ⟨ret_bool HR.out.symm,B_bf⟩
 case pos=>
 by_cases h_next:r.next=0
 case neg=>
  have HR:Hid (R=false):=by rw [Hid,HZ.out];simp [h_tx,h_prev,h_oid,h_af,h_bf,h_next]
  have h_txb:(r.tx == 0)=true:=by simp;exact h_tx
  have h_prevb:(r.prev == 0)=true:=by simp;exact h_prev
  have h_oidb:(r.oid == 0)=true:=by simp;exact h_oid
  have h_nextb:(r.next == 0)=false:=by simp;exact h_next
  clear HZ h_tx h_prev h_oid h_next
  go_enter Tryz.func113,Tryz.ntmps113
  go_wp2_with fail
  rw [hW.out]
  clear hW
  refine (CA W hbW).mono ?_
  rintro e w_af ⟨rfl,hb_af⟩
  rw [h_af]
  have B_af:Below w.heap.size w w_af:=(hbW).trans (hb_af.mono (hbW).size)
  have b0_af:=b0.below hb_af (b0).lt
  have b1_af:=b1.below hb_af (b1).lt
  have x_af5:=b0_af.cell 5 _ rfl
  have x_af6:=b0_af.cell 6 _ rfl
  have x_af7:=b0_af.cell 7 _ rfl
  have x_af8:=b0_af.cell 8 _ rfl
  have x_af13:=b0_af.cell 13 _ rfl
  have x_af14:=b0_af.cell 14 _ rfl
  have y_af0:=b1_af.cell 0 _ rfl
  have y_af1:=b1_af.cell 1 _ rfl
  have y_af2:=b1_af.cell 2 _ rfl
  have y_af3:=b1_af.cell 3 _ rfl
  go_wp2_with fail
  refine (CB w_af B_af).mono ?_
  rintro e w_bf ⟨rfl,hb_bf⟩
  rw [h_bf]
  have B_bf:Below w.heap.size w w_bf:=(B_af).trans (hb_bf.mono (B_af).size)
  have b0_bf:=b0_af.below hb_bf (b0_af).lt
  have b1_bf:=b1_af.below hb_bf (b1_af).lt
  have x_bf13:=b0_bf.cell 13 _ rfl
  have x_bf14:=b0_bf.cell 14 _ rfl
  go_wp2
  go_ret
  exact ⟨ret_bool HR.out.symm,B_bf⟩
 case pos=>
 have HR:Hid (R=true):=by rw [Hid,HZ.out];simp [h_tx,h_prev,h_oid,h_af,h_bf,h_next]
 have h_txb:(r.tx == 0)=true:=by simp;exact h_tx
 have h_prevb:(r.prev == 0)=true:=by simp;exact h_prev
 have h_oidb:(r.oid == 0)=true:=by simp;exact h_oid
 have h_nextb:(r.next == 0)=true:=by simp;exact h_next
 clear HZ h_tx h_prev h_oid h_next
 go_enter Tryz.func113,Tryz.ntmps113
 go_wp2_with fail
 rw [hW.out]
 clear hW
 refine (CA W hbW).mono ?_
 rintro e w_af ⟨rfl,hb_af⟩
 rw [h_af]
 have B_af:Below w.heap.size w w_af:=(hbW).trans (hb_af.mono (hbW).size)
 have b0_af:=b0.below hb_af (b0).lt
 have b1_af:=b1.below hb_af (b1).lt
 have x_af5:=b0_af.cell 5 _ rfl
 have x_af6:=b0_af.cell 6 _ rfl
 have x_af7:=b0_af.cell 7 _ rfl
 have x_af8:=b0_af.cell 8 _ rfl
 have x_af13:=b0_af.cell 13 _ rfl
 have x_af14:=b0_af.cell 14 _ rfl
 have y_af0:=b1_af.cell 0 _ rfl
 have y_af1:=b1_af.cell 1 _ rfl
 have y_af2:=b1_af.cell 2 _ rfl
 have y_af3:=b1_af.cell 3 _ rfl
 go_wp2_with fail
 refine (CB w_af B_af).mono ?_
 rintro e w_bf ⟨rfl,hb_bf⟩
 rw [h_bf]
 have B_bf:Below w.heap.size w w_bf:=(B_af).trans (hb_bf.mono (B_af).size)
 have b0_bf:=b0_af.below hb_bf (b0_af).lt
 have b1_bf:=b1_af.below hb_bf (b1_af).lt
 have x_bf13:=b0_bf.cell 13 _ rfl
 have x_bf14:=b0_bf.cell 14 _ rfl
 go_wp2
 go_ret
 exact ⟨ret_bool HR.out.symm,B_bf⟩
theorem l4Zero_set (r:RecA) (w:World) (hr:r.reads w) (hl:r.short 1099511627776):
  Calls Tryz.prog 113 #[.agg r.cells.toArray,.bool true,.bool true,.bool true,.bool false,.bool false] w fun e w'=>e=.returned (.bool (zeroB r.v true true true false false))∧Below w.heap.size w w':=by
 obtain ⟨W,hW,b0,b1,hbW,hsW⟩:=boxes2 w r.cells [.bool false,.int .i64 0,.slice none 0 0,.slice none 0 0] 100 44
 have CB:∀ u,Below w.heap.size w u→_:=fun u hu=>l3SameNone_any r.bf u (ReadsO.below hr.bf hu) (fun s hs=>by obtain rfl:=List.mem_singleton.1 hs;exact hl.bf)
 have CA:∀ u,Below w.heap.size w u→_:=fun u hu=>l3SameNone_any r.af u (ReadsO.below hr.af hu) (fun s hs=>by obtain rfl:=List.mem_singleton.1 hs;exact hl.af)
 have HZ:Hid (zeroB r.v true true true false false=((true || (decide (r.tx=0) && decide (r.prev=0))) && (true || (decide (r.oid=0) && isNo r.af.v)) && (true || isNo r.bf.v) && (false || decide (r.next=0)) && (false || decide (r.txs.length=0)))):=rfl
 generalize zeroB r.v true true true false false=R at*
 simp only [RecA.cells] at*
 simp only [SlotA.cells] at CA CB
 clear hsW hr hl
 by_cases h_next:r.next=0
 case neg=>
  have HR:Hid (R=false):=by rw [Hid,HZ.out];simp [h_next]
  have h_nextb:(r.next == 0)=false:=by simp;exact h_next
  clear HZ h_next
  go_enter Tryz.func113,Tryz.ntmps113
  go_wp2
  rw [hW.out]
  go_ret
  exact ⟨ret_bool HR.out.symm,hbW⟩
 case pos=>
 by_cases h_txs:r.txs.length=0
 case neg=>
  have HR:Hid (R=false):=by rw [Hid,HZ.out];simp [h_next,h_txs]
  have h_nextb:(r.next == 0)=true:=by simp;exact h_next
  have h_txsb:((r.txs.length:Int) == 0)=false:=by simp;exact fun e=>h_txs (by rw [e];rfl)
  clear HZ h_next h_txs
  go_enter Tryz.func113,Tryz.ntmps113
  go_wp2
  rw [hW.out]
  go_ret
  exact ⟨ret_bool HR.out.symm,hbW⟩
 case pos=>
 have HR:Hid (R=true):=by rw [Hid,HZ.out];simp [h_next,h_txs]
 have h_nextb:(r.next == 0)=true:=by simp;exact h_next
 have h_txsb:((r.txs.length:Int) == 0)=true:=by simp;exact List.length_eq_zero_iff.1 h_txs
 clear HZ h_next h_txs
 go_enter Tryz.func113,Tryz.ntmps113
 go_wp2
 rw [hW.out]
 go_ret
 exact ⟨ret_bool HR.out.symm,hbW⟩
theorem l4Zero_back (r:RecA) (w:World) (hr:r.reads w) (hl:r.short 1099511627776):
  Calls Tryz.prog 113 #[.agg r.cells.toArray,.bool true,.bool true,.bool false,.bool true,.bool false] w fun e w'=>e=.returned (.bool (zeroB r.v true true false true false))∧Below w.heap.size w w':=by
 obtain ⟨W,hW,b0,b1,hbW,hsW⟩:=boxes2 w r.cells [.bool false,.int .i64 0,.slice none 0 0,.slice none 0 0] 100 44
 have CB:∀ u,Below w.heap.size w u→_:=fun u hu=>l3SameNone_any r.bf u (ReadsO.below hr.bf hu) (fun s hs=>by obtain rfl:=List.mem_singleton.1 hs;exact hl.bf)
 have CA:∀ u,Below w.heap.size w u→_:=fun u hu=>l3SameNone_any r.af u (ReadsO.below hr.af hu) (fun s hs=>by obtain rfl:=List.mem_singleton.1 hs;exact hl.af)
 have HZ:Hid (zeroB r.v true true false true false=((true || (decide (r.tx=0) && decide (r.prev=0))) && (true || (decide (r.oid=0) && isNo r.af.v)) && (false || isNo r.bf.v) && (true || decide (r.next=0)) && (false || decide (r.txs.length=0)))):=rfl
 generalize zeroB r.v true true false true false=R at*
 simp only [RecA.cells] at*
 simp only [SlotA.cells] at CA CB
 clear hsW hr hl
 by_cases h_bf:isNo r.bf.v=true
 case neg=>
  have HR:Hid (R=false):=by rw [Hid,HZ.out];simp [h_bf]
  have h_bfb:isNo r.bf.v=false:=by simpa using h_bf
  clear HZ 
  go_enter Tryz.func113,Tryz.ntmps113
  go_wp2_with fail
  rw [hW.out]
  clear hW
  refine (CB W hbW).mono ?_
  rintro e w_bf ⟨rfl,hb_bf⟩
  rw [h_bfb]
  have B_bf:Below w.heap.size w w_bf:=(hbW).trans (hb_bf.mono (hbW).size)
  have b0_bf:=b0.below hb_bf (b0).lt
  have b1_bf:=b1.below hb_bf (b1).lt
  have x_bf13:=b0_bf.cell 13 _ rfl
  have x_bf14:=b0_bf.cell 14 _ rfl
  go_wp2
  go_ret
  exact ⟨ret_bool HR.out.symm,B_bf⟩
 case pos=>
 by_cases h_txs:r.txs.length=0
 case neg=>
  have HR:Hid (R=false):=by rw [Hid,HZ.out];simp [h_bf,h_txs]
  have h_txsb:((r.txs.length:Int) == 0)=false:=by simp;exact fun e=>h_txs (by rw [e];rfl)
  clear HZ h_txs
  go_enter Tryz.func113,Tryz.ntmps113
  go_wp2_with fail
  rw [hW.out]
  clear hW
  refine (CB W hbW).mono ?_
  rintro e w_bf ⟨rfl,hb_bf⟩
  rw [h_bf]
  have B_bf:Below w.heap.size w w_bf:=(hbW).trans (hb_bf.mono (hbW).size)
  have b0_bf:=b0.below hb_bf (b0).lt
  have b1_bf:=b1.below hb_bf (b1).lt
  have x_bf13:=b0_bf.cell 13 _ rfl
  have x_bf14:=b0_bf.cell 14 _ rfl
  go_wp2
  go_ret
  exact ⟨ret_bool HR.out.symm,B_bf⟩
 case pos=>
 have HR:Hid (R=true):=by rw [Hid,HZ.out];simp [h_bf,h_txs]
 have h_txsb:((r.txs.length:Int) == 0)=true:=by simp;exact List.length_eq_zero_iff.1 h_txs
 clear HZ h_txs
 go_enter Tryz.func113,Tryz.ntmps113
 go_wp2_with fail
 rw [hW.out]
 clear hW
 refine (CB W hbW).mono ?_
 rintro e w_bf ⟨rfl,hb_bf⟩
 rw [h_bf]
 have B_bf:Below w.heap.size w w_bf:=(hbW).trans (hb_bf.mono (hbW).size)
 have b0_bf:=b0.below hb_bf (b0).lt
 have b1_bf:=b1.below hb_bf (b1).lt
 have x_bf13:=b0_bf.cell 13 _ rfl
 have x_bf14:=b0_bf.cell 14 _ rfl
 go_wp2
 go_ret
 exact ⟨ret_bool HR.out.symm,B_bf⟩
theorem l4Zero_end (r:RecA) (w:World) (hr:r.reads w) (hl:r.short 1099511627776):
  Calls Tryz.prog 113 #[.agg r.cells.toArray,.bool true,.bool false,.bool false,.bool false,.bool false] w fun e w'=>e=.returned (.bool (zeroB r.v true false false false false))∧Below w.heap.size w w':=by
 obtain ⟨W,hW,b0,b1,hbW,hsW⟩:=boxes2 w r.cells [.bool false,.int .i64 0,.slice none 0 0,.slice none 0 0] 100 44
 have CB:∀ u,Below w.heap.size w u→_:=fun u hu=>l3SameNone_any r.bf u (ReadsO.below hr.bf hu) (fun s hs=>by obtain rfl:=List.mem_singleton.1 hs;exact hl.bf)
 have CA:∀ u,Below w.heap.size w u→_:=fun u hu=>l3SameNone_any r.af u (ReadsO.below hr.af hu) (fun s hs=>by obtain rfl:=List.mem_singleton.1 hs;exact hl.af)
 have HZ:Hid (zeroB r.v true false false false false=((true || (decide (r.tx=0) && decide (r.prev=0))) && (false || (decide (r.oid=0) && isNo r.af.v)) && (false || isNo r.bf.v) && (false || decide (r.next=0)) && (false || decide (r.txs.length=0)))):=rfl
 generalize zeroB r.v true false false false false=R at*
 simp only [RecA.cells] at*
 simp only [SlotA.cells] at CA CB
 clear hsW hr hl
 by_cases h_oid:r.oid=0
 case neg=>
  have HR:Hid (R=false):=by rw [Hid,HZ.out];simp [h_oid]
  have h_oidb:(r.oid == 0)=false:=by simp;exact h_oid
  clear HZ h_oid
  go_enter Tryz.func113,Tryz.ntmps113
  go_wp2
  rw [hW.out]
  go_ret
  exact ⟨ret_bool HR.out.symm,hbW⟩
 case pos=>
 by_cases h_af:isNo r.af.v=true
 case neg=>
  have HR:Hid (R=false):=by rw [Hid,HZ.out];simp [h_oid,h_af]
  have h_oidb:(r.oid == 0)=true:=by simp;exact h_oid
  have h_afb:isNo r.af.v=false:=by simpa using h_af
  clear HZ h_oid
  go_enter Tryz.func113,Tryz.ntmps113
  go_wp2_with fail
  rw [hW.out]
  clear hW
  refine (CA W hbW).mono ?_
  rintro e w_af ⟨rfl,hb_af⟩
  rw [h_afb]
  have B_af:Below w.heap.size w w_af:=(hbW).trans (hb_af.mono (hbW).size)
  have b0_af:=b0.below hb_af (b0).lt
  have b1_af:=b1.below hb_af (b1).lt
  have x_af5:=b0_af.cell 5 _ rfl
  have x_af6:=b0_af.cell 6 _ rfl
  have x_af7:=b0_af.cell 7 _ rfl
  have x_af8:=b0_af.cell 8 _ rfl
  have x_af13:=b0_af.cell 13 _ rfl
  have x_af14:=b0_af.cell 14 _ rfl
  have y_af0:=b1_af.cell 0 _ rfl
  have y_af1:=b1_af.cell 1 _ rfl
  have y_af2:=b1_af.cell 2 _ rfl
  have y_af3:=b1_af.cell 3 _ rfl
  go_wp2
  go_ret
  exact ⟨ret_bool HR.out.symm,B_af⟩
 case pos=>
 by_cases h_bf:isNo r.bf.v=true
 case neg=>
  have HR:Hid (R=false):=by rw [Hid,HZ.out];simp [h_oid,h_af,h_bf]
  have h_oidb:(r.oid == 0)=true:=by simp;exact h_oid
  have h_bfb:isNo r.bf.v=false:=by simpa using h_bf
  clear HZ h_oid
  go_enter Tryz.func113,Tryz.ntmps113
  go_wp2_with fail
  rw [hW.out]
  clear hW
  refine (CA W hbW).mono ?_
  rintro e w_af ⟨rfl,hb_af⟩
  rw [h_af]
  have B_af:Below w.heap.size w w_af:=(hbW).trans (hb_af.mono (hbW).size)
  have b0_af:=b0.below hb_af (b0).lt
  have b1_af:=b1.below hb_af (b1).lt
  have x_af5:=b0_af.cell 5 _ rfl
  have x_af6:=b0_af.cell 6 _ rfl
  have x_af7:=b0_af.cell 7 _ rfl
  have x_af8:=b0_af.cell 8 _ rfl
  have x_af13:=b0_af.cell 13 _ rfl
  have x_af14:=b0_af.cell 14 _ rfl
  have y_af0:=b1_af.cell 0 _ rfl
  have y_af1:=b1_af.cell 1 _ rfl
  have y_af2:=b1_af.cell 2 _ rfl
  have y_af3:=b1_af.cell 3 _ rfl
  go_wp2_with fail
  refine (CB w_af B_af).mono ?_
  rintro e w_bf ⟨rfl,hb_bf⟩
  rw [h_bfb]
  have B_bf:Below w.heap.size w w_bf:=(B_af).trans (hb_bf.mono (B_af).size)
  have b0_bf:=b0_af.below hb_bf (b0_af).lt
  have b1_bf:=b1_af.below hb_bf (b1_af).lt
  have x_bf13:=b0_bf.cell 13 _ rfl
  have x_bf14:=b0_bf.cell 14 _ rfl
  go_wp2
  go_ret
  exact ⟨ret_bool HR.out.symm,B_bf⟩
 case pos=>
 by_cases h_next:r.next=0
 case neg=>
  have HR:Hid (R=false):=by rw [Hid,HZ.out];simp [h_oid,h_af,h_bf,h_next]
  have h_oidb:(r.oid == 0)=true:=by simp;exact h_oid
  have h_nextb:(r.next == 0)=false:=by simp;exact h_next
  clear HZ h_oid h_next
  go_enter Tryz.func113,Tryz.ntmps113
  go_wp2_with fail
  rw [hW.out]
  clear hW
  refine (CA W hbW).mono ?_
  rintro e w_af ⟨rfl,hb_af⟩
  rw [h_af]
  have B_af:Below w.heap.size w w_af:=(hbW).trans (hb_af.mono (hbW).size)
  have b0_af:=b0.below hb_af (b0).lt
  have b1_af:=b1.below hb_af (b1).lt
  have x_af5:=b0_af.cell 5 _ rfl
  have x_af6:=b0_af.cell 6 _ rfl
  have x_af7:=b0_af.cell 7 _ rfl
  have x_af8:=b0_af.cell 8 _ rfl
  have x_af13:=b0_af.cell 13 _ rfl
  have x_af14:=b0_af.cell 14 _ rfl
  have y_af0:=b1_af.cell 0 _ rfl
  have y_af1:=b1_af.cell 1 _ rfl
  have y_af2:=b1_af.cell 2 _ rfl
  have y_af3:=b1_af.cell 3 _ rfl
  go_wp2_with fail
  refine (CB w_af B_af).mono ?_
  rintro e w_bf ⟨rfl,hb_bf⟩
  rw [h_bf]
  have B_bf:Below w.heap.size w w_bf:=(B_af).trans (hb_bf.mono (B_af).size)
  have b0_bf:=b0_af.below hb_bf (b0_af).lt
  have b1_bf:=b1_af.below hb_bf (b1_af).lt
  have x_bf13:=b0_bf.cell 13 _ rfl
  have x_bf14:=b0_bf.cell 14 _ rfl
  go_wp2
  go_ret
  exact ⟨ret_bool HR.out.symm,B_bf⟩
 case pos=>
 by_cases h_txs:r.txs.length=0
 case neg=>
  have HR:Hid (R=false):=by rw [Hid,HZ.out];simp [h_oid,h_af,h_bf,h_next,h_txs]
  have h_oidb:(r.oid == 0)=true:=by simp;exact h_oid
  have h_nextb:(r.next == 0)=true:=by simp;exact h_next
  have h_txsb:((r.txs.length:Int) == 0)=false:=by simp;exact fun e=>h_txs (by rw [e];rfl)
  clear HZ h_oid h_next h_txs
  go_enter Tryz.func113,Tryz.ntmps113
  go_wp2_with fail
  rw [hW.out]
  clear hW
  refine (CA W hbW).mono ?_
  rintro e w_af ⟨rfl,hb_af⟩
  rw [h_af]
  have B_af:Below w.heap.size w w_af:=(hbW).trans (hb_af.mono (hbW).size)
  have b0_af:=b0.below hb_af (b0).lt
  have b1_af:=b1.below hb_af (b1).lt
  have x_af5:=b0_af.cell 5 _ rfl
  have x_af6:=b0_af.cell 6 _ rfl
  have x_af7:=b0_af.cell 7 _ rfl
  have x_af8:=b0_af.cell 8 _ rfl
  have x_af13:=b0_af.cell 13 _ rfl
  have x_af14:=b0_af.cell 14 _ rfl
  have y_af0:=b1_af.cell 0 _ rfl
  have y_af1:=b1_af.cell 1 _ rfl
  have y_af2:=b1_af.cell 2 _ rfl
  have y_af3:=b1_af.cell 3 _ rfl
  go_wp2_with fail
  refine (CB w_af B_af).mono ?_
  rintro e w_bf ⟨rfl,hb_bf⟩
  rw [h_bf]
  have B_bf:Below w.heap.size w w_bf:=(B_af).trans (hb_bf.mono (B_af).size)
  have b0_bf:=b0_af.below hb_bf (b0_af).lt
  have b1_bf:=b1_af.below hb_bf (b1_af).lt
  have x_bf13:=b0_bf.cell 13 _ rfl
  have x_bf14:=b0_bf.cell 14 _ rfl
  go_wp2
  go_ret
  exact ⟨ret_bool HR.out.symm,B_bf⟩
 case pos=>
 have HR:Hid (R=true):=by rw [Hid,HZ.out];simp [h_oid,h_af,h_bf,h_next,h_txs]
 have h_oidb:(r.oid == 0)=true:=by simp;exact h_oid
 have h_nextb:(r.next == 0)=true:=by simp;exact h_next
 have h_txsb:((r.txs.length:Int) == 0)=true:=by simp;exact List.length_eq_zero_iff.1 h_txs
 clear HZ h_oid h_next h_txs
 go_enter Tryz.func113,Tryz.ntmps113
 go_wp2_with fail
 rw [hW.out]
 clear hW
 refine (CA W hbW).mono ?_
 rintro e w_af ⟨rfl,hb_af⟩
 rw [h_af]
 have B_af:Below w.heap.size w w_af:=(hbW).trans (hb_af.mono (hbW).size)
 have b0_af:=b0.below hb_af (b0).lt
 have b1_af:=b1.below hb_af (b1).lt
 have x_af5:=b0_af.cell 5 _ rfl
 have x_af6:=b0_af.cell 6 _ rfl
 have x_af7:=b0_af.cell 7 _ rfl
 have x_af8:=b0_af.cell 8 _ rfl
 have x_af13:=b0_af.cell 13 _ rfl
 have x_af14:=b0_af.cell 14 _ rfl
 have y_af0:=b1_af.cell 0 _ rfl
 have y_af1:=b1_af.cell 1 _ rfl
 have y_af2:=b1_af.cell 2 _ rfl
 have y_af3:=b1_af.cell 3 _ rfl
 go_wp2_with fail
 refine (CB w_af B_af).mono ?_
 rintro e w_bf ⟨rfl,hb_bf⟩
 rw [h_bf]
 have B_bf:Below w.heap.size w w_bf:=(B_af).trans (hb_bf.mono (B_af).size)
 have b0_bf:=b0_af.below hb_bf (b0_af).lt
 have b1_bf:=b1_af.below hb_bf (b1_af).lt
 have x_bf13:=b0_bf.cell 13 _ rfl
 have x_bf14:=b0_bf.cell 14 _ rfl
 go_wp2
 go_ret
 exact ⟨ret_bool HR.out.symm,B_bf⟩
def liveOk (lsn:Int) (ls:List LiveV):Nat→Bool
 | 0=>inB (ls.getD 0 zeroL).tx 1 1000 && inB (ls.getD 0 zeroL).last 1 (lsn-1)
 | k+1=>inB (ls.getD (k+1) zeroL).tx 1 1000 && inB (ls.getD (k+1) zeroL).last 1 (lsn-1) && decide ((ls.getD k zeroL).tx<(ls.getD (k+1) zeroL).tx)
def livesB (lsn:Int) (ls:List LiveV):Bool:=(List.range ls.length).all (liveOk lsn ls) && decide (ls.length≤20)
theorem livesB_no {lsn:Int} {ls:List LiveV} (k:Nat) (hk:k<ls.length) (h:liveOk lsn ls k=false):livesB lsn ls=false:=by
 have:(List.range ls.length).all (liveOk lsn ls)=false:=by
  rw [List.all_eq_false]
  exact ⟨k,List.mem_range.2 hk,by rw [h];decide⟩
 simp [livesB,this]
theorem livesB_all {lsn:Int} {ls:List LiveV} (h:∀ k,k<ls.length→liveOk lsn ls k=true):livesB lsn ls=decide (ls.length≤20):=by
 have:(List.range ls.length).all (liveOk lsn ls)=true:=by
  rw [List.all_eq_true]
  exact fun k hk=>h k (List.mem_range.1 hk)
 simp [livesB,this]
theorem l4Lives_any (r:RecA) (w:World) (hr:ReadsL w r.aL r.txs) (hl:r.txs.length≤1099511627776) (hn:1≤r.lsn∧r.lsn≤1000000):
  Calls Tryz.prog 114 #[.agg r.cells.toArray] w fun e w'=>e=.returned (.bool (livesB r.lsn r.txs))∧Below w.heap.size w w':=by
 obtain ⟨W,hW,b0,hbW,hsW⟩:=boxes1 w r.cells 100
 have HNO:Hid (∀ k,k<r.txs.length→liveOk r.lsn r.txs k=false→livesB r.lsn r.txs=false):=fun k hk h=>livesB_no k hk h
 have HAL:Hid ((∀ k,k<r.txs.length→liveOk r.lsn r.txs k=true)→livesB r.lsn r.txs=decide (r.txs.length≤20)):=fun h=>livesB_all h
 generalize livesB r.lsn r.txs=R at*
 have hc0:=b0.cell 0 _ rfl
 have hc14:=b0.cell 14 _ rfl
 simp only [RecA.cells] at hW ⊢
 clear hsW b0
 generalize r.lsn=lsn at*
 generalize r.txs=ls at*
 generalize r.aL=aL at*
 have hr':=hr.below hbW
 clear hr
 go_enter Tryz.func114,Tryz.ntmps114
 go_wp2_with fail
 rw [hW.out]
 clear hW
 go_loopw [3] (fun i wr=>∃ k:Nat,k≤ls.length∧i=.int .i64 k∧Hid (∀ j,j<k→liveOk lsn ls j=true)∧Below W.heap.size W wr) (fun i _=>ls.length-(intOf i).toNat)
 case atStart=>exact ⟨0,Nat.zero_le _,rfl,fun j hj=>by omega,Below.refl _ _⟩
 case round=>
  obtain ⟨k,hk,rfl,hall,hbl⟩:=hrel
  have hbm:Below w.heap.size w wr:=hbW.trans (hbl.mono hbW.size)
  have r0:=(hbl.cell (block_lt hc0)).trans hc0
  have r14:=(hbl.cell (block_lt hc14)).trans hc14
  have hrr:=hr'.below hbl
  clear hc0 hc14 hr'
  by_cases hlt:k<ls.length
  ·obtain ⟨b,off,rfl,hcell⟩:=hrr (by intro e;rw [e] at hlt;simp at hlt)
   obtain ⟨c0,c1,_⟩:=hcell k hlt
   cases k with
   | zero=>
    clear hcell
    simp only [Nat.zero_mul,Nat.add_zero] at c0 c1
    have HL:Hid (liveOk lsn ls 0=(inB (ls.getD 0 zeroL).tx 1 1000 && inB (ls.getD 0 zeroL).last 1 (lsn-1))):=rfl
    generalize ls.getD 0 zeroL=z at*
    cases h1:inB z.tx 1 1000 with
    | false=>
     have HR:Hid (R=false):=HNO.out 0 hlt (by rw [HL.out,h1];rfl)
     clear HL HNO HAL
     go_wp2
     go_quiet ((go_at_call 52;exact Calls.quiet_of_same (l1In_any _ _ _ _)))
     go_wp2
     go_ret
     exact ⟨ret_bool HR.out.symm,by first | exact below_drewN hbm _ | exact hbm⟩
    | true=>
     cases h2:inB z.last 1 (lsn-1) with
     | false=>
      have HR:Hid (R=false):=HNO.out 0 hlt (by rw [HL.out,h1,h2];rfl)
      clear HL HNO HAL
      go_wp2
      go_quiet ((go_at_call 52;exact Calls.quiet_of_same (l1In_any _ _ _ _)))
      go_wp2
      go_ret
      exact ⟨ret_bool HR.out.symm,by first | exact below_drewN hbm _ | exact hbm⟩
     | true=>
      have HR:Hid (∀ j,j<1→liveOk lsn ls j=true):=fun j hj=>by
       obtain rfl:j=0:=by omega
       rw [HL.out,h1,h2]
       rfl
      clear HL HNO HAL
      go_wp2
      go_quiet ((go_at_call 52;exact Calls.quiet_of_same (l1In_any _ _ _ _)))
      go_wp2
      go_roundw
      case rel=>exact ⟨1,by omega,by go_num,HR,by first | exact below_drewN hbl _ | exact hbl⟩
      case measure=>simp [intOf];omega
   | succ j=>
    obtain ⟨d0,_,_⟩:=hcell j (by omega)
    clear hcell
    have HL:Hid (liveOk lsn ls (j+1)=(inB (ls.getD (j+1) zeroL).tx 1 1000 && inB (ls.getD (j+1) zeroL).last 1 (lsn-1) && decide ((ls.getD j zeroL).tx<(ls.getD (j+1) zeroL).tx))):=rfl
    generalize ls.getD (j+1) zeroL=z at*
    generalize ls.getD j zeroL=p at*
    cases h1:inB z.tx 1 1000 with
    | false=>
     have HR:Hid (R=false):=HNO.out (j+1) hlt (by rw [HL.out,h1];rfl)
     clear HL HNO HAL
     go_wp2
     go_quiet ((go_at_call 52;exact Calls.quiet_of_same (l1In_any _ _ _ _)))
     go_wp2
     go_ret
     exact ⟨ret_bool HR.out.symm,by first | exact below_drewN hbm _ | exact hbm⟩
    | true=>
     cases h2:inB z.last 1 (lsn-1) with
     | false=>
      have HR:Hid (R=false):=HNO.out (j+1) hlt (by rw [HL.out,h1,h2];rfl)
      clear HL HNO HAL
      go_wp2
      go_quiet ((go_at_call 52;exact Calls.quiet_of_same (l1In_any _ _ _ _)))
      go_wp2
      go_ret
      exact ⟨ret_bool HR.out.symm,by first | exact below_drewN hbm _ | exact hbm⟩
     | true=>
      by_cases h3:p.tx<z.tx
      case neg=>
       have HR:Hid (R=false):=HNO.out (j+1) hlt (by rw [HL.out,h1,h2,decide_eq_false h3];rfl)
       have h3b:decide (z.tx≤p.tx)=true:=by simpa using h3
       clear HL HNO HAL
       go_wp2
       go_quiet ((go_at_call 52;exact Calls.quiet_of_same (l1In_any _ _ _ _)))
       go_wp2
       go_ret
       exact ⟨ret_bool HR.out.symm,by first | exact below_drewN hbm _ | exact hbm⟩
      case pos=>
       have HR:Hid (∀ i,i<j+1+1→liveOk lsn ls i=true):=fun i hi=>by
        by_cases e:i=j+1
        ·rw [e,HL.out,h1,h2,decide_eq_true h3];rfl
        ·exact hall.out i (by omega)
       have h3b:decide (z.tx≤p.tx)=false:=by simpa using h3
       clear HL HNO HAL
       go_wp2
       go_quiet ((go_at_call 52;exact Calls.quiet_of_same (l1In_any _ _ _ _)))
       go_wp2
       go_roundw
       case rel=>exact ⟨j+1+1,by omega,by go_num,HR,by first | exact below_drewN hbl _ | exact hbl⟩
       case measure=>simp [intOf];omega
  ·have HR:Hid (R=decide ((ls.length:Int)≤20)):=by
    rw [Hid,HAL.out (fun j hj=>hall.out j (by omega))]
    simp only [decide_eq_decide]
    omega
   clear HNO HAL
   go_wp2
   go_ret
   exact ⟨ret_bool HR.out.symm,hbm⟩
end Go.Proofs.YtcoeamamaifoeaaGreatDoor
namespace Go.Proofs.YtcoeamamaifoeaaGreatDoor
open Go.RowKit
theorem Box.pslot {w:World} {B:Nat} {v:Value} {ss:List SlotA} {t:TypeId} (b:Box w B (v::cellsS ss) t) (k:Nat) (hk:k<ss.length):
  w.cell? ⟨B,1+k*4,none⟩=some (.bool (ss.getD k zeroS).v.has)∧w.cell? ⟨B,1+k*4+1,none⟩=some (.int .i64 (ss.getD k zeroS).v.o.kind)∧
  w.cell? ⟨B,1+k*4+2,none⟩=some (.slice (ss.getD k zeroS).aI (ss.getD k zeroS).v.o.ints.length (ss.getD k zeroS).cI)∧w.cell? ⟨B,1+k*4+3,none⟩=some (.slice (ss.getD k zeroS).aR (ss.getD k zeroS).v.o.refs.length (ss.getD k zeroS).cR)∧
  (∀ i,w.frozen? ⟨B,i,none⟩=false):=by
 have key:∀ j,j<4→(v::cellsS ss)[1+k*4+j]? =(ss.getD k zeroS).cells[j]? :=fun j hj=>by
  rw [show 1+k*4+j=(k*4+j)+1 by omega,List.getElem?_cons_succ]
  exact cellsS_at ss k j hk hj
 exact ⟨b.cell _ _ (key 0 (by omega)),b.cell _ _ (key 1 (by omega)),b.cell _ _ (key 2 (by omega)),b.cell _ _ (key 3 (by omega)),fun i=>b.frozen i⟩
end Go.Proofs.YtcoeamamaifoeaaGreatDoor