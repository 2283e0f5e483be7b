/- Several texts in one, in their order. -/
import Derived.Test.YtfehemepdoomdaaGreatDoorPCommitx6
import Derived.Deep.QuietTactic
import Derived.Deep.RegionHeld3
import Derived.Test.YtfehemepdoomdaaGreatDoorPCommitx4
import Derived.Test.YtfehemepdoomdaaGreatDoorPCommitx1
set_option maxHeartbeats 8000000
set_option maxRecDepth 100000
namespace Go.Proofs.YtfehemepdoomdaaGreatDoor
open Go.RowKit
theorem txOk_any (x:Int) (w:World):Calls Tryz.prog 196 #[.int .i64 x] w fun e w'=>e=.returned (.bool (inB x 1 1000))∧w'=w:=by
 by_cases h1:1≤x
 ·by_cases h2:x≤1000
  ·have HB:Hid (inB x 1 1000=true):=by simp [Hid,inB];omega
   go_enter Tryz.func196,Tryz.ntmps196
   go_wp2
   go_ret
   exact ⟨ret_bool HB.out.symm,rfl⟩
  ·have HB:Hid (inB x 1 1000=false):=by simp [Hid,inB];omega
   go_enter Tryz.func196,Tryz.ntmps196
   go_wp2
   go_ret
   exact ⟨ret_bool HB.out.symm,rfl⟩
 ·have HB:Hid (inB x 1 1000=false):=by simp [Hid,inB];omega
  go_enter Tryz.func196,Tryz.ntmps196
  go_wp2
  go_ret
  exact ⟨ret_bool HB.out.symm,rfl⟩
theorem oidOk_any (x:Int) (w:World):Calls Tryz.prog 129 #[.int .i64 x] w fun e w'=>e=.returned (.bool (inB x 1 31))∧w'=w:=by
 by_cases h1:1≤x
 ·by_cases h2:x≤31
  ·have HB:Hid (inB x 1 31=true):=by simp [Hid,inB];omega
   go_enter Tryz.func129,Tryz.ntmps129
   go_wp2
   go_ret
   exact ⟨ret_bool HB.out.symm,rfl⟩
  ·have HB:Hid (inB x 1 31=false):=by simp [Hid,inB];omega
   go_enter Tryz.func129,Tryz.ntmps129
   go_wp2
   go_ret
   exact ⟨ret_bool HB.out.symm,rfl⟩
 ·have HB:Hid (inB x 1 31=false):=by simp [Hid,inB];omega
  go_enter Tryz.func129,Tryz.ntmps129
  go_wp2
  go_ret
  exact ⟨ret_bool HB.out.symm,rfl⟩
theorem isAhead_any (n x:Int) (w:World):Calls Tryz.prog 175 #[.int .i64 n,.int .i64 x] w fun e w'=>e=.returned (.bool (inB x 0 (n-1)))∧w'=w:=by
 by_cases h1:0≤x
 ·by_cases h2:x<n
  ·have HB:Hid (inB x 0 (n-1)=true):=by simp [Hid,inB];omega
   go_enter Tryz.func175,Tryz.ntmps175
   go_wp2
   go_ret
   exact ⟨ret_bool HB.out.symm,rfl⟩
  ·have HB:Hid (inB x 0 (n-1)=false):=by simp [Hid,inB];omega
   go_enter Tryz.func175,Tryz.ntmps175
   go_wp2
   go_ret
   exact ⟨ret_bool HB.out.symm,rfl⟩
 ·have HB:Hid (inB x 0 (n-1)=false):=by simp [Hid,inB];omega
  go_enter Tryz.func175,Tryz.ntmps175
  go_wp2
  go_ret
  exact ⟨ret_bool HB.out.symm,rfl⟩
def linkB (n tx prev:Int):Bool:=inB tx 1 1000 && inB prev 0 (n-1)
theorem linkOk_any (n tx prev:Int) (w:World):Calls Tryz.prog 174 #[.int .i64 n,.agg #[.int .i64 tx,.int .i64 prev]] w fun e w'=>e=.returned (.bool (linkB n tx prev))∧Below w.heap.size w w':=by
 obtain ⟨W,hW,b0,hbW,hsW⟩:=boxes1 w [.int .i64 tx,.int .i64 prev] 210
 have HZ:Hid (linkB n tx prev=(inB tx 1 1000 && inB prev 0 (n-1))):=rfl
 generalize linkB n tx prev=R at*
 have y0:=b0.cell 0 _ rfl
 have y1:=b0.cell 1 _ rfl
 clear hsW b0
 go_enter Tryz.func174,Tryz.ntmps174
 go_wp2_with fail
 rw [hW.out]
 clear hW
 refine (txOk_any _ W).mono ?_
 rintro e u ⟨rfl,hu⟩
 rw [hu]
 clear hu u
 cases h0:inB tx 1 1000 with
 | false=>
  have HR:Hid (R=false):=by rw [Hid,HZ.out];simp [h0]
  go_wp2
  go_ret
  exact ⟨ret_bool HR.out.symm,hbW⟩
 | true=>
  have HR:Hid (R=inB prev 0 (n-1)):=by rw [Hid,HZ.out];simp [h0]
  go_wp2_with fail
  refine (isAhead_any _ _ W).mono ?_
  rintro e u ⟨rfl,hu⟩
  rw [hu]
  clear hu u
  go_wp2
  go_ret
  exact ⟨ret_bool HR.out.symm,hbW⟩
def aheadTx (ls:List LiveV):Nat→Int
 | 0=>0
 | k+1=>(ls.getD k zeroL).tx
theorem liveOk_eq (n:Int) (ls:List LiveV) (k:Nat):liveOk n ls k=(decide (aheadTx ls k<(ls.getD k zeroL).tx) && (inB (ls.getD k zeroL).tx 1 1000 && (!((ls.getD k zeroL).last == 0) && inB (ls.getD k zeroL).last 0 (n-1)))):=by
 rw [Bool.eq_iff_iff]
 cases k with
 | zero=>simp [liveOk,aheadTx,inB];omega
 | succ k=>simp [liveOk,aheadTx,inB];omega
theorem livesOk_any (n:Int) (aL:Option Addr) (cL:Nat) (ls:List LiveV) (w:World) (hr:ReadsL w aL ls) (hl:ls.length≤1099511627776):
  Calls Tryz.prog 176 #[.int .i64 n,.slice aL ls.length cL] w fun e w'=>e=.returned (.bool (livesB n ls))∧Below w.heap.size w w':=by
 have HNO:Hid (∀ k,k<ls.length→liveOk n ls k=false→livesB n ls=false):=fun k hk h=>livesB_no k hk h
 have HAL:Hid ((∀ k,k<ls.length→liveOk n ls k=true)→livesB n ls=decide (ls.length≤20)):=fun h=>livesB_all h
 generalize livesB n ls=R at*
 go_enter Tryz.func176,Tryz.ntmps176
 go_wp2
 go_loopw [5,10] (fun t i wr=>∃ k:Nat,k≤ls.length∧i=.int .i64 k∧t=.int .i64 (aheadTx ls k)∧Hid (∀ j,j<k→liveOk n ls j=true)∧Below w.heap.size w wr) (fun _ i _=>ls.length-(intOf i).toNat)
 case atStart=>exact ⟨0,Nat.zero_le _,rfl,rfl,fun j hj=>by omega,Below.refl _ _⟩
 case round=>
  obtain ⟨k,hk,rfl,rfl,hall,hbl⟩:=hrel
  have hrr:=hr.below hbl
  clear hr
  by_cases hlt:k<ls.length
  ·obtain ⟨b,off,rfl,hcell⟩:=hrr (by intro e;rw [e] at hlt;simp at hlt)
   obtain ⟨c0,c1,c2⟩:=hcell k hlt
   have HQ:Hid (_=_):=liveOk_eq n ls k
   have HX:Hid (aheadTx ls (k+1)=(ls.getD k zeroL).tx):=rfl
   have HN:Hid (liveOk n ls k=false→R=false):=fun h=>HNO.out k hlt h
   clear hcell HNO HAL
   generalize aheadTx ls k=p at*
   generalize hz:ls.getD k zeroL=z at*
   obtain ⟨W,hW,b0,hbW,hsW⟩:=boxes1 wr [.int .i64 z.tx,.int .i64 z.last,.bool z.aborts] 106
   have y0:=b0.cell 0 _ rfl
   have y1:=b0.cell 1 _ rfl
   have BW:Below w.heap.size w W:=hbl.trans (hbW.mono hbl.size)
   clear hsW b0 hz hbW
   by_cases hA:z.tx≤p
   ·have HR:Hid (R=false):=HN.out (by rw [HQ.out];simp;omega)
    clear HQ HN HX
    go_wp2
    go_ret
    exact ⟨ret_bool HR.out.symm,by rw [hW.out];exact BW⟩
   go_wp2_with fail
   rw [hW.out]
   refine (txOk_any _ W).mono ?_
   rintro e u ⟨rfl,hu⟩
   rw [hu]
   clear hu u hW
   cases hB:inB z.tx 1 1000 with
   | false=>
    have HR:Hid (R=false):=HN.out (by rw [HQ.out];simp [hB])
    clear HQ HN HX
    go_wp2
    go_ret
    exact ⟨ret_bool HR.out.symm,BW⟩
   | true=>
    cases hC:(z.last == 0) with
    | true=>
     have HR:Hid (R=false):=HN.out (by rw [HQ.out];simp [hC])
     clear HQ HN HX
     go_wp2
     go_ret
     exact ⟨ret_bool HR.out.symm,BW⟩
    | false=>
     go_wp2_with fail
     refine (isAhead_any _ _ W).mono ?_
     rintro e u ⟨rfl,hu⟩
     rw [hu]
     clear hu u
     cases hD:inB z.last 0 (n-1) with
     | false=>
      have HR:Hid (R=false):=HN.out (by rw [HQ.out];simp [hD])
      clear HQ HN HX
      go_wp2
      go_ret
      exact ⟨ret_bool HR.out.symm,BW⟩
     | true=>
      have HK:Hid (∀ j,j<k+1→liveOk n ls j=true):=by
       intro j hj
       by_cases e:j=k
       ·rw [e,HQ.out];simp [hB,hC,hD];omega
       ·exact hall.out j (by omega)
      clear HQ HN
      go_wp2
      go_roundw
      case rel=>exact ⟨k+1,by omega,by go_num,by rw [HX.out],HK,BW⟩
      case measure=>simp [intOf];omega
  ·have HR:Hid (R=decide (ls.length≤20)):=HAL.out (fun j hj=>hall.out j (by omega))
   clear HNO HAL
   go_wp2
   go_ret
   exact ⟨ret_bool (by rw [HR.out];exact decide_eq_decide.2 (by omega)),hbl⟩
theorem deedOk_set (n:Int) (tx prev oid:Int) (b a:SlotA) (w:World) (hg:ErrT w) (hb:b.reads w) (ha:a.reads w) (hlb:Fit [b]) (hla:Fit [a]):
  Calls Tryz.prog 148 #[.int .i64 n,issetDeed (setD tx prev oid b a)] w fun e w'=>e=.returned (.bool (linkB n tx prev && (inB oid 1 31 && (slotB b.v && (slotB a.v)))))∧Below w.heap.size w w':=by
 obtain ⟨W,hW,b0,hbW,hsW⟩:=boxes1 w [.int .i64 tx,.int .i64 prev,.int .i64 oid,.bool b.v.has,.int .i64 b.v.o.kind,.slice b.aI b.v.o.ints.length b.cI,.slice b.aR b.v.o.refs.length b.cR,.bool a.v.has,.int .i64 a.v.o.kind,.slice a.aI a.v.o.ints.length a.cI,.slice a.aR a.v.o.refs.length a.cR] 212
 have HZ:Hid (∀ R,R=(linkB n tx prev && (inB oid 1 31 && (slotB b.v && (slotB a.v))))→R=(linkB n tx prev && (inB oid 1 31 && (slotB b.v && (slotB a.v))))):=fun _ h=>h
 simp only [issetDeed,setD]
 have a_setDeed:=fun W=>yes_setDeed W (.agg #[.int .i64 tx,.int .i64 prev,.int .i64 oid,.bool b.v.has,.int .i64 b.v.o.kind,.slice b.aI b.v.o.ints.length b.cI,.slice b.aR b.v.o.refs.length b.cR,.bool a.v.has,.int .i64 a.v.o.kind,.slice a.aI a.v.o.ints.length a.cI,.slice a.aR a.v.o.refs.length a.cR])
 have HX:Hid (∀ u,Below W.heap.size W u→Box u w.heap.size [.int .i64 tx,.int .i64 prev,.int .i64 oid,.bool b.v.has,.int .i64 b.v.o.kind,.slice b.aI b.v.o.ints.length b.cI,.slice b.aR b.v.o.refs.length b.cR,.bool a.v.has,.int .i64 a.v.o.kind,.slice a.aI a.v.o.ints.length a.cI,.slice a.aR a.v.o.refs.length a.cR] 212):=fun u hu=>b0.below hu b0.lt
 obtain ⟨R,HQ⟩:∃ R,Hid (R=(linkB n tx prev && (inB oid 1 31 && (slotB b.v && (slotB a.v))))):=⟨_,rfl⟩
 rw [← HQ.out]
 clear hsW b0 HZ
 go_enter Tryz.func148,Tryz.ntmps148
 have x0:=(HX.out W (Below.refl _ _)).cell 0 _ rfl
 have x1:=(HX.out W (Below.refl _ _)).cell 1 _ rfl
 have x2:=(HX.out W (Below.refl _ _)).cell 2 _ rfl
 have x3:=(HX.out W (Below.refl _ _)).cell 3 _ rfl
 have x4:=(HX.out W (Below.refl _ _)).cell 4 _ rfl
 have x5:=(HX.out W (Below.refl _ _)).cell 5 _ rfl
 have x6:=(HX.out W (Below.refl _ _)).cell 6 _ rfl
 have x7:=(HX.out W (Below.refl _ _)).cell 7 _ rfl
 have x8:=(HX.out W (Below.refl _ _)).cell 8 _ rfl
 have x9:=(HX.out W (Below.refl _ _)).cell 9 _ rfl
 have x10:=(HX.out W (Below.refl _ _)).cell 10 _ rfl
 go_wp2_with fail
 rw [hW.out]
 clear hW
 have l0:Below W.heap.size W W:=Below.refl _ _
 refine (linkOk_any n tx prev W).mono ?_
 clear x0 x1 x2 x3 x4 x5 x6 x7 x8 x9 x10
 rintro e u0 ⟨rfl,hb0⟩
 have b_0:Below w.heap.size w u0:=(hbW).trans (hb0.mono (hbW).size)
 have l_0:Below W.heap.size W u0:=(l0).trans (hb0.mono (l0).size)
 have x0:=(HX.out u0 (l_0)).cell 0 _ rfl
 have x1:=(HX.out u0 (l_0)).cell 1 _ rfl
 have x2:=(HX.out u0 (l_0)).cell 2 _ rfl
 have x3:=(HX.out u0 (l_0)).cell 3 _ rfl
 have x4:=(HX.out u0 (l_0)).cell 4 _ rfl
 have x5:=(HX.out u0 (l_0)).cell 5 _ rfl
 have x6:=(HX.out u0 (l_0)).cell 6 _ rfl
 have x7:=(HX.out u0 (l_0)).cell 7 _ rfl
 have x8:=(HX.out u0 (l_0)).cell 8 _ rfl
 have x9:=(HX.out u0 (l_0)).cell 9 _ rfl
 have x10:=(HX.out u0 (l_0)).cell 10 _ rfl
 clear hb0
 cases h0:linkB n tx prev with
 | false=>
  have HR:Hid (R=false):=by rw [Hid,HQ.out];simp [h0]
  go_wp2
  go_ret
  exact ⟨ret_bool HR.out.symm,b_0⟩
 | true=>
  go_wp2_with fail
  refine (oidOk_any oid u0).mono ?_
  rintro e v ⟨rfl,hv⟩
  rw [hv]
  clear hv v
  cases h1:inB oid 1 31 with
  | false=>
   have HR:Hid (R=false):=by rw [Hid,HQ.out];simp [h0,h1]
   go_wp2
   go_ret
   exact ⟨ret_bool HR.out.symm,b_0⟩
  | true=>
   go_wp2_with fail
   refine (slotOk_any b u0 (hg.keep (b_0)) (ReadsO.below hb (b_0)) hlb).mono ?_
   clear x0 x1 x2 x3 x4 x5 x6 x7 x8 x9 x10
   rintro e u2 ⟨rfl,hb2⟩
   have b_2:Below w.heap.size w u2:=(b_0).trans (hb2.mono (b_0).size)
   have l_2:Below W.heap.size W u2:=(l_0).trans (hb2.mono (l_0).size)
   have x0:=(HX.out u2 (l_2)).cell 0 _ rfl
   have x1:=(HX.out u2 (l_2)).cell 1 _ rfl
   have x2:=(HX.out u2 (l_2)).cell 2 _ rfl
   have x3:=(HX.out u2 (l_2)).cell 3 _ rfl
   have x4:=(HX.out u2 (l_2)).cell 4 _ rfl
   have x5:=(HX.out u2 (l_2)).cell 5 _ rfl
   have x6:=(HX.out u2 (l_2)).cell 6 _ rfl
   have x7:=(HX.out u2 (l_2)).cell 7 _ rfl
   have x8:=(HX.out u2 (l_2)).cell 8 _ rfl
   have x9:=(HX.out u2 (l_2)).cell 9 _ rfl
   have x10:=(HX.out u2 (l_2)).cell 10 _ rfl
   clear hb2
   cases h2:slotB b.v with
   | false=>
    have HR:Hid (R=false):=by rw [Hid,HQ.out];simp [h0,h1,h2]
    go_wp2
    go_ret
    exact ⟨ret_bool HR.out.symm,b_2⟩
   | true=>
    go_wp2_with fail
    refine (slotOk_any a u2 (hg.keep (b_2)) (ReadsO.below ha (b_2)) hla).mono ?_
    clear x0 x1 x2 x3 x4 x5 x6 x7 x8 x9 x10
    rintro e u3 ⟨rfl,hb3⟩
    have b_3:Below w.heap.size w u3:=(b_2).trans (hb3.mono (b_2).size)
    have l_3:Below W.heap.size W u3:=(l_2).trans (hb3.mono (l_2).size)
    have x0:=(HX.out u3 (l_3)).cell 0 _ rfl
    have x1:=(HX.out u3 (l_3)).cell 1 _ rfl
    have x2:=(HX.out u3 (l_3)).cell 2 _ rfl
    have x3:=(HX.out u3 (l_3)).cell 3 _ rfl
    have x4:=(HX.out u3 (l_3)).cell 4 _ rfl
    have x5:=(HX.out u3 (l_3)).cell 5 _ rfl
    have x6:=(HX.out u3 (l_3)).cell 6 _ rfl
    have x7:=(HX.out u3 (l_3)).cell 7 _ rfl
    have x8:=(HX.out u3 (l_3)).cell 8 _ rfl
    have x9:=(HX.out u3 (l_3)).cell 9 _ rfl
    have x10:=(HX.out u3 (l_3)).cell 10 _ rfl
    clear hb3
    have HR:Hid (R=slotB a.v):=by rw [Hid,HQ.out];simp [h0,h1,h2]
    generalize slotB a.v=G at*
    go_wp2
    go_ret
    exact ⟨ret_bool HR.out.symm,b_3⟩
theorem deedOk_commit (n:Int) (tx prev:Int) (w:World):
  Calls Tryz.prog 148 #[.int .i64 n,iscommitDeed (linkD tx prev)] w fun e w'=>e=.returned (.bool (linkB n tx prev))∧Below w.heap.size w w':=by
 obtain ⟨W,hW,b0,hbW,hsW⟩:=boxes1 w [.int .i64 tx,.int .i64 prev] 214
 have HZ:Hid (∀ R,R=(linkB n tx prev)→R=(linkB n tx prev)):=fun _ h=>h
 simp only [iscommitDeed,linkD]
 have a_setDeed:=fun W=>no_setDeed W 214 (.agg #[.int .i64 tx,.int .i64 prev]) (by decide)
 have a_commitDeed:=fun W=>yes_commitDeed W (.agg #[.int .i64 tx,.int .i64 prev])
 have HX:Hid (∀ u,Below W.heap.size W u→Box u w.heap.size [.int .i64 tx,.int .i64 prev] 214):=fun u hu=>b0.below hu b0.lt
 obtain ⟨R,HQ⟩:∃ R,Hid (R=(linkB n tx prev)):=⟨_,rfl⟩
 rw [← HQ.out]
 clear hsW b0 HZ
 go_enter Tryz.func148,Tryz.ntmps148
 have x0:=(HX.out W (Below.refl _ _)).cell 0 _ rfl
 have x1:=(HX.out W (Below.refl _ _)).cell 1 _ rfl
 go_wp2_with fail
 rw [hW.out]
 clear hW
 have l0:Below W.heap.size W W:=Below.refl _ _
 refine (linkOk_any n tx prev W).mono ?_
 clear x0 x1
 rintro e u0 ⟨rfl,hb0⟩
 have b_0:Below w.heap.size w u0:=(hbW).trans (hb0.mono (hbW).size)
 have l_0:Below W.heap.size W u0:=(l0).trans (hb0.mono (l0).size)
 have x0:=(HX.out u0 (l_0)).cell 0 _ rfl
 have x1:=(HX.out u0 (l_0)).cell 1 _ rfl
 clear hb0
 have HR:Hid (R=linkB n tx prev):=HQ.out
 generalize linkB n tx prev=G at*
 go_wp2
 go_ret
 exact ⟨ret_bool HR.out.symm,b_0⟩
theorem deedOk_abort (n:Int) (tx prev:Int) (w:World):
  Calls Tryz.prog 148 #[.int .i64 n,isabortDeed (linkD tx prev)] w fun e w'=>e=.returned (.bool (linkB n tx prev))∧Below w.heap.size w w':=by
 obtain ⟨W,hW,b0,hbW,hsW⟩:=boxes1 w [.int .i64 tx,.int .i64 prev] 215
 have HZ:Hid (∀ R,R=(linkB n tx prev)→R=(linkB n tx prev)):=fun _ h=>h
 simp only [isabortDeed,linkD]
 have a_setDeed:=fun W=>no_setDeed W 215 (.agg #[.int .i64 tx,.int .i64 prev]) (by decide)
 have a_commitDeed:=fun W=>no_commitDeed W 215 (.agg #[.int .i64 tx,.int .i64 prev]) (by decide)
 have a_abortDeed:=fun W=>yes_abortDeed W (.agg #[.int .i64 tx,.int .i64 prev])
 have HX:Hid (∀ u,Below W.heap.size W u→Box u w.heap.size [.int .i64 tx,.int .i64 prev] 215):=fun u hu=>b0.below hu b0.lt
 obtain ⟨R,HQ⟩:∃ R,Hid (R=(linkB n tx prev)):=⟨_,rfl⟩
 rw [← HQ.out]
 clear hsW b0 HZ
 go_enter Tryz.func148,Tryz.ntmps148
 have x0:=(HX.out W (Below.refl _ _)).cell 0 _ rfl
 have x1:=(HX.out W (Below.refl _ _)).cell 1 _ rfl
 go_wp2_with fail
 rw [hW.out]
 clear hW
 have l0:Below W.heap.size W W:=Below.refl _ _
 refine (linkOk_any n tx prev W).mono ?_
 clear x0 x1
 rintro e u0 ⟨rfl,hb0⟩
 have b_0:Below w.heap.size w u0:=(hbW).trans (hb0.mono (hbW).size)
 have l_0:Below W.heap.size W u0:=(l0).trans (hb0.mono (l0).size)
 have x0:=(HX.out u0 (l_0)).cell 0 _ rfl
 have x1:=(HX.out u0 (l_0)).cell 1 _ rfl
 clear hb0
 have HR:Hid (R=linkB n tx prev):=HQ.out
 generalize linkB n tx prev=G at*
 go_wp2
 go_ret
 exact ⟨ret_bool HR.out.symm,b_0⟩
theorem deedOk_end (n:Int) (tx prev:Int) (w:World):
  Calls Tryz.prog 148 #[.int .i64 n,isendDeed (linkD tx prev)] w fun e w'=>e=.returned (.bool (linkB n tx prev))∧Below w.heap.size w w':=by
 obtain ⟨W,hW,b0,hbW,hsW⟩:=boxes1 w [.int .i64 tx,.int .i64 prev] 218
 have HZ:Hid (∀ R,R=(linkB n tx prev)→R=(linkB n tx prev)):=fun _ h=>h
 simp only [isendDeed,linkD]
 have a_setDeed:=fun W=>no_setDeed W 218 (.agg #[.int .i64 tx,.int .i64 prev]) (by decide)
 have a_commitDeed:=fun W=>no_commitDeed W 218 (.agg #[.int .i64 tx,.int .i64 prev]) (by decide)
 have a_abortDeed:=fun W=>no_abortDeed W 218 (.agg #[.int .i64 tx,.int .i64 prev]) (by decide)
 have a_backDeed:=fun W=>no_backDeed W 218 (.agg #[.int .i64 tx,.int .i64 prev]) (by decide)
 have a_endDeed:=fun W=>yes_endDeed W (.agg #[.int .i64 tx,.int .i64 prev])
 have HX:Hid (∀ u,Below W.heap.size W u→Box u w.heap.size [.int .i64 tx,.int .i64 prev] 218):=fun u hu=>b0.below hu b0.lt
 obtain ⟨R,HQ⟩:∃ R,Hid (R=(linkB n tx prev)):=⟨_,rfl⟩
 rw [← HQ.out]
 clear hsW b0 HZ
 go_enter Tryz.func148,Tryz.ntmps148
 have x0:=(HX.out W (Below.refl _ _)).cell 0 _ rfl
 have x1:=(HX.out W (Below.refl _ _)).cell 1 _ rfl
 go_wp2_with fail
 rw [hW.out]
 clear hW
 have l0:Below W.heap.size W W:=Below.refl _ _
 refine (linkOk_any n tx prev W).mono ?_
 clear x0 x1
 rintro e u0 ⟨rfl,hb0⟩
 have b_0:Below w.heap.size w u0:=(hbW).trans (hb0.mono (hbW).size)
 have l_0:Below W.heap.size W u0:=(l0).trans (hb0.mono (l0).size)
 have x0:=(HX.out u0 (l_0)).cell 0 _ rfl
 have x1:=(HX.out u0 (l_0)).cell 1 _ rfl
 clear hb0
 have HR:Hid (R=linkB n tx prev):=HQ.out
 generalize linkB n tx prev=G at*
 go_wp2
 go_ret
 exact ⟨ret_bool HR.out.symm,b_0⟩
theorem deedOk_back (n:Int) (tx prev oid:Int) (a:SlotA) (next:Int) (w:World) (hg:ErrT w) (ha:a.reads w) (hla:Fit [a]):
  Calls Tryz.prog 148 #[.int .i64 n,isbackDeed (backD tx prev oid a next)] w fun e w'=>e=.returned (.bool (linkB n tx prev && (inB oid 1 31 && (slotB a.v && (inB next 0 (n-1))))))∧Below w.heap.size w w':=by
 obtain ⟨W,hW,b0,hbW,hsW⟩:=boxes1 w [.int .i64 tx,.int .i64 prev,.int .i64 oid,.bool a.v.has,.int .i64 a.v.o.kind,.slice a.aI a.v.o.ints.length a.cI,.slice a.aR a.v.o.refs.length a.cR,.int .i64 next] 217
 have HZ:Hid (∀ R,R=(linkB n tx prev && (inB oid 1 31 && (slotB a.v && (inB next 0 (n-1)))))→R=(linkB n tx prev && (inB oid 1 31 && (slotB a.v && (inB next 0 (n-1)))))):=fun _ h=>h
 simp only [isbackDeed,backD]
 have a_setDeed:=fun W=>no_setDeed W 217 (.agg #[.int .i64 tx,.int .i64 prev,.int .i64 oid,.bool a.v.has,.int .i64 a.v.o.kind,.slice a.aI a.v.o.ints.length a.cI,.slice a.aR a.v.o.refs.length a.cR,.int .i64 next]) (by decide)
 have a_commitDeed:=fun W=>no_commitDeed W 217 (.agg #[.int .i64 tx,.int .i64 prev,.int .i64 oid,.bool a.v.has,.int .i64 a.v.o.kind,.slice a.aI a.v.o.ints.length a.cI,.slice a.aR a.v.o.refs.length a.cR,.int .i64 next]) (by decide)
 have a_abortDeed:=fun W=>no_abortDeed W 217 (.agg #[.int .i64 tx,.int .i64 prev,.int .i64 oid,.bool a.v.has,.int .i64 a.v.o.kind,.slice a.aI a.v.o.ints.length a.cI,.slice a.aR a.v.o.refs.length a.cR,.int .i64 next]) (by decide)
 have a_backDeed:=fun W=>yes_backDeed W (.agg #[.int .i64 tx,.int .i64 prev,.int .i64 oid,.bool a.v.has,.int .i64 a.v.o.kind,.slice a.aI a.v.o.ints.length a.cI,.slice a.aR a.v.o.refs.length a.cR,.int .i64 next])
 have HX:Hid (∀ u,Below W.heap.size W u→Box u w.heap.size [.int .i64 tx,.int .i64 prev,.int .i64 oid,.bool a.v.has,.int .i64 a.v.o.kind,.slice a.aI a.v.o.ints.length a.cI,.slice a.aR a.v.o.refs.length a.cR,.int .i64 next] 217):=fun u hu=>b0.below hu b0.lt
 obtain ⟨R,HQ⟩:∃ R,Hid (R=(linkB n tx prev && (inB oid 1 31 && (slotB a.v && (inB next 0 (n-1)))))):=⟨_,rfl⟩
 rw [← HQ.out]
 clear hsW b0 HZ
 go_enter Tryz.func148,Tryz.ntmps148
 have x0:=(HX.out W (Below.refl _ _)).cell 0 _ rfl
 have x1:=(HX.out W (Below.refl _ _)).cell 1 _ rfl
 have x2:=(HX.out W (Below.refl _ _)).cell 2 _ rfl
 have x3:=(HX.out W (Below.refl _ _)).cell 3 _ rfl
 have x4:=(HX.out W (Below.refl _ _)).cell 4 _ rfl
 have x5:=(HX.out W (Below.refl _ _)).cell 5 _ rfl
 have x6:=(HX.out W (Below.refl _ _)).cell 6 _ rfl
 have x7:=(HX.out W (Below.refl _ _)).cell 7 _ rfl
 go_wp2_with fail
 rw [hW.out]
 clear hW
 have l0:Below W.heap.size W W:=Below.refl _ _
 refine (linkOk_any n tx prev W).mono ?_
 clear x0 x1 x2 x3 x4 x5 x6 x7
 rintro e u0 ⟨rfl,hb0⟩
 have b_0:Below w.heap.size w u0:=(hbW).trans (hb0.mono (hbW).size)
 have l_0:Below W.heap.size W u0:=(l0).trans (hb0.mono (l0).size)
 have x0:=(HX.out u0 (l_0)).cell 0 _ rfl
 have x1:=(HX.out u0 (l_0)).cell 1 _ rfl
 have x2:=(HX.out u0 (l_0)).cell 2 _ rfl
 have x3:=(HX.out u0 (l_0)).cell 3 _ rfl
 have x4:=(HX.out u0 (l_0)).cell 4 _ rfl
 have x5:=(HX.out u0 (l_0)).cell 5 _ rfl
 have x6:=(HX.out u0 (l_0)).cell 6 _ rfl
 have x7:=(HX.out u0 (l_0)).cell 7 _ rfl
 clear hb0
 cases h0:linkB n tx prev with
 | false=>
  have HR:Hid (R=false):=by rw [Hid,HQ.out];simp [h0]
  go_wp2
  go_ret
  exact ⟨ret_bool HR.out.symm,b_0⟩
 | true=>
  go_wp2_with fail
  refine (oidOk_any oid u0).mono ?_
  rintro e v ⟨rfl,hv⟩
  rw [hv]
  clear hv v
  cases h1:inB oid 1 31 with
  | false=>
   have HR:Hid (R=false):=by rw [Hid,HQ.out];simp [h0,h1]
   go_wp2
   go_ret
   exact ⟨ret_bool HR.out.symm,b_0⟩
  | true=>
   go_wp2_with fail
   refine (slotOk_any a u0 (hg.keep (b_0)) (ReadsO.below ha (b_0)) hla).mono ?_
   clear x0 x1 x2 x3 x4 x5 x6 x7
   rintro e u2 ⟨rfl,hb2⟩
   have b_2:Below w.heap.size w u2:=(b_0).trans (hb2.mono (b_0).size)
   have l_2:Below W.heap.size W u2:=(l_0).trans (hb2.mono (l_0).size)
   have x0:=(HX.out u2 (l_2)).cell 0 _ rfl
   have x1:=(HX.out u2 (l_2)).cell 1 _ rfl
   have x2:=(HX.out u2 (l_2)).cell 2 _ rfl
   have x3:=(HX.out u2 (l_2)).cell 3 _ rfl
   have x4:=(HX.out u2 (l_2)).cell 4 _ rfl
   have x5:=(HX.out u2 (l_2)).cell 5 _ rfl
   have x6:=(HX.out u2 (l_2)).cell 6 _ rfl
   have x7:=(HX.out u2 (l_2)).cell 7 _ rfl
   clear hb2
   cases h2:slotB a.v with
   | false=>
    have HR:Hid (R=false):=by rw [Hid,HQ.out];simp [h0,h1,h2]
    go_wp2
    go_ret
    exact ⟨ret_bool HR.out.symm,b_2⟩
   | true=>
    go_wp2_with fail
    refine (isAhead_any n next u2).mono ?_
    rintro e v ⟨rfl,hv⟩
    rw [hv]
    clear hv v
    have HR:Hid (R=inB next 0 (n-1)):=by rw [Hid,HQ.out];simp [h0,h1,h2]
    generalize inB next 0 (n-1)=G at*
    go_wp2
    go_ret
    exact ⟨ret_bool HR.out.symm,b_2⟩
theorem deedOk_check (n:Int) (ls:List LiveV) (aL:Option Addr) (cL:Nat) (w:World) (hr:ReadsL w aL ls) (hl:ls.length≤1099511627776):
  Calls Tryz.prog 148 #[.int .i64 n,ischeckDeed (checkD ls aL cL)] w fun e w'=>e=.returned (.bool (livesB n ls))∧Below w.heap.size w w':=by
 obtain ⟨W,hW,b0,hbW,hsW⟩:=boxes1 w [.slice aL ls.length cL] 220
 have HZ:Hid (∀ R,R=(livesB n ls)→R=(livesB n ls)):=fun _ h=>h
 simp only [ischeckDeed,checkD]
 have a_setDeed:=fun W=>no_setDeed W 220 (.agg #[.slice aL ls.length cL]) (by decide)
 have a_commitDeed:=fun W=>no_commitDeed W 220 (.agg #[.slice aL ls.length cL]) (by decide)
 have a_abortDeed:=fun W=>no_abortDeed W 220 (.agg #[.slice aL ls.length cL]) (by decide)
 have a_backDeed:=fun W=>no_backDeed W 220 (.agg #[.slice aL ls.length cL]) (by decide)
 have a_endDeed:=fun W=>no_endDeed W 220 (.agg #[.slice aL ls.length cL]) (by decide)
 have a_checkDeed:=fun W=>yes_checkDeed W (.agg #[.slice aL ls.length cL])
 have HX:Hid (∀ u,Below W.heap.size W u→Box u w.heap.size [.slice aL ls.length cL] 220):=fun u hu=>b0.below hu b0.lt
 obtain ⟨R,HQ⟩:∃ R,Hid (R=(livesB n ls)):=⟨_,rfl⟩
 rw [← HQ.out]
 clear hsW b0 HZ
 go_enter Tryz.func148,Tryz.ntmps148
 have x0:=(HX.out W (Below.refl _ _)).cell 0 _ rfl
 go_wp2_with fail
 rw [hW.out]
 clear hW
 have l0:Below W.heap.size W W:=Below.refl _ _
 refine (livesOk_any n aL cL ls W (hr.below (hbW)) hl).mono ?_
 clear x0
 rintro e u0 ⟨rfl,hb0⟩
 have b_0:Below w.heap.size w u0:=(hbW).trans (hb0.mono (hbW).size)
 have l_0:Below W.heap.size W u0:=(l0).trans (hb0.mono (l0).size)
 have x0:=(HX.out u0 (l_0)).cell 0 _ rfl
 clear hb0
 have HR:Hid (R=livesB n ls):=HQ.out
 generalize livesB n ls=G at*
 go_wp2
 go_ret
 exact ⟨ret_bool HR.out.symm,b_0⟩
theorem deedOk_nil (n:Int) (w:World):Calls Tryz.prog 148 #[.int .i64 n,.nilIface] w fun e w'=>e=.returned (.bool false)∧Below w.heap.size w w':=by
 have a_setDeed:=nil_setDeed
 have a_commitDeed:=nil_commitDeed
 have a_abortDeed:=nil_abortDeed
 have a_backDeed:=nil_backDeed
 have a_endDeed:=nil_endDeed
 have a_checkDeed:=nil_checkDeed
 go_enter Tryz.func148,Tryz.ntmps148
 go_wp2
 go_ret
 exact ⟨rfl,Below.refl _ _⟩
theorem kind_setDeed (tx prev oid:Int) (b a:SlotA) (w:World):Calls Tryz.prog 178 #[.agg #[.int .i64 tx,.int .i64 prev,.int .i64 oid,.bool b.v.has,.int .i64 b.v.o.kind,.slice b.aI b.v.o.ints.length b.cI,.slice b.aR b.v.o.refs.length b.cR,.bool a.v.has,.int .i64 a.v.o.kind,.slice a.aI a.v.o.ints.length a.cI,.slice a.aR a.v.o.refs.length a.cR]] w fun e w'=>e=.returned (.int .i64 1)∧Below w.heap.size w w':=by
 go_enter Tryz.func178,Tryz.ntmps178
 go_wp2
 go_ret
 exact ⟨rfl,(Below.refl _ _).alloc (Nat.le_refl _) _⟩
theorem kind_commitDeed (tx prev:Int) (w:World):Calls Tryz.prog 180 #[.agg #[.int .i64 tx,.int .i64 prev]] w fun e w'=>e=.returned (.int .i64 2)∧Below w.heap.size w w':=by
 go_enter Tryz.func180,Tryz.ntmps180
 go_wp2
 go_ret
 exact ⟨rfl,(Below.refl _ _).alloc (Nat.le_refl _) _⟩
theorem kind_abortDeed (tx prev:Int) (w:World):Calls Tryz.prog 181 #[.agg #[.int .i64 tx,.int .i64 prev]] w fun e w'=>e=.returned (.int .i64 3)∧Below w.heap.size w w':=by
 go_enter Tryz.func181,Tryz.ntmps181
 go_wp2
 go_ret
 exact ⟨rfl,(Below.refl _ _).alloc (Nat.le_refl _) _⟩
theorem kind_backDeed (tx prev oid:Int) (a:SlotA) (next:Int) (w:World):Calls Tryz.prog 182 #[.agg #[.int .i64 tx,.int .i64 prev,.int .i64 oid,.bool a.v.has,.int .i64 a.v.o.kind,.slice a.aI a.v.o.ints.length a.cI,.slice a.aR a.v.o.refs.length a.cR,.int .i64 next]] w fun e w'=>e=.returned (.int .i64 4)∧Below w.heap.size w w':=by
 go_enter Tryz.func182,Tryz.ntmps182
 go_wp2
 go_ret
 exact ⟨rfl,(Below.refl _ _).alloc (Nat.le_refl _) _⟩
theorem kind_endDeed (tx prev:Int) (w:World):Calls Tryz.prog 183 #[.agg #[.int .i64 tx,.int .i64 prev]] w fun e w'=>e=.returned (.int .i64 5)∧Below w.heap.size w w':=by
 go_enter Tryz.func183,Tryz.ntmps183
 go_wp2
 go_ret
 exact ⟨rfl,(Below.refl _ _).alloc (Nat.le_refl _) _⟩
theorem kind_checkDeed (ls:List LiveV) (aL:Option Addr) (cL:Nat) (w:World):Calls Tryz.prog 184 #[.agg #[.slice aL ls.length cL]] w fun e w'=>e=.returned (.int .i64 6)∧Below w.heap.size w w':=by
 go_enter Tryz.func184,Tryz.ntmps184
 go_wp2
 go_ret
 exact ⟨rfl,(Below.refl _ _).alloc (Nat.le_refl _) _⟩
theorem rec_load {w:World} {B:Nat} (r:RecA) (b:Box w B r.cells 99):(loadVar 99 ⟨B,0,none⟩).run Tryz.prog w=.ok (.agg r.cells.toArray) w:=
 run_loadVar_mid (P:=Tryz.prog) w B 0 99 r.cells _ (Box.range [] r.cells [] (by simpa using b)) Tryz.underlying99 rfl (by show _=some 15;kernel_rfl)
def recA (n tx prev kind:Int):RecA:=⟨n,tx,prev,kind,0,zeroS,zeroS,0,[],none,0⟩
theorem recAt_any (n tx prev kind:Int) (w:World):Calls Tryz.prog 179 #[.int .i64 n,.agg #[.int .i64 tx,.int .i64 prev],.int .i64 kind] w fun e w'=>e=.returned (.agg (recA n tx prev kind).cells.toArray)∧Below w.heap.size w w':=by
 obtain ⟨W,hW,b0,b1,hbW,hsW⟩:=boxes2 w [.int .i64 tx,.int .i64 prev] (recA n tx prev kind).cells 210 99
 have HL:Hid (_=_):=rec_load (recA n tx prev kind) b1
 simp only [recA,RecA.cells,zeroS,List.length_nil] at hW
 clear hsW b0 b1
 go_enter Tryz.func179,Tryz.ntmps179
 go_wp2
 refine bodyPost_ret (v:=.agg (recA n tx prev kind).cells.toArray) (results_one Tryz.results179 rfl ?_) rfl ⟨rfl,?_⟩
 ·rw [show _=W from hW.out];exact HL.out
 ·rw [show _=W from hW.out];exact hbW
theorem recOf_set (n:Int) (tx prev oid:Int) (b a:SlotA) (w:World):
  Calls Tryz.prog 150 #[.int .i64 n,issetDeed (setD tx prev oid b a)] w fun e w'=>e=.returned (.agg (RecA.cells (⟨n,tx,prev,1,oid,b,a,0,[],none,0⟩)).toArray)∧Below w.heap.size w w':=by
 obtain ⟨W,hW,b0,b1,hbW,hsW⟩:=boxes2 w [.int .i64 0,.int .i64 0,.int .i64 0,.int .i64 0,.int .i64 0,.bool false,.int .i64 0,.slice none 0 0,.slice none 0 0,.bool false,.int .i64 0,.slice none 0 0,.slice none 0 0,.int .i64 0,.slice none 0 0] [.int .i64 tx,.int .i64 prev,.int .i64 oid,.bool b.v.has,.int .i64 b.v.o.kind,.slice b.aI b.v.o.ints.length b.cI,.slice b.aR b.v.o.refs.length b.cR,.bool a.v.has,.int .i64 a.v.o.kind,.slice a.aI a.v.o.ints.length a.cI,.slice a.aR a.v.o.refs.length a.cR] 99 212
 simp only [issetDeed,setD]
 have a_setDeed:=fun W=>yes_setDeed W (.agg #[.int .i64 tx,.int .i64 prev,.int .i64 oid,.bool b.v.has,.int .i64 b.v.o.kind,.slice b.aI b.v.o.ints.length b.cI,.slice b.aR b.v.o.refs.length b.cR,.bool a.v.has,.int .i64 a.v.o.kind,.slice a.aI a.v.o.ints.length a.cI,.slice a.aR a.v.o.refs.length a.cR])
 have HB:Hid (∀ u,Below W.heap.size W u→Box u w.heap.size [.int .i64 0,.int .i64 0,.int .i64 0,.int .i64 0,.int .i64 0,.bool false,.int .i64 0,.slice none 0 0,.slice none 0 0,.bool false,.int .i64 0,.slice none 0 0,.slice none 0 0,.int .i64 0,.slice none 0 0] 99∧Box u (w.heap.size+1) [.int .i64 tx,.int .i64 prev,.int .i64 oid,.bool b.v.has,.int .i64 b.v.o.kind,.slice b.aI b.v.o.ints.length b.cI,.slice b.aR b.v.o.refs.length b.cR,.bool a.v.has,.int .i64 a.v.o.kind,.slice a.aI a.v.o.ints.length a.cI,.slice a.aR a.v.o.refs.length a.cR] 212):=fun u hu=>⟨b0.below hu b0.lt,b1.below hu b1.lt⟩
 have HC:Hid (∀ w',Box w' (w.heap.size+1) [.int .i64 tx,.int .i64 prev,.int .i64 oid,.bool b.v.has,.int .i64 b.v.o.kind,.slice b.aI b.v.o.ints.length b.cI,.slice b.aR b.v.o.refs.length b.cR,.bool a.v.has,.int .i64 a.v.o.kind,.slice a.aI a.v.o.ints.length a.cI,.slice a.aR a.v.o.refs.length a.cR] 212→w'.cell? ⟨w.heap.size+1,0,none⟩=some (.int .i64 tx)∧w'.cell? ⟨w.heap.size+1,1,none⟩=some (.int .i64 prev)∧w'.cell? ⟨w.heap.size+1,2,none⟩=some (.int .i64 oid)∧w'.cell? ⟨w.heap.size+1,3,none⟩=some (.bool b.v.has)∧w'.cell? ⟨w.heap.size+1,4,none⟩=some (.int .i64 b.v.o.kind)∧w'.cell? ⟨w.heap.size+1,5,none⟩=some (.slice b.aI b.v.o.ints.length b.cI)∧w'.cell? ⟨w.heap.size+1,6,none⟩=some (.slice b.aR b.v.o.refs.length b.cR)∧w'.cell? ⟨w.heap.size+1,7,none⟩=some (.bool a.v.has)∧w'.cell? ⟨w.heap.size+1,8,none⟩=some (.int .i64 a.v.o.kind)∧w'.cell? ⟨w.heap.size+1,9,none⟩=some (.slice a.aI a.v.o.ints.length a.cI)∧w'.cell? ⟨w.heap.size+1,10,none⟩=some (.slice a.aR a.v.o.refs.length a.cR)):=fun w' b=>⟨b.cell 0 _ rfl,b.cell 1 _ rfl,b.cell 2 _ rfl,b.cell 3 _ rfl,b.cell 4 _ rfl,b.cell 5 _ rfl,b.cell 6 _ rfl,b.cell 7 _ rfl,b.cell 8 _ rfl,b.cell 9 _ rfl,b.cell 10 _ rfl⟩
 have hh:=HC.out W b1
 have hlt:=b1.lt
 have HI:Hid ((Tryz.prog.info? 99).map (·.size)=some 15):=by rw [Hid];kernel_rfl
 have HO:Hid (_):=all_oneCell_toArray (oneR (⟨n,tx,prev,1,oid,b,a,0,[],none,0⟩))
 clear hsW b0 b1
 go_enter Tryz.func150,Tryz.ntmps150
 go_wp2_with fail
 rw [hW.out]
 clear hW a_setDeed
 refine wp_region_held_drew (S:=fun w'=>w'.cell? ⟨w.heap.size+1,0,none⟩=some (.int .i64 tx)∧w'.cell? ⟨w.heap.size+1,1,none⟩=some (.int .i64 prev)∧w'.cell? ⟨w.heap.size+1,2,none⟩=some (.int .i64 oid)∧w'.cell? ⟨w.heap.size+1,3,none⟩=some (.bool b.v.has)∧w'.cell? ⟨w.heap.size+1,4,none⟩=some (.int .i64 b.v.o.kind)∧w'.cell? ⟨w.heap.size+1,5,none⟩=some (.slice b.aI b.v.o.ints.length b.cI)∧w'.cell? ⟨w.heap.size+1,6,none⟩=some (.slice b.aR b.v.o.refs.length b.cR)∧w'.cell? ⟨w.heap.size+1,7,none⟩=some (.bool a.v.has)∧w'.cell? ⟨w.heap.size+1,8,none⟩=some (.int .i64 a.v.o.kind)∧w'.cell? ⟨w.heap.size+1,9,none⟩=some (.slice a.aI a.v.o.ints.length a.cI)∧w'.cell? ⟨w.heap.size+1,10,none⟩=some (.slice a.aR a.v.o.refs.length a.cR)) (by kernel_rfl) (HC.out _ (HB.out _ (Below.refl _ _).drew).2) (fun hHeld=>?_)
 refine tq 0 (v:=.int .i64 n) rfl hHeld ?_
 try simp only [zz]
 refine tq 1 (v:=.pointer (some ⟨w.heap.size+1,0,none⟩)) rfl hHeld ?_
 try simp only [zz]
 refine tq 2 (v:=.pointer (some ⟨w.heap.size+1,0,none⟩)) rfl hHeld ?_
 try simp only [zz]
 refine tq 3 (v:=.int .i64 tx) rfl hHeld ?_
 try simp only [zz]
 refine tq 4 (v:=.pointer (some ⟨w.heap.size+1,0,none⟩)) rfl hHeld ?_
 try simp only [zz]
 refine tq 5 (v:=.pointer (some ⟨w.heap.size+1,1,none⟩)) rfl hHeld ?_
 try simp only [zz]
 refine tq 6 (v:=.int .i64 prev) rfl hHeld ?_
 try simp only [zz]
 refine tq 7 (v:=.agg #[.int .i64 tx,.int .i64 prev,.int .i64 oid,.bool b.v.has,.int .i64 b.v.o.kind,.slice b.aI b.v.o.ints.length b.cI,.slice b.aR b.v.o.refs.length b.cR,.bool a.v.has,.int .i64 a.v.o.kind,.slice a.aI a.v.o.ints.length a.cI,.slice a.aR a.v.o.refs.length a.cR]) rfl hHeld ?_
 try simp only [zz]
 refine tq 9 (v:=.pointer (some ⟨w.heap.size+1,2,none⟩)) rfl hHeld ?_
 try simp only [zz]
 refine tq 10 (v:=.int .i64 oid) rfl hHeld ?_
 try simp only [zz]
 refine tq 11 (v:=.pointer (some ⟨w.heap.size+1,3,none⟩)) rfl hHeld ?_
 try simp only [zz]
 refine tq 12 (v:=.agg #[.bool b.v.has,.int .i64 b.v.o.kind,.slice b.aI b.v.o.ints.length b.cI,.slice b.aR b.v.o.refs.length b.cR]) rfl hHeld ?_
 try simp only [zz]
 refine tq 13 (v:=.pointer (some ⟨w.heap.size+1,7,none⟩)) rfl hHeld ?_
 try simp only [zz]
 refine tq 14 (v:=.agg #[.bool a.v.has,.int .i64 a.v.o.kind,.slice a.aI a.v.o.ints.length a.cI,.slice a.aR a.v.o.refs.length a.cR]) rfl hHeld ?_
 try simp only [zz]
 refine wpAnyH_ready (rs:=[8]) (by kernel_rfl) (by simp) ?_
 refine AllReadyH.cons rfl (fun K hK=>?_) AllReadyH.nil
 go_simp
 refine (kind_setDeed tx prev oid b a _).mono ?_
 rintro e u1 ⟨rfl,hb1⟩
 have hB1:Below W.heap.size W u1:=((Below.refl _ _).drew).trans hb1
 refine hK.out _ _ (HC.out _ (HB.out _ hB1).2) (fun hHeld=>?_)
 clear hK K
 try simp only [zz]
 have hBL:=hB1
 refine tq 15 (v:=.agg (RecA.cells (⟨n,tx,prev,1,oid,b,a,0,[],none,0⟩)).toArray) rfl hHeld ?_
 try simp only [zz]
 obtain ⟨WF,hWF,bF,hwF,hsF⟩:=range_fill [] [.int .i64 0,.int .i64 0,.int .i64 0,.int .i64 0,.int .i64 0,.bool false,.int .i64 0,.slice none 0 0,.slice none 0 0,.bool false,.int .i64 0,.slice none 0 0,.slice none 0 0,.int .i64 0,.slice none 0 0] (RecA.cells (⟨n,tx,prev,1,oid,b,a,0,[],none,0⟩)) [] (by simpa using (HB.out _ hBL).1) rfl
 have HF:Hid (Below w.heap.size w WF):=(hbW.trans (hBL.mono hbW.size)).trans (hwF.below (by omega) (by have:=hBL.size;omega))
 have HLD:Hid (_=_):=rec_load (⟨n,tx,prev,1,oid,b,a,0,[],none,0⟩) (by simpa using bF)
 have HS:Hid (WF.cell? ⟨w.heap.size+1,0,none⟩=some (.int .i64 tx)∧WF.cell? ⟨w.heap.size+1,1,none⟩=some (.int .i64 prev)∧WF.cell? ⟨w.heap.size+1,2,none⟩=some (.int .i64 oid)∧WF.cell? ⟨w.heap.size+1,3,none⟩=some (.bool b.v.has)∧WF.cell? ⟨w.heap.size+1,4,none⟩=some (.int .i64 b.v.o.kind)∧WF.cell? ⟨w.heap.size+1,5,none⟩=some (.slice b.aI b.v.o.ints.length b.cI)∧WF.cell? ⟨w.heap.size+1,6,none⟩=some (.slice b.aR b.v.o.refs.length b.cR)∧WF.cell? ⟨w.heap.size+1,7,none⟩=some (.bool a.v.has)∧WF.cell? ⟨w.heap.size+1,8,none⟩=some (.int .i64 a.v.o.kind)∧WF.cell? ⟨w.heap.size+1,9,none⟩=some (.slice a.aI a.v.o.ints.length a.cI)∧WF.cell? ⟨w.heap.size+1,10,none⟩=some (.slice a.aR a.v.o.refs.length a.cR)):=HC.out _ ((HB.out _ hBL).2.within hwF (by omega))
 refine wpAnyH_ready (rs:=[16]) (by kernel_rfl) (by simp) ?_
 refine AllReadyH.cons rfl (fun K hK=>?_) AllReadyH.nil
 rw [if_pos (by rfl)]
 refine wp_store_mid 99 (.tmp 4) (.tmp 30) rfl w.heap.size 0 (RecA.cells (⟨n,tx,prev,1,oid,b,a,0,[],none,0⟩)).toArray rfl rfl ((HB.out _ hBL).1.there 0 _ (by show 0+15≤15;decide)) HI.out HO.out ?_
 have HW:Hid (u1.setCells w.heap.size 0 (RecA.cells (⟨n,tx,prev,1,oid,b,a,0,[],none,0⟩)).toArray.toList=WF):=hWF.out
 rw [HW.out]
 refine hK.out _ _ HS.out (fun hHeld=>?_)
 refine wpAnyH_done (by kernel_rfl) ?_ _
 clear hwF hWF HW hK K HS
 go_wp2
 exact bodyPost_ret (v:=.agg (RecA.cells (⟨n,tx,prev,1,oid,b,a,0,[],none,0⟩)).toArray) (results_one Tryz.results150 rfl HLD.out) rfl ⟨rfl,HF.out⟩
theorem recOf_commit (n:Int) (tx prev:Int) (w:World):
  Calls Tryz.prog 150 #[.int .i64 n,iscommitDeed (linkD tx prev)] w fun e w'=>e=.returned (.agg (RecA.cells (recA n tx prev 2)).toArray)∧Below w.heap.size w w':=by
 obtain ⟨W,hW,b0,b1,hbW,hsW⟩:=boxes2 w [.int .i64 0,.int .i64 0,.int .i64 0,.int .i64 0,.int .i64 0,.bool false,.int .i64 0,.slice none 0 0,.slice none 0 0,.bool false,.int .i64 0,.slice none 0 0,.slice none 0 0,.int .i64 0,.slice none 0 0] [.int .i64 tx,.int .i64 prev] 99 214
 simp only [iscommitDeed,linkD]
 have a_setDeed:=fun W=>no_setDeed W 214 (.agg #[.int .i64 tx,.int .i64 prev]) (by decide)
 have a_commitDeed:=fun W=>yes_commitDeed W (.agg #[.int .i64 tx,.int .i64 prev])
 have HB:Hid (∀ u,Below W.heap.size W u→Box u w.heap.size [.int .i64 0,.int .i64 0,.int .i64 0,.int .i64 0,.int .i64 0,.bool false,.int .i64 0,.slice none 0 0,.slice none 0 0,.bool false,.int .i64 0,.slice none 0 0,.slice none 0 0,.int .i64 0,.slice none 0 0] 99∧Box u (w.heap.size+1) [.int .i64 tx,.int .i64 prev] 214):=fun u hu=>⟨b0.below hu b0.lt,b1.below hu b1.lt⟩
 have HC:Hid (∀ w',Box w' (w.heap.size+1) [.int .i64 tx,.int .i64 prev] 214→w'.cell? ⟨w.heap.size+1,0,none⟩=some (.int .i64 tx)∧w'.cell? ⟨w.heap.size+1,1,none⟩=some (.int .i64 prev)):=fun w' b=>⟨b.cell 0 _ rfl,b.cell 1 _ rfl⟩
 have hh:=HC.out W b1
 have hlt:=b1.lt
 have HI:Hid ((Tryz.prog.info? 99).map (·.size)=some 15):=by rw [Hid];kernel_rfl
 have HO:Hid (_):=all_oneCell_toArray (oneR (recA n tx prev 2))
 clear hsW b0 b1
 go_enter Tryz.func150,Tryz.ntmps150
 go_wp2_with fail
 rw [hW.out]
 clear hW a_setDeed a_commitDeed
 refine wp_region_held_drew (S:=fun w'=>w'.cell? ⟨w.heap.size+1,0,none⟩=some (.int .i64 tx)∧w'.cell? ⟨w.heap.size+1,1,none⟩=some (.int .i64 prev)) (by kernel_rfl) (HC.out _ (HB.out _ (Below.refl _ _).drew).2) (fun hHeld=>?_)
 refine tq 0 (v:=.int .i64 n) rfl hHeld ?_
 try simp only [zz]
 refine tq 1 (v:=.pointer (some ⟨w.heap.size+1,0,none⟩)) rfl hHeld ?_
 try simp only [zz]
 refine tq 2 (v:=.agg #[.int .i64 tx,.int .i64 prev]) rfl hHeld ?_
 try simp only [zz]
 refine tq 3 (v:=.agg #[.int .i64 tx,.int .i64 prev]) rfl hHeld ?_
 try simp only [zz]
 refine wpAnyH_ready (rs:=[4]) (by kernel_rfl) (by simp) ?_
 refine AllReadyH.cons rfl (fun K hK=>?_) AllReadyH.nil
 go_simp
 refine (kind_commitDeed tx prev _).mono ?_
 rintro e u1 ⟨rfl,hb1⟩
 have hB1:Below W.heap.size W u1:=((Below.refl _ _).drew).trans hb1
 refine hK.out _ _ (HC.out _ (HB.out _ hB1).2) (fun hHeld=>?_)
 clear hK K
 try simp only [zz]
 refine wpAnyH_ready (rs:=[5]) (by kernel_rfl) (by simp) ?_
 refine AllReadyH.cons rfl (fun K hK=>?_) AllReadyH.nil
 go_simp
 refine (recAt_any n tx prev 2 _).mono ?_
 rintro e u2 ⟨rfl,hb2⟩
 have hBL:Below W.heap.size W u2:=hB1.trans (hb2.mono hB1.size)
 refine hK.out _ _ (HC.out _ (HB.out _ hBL).2) (fun hHeld=>?_)
 clear hK K
 try simp only [zz]
 obtain ⟨WF,hWF,bF,hwF,hsF⟩:=range_fill [] [.int .i64 0,.int .i64 0,.int .i64 0,.int .i64 0,.int .i64 0,.bool false,.int .i64 0,.slice none 0 0,.slice none 0 0,.bool false,.int .i64 0,.slice none 0 0,.slice none 0 0,.int .i64 0,.slice none 0 0] (RecA.cells (recA n tx prev 2)) [] (by simpa using (HB.out _ hBL).1) rfl
 have HF:Hid (Below w.heap.size w WF):=(hbW.trans (hBL.mono hbW.size)).trans (hwF.below (by omega) (by have:=hBL.size;omega))
 have HLD:Hid (_=_):=rec_load (recA n tx prev 2) (by simpa using bF)
 have HS:Hid (WF.cell? ⟨w.heap.size+1,0,none⟩=some (.int .i64 tx)∧WF.cell? ⟨w.heap.size+1,1,none⟩=some (.int .i64 prev)):=HC.out _ ((HB.out _ hBL).2.within hwF (by omega))
 refine wpAnyH_ready (rs:=[6]) (by kernel_rfl) (by simp) ?_
 refine AllReadyH.cons rfl (fun K hK=>?_) AllReadyH.nil
 rw [if_pos (by rfl)]
 refine wp_store_mid 99 (.tmp 4) (.tmp 39) rfl w.heap.size 0 (RecA.cells (recA n tx prev 2)).toArray rfl rfl ((HB.out _ hBL).1.there 0 _ (by show 0+15≤15;decide)) HI.out HO.out ?_
 have HW:Hid (u2.setCells w.heap.size 0 (RecA.cells (recA n tx prev 2)).toArray.toList=WF):=hWF.out
 rw [HW.out]
 refine hK.out _ _ HS.out (fun hHeld=>?_)
 refine wpAnyH_done (by kernel_rfl) ?_ _
 clear hwF hWF HW hK K HS
 go_wp2
 exact bodyPost_ret (v:=.agg (RecA.cells (recA n tx prev 2)).toArray) (results_one Tryz.results150 rfl HLD.out) rfl ⟨rfl,HF.out⟩
theorem recOf_abort (n:Int) (tx prev:Int) (w:World):
  Calls Tryz.prog 150 #[.int .i64 n,isabortDeed (linkD tx prev)] w fun e w'=>e=.returned (.agg (RecA.cells (recA n tx prev 3)).toArray)∧Below w.heap.size w w':=by
 obtain ⟨W,hW,b0,b1,hbW,hsW⟩:=boxes2 w [.int .i64 0,.int .i64 0,.int .i64 0,.int .i64 0,.int .i64 0,.bool false,.int .i64 0,.slice none 0 0,.slice none 0 0,.bool false,.int .i64 0,.slice none 0 0,.slice none 0 0,.int .i64 0,.slice none 0 0] [.int .i64 tx,.int .i64 prev] 99 215
 simp only [isabortDeed,linkD]
 have a_setDeed:=fun W=>no_setDeed W 215 (.agg #[.int .i64 tx,.int .i64 prev]) (by decide)
 have a_commitDeed:=fun W=>no_commitDeed W 215 (.agg #[.int .i64 tx,.int .i64 prev]) (by decide)
 have a_abortDeed:=fun W=>yes_abortDeed W (.agg #[.int .i64 tx,.int .i64 prev])
 have HB:Hid (∀ u,Below W.heap.size W u→Box u w.heap.size [.int .i64 0,.int .i64 0,.int .i64 0,.int .i64 0,.int .i64 0,.bool false,.int .i64 0,.slice none 0 0,.slice none 0 0,.bool false,.int .i64 0,.slice none 0 0,.slice none 0 0,.int .i64 0,.slice none 0 0] 99∧Box u (w.heap.size+1) [.int .i64 tx,.int .i64 prev] 215):=fun u hu=>⟨b0.below hu b0.lt,b1.below hu b1.lt⟩
 have HC:Hid (∀ w',Box w' (w.heap.size+1) [.int .i64 tx,.int .i64 prev] 215→w'.cell? ⟨w.heap.size+1,0,none⟩=some (.int .i64 tx)∧w'.cell? ⟨w.heap.size+1,1,none⟩=some (.int .i64 prev)):=fun w' b=>⟨b.cell 0 _ rfl,b.cell 1 _ rfl⟩
 have hh:=HC.out W b1
 have hlt:=b1.lt
 have HI:Hid ((Tryz.prog.info? 99).map (·.size)=some 15):=by rw [Hid];kernel_rfl
 have HO:Hid (_):=all_oneCell_toArray (oneR (recA n tx prev 3))
 clear hsW b0 b1
 go_enter Tryz.func150,Tryz.ntmps150
 go_wp2_with fail
 rw [hW.out]
 clear hW a_setDeed a_commitDeed a_abortDeed
 refine wp_region_held_drew (S:=fun w'=>w'.cell? ⟨w.heap.size+1,0,none⟩=some (.int .i64 tx)∧w'.cell? ⟨w.heap.size+1,1,none⟩=some (.int .i64 prev)) (by kernel_rfl) (HC.out _ (HB.out _ (Below.refl _ _).drew).2) (fun hHeld=>?_)
 refine tq 0 (v:=.int .i64 n) rfl hHeld ?_
 try simp only [zz]
 refine tq 1 (v:=.pointer (some ⟨w.heap.size+1,0,none⟩)) rfl hHeld ?_
 try simp only [zz]
 refine tq 2 (v:=.agg #[.int .i64 tx,.int .i64 prev]) rfl hHeld ?_
 try simp only [zz]
 refine tq 3 (v:=.agg #[.int .i64 tx,.int .i64 prev]) rfl hHeld ?_
 try simp only [zz]
 refine wpAnyH_ready (rs:=[4]) (by kernel_rfl) (by simp) ?_
 refine AllReadyH.cons rfl (fun K hK=>?_) AllReadyH.nil
 go_simp
 refine (kind_abortDeed tx prev _).mono ?_
 rintro e u1 ⟨rfl,hb1⟩
 have hB1:Below W.heap.size W u1:=((Below.refl _ _).drew).trans hb1
 refine hK.out _ _ (HC.out _ (HB.out _ hB1).2) (fun hHeld=>?_)
 clear hK K
 try simp only [zz]
 refine wpAnyH_ready (rs:=[5]) (by kernel_rfl) (by simp) ?_
 refine AllReadyH.cons rfl (fun K hK=>?_) AllReadyH.nil
 go_simp
 refine (recAt_any n tx prev 3 _).mono ?_
 rintro e u2 ⟨rfl,hb2⟩
 have hBL:Below W.heap.size W u2:=hB1.trans (hb2.mono hB1.size)
 refine hK.out _ _ (HC.out _ (HB.out _ hBL).2) (fun hHeld=>?_)
 clear hK K
 try simp only [zz]
 obtain ⟨WF,hWF,bF,hwF,hsF⟩:=range_fill [] [.int .i64 0,.int .i64 0,.int .i64 0,.int .i64 0,.int .i64 0,.bool false,.int .i64 0,.slice none 0 0,.slice none 0 0,.bool false,.int .i64 0,.slice none 0 0,.slice none 0 0,.int .i64 0,.slice none 0 0] (RecA.cells (recA n tx prev 3)) [] (by simpa using (HB.out _ hBL).1) rfl
 have HF:Hid (Below w.heap.size w WF):=(hbW.trans (hBL.mono hbW.size)).trans (hwF.below (by omega) (by have:=hBL.size;omega))
 have HLD:Hid (_=_):=rec_load (recA n tx prev 3) (by simpa using bF)
 have HS:Hid (WF.cell? ⟨w.heap.size+1,0,none⟩=some (.int .i64 tx)∧WF.cell? ⟨w.heap.size+1,1,none⟩=some (.int .i64 prev)):=HC.out _ ((HB.out _ hBL).2.within hwF (by omega))
 refine wpAnyH_ready (rs:=[6]) (by kernel_rfl) (by simp) ?_
 refine AllReadyH.cons rfl (fun K hK=>?_) AllReadyH.nil
 rw [if_pos (by rfl)]
 refine wp_store_mid 99 (.tmp 4) (.tmp 48) rfl w.heap.size 0 (RecA.cells (recA n tx prev 3)).toArray rfl rfl ((HB.out _ hBL).1.there 0 _ (by show 0+15≤15;decide)) HI.out HO.out ?_
 have HW:Hid (u2.setCells w.heap.size 0 (RecA.cells (recA n tx prev 3)).toArray.toList=WF):=hWF.out
 rw [HW.out]
 refine hK.out _ _ HS.out (fun hHeld=>?_)
 refine wpAnyH_done (by kernel_rfl) ?_ _
 clear hwF hWF HW hK K HS
 go_wp2
 exact bodyPost_ret (v:=.agg (RecA.cells (recA n tx prev 3)).toArray) (results_one Tryz.results150 rfl HLD.out) rfl ⟨rfl,HF.out⟩
theorem recOf_back (n:Int) (tx prev oid:Int) (a:SlotA) (next:Int) (w:World):
  Calls Tryz.prog 150 #[.int .i64 n,isbackDeed (backD tx prev oid a next)] w fun e w'=>e=.returned (.agg (RecA.cells (⟨n,tx,prev,4,oid,zeroS,a,next,[],none,0⟩)).toArray)∧Below w.heap.size w w':=by
 obtain ⟨W,hW,b0,b1,hbW,hsW⟩:=boxes2 w [.int .i64 0,.int .i64 0,.int .i64 0,.int .i64 0,.int .i64 0,.bool false,.int .i64 0,.slice none 0 0,.slice none 0 0,.bool false,.int .i64 0,.slice none 0 0,.slice none 0 0,.int .i64 0,.slice none 0 0] [.int .i64 tx,.int .i64 prev,.int .i64 oid,.bool a.v.has,.int .i64 a.v.o.kind,.slice a.aI a.v.o.ints.length a.cI,.slice a.aR a.v.o.refs.length a.cR,.int .i64 next] 99 217
 simp only [isbackDeed,backD]
 have a_setDeed:=fun W=>no_setDeed W 217 (.agg #[.int .i64 tx,.int .i64 prev,.int .i64 oid,.bool a.v.has,.int .i64 a.v.o.kind,.slice a.aI a.v.o.ints.length a.cI,.slice a.aR a.v.o.refs.length a.cR,.int .i64 next]) (by decide)
 have a_commitDeed:=fun W=>no_commitDeed W 217 (.agg #[.int .i64 tx,.int .i64 prev,.int .i64 oid,.bool a.v.has,.int .i64 a.v.o.kind,.slice a.aI a.v.o.ints.length a.cI,.slice a.aR a.v.o.refs.length a.cR,.int .i64 next]) (by decide)
 have a_abortDeed:=fun W=>no_abortDeed W 217 (.agg #[.int .i64 tx,.int .i64 prev,.int .i64 oid,.bool a.v.has,.int .i64 a.v.o.kind,.slice a.aI a.v.o.ints.length a.cI,.slice a.aR a.v.o.refs.length a.cR,.int .i64 next]) (by decide)
 have a_backDeed:=fun W=>yes_backDeed W (.agg #[.int .i64 tx,.int .i64 prev,.int .i64 oid,.bool a.v.has,.int .i64 a.v.o.kind,.slice a.aI a.v.o.ints.length a.cI,.slice a.aR a.v.o.refs.length a.cR,.int .i64 next])
 have HB:Hid (∀ u,Below W.heap.size W u→Box u w.heap.size [.int .i64 0,.int .i64 0,.int .i64 0,.int .i64 0,.int .i64 0,.bool false,.int .i64 0,.slice none 0 0,.slice none 0 0,.bool false,.int .i64 0,.slice none 0 0,.slice none 0 0,.int .i64 0,.slice none 0 0] 99∧Box u (w.heap.size+1) [.int .i64 tx,.int .i64 prev,.int .i64 oid,.bool a.v.has,.int .i64 a.v.o.kind,.slice a.aI a.v.o.ints.length a.cI,.slice a.aR a.v.o.refs.length a.cR,.int .i64 next] 217):=fun u hu=>⟨b0.below hu b0.lt,b1.below hu b1.lt⟩
 have HC:Hid (∀ w',Box w' (w.heap.size+1) [.int .i64 tx,.int .i64 prev,.int .i64 oid,.bool a.v.has,.int .i64 a.v.o.kind,.slice a.aI a.v.o.ints.length a.cI,.slice a.aR a.v.o.refs.length a.cR,.int .i64 next] 217→w'.cell? ⟨w.heap.size+1,0,none⟩=some (.int .i64 tx)∧w'.cell? ⟨w.heap.size+1,1,none⟩=some (.int .i64 prev)∧w'.cell? ⟨w.heap.size+1,2,none⟩=some (.int .i64 oid)∧w'.cell? ⟨w.heap.size+1,3,none⟩=some (.bool a.v.has)∧w'.cell? ⟨w.heap.size+1,4,none⟩=some (.int .i64 a.v.o.kind)∧w'.cell? ⟨w.heap.size+1,5,none⟩=some (.slice a.aI a.v.o.ints.length a.cI)∧w'.cell? ⟨w.heap.size+1,6,none⟩=some (.slice a.aR a.v.o.refs.length a.cR)∧w'.cell? ⟨w.heap.size+1,7,none⟩=some (.int .i64 next)):=fun w' b=>⟨b.cell 0 _ rfl,b.cell 1 _ rfl,b.cell 2 _ rfl,b.cell 3 _ rfl,b.cell 4 _ rfl,b.cell 5 _ rfl,b.cell 6 _ rfl,b.cell 7 _ rfl⟩
 have hh:=HC.out W b1
 have hlt:=b1.lt
 have HI:Hid ((Tryz.prog.info? 99).map (·.size)=some 15):=by rw [Hid];kernel_rfl
 have HO:Hid (_):=all_oneCell_toArray (oneR (⟨n,tx,prev,4,oid,zeroS,a,next,[],none,0⟩))
 clear hsW b0 b1
 go_enter Tryz.func150,Tryz.ntmps150
 go_wp2_with fail
 rw [hW.out]
 clear hW a_setDeed a_commitDeed a_abortDeed a_backDeed
 refine wp_region_held_drew (S:=fun w'=>w'.cell? ⟨w.heap.size+1,0,none⟩=some (.int .i64 tx)∧w'.cell? ⟨w.heap.size+1,1,none⟩=some (.int .i64 prev)∧w'.cell? ⟨w.heap.size+1,2,none⟩=some (.int .i64 oid)∧w'.cell? ⟨w.heap.size+1,3,none⟩=some (.bool a.v.has)∧w'.cell? ⟨w.heap.size+1,4,none⟩=some (.int .i64 a.v.o.kind)∧w'.cell? ⟨w.heap.size+1,5,none⟩=some (.slice a.aI a.v.o.ints.length a.cI)∧w'.cell? ⟨w.heap.size+1,6,none⟩=some (.slice a.aR a.v.o.refs.length a.cR)∧w'.cell? ⟨w.heap.size+1,7,none⟩=some (.int .i64 next)) (by kernel_rfl) (HC.out _ (HB.out _ (Below.refl _ _).drew).2) (fun hHeld=>?_)
 refine tq 0 (v:=.int .i64 n) rfl hHeld ?_
 try simp only [zz]
 refine tq 1 (v:=.pointer (some ⟨w.heap.size+1,0,none⟩)) rfl hHeld ?_
 try simp only [zz]
 refine tq 2 (v:=.pointer (some ⟨w.heap.size+1,0,none⟩)) rfl hHeld ?_
 try simp only [zz]
 refine tq 3 (v:=.int .i64 tx) rfl hHeld ?_
 try simp only [zz]
 refine tq 4 (v:=.pointer (some ⟨w.heap.size+1,0,none⟩)) rfl hHeld ?_
 try simp only [zz]
 refine tq 5 (v:=.pointer (some ⟨w.heap.size+1,1,none⟩)) rfl hHeld ?_
 try simp only [zz]
 refine tq 6 (v:=.int .i64 prev) rfl hHeld ?_
 try simp only [zz]
 refine tq 7 (v:=.agg #[.int .i64 tx,.int .i64 prev,.int .i64 oid,.bool a.v.has,.int .i64 a.v.o.kind,.slice a.aI a.v.o.ints.length a.cI,.slice a.aR a.v.o.refs.length a.cR,.int .i64 next]) rfl hHeld ?_
 try simp only [zz]
 refine tq 9 (v:=.pointer (some ⟨w.heap.size+1,2,none⟩)) rfl hHeld ?_
 try simp only [zz]
 refine tq 10 (v:=.int .i64 oid) rfl hHeld ?_
 try simp only [zz]
 refine tq 11 (v:=.pointer (some ⟨w.heap.size+1,3,none⟩)) rfl hHeld ?_
 try simp only [zz]
 refine tq 12 (v:=.agg #[.bool a.v.has,.int .i64 a.v.o.kind,.slice a.aI a.v.o.ints.length a.cI,.slice a.aR a.v.o.refs.length a.cR]) rfl hHeld ?_
 try simp only [zz]
 refine tq 13 (v:=.pointer (some ⟨w.heap.size+1,7,none⟩)) rfl hHeld ?_
 try simp only [zz]
 refine tq 14 (v:=.int .i64 next) rfl hHeld ?_
 try simp only [zz]
 refine wpAnyH_ready (rs:=[8]) (by kernel_rfl) (by simp) ?_
 refine AllReadyH.cons rfl (fun K hK=>?_) AllReadyH.nil
 go_simp
 refine (kind_backDeed tx prev oid a next _).mono ?_
 rintro e u1 ⟨rfl,hb1⟩
 have hB1:Below W.heap.size W u1:=((Below.refl _ _).drew).trans hb1
 refine hK.out _ _ (HC.out _ (HB.out _ hB1).2) (fun hHeld=>?_)
 clear hK K
 try simp only [zz]
 have hBL:=hB1
 refine tq 15 (v:=.agg (RecA.cells (⟨n,tx,prev,4,oid,zeroS,a,next,[],none,0⟩)).toArray) rfl hHeld ?_
 try simp only [zz]
 obtain ⟨WF,hWF,bF,hwF,hsF⟩:=range_fill [] [.int .i64 0,.int .i64 0,.int .i64 0,.int .i64 0,.int .i64 0,.bool false,.int .i64 0,.slice none 0 0,.slice none 0 0,.bool false,.int .i64 0,.slice none 0 0,.slice none 0 0,.int .i64 0,.slice none 0 0] (RecA.cells (⟨n,tx,prev,4,oid,zeroS,a,next,[],none,0⟩)) [] (by simpa using (HB.out _ hBL).1) rfl
 have HF:Hid (Below w.heap.size w WF):=(hbW.trans (hBL.mono hbW.size)).trans (hwF.below (by omega) (by have:=hBL.size;omega))
 have HLD:Hid (_=_):=rec_load (⟨n,tx,prev,4,oid,zeroS,a,next,[],none,0⟩) (by simpa using bF)
 have HS:Hid (WF.cell? ⟨w.heap.size+1,0,none⟩=some (.int .i64 tx)∧WF.cell? ⟨w.heap.size+1,1,none⟩=some (.int .i64 prev)∧WF.cell? ⟨w.heap.size+1,2,none⟩=some (.int .i64 oid)∧WF.cell? ⟨w.heap.size+1,3,none⟩=some (.bool a.v.has)∧WF.cell? ⟨w.heap.size+1,4,none⟩=some (.int .i64 a.v.o.kind)∧WF.cell? ⟨w.heap.size+1,5,none⟩=some (.slice a.aI a.v.o.ints.length a.cI)∧WF.cell? ⟨w.heap.size+1,6,none⟩=some (.slice a.aR a.v.o.refs.length a.cR)∧WF.cell? ⟨w.heap.size+1,7,none⟩=some (.int .i64 next)):=HC.out _ ((HB.out _ hBL).2.within hwF (by omega))
 refine wpAnyH_ready (rs:=[16]) (by kernel_rfl) (by simp) ?_
 refine AllReadyH.cons rfl (fun K hK=>?_) AllReadyH.nil
 rw [if_pos (by rfl)]
 refine wp_store_mid 99 (.tmp 4) (.tmp 67) rfl w.heap.size 0 (RecA.cells (⟨n,tx,prev,4,oid,zeroS,a,next,[],none,0⟩)).toArray rfl rfl ((HB.out _ hBL).1.there 0 _ (by show 0+15≤15;decide)) HI.out HO.out ?_
 have HW:Hid (u1.setCells w.heap.size 0 (RecA.cells (⟨n,tx,prev,4,oid,zeroS,a,next,[],none,0⟩)).toArray.toList=WF):=hWF.out
 rw [HW.out]
 refine hK.out _ _ HS.out (fun hHeld=>?_)
 refine wpAnyH_done (by kernel_rfl) ?_ _
 clear hwF hWF HW hK K HS
 go_wp2
 exact bodyPost_ret (v:=.agg (RecA.cells (⟨n,tx,prev,4,oid,zeroS,a,next,[],none,0⟩)).toArray) (results_one Tryz.results150 rfl HLD.out) rfl ⟨rfl,HF.out⟩
theorem recOf_end (n:Int) (tx prev:Int) (w:World):
  Calls Tryz.prog 150 #[.int .i64 n,isendDeed (linkD tx prev)] w fun e w'=>e=.returned (.agg (RecA.cells (recA n tx prev 5)).toArray)∧Below w.heap.size w w':=by
 obtain ⟨W,hW,b0,b1,hbW,hsW⟩:=boxes2 w [.int .i64 0,.int .i64 0,.int .i64 0,.int .i64 0,.int .i64 0,.bool false,.int .i64 0,.slice none 0 0,.slice none 0 0,.bool false,.int .i64 0,.slice none 0 0,.slice none 0 0,.int .i64 0,.slice none 0 0] [.int .i64 tx,.int .i64 prev] 99 218
 simp only [isendDeed,linkD]
 have a_setDeed:=fun W=>no_setDeed W 218 (.agg #[.int .i64 tx,.int .i64 prev]) (by decide)
 have a_commitDeed:=fun W=>no_commitDeed W 218 (.agg #[.int .i64 tx,.int .i64 prev]) (by decide)
 have a_abortDeed:=fun W=>no_abortDeed W 218 (.agg #[.int .i64 tx,.int .i64 prev]) (by decide)
 have a_backDeed:=fun W=>no_backDeed W 218 (.agg #[.int .i64 tx,.int .i64 prev]) (by decide)
 have a_endDeed:=fun W=>yes_endDeed W (.agg #[.int .i64 tx,.int .i64 prev])
 have HB:Hid (∀ u,Below W.heap.size W u→Box u w.heap.size [.int .i64 0,.int .i64 0,.int .i64 0,.int .i64 0,.int .i64 0,.bool false,.int .i64 0,.slice none 0 0,.slice none 0 0,.bool false,.int .i64 0,.slice none 0 0,.slice none 0 0,.int .i64 0,.slice none 0 0] 99∧Box u (w.heap.size+1) [.int .i64 tx,.int .i64 prev] 218):=fun u hu=>⟨b0.below hu b0.lt,b1.below hu b1.lt⟩
 have HC:Hid (∀ w',Box w' (w.heap.size+1) [.int .i64 tx,.int .i64 prev] 218→w'.cell? ⟨w.heap.size+1,0,none⟩=some (.int .i64 tx)∧w'.cell? ⟨w.heap.size+1,1,none⟩=some (.int .i64 prev)):=fun w' b=>⟨b.cell 0 _ rfl,b.cell 1 _ rfl⟩
 have hh:=HC.out W b1
 have hlt:=b1.lt
 have HI:Hid ((Tryz.prog.info? 99).map (·.size)=some 15):=by rw [Hid];kernel_rfl
 have HO:Hid (_):=all_oneCell_toArray (oneR (recA n tx prev 5))
 clear hsW b0 b1
 go_enter Tryz.func150,Tryz.ntmps150
 go_wp2_with fail
 rw [hW.out]
 clear hW a_setDeed a_commitDeed a_abortDeed a_backDeed a_endDeed
 refine wp_region_held_drew (S:=fun w'=>w'.cell? ⟨w.heap.size+1,0,none⟩=some (.int .i64 tx)∧w'.cell? ⟨w.heap.size+1,1,none⟩=some (.int .i64 prev)) (by kernel_rfl) (HC.out _ (HB.out _ (Below.refl _ _).drew).2) (fun hHeld=>?_)
 refine tq 0 (v:=.int .i64 n) rfl hHeld ?_
 try simp only [zz]
 refine tq 1 (v:=.pointer (some ⟨w.heap.size+1,0,none⟩)) rfl hHeld ?_
 try simp only [zz]
 refine tq 2 (v:=.agg #[.int .i64 tx,.int .i64 prev]) rfl hHeld ?_
 try simp only [zz]
 refine tq 3 (v:=.agg #[.int .i64 tx,.int .i64 prev]) rfl hHeld ?_
 try simp only [zz]
 refine wpAnyH_ready (rs:=[4]) (by kernel_rfl) (by simp) ?_
 refine AllReadyH.cons rfl (fun K hK=>?_) AllReadyH.nil
 go_simp
 refine (kind_endDeed tx prev _).mono ?_
 rintro e u1 ⟨rfl,hb1⟩
 have hB1:Below W.heap.size W u1:=((Below.refl _ _).drew).trans hb1
 refine hK.out _ _ (HC.out _ (HB.out _ hB1).2) (fun hHeld=>?_)
 clear hK K
 try simp only [zz]
 refine wpAnyH_ready (rs:=[5]) (by kernel_rfl) (by simp) ?_
 refine AllReadyH.cons rfl (fun K hK=>?_) AllReadyH.nil
 go_simp
 refine (recAt_any n tx prev 5 _).mono ?_
 rintro e u2 ⟨rfl,hb2⟩
 have hBL:Below W.heap.size W u2:=hB1.trans (hb2.mono hB1.size)
 refine hK.out _ _ (HC.out _ (HB.out _ hBL).2) (fun hHeld=>?_)
 clear hK K
 try simp only [zz]
 obtain ⟨WF,hWF,bF,hwF,hsF⟩:=range_fill [] [.int .i64 0,.int .i64 0,.int .i64 0,.int .i64 0,.int .i64 0,.bool false,.int .i64 0,.slice none 0 0,.slice none 0 0,.bool false,.int .i64 0,.slice none 0 0,.slice none 0 0,.int .i64 0,.slice none 0 0] (RecA.cells (recA n tx prev 5)) [] (by simpa using (HB.out _ hBL).1) rfl
 have HF:Hid (Below w.heap.size w WF):=(hbW.trans (hBL.mono hbW.size)).trans (hwF.below (by omega) (by have:=hBL.size;omega))
 have HLD:Hid (_=_):=rec_load (recA n tx prev 5) (by simpa using bF)
 have HS:Hid (WF.cell? ⟨w.heap.size+1,0,none⟩=some (.int .i64 tx)∧WF.cell? ⟨w.heap.size+1,1,none⟩=some (.int .i64 prev)):=HC.out _ ((HB.out _ hBL).2.within hwF (by omega))
 refine wpAnyH_ready (rs:=[6]) (by kernel_rfl) (by simp) ?_
 refine AllReadyH.cons rfl (fun K hK=>?_) AllReadyH.nil
 rw [if_pos (by rfl)]
 refine wp_store_mid 99 (.tmp 4) (.tmp 76) rfl w.heap.size 0 (RecA.cells (recA n tx prev 5)).toArray rfl rfl ((HB.out _ hBL).1.there 0 _ (by show 0+15≤15;decide)) HI.out HO.out ?_
 have HW:Hid (u2.setCells w.heap.size 0 (RecA.cells (recA n tx prev 5)).toArray.toList=WF):=hWF.out
 rw [HW.out]
 refine hK.out _ _ HS.out (fun hHeld=>?_)
 refine wpAnyH_done (by kernel_rfl) ?_ _
 clear hwF hWF HW hK K HS
 go_wp2
 exact bodyPost_ret (v:=.agg (RecA.cells (recA n tx prev 5)).toArray) (results_one Tryz.results150 rfl HLD.out) rfl ⟨rfl,HF.out⟩
theorem recOf_check (n:Int) (ls:List LiveV) (aL:Option Addr) (cL:Nat) (w:World):
  Calls Tryz.prog 150 #[.int .i64 n,ischeckDeed (checkD ls aL cL)] w fun e w'=>e=.returned (.agg (RecA.cells (⟨n,0,0,6,0,zeroS,zeroS,0,ls,aL,cL⟩)).toArray)∧Below w.heap.size w w':=by
 obtain ⟨W,hW,b0,b1,hbW,hsW⟩:=boxes2 w [.int .i64 0,.int .i64 0,.int .i64 0,.int .i64 0,.int .i64 0,.bool false,.int .i64 0,.slice none 0 0,.slice none 0 0,.bool false,.int .i64 0,.slice none 0 0,.slice none 0 0,.int .i64 0,.slice none 0 0] [.slice aL ls.length cL] 99 220
 simp only [ischeckDeed,checkD]
 have a_setDeed:=fun W=>no_setDeed W 220 (.agg #[.slice aL ls.length cL]) (by decide)
 have a_commitDeed:=fun W=>no_commitDeed W 220 (.agg #[.slice aL ls.length cL]) (by decide)
 have a_abortDeed:=fun W=>no_abortDeed W 220 (.agg #[.slice aL ls.length cL]) (by decide)
 have a_backDeed:=fun W=>no_backDeed W 220 (.agg #[.slice aL ls.length cL]) (by decide)
 have a_endDeed:=fun W=>no_endDeed W 220 (.agg #[.slice aL ls.length cL]) (by decide)
 have a_checkDeed:=fun W=>yes_checkDeed W (.agg #[.slice aL ls.length cL])
 have HB:Hid (∀ u,Below W.heap.size W u→Box u w.heap.size [.int .i64 0,.int .i64 0,.int .i64 0,.int .i64 0,.int .i64 0,.bool false,.int .i64 0,.slice none 0 0,.slice none 0 0,.bool false,.int .i64 0,.slice none 0 0,.slice none 0 0,.int .i64 0,.slice none 0 0] 99∧Box u (w.heap.size+1) [.slice aL ls.length cL] 220):=fun u hu=>⟨b0.below hu b0.lt,b1.below hu b1.lt⟩
 have HC:Hid (∀ w',Box w' (w.heap.size+1) [.slice aL ls.length cL] 220→w'.cell? ⟨w.heap.size+1,0,none⟩=some (.slice aL ls.length cL)):=fun w' b=>b.cell 0 _ rfl
 have hh:=HC.out W b1
 have hlt:=b1.lt
 have HI:Hid ((Tryz.prog.info? 99).map (·.size)=some 15):=by rw [Hid];kernel_rfl
 have HO:Hid (_):=all_oneCell_toArray (oneR (⟨n,0,0,6,0,zeroS,zeroS,0,ls,aL,cL⟩))
 clear hsW b0 b1
 go_enter Tryz.func150,Tryz.ntmps150
 go_wp2_with fail
 rw [hW.out]
 clear hW a_setDeed a_commitDeed a_abortDeed a_backDeed a_endDeed a_checkDeed
 refine wp_region_held_drew (S:=fun w'=>w'.cell? ⟨w.heap.size+1,0,none⟩=some (.slice aL ls.length cL)) (by kernel_rfl) (HC.out _ (HB.out _ (Below.refl _ _).drew).2) (fun hHeld=>?_)
 refine tq 0 (v:=.int .i64 n) rfl hHeld ?_
 try simp only [zz]
 refine tq 1 (v:=.agg #[.slice aL ls.length cL]) rfl hHeld ?_
 try simp only [zz]
 refine tq 3 (v:=.pointer (some ⟨w.heap.size+1,0,none⟩)) rfl hHeld ?_
 try simp only [zz]
 refine tq 4 (v:=.slice aL ls.length cL) rfl hHeld ?_
 try simp only [zz]
 refine wpAnyH_ready (rs:=[2]) (by kernel_rfl) (by simp) ?_
 refine AllReadyH.cons rfl (fun K hK=>?_) AllReadyH.nil
 go_simp
 refine (kind_checkDeed ls aL cL _).mono ?_
 rintro e u1 ⟨rfl,hb1⟩
 have hB1:Below W.heap.size W u1:=((Below.refl _ _).drew).trans hb1
 refine hK.out _ _ (HC.out _ (HB.out _ hB1).2) (fun hHeld=>?_)
 clear hK K
 try simp only [zz]
 have hBL:=hB1
 refine tq 5 (v:=.agg (RecA.cells (⟨n,0,0,6,0,zeroS,zeroS,0,ls,aL,cL⟩)).toArray) rfl hHeld ?_
 try simp only [zz]
 obtain ⟨WF,hWF,bF,hwF,hsF⟩:=range_fill [] [.int .i64 0,.int .i64 0,.int .i64 0,.int .i64 0,.int .i64 0,.bool false,.int .i64 0,.slice none 0 0,.slice none 0 0,.bool false,.int .i64 0,.slice none 0 0,.slice none 0 0,.int .i64 0,.slice none 0 0] (RecA.cells (⟨n,0,0,6,0,zeroS,zeroS,0,ls,aL,cL⟩)) [] (by simpa using (HB.out _ hBL).1) rfl
 have HF:Hid (Below w.heap.size w WF):=(hbW.trans (hBL.mono hbW.size)).trans (hwF.below (by omega) (by have:=hBL.size;omega))
 have HLD:Hid (_=_):=rec_load (⟨n,0,0,6,0,zeroS,zeroS,0,ls,aL,cL⟩) (by simpa using bF)
 have HS:Hid (WF.cell? ⟨w.heap.size+1,0,none⟩=some (.slice aL ls.length cL)):=HC.out _ ((HB.out _ hBL).2.within hwF (by omega))
 refine wpAnyH_ready (rs:=[6]) (by kernel_rfl) (by simp) ?_
 refine AllReadyH.cons rfl (fun K hK=>?_) AllReadyH.nil
 rw [if_pos (by rfl)]
 refine wp_store_mid 99 (.tmp 4) (.tmp 85) rfl w.heap.size 0 (RecA.cells (⟨n,0,0,6,0,zeroS,zeroS,0,ls,aL,cL⟩)).toArray rfl rfl ((HB.out _ hBL).1.there 0 _ (by show 0+15≤15;decide)) HI.out HO.out ?_
 have HW:Hid (u1.setCells w.heap.size 0 (RecA.cells (⟨n,0,0,6,0,zeroS,zeroS,0,ls,aL,cL⟩)).toArray.toList=WF):=hWF.out
 rw [HW.out]
 refine hK.out _ _ HS.out (fun hHeld=>?_)
 refine wpAnyH_done (by kernel_rfl) ?_ _
 clear hwF hWF HW hK K HS
 go_wp2
 exact bodyPost_ret (v:=.agg (RecA.cells (⟨n,0,0,6,0,zeroS,zeroS,0,ls,aL,cL⟩)).toArray) (results_one Tryz.results150 rfl HLD.out) rfl ⟨rfl,HF.out⟩
theorem recOf_nil (n:Int) (w:World):Calls Tryz.prog 150 #[.int .i64 n,.nilIface] w fun e w'=>e=.returned (.agg (recA 0 0 0 0).cells.toArray)∧Below w.heap.size w w':=by
 obtain ⟨W,hW,b1,hbW,hsW⟩:=boxes1 w (recA 0 0 0 0).cells 99
 have HL:Hid (_=_):=rec_load (recA 0 0 0 0) b1
 simp only [recA,RecA.cells,zeroS,List.length_nil] at hW
 clear hsW b1
 have a_setDeed:=nil_setDeed
 have a_commitDeed:=nil_commitDeed
 have a_abortDeed:=nil_abortDeed
 have a_backDeed:=nil_backDeed
 have a_endDeed:=nil_endDeed
 have a_checkDeed:=nil_checkDeed
 go_enter Tryz.func150,Tryz.ntmps150
 go_wp2
 refine bodyPost_ret (v:=.agg (recA 0 0 0 0).cells.toArray) (results_one Tryz.results150 rfl ?_) rfl ⟨rfl,?_⟩
 ·rw [show _=W from hW.out];exact HL.out
 ·rw [show _=W from hW.out];exact hbW
theorem zero_own (w:World) (lo hi:Nat) (h:hi≤w.heap.size):zeroS.own w lo hi:=⟨ownI_nil _ _ _ h,ownI_nil _ _ _ h,fun k hk=>by cases hk⟩
theorem own_zeroR (w:World) (lo hi:Nat) (h:hi≤w.heap.size):zeroR.own w lo hi:=⟨zero_own w lo hi h,zero_own w lo hi h,ownL_nil w lo hi h,by decide⟩
theorem rec_out {w:World} {C:Nat} (q:RecA) (old:List Value) (ho:old.length=15) (bC:Box w C old 99):
  ∃ WF,Hid (w.setCells C 0 q.cells=WF)∧Within C (C+1) w WF∧WF.heap.size=w.heap.size∧Hid (w.there C 0 q.cells.toArray.size)∧Hid ((loadVar 99 ⟨C,0,none⟩).run Tryz.prog WF=.ok (.agg q.cells.toArray) WF)∧Box WF C q.cells 99:=by
 obtain ⟨WF,hWF,bF,hwF,hsF⟩:=range_fill [] old q.cells [] (by simpa using bC) (by rw [ho];rfl)
 have bF':Box WF C q.cells 99:=by simpa using bF
 exact ⟨WF,hWF,hwF,hsF,bC.there 0 _ (by rw [ho];show 0+15≤15;decide),rec_load q bF',bF'⟩
theorem rec_info (q:RecA):(Tryz.prog.info? 99).map (·.size)=some q.cells.length:=by show _=some 15;kernel_rfl
theorem rec_one (q:RecA):q.cells.toArray.all (·.oneCell')=true:=all_oneCell_toArray (oneR q)
theorem Tryz.infoRec:(Tryz.prog.info? 99).map (fun i=>(i.zero,i.size,i.bytes))=some (some (.agg zeroR.cells.toArray),15,200):=by kernel_rfl
theorem ownsRow_at {w:World} {base:Nat} {e:TypeId} {size n:Nat} {v:Value} {xs:List Value} (h:w.ownsRow base e size v n xs) {k:Nat} (hk:v.ownBlock=some k):∃ cur,w.heap[k]? =some (.cells cur e (0,0)):=by
 rcases h.2 with ⟨rfl,_⟩ | ⟨g,cap,cur,rfl,_,hg,_⟩
 ·cases hk
 ·cases hk
  exact ⟨cur,hg⟩
theorem row_apart {w:World} {base lo hi n:Nat} {v:Value} {xs:List Value} {r:RecA} (h:w.ownsRow base 99 15 v n xs) (hr:r.own w lo hi):∀ k,v.ownBlock=some k→k∉r.blocks:=by
 intro k hk hm
 obtain ⟨cur,hc⟩:=ownsRow_at h hk
 simp only [RecA.blocks,SlotA.blocks,List.mem_append,Option.mem_toList] at hm
 have no:∀ {b2 s2 n2:Nat} {e2:TypeId} {v2:Value} {x2:List Value},w.ownsRow b2 e2 s2 v2 n2 x2→v2.ownBlock=some k→e2=99:=by
  intro b2 s2 n2 e2 v2 x2 h2 hk2
  obtain ⟨cur2,hc2⟩:=ownsRow_at h2 hk2
  rw [hc] at hc2
  simp only [Option.some.injEq,Obj.cells.injEq] at hc2
  exact hc2.2.1.symm
 rcases hm with (h1 | h1) | (h1 | h1) | h1
 ·have:=no hr.bf.ints.1 h1;cases this
 ·have:=no hr.bf.refs.1 h1;cases this
 ·have:=no hr.af.ints.1 h1;cases this
 ·have:=no hr.af.refs.1 h1;cases this
 ·have:=no hr.txs.1 h1;cases this
theorem Tryz.infoSeat:(Tryz.prog.info? 144).map (fun i=>(i.zero,i.size,i.bytes))=some (some (.agg zeroSt.cells.toArray),20,280):=by kernel_rfl
theorem rowSt_apart {w:World} {base lo hi n:Nat} {v:Value} {xs:List Value} {r:SeatA} (h:w.ownsRow base 144 20 v n xs) (hr:r.own w lo hi):∀ k,v.ownBlock=some k→k∉r.blocks:=by
 intro k hk hm
 obtain ⟨cur,hc⟩:=ownsRow_at h hk
 have no:∀ {b2 s2 n2:Nat} {e2:TypeId} {v2:Value} {x2:List Value},w.ownsRow b2 e2 s2 v2 n2 x2→v2.ownBlock=some k→e2=144:=by
  intro b2 s2 n2 e2 v2 x2 h2 hk2
  obtain ⟨cur2,hc2⟩:=ownsRow_at h2 hk2
  rw [hc] at hc2
  simp only [Option.some.injEq,Obj.cells.injEq] at hc2
  exact hc2.2.1.symm
 obtain ⟨x,hx,hm⟩:=List.mem_flatMap.1 hm
 simp only [SlotA.blocks,List.mem_append,Option.mem_toList] at hm
 rcases hm with h1 | h1
 ·have:=no (hr.each x hx).ints.1 h1;cases this
 ·have:=no (hr.each x hx).refs.1 h1;cases this
theorem append_seat {w:World} {ops:Array Oper} {rest:List Oper} {o:Oper} {act:Act} {Q:Exit→Act→World→Prop} (hgd:o.guard=none) (s x:Operand)
  (ho:o.op=.call { callee:=.builtin .append,args:=#[s,x],argTypes:=#[49,49] })
  (lo hi:Nat) (a:Option Addr) (c:Nat) (rs:List SeatA) (hs:act.eval s=.slice a rs.length c) (hown:OwnSts w lo hi a c rs)
  (b off:Nat) (sc:Nat) (q:SeatA) (hx:act.eval x=.slice (some ⟨b,off,none⟩) 1 sc) (hr:w.rangeAt b off q.cells) (l u:Nat) (hq:q.own w l u) (hl:hi≤l) (hu:u≤w.heap.size)
  (hb:rs.length+1≤68719476736) (hlo:lo≤hi)
  (h:∀ a' c' w',OwnSts w' lo w'.heap.size a' c' (rs++[q])→w.grownBy w' (Value.slice a rs.length c).ownBlock→wpList Tryz.prog ops Q rest (act.put o.dst (.slice a' (rs++[q]).length c')) w'):
  wpList Tryz.prog ops Q (o::rest) act w:=by
 obtain ⟨i0,hi0,hz0,hz1,hz2⟩:=info_parts Tryz.infoSeat
 have hqb:=hq.blocks_lt
 have htop:=hown.top
 refine wpList_append_own w hgd s x 49 ho lo 144 i0 (.agg zeroSt.cells.toArray) 20 280 Tryz.underlying49 hi0 hz0 hz1 hz2 rfl (by decide) _ _ _ hs hown.row ⟨b,off,none⟩ 1 sc q.cells hx (by rfl) ?_ (oneSt q) (by simp only [maxLen];omega) (by omega) (by omega) (fun v' w' h1 h2 _=>?_)
 ·intro j v hj
  rw [Addr_add]
  exact hr j v hj
 ·have e:cellsSts rs++q.cells=cellsSts (rs++[q]):=by rw [cellsSts_app,cellsSts_cons];simp [cellsSts]
  have e2:rs.length+1=(rs++[q]).length:=by simp
  rw [e,e2] at h1
  have sh:∃ a' c',v'=.slice a' (rs++[q]).length c':=by
   rcases h1.2 with ⟨rfl,h0⟩ | ⟨g,cap,cur,rfl,_⟩
   ·simp at h0
   ·exact ⟨_,_,rfl⟩
  obtain ⟨a',c',rfl⟩:=sh
  have hsz:=h2.size
  have ht:Touch (Value.slice a rs.length c).ownBlock.toList w w':=Touch.of_grown h2 (fun k hk=>Option.mem_toList.2 hk)
  have hrow:=h1.lt
  have hold:∀ r∈rs,r.own w' lo w'.heap.size:=fun r hr=>((hown.each r hr).touch ht (fun k hk hk'=>(List.nodup_append.1 hown.apart).2.2 k hk' k (List.mem_flatMap.2 ⟨r,hr,hk⟩) rfl)).widen (Nat.le_refl _) (by omega) (Nat.le_refl _)
  have hnew:q.own w' lo w'.heap.size:=(hq.touch ht (fun k hk hk'=>by have:=hqb k hk;have:=hown.blk k (Option.mem_toList.1 hk');omega)).widen (by omega) (by omega) (Nat.le_refl _)
  refine h a' c' w' ⟨h1,Nat.le_refl _,fun k hk=>(hrow k hk).2,fun r hr=>?_,?_⟩ h2
  ·rcases List.mem_append.1 hr with hr | hr
   ·exact hold r hr
   ·obtain rfl:=List.mem_singleton.1 hr
    exact hnew
  ·rw [List.flatMap_append,List.nodup_append,List.nodup_append]
   have hap:=(List.nodup_append.1 hown.apart).2.1
   have hin:∀ x∈rs.flatMap SeatA.blocks,lo≤x∧x<hi:=fun x hx=>by
    obtain ⟨r,hr,hx⟩:=List.mem_flatMap.1 hx
    exact (hown.each r hr).blocks_lt x hx
   refine ⟨by cases (Value.slice a' (rs++[q]).length c').ownBlock<;>simp,⟨hap,by simpa using hq.apart,fun x hx y hy e=>?_⟩,fun x hx y hy e=>?_⟩
   ·have:=hin x hx
    simp only [List.flatMap_cons,List.flatMap_nil,List.append_nil] at hy
    have:=hqb y hy
    omega
   ·have hx':=Option.mem_toList.1 hx
    subst e
    rcases List.mem_append.1 hy with hy | hy
    ·obtain ⟨r,hr,hy⟩:=List.mem_flatMap.1 hy
     exact rowSt_apart h1 (hold r hr) x hx' hy
    ·simp only [List.flatMap_cons,List.flatMap_nil,List.append_nil] at hy
     exact rowSt_apart h1 hnew x hx' hy
structure LogV where
 recs:List RecV
 sure:Int
structure LogA where
 recs:List RecA
 sure:Int
 a:Option Addr
 c:Nat
def LogA.v (l:LogA):LogV:=⟨l.recs.map RecA.v,l.sure⟩
def LogA.cells (l:LogA):List Value:=[.slice l.a l.recs.length l.c,.int .i64 l.sure]
def LogA.reads (w:World) (l:LogA):Prop:=ReadsRs w l.a l.recs
def LogA.own (w:World) (lo hi:Nat) (l:LogA):Prop:=OwnRs w lo hi l.a l.c l.recs
structure LogA.short (l:LogA) (m:Nat):Prop where
 len:l.recs.length≤m
 each:∀ r∈l.recs,r.short m
theorem LogA.short.at {l:LogA} {m:Nat} (h:l.short m) (k:Nat) (hk:k<l.recs.length):(l.recs.getD k zeroR).short m:=h.each _ (recD_mem _ k hk)
theorem mapV_len {rs ts:List RecA} (h:ts.map RecA.v=rs.map RecA.v):ts.length=rs.length:=by simpa using congrArg List.length h
theorem mapV_at {rs ts:List RecA} (h:ts.map RecA.v=rs.map RecA.v) (k:Nat) (hk:k<rs.length):(ts.getD k zeroR).v=(rs.getD k zeroR).v:=by
 have hk':k<ts.length:=by rw [mapV_len h];exact hk
 have:=congrArg (fun x=>x[k]?) h
 simpa [List.getD,hk,hk'] using this
theorem mapV_all {rs ts:List RecA} (h:ts.map RecA.v=rs.map RecA.v) (P:RecA→Prop) (hP:∀ a b:RecA,a.v=b.v→P b→P a) (hall:∀ r∈rs,P r):∀ r∈ts,P r:=by
 intro r hr
 obtain ⟨k,hk,rfl⟩:=List.getElem_of_mem hr
 have hk':k<rs.length:=by rw [← mapV_len h];exact hk
 have e:=mapV_at h k hk'
 refine hP _ (rs.getD k zeroR) ?_ (hall _ (recD_mem rs k hk'))
 rw [← e]
 simp [List.getD,hk]
theorem LogA.short_of {l t:LogA} {m:Nat} (h:t.v=l.v) (hl:l.short m):t.short m:=by
 simp only [LogA.v,LogV.mk.injEq] at h
 exact ⟨by rw [mapV_len h.1];exact hl.len,mapV_all h.1 (fun r=>r.short m) (fun a b e hb=>Go.Proofs.YtfehemepdoomdaaGreatDoor.short_of e hb) hl.each⟩
theorem LogA.short_wide {l:LogA} (hl:l.short 1048576):l.short 1099511627776:=⟨by have:=hl.len;omega,fun r hr=>Go.Proofs.YtfehemepdoomdaaGreatDoor.short_wide (hl.each r hr)⟩
end Go.Proofs.YtfehemepdoomdaaGreatDoor
namespace Go.Proofs.YtfehemepdoomdaaGreatDoor
open Go.RowKit
structure EngV where
 disk:List (Int × List SlotV)
 seats:List SeatV
 hand:Int
 log:LogV
 txs:List LiveV
 holds:List HoldV
 next:Int
 down:Bool
structure EngA where
 disk:List PageA
 seats:List SeatA
 aS:Option Addr
 cS:Nat
 hand:Int
 log:LogA
 txs:List LiveV
 aT:Option Addr
 cT:Nat
 holds:List HoldV
 aH:Option Addr
 cH:Nat
 next:Int
 down:Bool
def EngA.v (e:EngA):EngV:=⟨e.disk.map (fun p=>(p.lsn,p.ss.map (·.v))),e.seats.map SeatA.v,e.hand,e.log.v,e.txs,e.holds,e.next,e.down⟩
def cellsPs (ps:List PageA):List Value:=ps.flatMap PageA.cells
def EngA.tail (e:EngA):List Value:=[.slice e.aS e.seats.length e.cS,.int .i64 e.hand,.slice e.log.a e.log.recs.length e.log.c,.int .i64 e.log.sure,.slice e.aT e.txs.length e.cT,.slice e.aH e.holds.length e.cH,.int .i64 e.next,.bool e.down]
def EngA.cells (e:EngA):List Value:=cellsPs e.disk++e.tail
structure EngA.shape (e:EngA):Prop where
 eight:e.disk.length=8
 four:∀ p∈e.disk,p.ss.length=4
theorem cellsPs_len:∀ (ps:List PageA),(∀ p∈ps,p.ss.length=4)→(cellsPs ps).length=ps.length*17:=by
 intro ps
 induction ps with
 | nil=>intro _;rfl
 | cons p r ih=>
  intro h
  have h1:=ih (fun q hq=>h q (List.mem_cons_of_mem _ hq))
  have h2:=page_len p (h p List.mem_cons_self)
  simp only [cellsPs,List.flatMap_cons,List.length_append,List.length_cons] at h1 ⊢
  omega
theorem EngA.disk_len {e:EngA} (h:e.shape):(cellsPs e.disk).length=136:=by rw [cellsPs_len _ h.four,h.eight]
theorem EngA.cells_len {e:EngA} (h:e.shape):e.cells.length=144:=by rw [EngA.cells,List.length_append,EngA.disk_len h];rfl
theorem EngA.cell_at {w:World} {B:Nat} {t:TypeId} {e:EngA} (h:e.shape) (b:Box w B e.cells t) (j:Nat) (v:Value) (hv:e.tail[j]? =some v):w.cell? ⟨B,136+j,none⟩=some v:=by
 refine b.cell (136+j) v ?_
 rw [EngA.cells,List.getElem?_append_right (by rw [EngA.disk_len h];omega),EngA.disk_len h,show 136+j-136=j by omega]
 exact hv
theorem cellsPs_split (ps:List PageA) (k:Nat) (hk:k<ps.length):cellsPs ps=cellsPs (ps.take k)++(ps[k].cells++cellsPs (ps.drop (k+1))):=by
 have e:ps=ps.take k++ps[k]::ps.drop (k+1):=by
  conv=>lhs;rw [← List.take_append_drop k ps,List.drop_eq_getElem_cons hk]
 conv=>lhs;rw [e]
 simp only [cellsPs,List.flatMap_append,List.flatMap_cons]
theorem EngA.page_at {w:World} {B:Nat} {t:TypeId} {e:EngA} (h:e.shape) (b:Box w B e.cells t) (k:Nat) (hk:k<e.disk.length):w.rangeAt B (k*17) e.disk[k].cells:=by
 have e1:e.cells=cellsPs (e.disk.take k)++(e.disk[k].cells++(cellsPs (e.disk.drop (k+1))++e.tail)):=by rw [EngA.cells,cellsPs_split e.disk k hk];simp
 have b':=b
 rw [e1] at b'
 have:=Box.range _ _ _ b'
 rwa [cellsPs_len _ (fun p hp=>h.four p (List.mem_of_mem_take hp)),List.length_take,Nat.min_eq_left (Nat.le_of_lt hk)] at this
def rowOf (a:Option Addr) (n c:Nat):List Nat:=(Value.slice a n c).ownBlock.toList
def EngA.diskBl (e:EngA):List Nat:=(e.disk.flatMap (·.ss)).flatMap SlotA.blocks
def EngA.blocks (e:EngA):List Nat:=e.diskBl++(blocksSts e.aS e.cS e.seats++(blocksRs e.log.a e.log.c e.log.recs++(rowOf e.aT e.txs.length e.cT++rowOf e.aH e.holds.length e.cH)))
structure EngA.own (w:World) (lo hi:Nat) (e:EngA):Prop where
 disk:OwnS w lo hi (e.disk.flatMap (·.ss))
 pool:OwnSts w lo hi e.aS e.cS e.seats
 log:OwnRs w lo hi e.log.a e.log.c e.log.recs
 txs:OwnL w lo hi e.aT e.cT e.txs
 holds:OwnH w lo hi e.aH e.cH e.holds
 apart:e.blocks.Nodup
theorem OwnS.touch {w w':World} {lo hi:Nat} {ss:List SlotA} {bl:List Nat} (h:OwnS w lo hi ss) (ht:Touch bl w w') (hd:∀ k∈ss.flatMap SlotA.blocks,k∉bl):OwnS w' lo hi ss:=
 ⟨fun x hx=>SlotA.touch (h.each x hx) ht (fun k hk=>hd k (List.mem_flatMap.2 ⟨x,hx,hk⟩)),h.apart⟩
theorem EngA.own.blocks_lt {w:World} {lo hi:Nat} {e:EngA} (h:e.own w lo hi):∀ k∈e.blocks,lo≤k∧k<hi:=by
 intro k hk
 simp only [EngA.blocks,List.mem_append] at hk
 rcases hk with hk | hk | hk | hk | hk
 ·exact h.disk.blocks_lt k hk
 ·exact h.pool.blocks_lt k hk
 ·exact h.log.blocks_lt k hk
 ·exact h.txs.lt k (Option.mem_toList.1 hk)
 ·exact h.holds.lt k (Option.mem_toList.1 hk)
theorem EngA.own.touch {w w':World} {lo hi:Nat} {e:EngA} {bl:List Nat} (h:e.own w lo hi) (ht:Touch bl w w') (hd:∀ k∈e.blocks,k∉bl):e.own w' lo hi:=by
 simp only [EngA.blocks,List.mem_append] at hd
 exact ⟨h.disk.touch ht (fun k hk=>hd k (.inl hk)),h.pool.touch ht (fun k hk=>hd k (.inr (.inl hk))),h.log.touch ht (fun k hk=>hd k (.inr (.inr (.inl hk)))),h.txs.touch ht (fun k hk=>hd k (.inr (.inr (.inr (.inl (Option.mem_toList.2 hk)))))),h.holds.touch ht (fun k hk=>hd k (.inr (.inr (.inr (.inr (Option.mem_toList.2 hk)))))),h.apart⟩
theorem EngA.own.within {w w':World} {lo hi l r:Nat} {e:EngA} (h:e.own w lo hi) (hw:Within l r w w') (hd:hi≤l∨r≤lo):e.own w' lo hi:=
 ⟨h.disk.within hw hd,h.pool.within hw hd,h.log.within hw hd,h.txs.within hw hd,h.holds.within hw hd,h.apart⟩
theorem EngA.own.below {w w':World} {lo hi:Nat} {e:EngA} (h:e.own w lo hi) (hb:Below w.heap.size w w'):e.own w' lo hi:=
 ⟨h.disk.below hb,h.pool.below hb,h.log.below hb,h.txs.below hb,h.holds.below hb,h.apart⟩
theorem EngA.own.widen {w:World} {lo hi lo' hi':Nat} {e:EngA} (h:e.own w lo hi) (h1:lo'≤lo) (h2:hi≤hi') (h3:hi'≤w.heap.size):e.own w lo' hi':=
 ⟨h.disk.widen h1 h2 h3,h.pool.widen h1 h2 h3,h.log.widen h1 h2 h3,h.txs.widen h1 h2 h3,h.holds.widen h1 h2 h3,h.apart⟩
theorem Tryz.infoEng:(Tryz.prog.info? 58).map (·.size)=some 144:=by kernel_rfl
def zeroP:PageA:=⟨0,[zeroS,zeroS,zeroS,zeroS]⟩
def zeroE:EngA:=⟨[zeroP,zeroP,zeroP,zeroP,zeroP,zeroP,zeroP,zeroP],[],none,0,0,⟨[],0,none,0⟩,[],none,0,[],none,0,0,false⟩
theorem Tryz.zeroEng:(Tryz.prog.info? 58).map (·.zero)=some (some (.agg zeroE.cells.toArray)):=by kernel_rfl
end Go.Proofs.YtfehemepdoomdaaGreatDoor