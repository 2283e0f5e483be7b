/- Several texts in one, in their order. -/
import Derived.Test.YtjkckhfddgeboaaGreatDoorPGetx6
import Derived.Deep.QuietTactic
import Derived.Deep.RegionHeld3
import Derived.Test.YtjkckhfddgeboaaGreatDoorPGetx4
import Derived.Test.YtjkckhfddgeboaaGreatDoorPGetx1
set_option maxHeartbeats 8000000
set_option maxRecDepth 100000
namespace Go.Proofs.YtjkckhfddgeboaaGreatDoor
open Go.RowKit
theorem Pj (x:Int) (w:World):Calls Tryz.prog 336 #[.int .i64 x] w fun e w'=>e=.returned (.bool (inB x 1 1000))∧w'=w:=by
 by_cases h1:1≤x
 ·by_cases h2:x≤1000
  ·have HB:Hid (inB x 1 1000=true):=by simp [Hid,inB];omega
   go_enter Tryz.func336,Tryz.ntmps336;go_wp2;go_ret;exact ⟨qd HB.out.symm,rfl⟩
  ·have HB:Hid (inB x 1 1000=false):=by simp [Hid,inB];omega
   go_enter Tryz.func336,Tryz.ntmps336;go_wp2;go_ret;exact ⟨qd HB.out.symm,rfl⟩
 ·have HB:Hid (inB x 1 1000=false):=by simp [Hid,inB];omega
  go_enter Tryz.func336,Tryz.ntmps336;go_wp2;go_ret;exact ⟨qd HB.out.symm,rfl⟩
theorem Yd (x:Int) (w:World):Calls Tryz.prog 74 #[.int .i64 x] w fun e w'=>e=.returned (.bool (inB x 1 31))∧w'=w:=by
 by_cases h1:1≤x
 ·by_cases h2:x≤31
  ·have HB:Hid (inB x 1 31=true):=by simp [Hid,inB];omega
   go_enter Tryz.func74,Tryz.ntmps74;go_wp2;go_ret;exact ⟨qd HB.out.symm,rfl⟩
  ·have HB:Hid (inB x 1 31=false):=by simp [Hid,inB];omega
   go_enter Tryz.func74,Tryz.ntmps74;go_wp2;go_ret;exact ⟨qd HB.out.symm,rfl⟩
 ·have HB:Hid (inB x 1 31=false):=by simp [Hid,inB];omega
  go_enter Tryz.func74,Tryz.ntmps74;go_wp2;go_ret;exact ⟨qd HB.out.symm,rfl⟩
theorem YM (n x:Int) (w:World):Calls Tryz.prog 305 #[.int .i64 n,.int .i64 x] w fun e w'=>e=.returned (.bool (inB x 0 (n-1)))∧w'=w:=by
 by_cases h1:0≤x
 ·by_cases h2:x<n
  ·have HB:Hid (inB x 0 (n-1)=true):=by simp [Hid,inB];omega
   go_enter Tryz.func305,Tryz.ntmps305;go_wp2;go_ret;exact ⟨qd HB.out.symm,rfl⟩
  ·have HB:Hid (inB x 0 (n-1)=false):=by simp [Hid,inB];omega
   go_enter Tryz.func305,Tryz.ntmps305;go_wp2;go_ret;exact ⟨qd HB.out.symm,rfl⟩
 ·have HB:Hid (inB x 0 (n-1)=false):=by simp [Hid,inB];omega
  go_enter Tryz.func305,Tryz.ntmps305;go_wp2;go_ret;exact ⟨qd HB.out.symm,rfl⟩
def je (n tx prev:Int):Bool:=inB tx 1 1000 && inB prev 0 (n-1)
theorem JG (n tx prev:Int) (w:World):Calls Tryz.prog 304 #[.int .i64 n,.agg #[.int .i64 tx,.int .i64 prev]] w fun e w'=>e=.returned (.bool (je n tx prev))∧Below w.heap.size w w':=by
 obtain ⟨W,hW,b0,hbW,qp⟩:=qx w [.int .i64 tx,.int .i64 prev] 331;have HZ:Hid (je n tx prev=(inB tx 1 1000 && inB prev 0 (n-1))):=rfl;generalize je n tx prev=R at*
 have y0:=b0.cell 0 _ rfl;have y1:=b0.cell 1 _ rfl;clear qp b0;go_enter Tryz.func304,Tryz.ntmps304;go_wp2_with fail;rw [hW.out];clear hW;refine (Pj _ W).mono ?_;rintro e u ⟨rfl,hu⟩;rw [hu];clear hu u;cases h0:inB tx 1 1000 with
 | false=>
  have HR:Hid (R=false):=by rw [Hid,HZ.out];simp [h0]
  go_wp2;go_ret;exact ⟨qd HR.out.symm,hbW⟩
 | true=>
  have HR:Hid (R=inB prev 0 (n-1)):=by rw [Hid,HZ.out];simp [h0]
  go_wp2_with fail;refine (YM _ _ W).mono ?_;rintro e u ⟨rfl,hu⟩;rw [hu];clear hu u;go_wp2;go_ret;exact ⟨qd HR.out.symm,hbW⟩
def Xf (ls:List qC):Nat→Int
 | 0=>0
 | k+1=>(ls.getD k qA).tx
theorem Tk (n:Int) (ls:List qC) (k:Nat):yJ n ls k=(decide (Xf ls k<(ls.getD k qA).tx) && (inB (ls.getD k qA).tx 1 1000 && (!((ls.getD k qA).last == 0) && inB (ls.getD k qA).last 0 (n-1)))):=by
 rw [Bool.eq_iff_iff];cases k with
 | zero=>simp [yJ,Xf,inB];omega
 | succ k=>simp [yJ,Xf,inB];omega
theorem Dy (n:Int) (aL:Option Addr) (cL:Nat) (ls:List qC) (w:World) (hr:jW w aL ls) (hl:ls.length≤1099511627776):
  Calls Tryz.prog 306 #[.int .i64 n,.slice aL ls.length cL] w fun e w'=>e=.returned (.bool (kZ n ls))∧Below w.heap.size w w':=by
 have jP:Hid (∀ k,k<ls.length→yJ n ls k=false→kZ n ls=false):=fun k hk h=>GG k hk h
 have JQ:Hid ((∀ k,k<ls.length→yJ n ls k=true)→kZ n ls=decide (ls.length≤20)):=fun h=>mW h
 generalize kZ n ls=R at*
 go_enter Tryz.func306,Tryz.ntmps306;go_wp2;go_loopw [5,10] (fun t i wr=>∃ k:Nat,k≤ls.length∧i=.int .i64 k∧t=.int .i64 (Xf ls k)∧Hid (∀ j,j<k→yJ n ls j=true)∧Below w.heap.size w wr) (fun _ i _=>ls.length-(intOf i).toNat)
 case atStart=>exact ⟨0,Nat.zero_le _,rfl,rfl,fun j hj=>by omega,Below.refl _ _⟩
 case round=>
  obtain ⟨k,hk,rfl,rfl,hall,hbl⟩:=hrel;have hrr:=hr.below hbl;clear hr;by_cases hlt:k<ls.length
  ·obtain ⟨b,off,rfl,hcell⟩:=hrr (by intro e;rw [e] at hlt;simp at hlt);obtain ⟨c0,c1,c2⟩:=hcell k hlt;have HQ:Hid (_=_):=Tk n ls k;have HX:Hid (Xf ls (k+1)=(ls.getD k qA).tx):=rfl;have HN:Hid (yJ n ls k=false→R=false):=fun h=>jP.out k hlt h
   clear hcell jP JQ;generalize Xf ls k=p at*
   generalize hz:ls.getD k qA=z at*
   obtain ⟨W,hW,b0,hbW,qp⟩:=qx wr [.int .i64 z.tx,.int .i64 z.last,.bool z.aborts] 118;have y0:=b0.cell 0 _ rfl;have y1:=b0.cell 1 _ rfl;have BW:Below w.heap.size w W:=hbl.trans (hbW.mono hbl.size);clear qp b0 hz hbW;by_cases hA:z.tx≤p
   ·have HR:Hid (R=false):=HN.out (by rw [HQ.out];simp;omega);clear HQ HN HX;go_wp2;go_ret;exact ⟨qd HR.out.symm,by rw [hW.out];exact BW⟩
   go_wp2_with fail;rw [hW.out];refine (Pj _ W).mono ?_;rintro e u ⟨rfl,hu⟩;rw [hu];clear hu u hW;cases hB:inB z.tx 1 1000 with
   | false=>
    have HR:Hid (R=false):=HN.out (by rw [HQ.out];simp [hB]);clear HQ HN HX;go_wp2;go_ret;exact ⟨qd HR.out.symm,BW⟩
   | true=>
    cases hC:(z.last == 0) with
    | true=>
     have HR:Hid (R=false):=HN.out (by rw [HQ.out];simp [hC]);clear HQ HN HX;go_wp2;go_ret;exact ⟨qd HR.out.symm,BW⟩
    | false=>
     go_wp2_with fail;refine (YM _ _ W).mono ?_;rintro e u ⟨rfl,hu⟩;rw [hu];clear hu u;cases hD:inB z.last 0 (n-1) with
     | false=>
      have HR:Hid (R=false):=HN.out (by rw [HQ.out];simp [hD]);clear HQ HN HX;go_wp2;go_ret;exact ⟨qd HR.out.symm,BW⟩
     | true=>
      have HK:Hid (∀ j,j<k+1→yJ n ls j=true):=by
       intro j hj;by_cases e:j=k
       ·rw [e,HQ.out];simp [hB,hC,hD];omega
       ·exact hall.out j (by omega)
      clear HQ HN;go_wp2;go_roundw
      case rel=>exact ⟨k+1,by omega,by go_num,by rw [HX.out],HK,BW⟩
      case measure=>simp [intOf];omega
  ·have HR:Hid (R=decide (ls.length≤20)):=JQ.out (fun j hj=>hall.out j (by omega));clear jP JQ;go_wp2;go_ret;exact ⟨qd (by rw [HR.out];exact decide_eq_decide.2 (by omega)),hbl⟩
theorem rO (n:Int) (tx prev oid:Int) (b a:qf) (w:World) (hg:kK w) (hb:b.reads w) (ha:a.reads w) (hlb:Fit [b]) (hla:Fit [a]):
  Calls Tryz.prog 245 #[.int .i64 n,vF (Zn tx prev oid b a)] w fun e w'=>e=.returned (.bool (je n tx prev && (inB oid 1 31 && (qE b.v && (qE a.v)))))∧Below w.heap.size w w':=by
 obtain ⟨W,hW,b0,hbW,qp⟩:=qx w [.int .i64 tx,.int .i64 prev,.int .i64 oid,.bool b.v.has,.int .i64 b.v.o.kind,.slice b.aI b.v.o.ints.length b.cI,.slice b.aR b.v.o.refs.length b.cR,.bool a.v.has,.int .i64 a.v.o.kind,.slice a.aI a.v.o.ints.length a.cI,.slice a.aR a.v.o.refs.length a.cR] 333;have HZ:Hid (∀ R,R=(je n tx prev && (inB oid 1 31 && (qE b.v && (qE a.v))))→R=(je n tx prev && (inB oid 1 31 && (qE b.v && (qE a.v))))):=fun _ h=>h
 simp only [vF,Zn];have kN:=fun W=>UT W (.agg #[.int .i64 tx,.int .i64 prev,.int .i64 oid,.bool b.v.has,.int .i64 b.v.o.kind,.slice b.aI b.v.o.ints.length b.cI,.slice b.aR b.v.o.refs.length b.cR,.bool a.v.has,.int .i64 a.v.o.kind,.slice a.aI a.v.o.ints.length a.cI,.slice a.aR a.v.o.refs.length a.cR])
 have HX:Hid (∀ u,Below W.heap.size W u→Box u w.heap.size [.int .i64 tx,.int .i64 prev,.int .i64 oid,.bool b.v.has,.int .i64 b.v.o.kind,.slice b.aI b.v.o.ints.length b.cI,.slice b.aR b.v.o.refs.length b.cR,.bool a.v.has,.int .i64 a.v.o.kind,.slice a.aI a.v.o.ints.length a.cI,.slice a.aR a.v.o.refs.length a.cR] 333):=fun u hu=>b0.below hu b0.lt
 obtain ⟨R,HQ⟩:∃ R,Hid (R=(je n tx prev && (inB oid 1 31 && (qE b.v && (qE a.v))))):=⟨_,rfl⟩;rw [← HQ.out];clear qp b0 HZ;go_enter Tryz.func245,Tryz.ntmps245;have x0:=(HX.out W (Below.refl _ _)).cell 0 _ rfl;have x1:=(HX.out W (Below.refl _ _)).cell 1 _ rfl;have x2:=(HX.out W (Below.refl _ _)).cell 2 _ rfl;have x3:=(HX.out W (Below.refl _ _)).cell 3 _ rfl;have x4:=(HX.out W (Below.refl _ _)).cell 4 _ rfl;have x5:=(HX.out W (Below.refl _ _)).cell 5 _ rfl;have x6:=(HX.out W (Below.refl _ _)).cell 6 _ rfl;have x7:=(HX.out W (Below.refl _ _)).cell 7 _ rfl;have x8:=(HX.out W (Below.refl _ _)).cell 8 _ rfl;have x9:=(HX.out W (Below.refl _ _)).cell 9 _ rfl;have kJ:=(HX.out W (Below.refl _ _)).cell 10 _ rfl;go_wp2_with fail;rw [hW.out];clear hW;have l0:Below W.heap.size W W:=Below.refl _ _;refine (JG n tx prev W).mono ?_;clear x0 x1 x2 x3 x4 x5 x6 x7 x8 x9 kJ;rintro e u0 ⟨rfl,hb0⟩;have b_0:Below w.heap.size w u0:=(hbW).trans (hb0.mono (hbW).size);have l_0:Below W.heap.size W u0:=(l0).trans (hb0.mono (l0).size);have x0:=(HX.out u0 (l_0)).cell 0 _ rfl;have x1:=(HX.out u0 (l_0)).cell 1 _ rfl;have x2:=(HX.out u0 (l_0)).cell 2 _ rfl;have x3:=(HX.out u0 (l_0)).cell 3 _ rfl;have x4:=(HX.out u0 (l_0)).cell 4 _ rfl;have x5:=(HX.out u0 (l_0)).cell 5 _ rfl;have x6:=(HX.out u0 (l_0)).cell 6 _ rfl;have x7:=(HX.out u0 (l_0)).cell 7 _ rfl;have x8:=(HX.out u0 (l_0)).cell 8 _ rfl;have x9:=(HX.out u0 (l_0)).cell 9 _ rfl;have kJ:=(HX.out u0 (l_0)).cell 10 _ rfl;clear hb0;cases h0:je n tx prev with
 | false=>
  have HR:Hid (R=false):=by rw [Hid,HQ.out];simp [h0]
  go_wp2;go_ret;exact ⟨qd HR.out.symm,b_0⟩
 | true=>
  go_wp2_with fail;refine (Yd oid u0).mono ?_;rintro e v ⟨rfl,hv⟩;rw [hv];clear hv v;cases h1:inB oid 1 31 with
  | false=>
   have HR:Hid (R=false):=by rw [Hid,HQ.out];simp [h0,h1]
   go_wp2;go_ret;exact ⟨qd HR.out.symm,b_0⟩
  | true=>
   go_wp2_with fail;refine (K9 b u0 (hg.keep (b_0)) (qQ.below hb (b_0)) hlb).mono ?_;clear x0 x1 x2 x3 x4 x5 x6 x7 x8 x9 kJ;rintro e u2 ⟨rfl,hb2⟩;have b_2:Below w.heap.size w u2:=(b_0).trans (hb2.mono (b_0).size);have l_2:Below W.heap.size W u2:=(l_0).trans (hb2.mono (l_0).size);have x0:=(HX.out u2 (l_2)).cell 0 _ rfl;have x1:=(HX.out u2 (l_2)).cell 1 _ rfl;have x2:=(HX.out u2 (l_2)).cell 2 _ rfl;have x3:=(HX.out u2 (l_2)).cell 3 _ rfl;have x4:=(HX.out u2 (l_2)).cell 4 _ rfl;have x5:=(HX.out u2 (l_2)).cell 5 _ rfl;have x6:=(HX.out u2 (l_2)).cell 6 _ rfl;have x7:=(HX.out u2 (l_2)).cell 7 _ rfl;have x8:=(HX.out u2 (l_2)).cell 8 _ rfl;have x9:=(HX.out u2 (l_2)).cell 9 _ rfl;have kJ:=(HX.out u2 (l_2)).cell 10 _ rfl;clear hb2;cases h2:qE b.v with
   | false=>
    have HR:Hid (R=false):=by rw [Hid,HQ.out];simp [h0,h1,h2]
    go_wp2;go_ret;exact ⟨qd HR.out.symm,b_2⟩
   | true=>
    go_wp2_with fail;refine (K9 a u2 (hg.keep (b_2)) (qQ.below ha (b_2)) hla).mono ?_;clear x0 x1 x2 x3 x4 x5 x6 x7 x8 x9 kJ;rintro e u3 ⟨rfl,hb3⟩;have b_3:Below w.heap.size w u3:=(b_2).trans (hb3.mono (b_2).size);have l_3:Below W.heap.size W u3:=(l_2).trans (hb3.mono (l_2).size);have x0:=(HX.out u3 (l_3)).cell 0 _ rfl;have x1:=(HX.out u3 (l_3)).cell 1 _ rfl;have x2:=(HX.out u3 (l_3)).cell 2 _ rfl;have x3:=(HX.out u3 (l_3)).cell 3 _ rfl;have x4:=(HX.out u3 (l_3)).cell 4 _ rfl;have x5:=(HX.out u3 (l_3)).cell 5 _ rfl;have x6:=(HX.out u3 (l_3)).cell 6 _ rfl;have x7:=(HX.out u3 (l_3)).cell 7 _ rfl;have x8:=(HX.out u3 (l_3)).cell 8 _ rfl;have x9:=(HX.out u3 (l_3)).cell 9 _ rfl;have kJ:=(HX.out u3 (l_3)).cell 10 _ rfl;clear hb3;have HR:Hid (R=qE a.v):=by rw [Hid,HQ.out];simp [h0,h1,h2]
    generalize qE a.v=G at*
    go_wp2;go_ret;exact ⟨qd HR.out.symm,b_3⟩
theorem GU (n:Int) (tx prev:Int) (w:World):
  Calls Tryz.prog 245 #[.int .i64 n,yO (xW tx prev)] w fun e w'=>e=.returned (.bool (je n tx prev))∧Below w.heap.size w w':=by
 obtain ⟨W,hW,b0,hbW,qp⟩:=qx w [.int .i64 tx,.int .i64 prev] 335;have HZ:Hid (∀ R,R=(je n tx prev)→R=(je n tx prev)):=fun _ h=>h
 simp only [yO,xW];have kN:=fun W=>zH W 335 (.agg #[.int .i64 tx,.int .i64 prev]) (by decide)
 have jY:=fun W=>Ze W (.agg #[.int .i64 tx,.int .i64 prev])
 have HX:Hid (∀ u,Below W.heap.size W u→Box u w.heap.size [.int .i64 tx,.int .i64 prev] 335):=fun u hu=>b0.below hu b0.lt
 obtain ⟨R,HQ⟩:∃ R,Hid (R=(je n tx prev)):=⟨_,rfl⟩;rw [← HQ.out];clear qp b0 HZ;go_enter Tryz.func245,Tryz.ntmps245;have x0:=(HX.out W (Below.refl _ _)).cell 0 _ rfl;have x1:=(HX.out W (Below.refl _ _)).cell 1 _ rfl;go_wp2_with fail;rw [hW.out];clear hW;have l0:Below W.heap.size W W:=Below.refl _ _;refine (JG n tx prev W).mono ?_;clear x0 x1;rintro e u0 ⟨rfl,hb0⟩;have b_0:Below w.heap.size w u0:=(hbW).trans (hb0.mono (hbW).size);have l_0:Below W.heap.size W u0:=(l0).trans (hb0.mono (l0).size);have x0:=(HX.out u0 (l_0)).cell 0 _ rfl;have x1:=(HX.out u0 (l_0)).cell 1 _ rfl;clear hb0;have HR:Hid (R=je n tx prev):=HQ.out;generalize je n tx prev=G at*
 go_wp2;go_ret;exact ⟨qd HR.out.symm,b_0⟩
theorem Mq (n:Int) (tx prev:Int) (w:World):
  Calls Tryz.prog 245 #[.int .i64 n,zw (xW tx prev)] w fun e w'=>e=.returned (.bool (je n tx prev))∧Below w.heap.size w w':=by
 obtain ⟨W,hW,b0,hbW,qp⟩:=qx w [.int .i64 tx,.int .i64 prev] 336;have HZ:Hid (∀ R,R=(je n tx prev)→R=(je n tx prev)):=fun _ h=>h
 simp only [zw,xW];have kN:=fun W=>zH W 336 (.agg #[.int .i64 tx,.int .i64 prev]) (by decide)
 have jY:=fun W=>yY W 336 (.agg #[.int .i64 tx,.int .i64 prev]) (by decide)
 have xC:=fun W=>ZZ W (.agg #[.int .i64 tx,.int .i64 prev])
 have HX:Hid (∀ u,Below W.heap.size W u→Box u w.heap.size [.int .i64 tx,.int .i64 prev] 336):=fun u hu=>b0.below hu b0.lt
 obtain ⟨R,HQ⟩:∃ R,Hid (R=(je n tx prev)):=⟨_,rfl⟩;rw [← HQ.out];clear qp b0 HZ;go_enter Tryz.func245,Tryz.ntmps245;have x0:=(HX.out W (Below.refl _ _)).cell 0 _ rfl;have x1:=(HX.out W (Below.refl _ _)).cell 1 _ rfl;go_wp2_with fail;rw [hW.out];clear hW;have l0:Below W.heap.size W W:=Below.refl _ _;refine (JG n tx prev W).mono ?_;clear x0 x1;rintro e u0 ⟨rfl,hb0⟩;have b_0:Below w.heap.size w u0:=(hbW).trans (hb0.mono (hbW).size);have l_0:Below W.heap.size W u0:=(l0).trans (hb0.mono (l0).size);have x0:=(HX.out u0 (l_0)).cell 0 _ rfl;have x1:=(HX.out u0 (l_0)).cell 1 _ rfl;clear hb0;have HR:Hid (R=je n tx prev):=HQ.out;generalize je n tx prev=G at*
 go_wp2;go_ret;exact ⟨qd HR.out.symm,b_0⟩
theorem rQ (n:Int) (tx prev:Int) (w:World):
  Calls Tryz.prog 245 #[.int .i64 n,vG (xW tx prev)] w fun e w'=>e=.returned (.bool (je n tx prev))∧Below w.heap.size w w':=by
 obtain ⟨W,hW,b0,hbW,qp⟩:=qx w [.int .i64 tx,.int .i64 prev] 339;have HZ:Hid (∀ R,R=(je n tx prev)→R=(je n tx prev)):=fun _ h=>h
 simp only [vG,xW];have kN:=fun W=>zH W 339 (.agg #[.int .i64 tx,.int .i64 prev]) (by decide)
 have jY:=fun W=>yY W 339 (.agg #[.int .i64 tx,.int .i64 prev]) (by decide)
 have xC:=fun W=>vZ W 339 (.agg #[.int .i64 tx,.int .i64 prev]) (by decide)
 have zI:=fun W=>Kb W 339 (.agg #[.int .i64 tx,.int .i64 prev]) (by decide)
 have Qg:=fun W=>UW W (.agg #[.int .i64 tx,.int .i64 prev])
 have HX:Hid (∀ u,Below W.heap.size W u→Box u w.heap.size [.int .i64 tx,.int .i64 prev] 339):=fun u hu=>b0.below hu b0.lt
 obtain ⟨R,HQ⟩:∃ R,Hid (R=(je n tx prev)):=⟨_,rfl⟩;rw [← HQ.out];clear qp b0 HZ;go_enter Tryz.func245,Tryz.ntmps245;have x0:=(HX.out W (Below.refl _ _)).cell 0 _ rfl;have x1:=(HX.out W (Below.refl _ _)).cell 1 _ rfl;go_wp2_with fail;rw [hW.out];clear hW;have l0:Below W.heap.size W W:=Below.refl _ _;refine (JG n tx prev W).mono ?_;clear x0 x1;rintro e u0 ⟨rfl,hb0⟩;have b_0:Below w.heap.size w u0:=(hbW).trans (hb0.mono (hbW).size);have l_0:Below W.heap.size W u0:=(l0).trans (hb0.mono (l0).size);have x0:=(HX.out u0 (l_0)).cell 0 _ rfl;have x1:=(HX.out u0 (l_0)).cell 1 _ rfl;clear hb0;have HR:Hid (R=je n tx prev):=HQ.out;generalize je n tx prev=G at*
 go_wp2;go_ret;exact ⟨qd HR.out.symm,b_0⟩
theorem PK (n:Int) (tx prev oid:Int) (a:qf) (next:Int) (w:World) (hg:kK w) (ha:a.reads w) (hla:Fit [a]):
  Calls Tryz.prog 245 #[.int .i64 n,wC (KW tx prev oid a next)] w fun e w'=>e=.returned (.bool (je n tx prev && (inB oid 1 31 && (qE a.v && (inB next 0 (n-1))))))∧Below w.heap.size w w':=by
 obtain ⟨W,hW,b0,hbW,qp⟩:=qx w [.int .i64 tx,.int .i64 prev,.int .i64 oid,.bool a.v.has,.int .i64 a.v.o.kind,.slice a.aI a.v.o.ints.length a.cI,.slice a.aR a.v.o.refs.length a.cR,.int .i64 next] 338;have HZ:Hid (∀ R,R=(je n tx prev && (inB oid 1 31 && (qE a.v && (inB next 0 (n-1)))))→R=(je n tx prev && (inB oid 1 31 && (qE a.v && (inB next 0 (n-1)))))):=fun _ h=>h
 simp only [wC,KW];have kN:=fun W=>zH W 338 (.agg #[.int .i64 tx,.int .i64 prev,.int .i64 oid,.bool a.v.has,.int .i64 a.v.o.kind,.slice a.aI a.v.o.ints.length a.cI,.slice a.aR a.v.o.refs.length a.cR,.int .i64 next]) (by decide)
 have jY:=fun W=>yY W 338 (.agg #[.int .i64 tx,.int .i64 prev,.int .i64 oid,.bool a.v.has,.int .i64 a.v.o.kind,.slice a.aI a.v.o.ints.length a.cI,.slice a.aR a.v.o.refs.length a.cR,.int .i64 next]) (by decide)
 have xC:=fun W=>vZ W 338 (.agg #[.int .i64 tx,.int .i64 prev,.int .i64 oid,.bool a.v.has,.int .i64 a.v.o.kind,.slice a.aI a.v.o.ints.length a.cI,.slice a.aR a.v.o.refs.length a.cR,.int .i64 next]) (by decide)
 have zI:=fun W=>V9 W (.agg #[.int .i64 tx,.int .i64 prev,.int .i64 oid,.bool a.v.has,.int .i64 a.v.o.kind,.slice a.aI a.v.o.ints.length a.cI,.slice a.aR a.v.o.refs.length a.cR,.int .i64 next])
 have HX:Hid (∀ u,Below W.heap.size W u→Box u w.heap.size [.int .i64 tx,.int .i64 prev,.int .i64 oid,.bool a.v.has,.int .i64 a.v.o.kind,.slice a.aI a.v.o.ints.length a.cI,.slice a.aR a.v.o.refs.length a.cR,.int .i64 next] 338):=fun u hu=>b0.below hu b0.lt
 obtain ⟨R,HQ⟩:∃ R,Hid (R=(je n tx prev && (inB oid 1 31 && (qE a.v && (inB next 0 (n-1)))))):=⟨_,rfl⟩;rw [← HQ.out];clear qp b0 HZ;go_enter Tryz.func245,Tryz.ntmps245;have x0:=(HX.out W (Below.refl _ _)).cell 0 _ rfl;have x1:=(HX.out W (Below.refl _ _)).cell 1 _ rfl;have x2:=(HX.out W (Below.refl _ _)).cell 2 _ rfl;have x3:=(HX.out W (Below.refl _ _)).cell 3 _ rfl;have x4:=(HX.out W (Below.refl _ _)).cell 4 _ rfl;have x5:=(HX.out W (Below.refl _ _)).cell 5 _ rfl;have x6:=(HX.out W (Below.refl _ _)).cell 6 _ rfl;have x7:=(HX.out W (Below.refl _ _)).cell 7 _ rfl;go_wp2_with fail;rw [hW.out];clear hW;have l0:Below W.heap.size W W:=Below.refl _ _;refine (JG n tx prev W).mono ?_;clear x0 x1 x2 x3 x4 x5 x6 x7;rintro e u0 ⟨rfl,hb0⟩;have b_0:Below w.heap.size w u0:=(hbW).trans (hb0.mono (hbW).size);have l_0:Below W.heap.size W u0:=(l0).trans (hb0.mono (l0).size);have x0:=(HX.out u0 (l_0)).cell 0 _ rfl;have x1:=(HX.out u0 (l_0)).cell 1 _ rfl;have x2:=(HX.out u0 (l_0)).cell 2 _ rfl;have x3:=(HX.out u0 (l_0)).cell 3 _ rfl;have x4:=(HX.out u0 (l_0)).cell 4 _ rfl;have x5:=(HX.out u0 (l_0)).cell 5 _ rfl;have x6:=(HX.out u0 (l_0)).cell 6 _ rfl;have x7:=(HX.out u0 (l_0)).cell 7 _ rfl;clear hb0;cases h0:je n tx prev with
 | false=>
  have HR:Hid (R=false):=by rw [Hid,HQ.out];simp [h0]
  go_wp2;go_ret;exact ⟨qd HR.out.symm,b_0⟩
 | true=>
  go_wp2_with fail;refine (Yd oid u0).mono ?_;rintro e v ⟨rfl,hv⟩;rw [hv];clear hv v;cases h1:inB oid 1 31 with
  | false=>
   have HR:Hid (R=false):=by rw [Hid,HQ.out];simp [h0,h1]
   go_wp2;go_ret;exact ⟨qd HR.out.symm,b_0⟩
  | true=>
   go_wp2_with fail;refine (K9 a u0 (hg.keep (b_0)) (qQ.below ha (b_0)) hla).mono ?_;clear x0 x1 x2 x3 x4 x5 x6 x7;rintro e u2 ⟨rfl,hb2⟩;have b_2:Below w.heap.size w u2:=(b_0).trans (hb2.mono (b_0).size);have l_2:Below W.heap.size W u2:=(l_0).trans (hb2.mono (l_0).size);have x0:=(HX.out u2 (l_2)).cell 0 _ rfl;have x1:=(HX.out u2 (l_2)).cell 1 _ rfl;have x2:=(HX.out u2 (l_2)).cell 2 _ rfl;have x3:=(HX.out u2 (l_2)).cell 3 _ rfl;have x4:=(HX.out u2 (l_2)).cell 4 _ rfl;have x5:=(HX.out u2 (l_2)).cell 5 _ rfl;have x6:=(HX.out u2 (l_2)).cell 6 _ rfl;have x7:=(HX.out u2 (l_2)).cell 7 _ rfl;clear hb2;cases h2:qE a.v with
   | false=>
    have HR:Hid (R=false):=by rw [Hid,HQ.out];simp [h0,h1,h2]
    go_wp2;go_ret;exact ⟨qd HR.out.symm,b_2⟩
   | true=>
    go_wp2_with fail;refine (YM n next u2).mono ?_;rintro e v ⟨rfl,hv⟩;rw [hv];clear hv v;have HR:Hid (R=inB next 0 (n-1)):=by rw [Hid,HQ.out];simp [h0,h1,h2]
    generalize inB next 0 (n-1)=G at*
    go_wp2;go_ret;exact ⟨qd HR.out.symm,b_2⟩
theorem Mr (n:Int) (ls:List qC) (aL:Option Addr) (cL:Nat) (w:World) (hr:jW w aL ls) (hl:ls.length≤1099511627776):
  Calls Tryz.prog 245 #[.int .i64 n,zx (Jg ls aL cL)] w fun e w'=>e=.returned (.bool (kZ n ls))∧Below w.heap.size w w':=by
 obtain ⟨W,hW,b0,hbW,qp⟩:=qx w [.slice aL ls.length cL] 341;have HZ:Hid (∀ R,R=(kZ n ls)→R=(kZ n ls)):=fun _ h=>h
 simp only [zx,Jg];have kN:=fun W=>zH W 341 (.agg #[.slice aL ls.length cL]) (by decide)
 have jY:=fun W=>yY W 341 (.agg #[.slice aL ls.length cL]) (by decide)
 have xC:=fun W=>vZ W 341 (.agg #[.slice aL ls.length cL]) (by decide)
 have zI:=fun W=>Kb W 341 (.agg #[.slice aL ls.length cL]) (by decide)
 have Qg:=fun W=>mQ W 341 (.agg #[.slice aL ls.length cL]) (by decide)
 have Ke:=fun W=>Z4 W (.agg #[.slice aL ls.length cL])
 have HX:Hid (∀ u,Below W.heap.size W u→Box u w.heap.size [.slice aL ls.length cL] 341):=fun u hu=>b0.below hu b0.lt
 obtain ⟨R,HQ⟩:∃ R,Hid (R=(kZ n ls)):=⟨_,rfl⟩;rw [← HQ.out];clear qp b0 HZ;go_enter Tryz.func245,Tryz.ntmps245;have x0:=(HX.out W (Below.refl _ _)).cell 0 _ rfl;go_wp2_with fail;rw [hW.out];clear hW;have l0:Below W.heap.size W W:=Below.refl _ _;refine (Dy n aL cL ls W (hr.below (hbW)) hl).mono ?_;clear x0;rintro e u0 ⟨rfl,hb0⟩;have b_0:Below w.heap.size w u0:=(hbW).trans (hb0.mono (hbW).size);have l_0:Below W.heap.size W u0:=(l0).trans (hb0.mono (l0).size);have x0:=(HX.out u0 (l_0)).cell 0 _ rfl;clear hb0;have HR:Hid (R=kZ n ls):=HQ.out;generalize kZ n ls=G at*
 go_wp2;go_ret;exact ⟨qd HR.out.symm,b_0⟩
theorem rR (n:Int) (w:World):Calls Tryz.prog 245 #[.int .i64 n,.nilIface] w fun e w'=>e=.returned (.bool false)∧Below w.heap.size w w':=by
 have kN:=UU;have jY:=Zf;have xC:=Z0;have zI:=Ua;have Qg:=UX;have Ke:=Z5;go_enter Tryz.func245,Tryz.ntmps245;go_wp2;go_ret;exact ⟨rfl,Below.refl _ _⟩
theorem Pk (tx prev oid:Int) (b a:qf) (w:World):Calls Tryz.prog 308 #[.agg #[.int .i64 tx,.int .i64 prev,.int .i64 oid,.bool b.v.has,.int .i64 b.v.o.kind,.slice b.aI b.v.o.ints.length b.cI,.slice b.aR b.v.o.refs.length b.cR,.bool a.v.has,.int .i64 a.v.o.kind,.slice a.aI a.v.o.ints.length a.cI,.slice a.aR a.v.o.refs.length a.cR]] w fun e w'=>e=.returned (.int .i64 1)∧Below w.heap.size w w':=by
 go_enter Tryz.func308,Tryz.ntmps308;go_wp2;go_ret;exact ⟨rfl,(Below.refl _ _).alloc (Nat.le_refl _) _⟩
theorem nA (tx prev:Int) (w:World):Calls Tryz.prog 310 #[.agg #[.int .i64 tx,.int .i64 prev]] w fun e w'=>e=.returned (.int .i64 2)∧Below w.heap.size w w':=by
 go_enter Tryz.func310,Tryz.ntmps310;go_wp2;go_ret;exact ⟨rfl,(Below.refl _ _).alloc (Nat.le_refl _) _⟩
theorem dH (tx prev:Int) (w:World):Calls Tryz.prog 311 #[.agg #[.int .i64 tx,.int .i64 prev]] w fun e w'=>e=.returned (.int .i64 3)∧Below w.heap.size w w':=by
 go_enter Tryz.func311,Tryz.ntmps311;go_wp2;go_ret;exact ⟨rfl,(Below.refl _ _).alloc (Nat.le_refl _) _⟩
theorem H7 (tx prev oid:Int) (a:qf) (next:Int) (w:World):Calls Tryz.prog 312 #[.agg #[.int .i64 tx,.int .i64 prev,.int .i64 oid,.bool a.v.has,.int .i64 a.v.o.kind,.slice a.aI a.v.o.ints.length a.cI,.slice a.aR a.v.o.refs.length a.cR,.int .i64 next]] w fun e w'=>e=.returned (.int .i64 4)∧Below w.heap.size w w':=by
 go_enter Tryz.func312,Tryz.ntmps312;go_wp2;go_ret;exact ⟨rfl,(Below.refl _ _).alloc (Nat.le_refl _) _⟩
theorem Pm (tx prev:Int) (w:World):Calls Tryz.prog 313 #[.agg #[.int .i64 tx,.int .i64 prev]] w fun e w'=>e=.returned (.int .i64 5)∧Below w.heap.size w w':=by
 go_enter Tryz.func313,Tryz.ntmps313;go_wp2;go_ret;exact ⟨rfl,(Below.refl _ _).alloc (Nat.le_refl _) _⟩
theorem dJ (ls:List qC) (aL:Option Addr) (cL:Nat) (w:World):Calls Tryz.prog 314 #[.agg #[.slice aL ls.length cL]] w fun e w'=>e=.returned (.int .i64 6)∧Below w.heap.size w w':=by
 go_enter Tryz.func314,Tryz.ntmps314;go_wp2;go_ret;exact ⟨rfl,(Below.refl _ _).alloc (Nat.le_refl _) _⟩
theorem uw {w:World} {B:Nat} (r:qg) (b:Box w B r.cells 189):(loadVar 189 ⟨B,0,none⟩).run Tryz.prog w=.ok (.agg r.cells.toArray) w:=
 run_loadVar_mid (P:=Tryz.prog) w B 0 189 r.cells _ (Box.range [] r.cells [] (by simpa using b)) Tryz.underlying189 rfl (by show _=some 15;kernel_rfl)
def kD (n tx prev kind:Int):qg:=⟨n,tx,prev,kind,0,qh,qh,0,[],none,0⟩
theorem Uh (n tx prev kind:Int) (w:World):Calls Tryz.prog 309 #[.int .i64 n,.agg #[.int .i64 tx,.int .i64 prev],.int .i64 kind] w fun e w'=>e=.returned (.agg (kD n tx prev kind).cells.toArray)∧Below w.heap.size w w':=by
 obtain ⟨W,hW,b0,b1,hbW,qp⟩:=jf w [.int .i64 tx,.int .i64 prev] (kD n tx prev kind).cells 331 189;have HL:Hid (_=_):=uw (kD n tx prev kind) b1;simp only [kD,qg.cells,qh,List.length_nil] at hW;clear qp b0 b1;go_enter Tryz.func309,Tryz.ntmps309;go_wp2;refine bodyPost_ret (v:=.agg (kD n tx prev kind).cells.toArray) (jk Tryz.results309 rfl ?_) rfl ⟨rfl,?_⟩
 ·rw [show _=W from hW.out];exact HL.out
 ·rw [show _=W from hW.out];exact hbW
theorem Fv (n:Int) (tx prev oid:Int) (b a:qf) (w:World):
  Calls Tryz.prog 247 #[.int .i64 n,vF (Zn tx prev oid b a)] w fun e w'=>e=.returned (.agg (qg.cells (⟨n,tx,prev,1,oid,b,a,0,[],none,0⟩)).toArray)∧Below w.heap.size w w':=by
 obtain ⟨W,hW,b0,b1,hbW,qp⟩:=jf w [.int .i64 0,.int .i64 0,.int .i64 0,.int .i64 0,.int .i64 0,.bool false,.int .i64 0,.slice none 0 0,.slice none 0 0,.bool false,.int .i64 0,.slice none 0 0,.slice none 0 0,.int .i64 0,.slice none 0 0] [.int .i64 tx,.int .i64 prev,.int .i64 oid,.bool b.v.has,.int .i64 b.v.o.kind,.slice b.aI b.v.o.ints.length b.cI,.slice b.aR b.v.o.refs.length b.cR,.bool a.v.has,.int .i64 a.v.o.kind,.slice a.aI a.v.o.ints.length a.cI,.slice a.aR a.v.o.refs.length a.cR] 189 333;simp only [vF,Zn];have kN:=fun W=>UT W (.agg #[.int .i64 tx,.int .i64 prev,.int .i64 oid,.bool b.v.has,.int .i64 b.v.o.kind,.slice b.aI b.v.o.ints.length b.cI,.slice b.aR b.v.o.refs.length b.cR,.bool a.v.has,.int .i64 a.v.o.kind,.slice a.aI a.v.o.ints.length a.cI,.slice a.aR a.v.o.refs.length a.cR])
 have HB:Hid (∀ u,Below W.heap.size W u→Box u w.heap.size [.int .i64 0,.int .i64 0,.int .i64 0,.int .i64 0,.int .i64 0,.bool false,.int .i64 0,.slice none 0 0,.slice none 0 0,.bool false,.int .i64 0,.slice none 0 0,.slice none 0 0,.int .i64 0,.slice none 0 0] 189∧Box u (w.heap.size+1) [.int .i64 tx,.int .i64 prev,.int .i64 oid,.bool b.v.has,.int .i64 b.v.o.kind,.slice b.aI b.v.o.ints.length b.cI,.slice b.aR b.v.o.refs.length b.cR,.bool a.v.has,.int .i64 a.v.o.kind,.slice a.aI a.v.o.ints.length a.cI,.slice a.aR a.v.o.refs.length a.cR] 333):=fun u hu=>⟨b0.below hu b0.lt,b1.below hu b1.lt⟩
 have HC:Hid (∀ w',Box w' (w.heap.size+1) [.int .i64 tx,.int .i64 prev,.int .i64 oid,.bool b.v.has,.int .i64 b.v.o.kind,.slice b.aI b.v.o.ints.length b.cI,.slice b.aR b.v.o.refs.length b.cR,.bool a.v.has,.int .i64 a.v.o.kind,.slice a.aI a.v.o.ints.length a.cI,.slice a.aR a.v.o.refs.length a.cR] 333→w'.cell? ⟨w.heap.size+1,0,none⟩=some (.int .i64 tx)∧w'.cell? ⟨w.heap.size+1,1,none⟩=some (.int .i64 prev)∧w'.cell? ⟨w.heap.size+1,2,none⟩=some (.int .i64 oid)∧w'.cell? ⟨w.heap.size+1,3,none⟩=some (.bool b.v.has)∧w'.cell? ⟨w.heap.size+1,4,none⟩=some (.int .i64 b.v.o.kind)∧w'.cell? ⟨w.heap.size+1,5,none⟩=some (.slice b.aI b.v.o.ints.length b.cI)∧w'.cell? ⟨w.heap.size+1,6,none⟩=some (.slice b.aR b.v.o.refs.length b.cR)∧w'.cell? ⟨w.heap.size+1,7,none⟩=some (.bool a.v.has)∧w'.cell? ⟨w.heap.size+1,8,none⟩=some (.int .i64 a.v.o.kind)∧w'.cell? ⟨w.heap.size+1,9,none⟩=some (.slice a.aI a.v.o.ints.length a.cI)∧w'.cell? ⟨w.heap.size+1,10,none⟩=some (.slice a.aR a.v.o.refs.length a.cR)):=fun w' b=>⟨b.cell 0 _ rfl,b.cell 1 _ rfl,b.cell 2 _ rfl,b.cell 3 _ rfl,b.cell 4 _ rfl,b.cell 5 _ rfl,b.cell 6 _ rfl,b.cell 7 _ rfl,b.cell 8 _ rfl,b.cell 9 _ rfl,b.cell 10 _ rfl⟩
 have hh:=HC.out W b1;have hlt:=b1.lt;have HI:Hid ((Tryz.prog.info? 189).map (·.size)=some 15):=by rw [Hid];kernel_rfl
 have HO:Hid (_):=all_oneCell_toArray (ZB (⟨n,tx,prev,1,oid,b,a,0,[],none,0⟩));clear qp b0 b1;go_enter Tryz.func247,Tryz.ntmps247;go_wp2_with fail;rw [hW.out];clear hW kN;refine wp_region_held_drew (S:=fun w'=>w'.cell? ⟨w.heap.size+1,0,none⟩=some (.int .i64 tx)∧w'.cell? ⟨w.heap.size+1,1,none⟩=some (.int .i64 prev)∧w'.cell? ⟨w.heap.size+1,2,none⟩=some (.int .i64 oid)∧w'.cell? ⟨w.heap.size+1,3,none⟩=some (.bool b.v.has)∧w'.cell? ⟨w.heap.size+1,4,none⟩=some (.int .i64 b.v.o.kind)∧w'.cell? ⟨w.heap.size+1,5,none⟩=some (.slice b.aI b.v.o.ints.length b.cI)∧w'.cell? ⟨w.heap.size+1,6,none⟩=some (.slice b.aR b.v.o.refs.length b.cR)∧w'.cell? ⟨w.heap.size+1,7,none⟩=some (.bool a.v.has)∧w'.cell? ⟨w.heap.size+1,8,none⟩=some (.int .i64 a.v.o.kind)∧w'.cell? ⟨w.heap.size+1,9,none⟩=some (.slice a.aI a.v.o.ints.length a.cI)∧w'.cell? ⟨w.heap.size+1,10,none⟩=some (.slice a.aR a.v.o.refs.length a.cR)) (by kernel_rfl) (HC.out _ (HB.out _ (Below.refl _ _).drew).2) (fun hHeld=>?_);refine tr 0 (.int .i64 n) ?_;refine tr 1 (.pointer (some ⟨w.heap.size+1,0,none⟩)) ?_;refine tr 2 (.pointer (some ⟨w.heap.size+1,0,none⟩)) ?_;refine tr 3 (.int .i64 tx) ?_;refine tr 4 (.pointer (some ⟨w.heap.size+1,0,none⟩)) ?_;refine tr 5 (.pointer (some ⟨w.heap.size+1,1,none⟩)) ?_;refine tr 6 (.int .i64 prev) ?_;refine tr 7 (.agg #[.int .i64 tx,.int .i64 prev,.int .i64 oid,.bool b.v.has,.int .i64 b.v.o.kind,.slice b.aI b.v.o.ints.length b.cI,.slice b.aR b.v.o.refs.length b.cR,.bool a.v.has,.int .i64 a.v.o.kind,.slice a.aI a.v.o.ints.length a.cI,.slice a.aR a.v.o.refs.length a.cR]) ?_;refine tr 9 (.pointer (some ⟨w.heap.size+1,2,none⟩)) ?_;refine tr 10 (.int .i64 oid) ?_;refine tr 11 (.pointer (some ⟨w.heap.size+1,3,none⟩)) ?_;refine tr 12 (.agg #[.bool b.v.has,.int .i64 b.v.o.kind,.slice b.aI b.v.o.ints.length b.cI,.slice b.aR b.v.o.refs.length b.cR]) ?_;refine tr 13 (.pointer (some ⟨w.heap.size+1,7,none⟩)) ?_;refine tr 14 (.agg #[.bool a.v.has,.int .i64 a.v.o.kind,.slice a.aI a.v.o.ints.length a.cI,.slice a.aR a.v.o.refs.length a.cR]) ?_;refine wpAnyH_ready (rs:=[8]) (by kernel_rfl) (by simp) ?_;refine AllReadyH.cons rfl (fun K hK=>?_) AllReadyH.nil;go_simp;refine (Pk tx prev oid b a _).mono ?_;rintro e u1 ⟨rfl,hb1⟩;have hB1:Below W.heap.size W u1:=((Below.refl _ _).drew).trans hb1;refine hK.out _ _ (HC.out _ (HB.out _ hB1).2) (fun hHeld=>?_);clear hK K;try simp only [zz]
 have hBL:=hB1;refine tr 15 (.agg (qg.cells (⟨n,tx,prev,1,oid,b,a,0,[],none,0⟩)).toArray) ?_;obtain ⟨WF,qF,bF,hwF,qN⟩:=jb [] [.int .i64 0,.int .i64 0,.int .i64 0,.int .i64 0,.int .i64 0,.bool false,.int .i64 0,.slice none 0 0,.slice none 0 0,.bool false,.int .i64 0,.slice none 0 0,.slice none 0 0,.int .i64 0,.slice none 0 0] (qg.cells (⟨n,tx,prev,1,oid,b,a,0,[],none,0⟩)) [] (by simpa using (HB.out _ hBL).1) rfl;have HF:Hid (Below w.heap.size w WF):=(hbW.trans (hBL.mono hbW.size)).trans (hwF.below (by omega) (by have:=hBL.size;omega));have Ui:Hid (_=_):=uw (⟨n,tx,prev,1,oid,b,a,0,[],none,0⟩) (by simpa using bF);have HS:Hid (WF.cell? ⟨w.heap.size+1,0,none⟩=some (.int .i64 tx)∧WF.cell? ⟨w.heap.size+1,1,none⟩=some (.int .i64 prev)∧WF.cell? ⟨w.heap.size+1,2,none⟩=some (.int .i64 oid)∧WF.cell? ⟨w.heap.size+1,3,none⟩=some (.bool b.v.has)∧WF.cell? ⟨w.heap.size+1,4,none⟩=some (.int .i64 b.v.o.kind)∧WF.cell? ⟨w.heap.size+1,5,none⟩=some (.slice b.aI b.v.o.ints.length b.cI)∧WF.cell? ⟨w.heap.size+1,6,none⟩=some (.slice b.aR b.v.o.refs.length b.cR)∧WF.cell? ⟨w.heap.size+1,7,none⟩=some (.bool a.v.has)∧WF.cell? ⟨w.heap.size+1,8,none⟩=some (.int .i64 a.v.o.kind)∧WF.cell? ⟨w.heap.size+1,9,none⟩=some (.slice a.aI a.v.o.ints.length a.cI)∧WF.cell? ⟨w.heap.size+1,10,none⟩=some (.slice a.aR a.v.o.refs.length a.cR)):=HC.out _ ((HB.out _ hBL).2.within hwF (by omega));refine wpAnyH_ready (rs:=[16]) (by kernel_rfl) (by simp) ?_;refine AllReadyH.cons rfl (fun K hK=>?_) AllReadyH.nil;rw [if_pos (by rfl)];refine wp_store_mid 189 (.tmp 4) (.tmp 30) rfl w.heap.size 0 (qg.cells (⟨n,tx,prev,1,oid,b,a,0,[],none,0⟩)).toArray rfl rfl ((HB.out _ hBL).1.there 0 _ (by show 0+15≤15;decide)) HI.out HO.out ?_;have HW:Hid (u1.setCells w.heap.size 0 (qg.cells (⟨n,tx,prev,1,oid,b,a,0,[],none,0⟩)).toArray.toList=WF):=qF.out;rw [HW.out];refine hK.out _ _ HS.out (fun hHeld=>?_);refine wpAnyH_done (by kernel_rfl) ?_ _;clear hwF qF HW hK K HS;go_wp2;exact bodyPost_ret (v:=.agg (qg.cells (⟨n,tx,prev,1,oid,b,a,0,[],none,0⟩)).toArray) (jk Tryz.results247 rfl Ui.out) rfl ⟨rfl,HF.out⟩
theorem Ms (n:Int) (tx prev:Int) (w:World):
  Calls Tryz.prog 247 #[.int .i64 n,yO (xW tx prev)] w fun e w'=>e=.returned (.agg (qg.cells (kD n tx prev 2)).toArray)∧Below w.heap.size w w':=by
 obtain ⟨W,hW,b0,b1,hbW,qp⟩:=jf w [.int .i64 0,.int .i64 0,.int .i64 0,.int .i64 0,.int .i64 0,.bool false,.int .i64 0,.slice none 0 0,.slice none 0 0,.bool false,.int .i64 0,.slice none 0 0,.slice none 0 0,.int .i64 0,.slice none 0 0] [.int .i64 tx,.int .i64 prev] 189 335;simp only [yO,xW];have kN:=fun W=>zH W 335 (.agg #[.int .i64 tx,.int .i64 prev]) (by decide)
 have jY:=fun W=>Ze W (.agg #[.int .i64 tx,.int .i64 prev])
 have HB:Hid (∀ u,Below W.heap.size W u→Box u w.heap.size [.int .i64 0,.int .i64 0,.int .i64 0,.int .i64 0,.int .i64 0,.bool false,.int .i64 0,.slice none 0 0,.slice none 0 0,.bool false,.int .i64 0,.slice none 0 0,.slice none 0 0,.int .i64 0,.slice none 0 0] 189∧Box u (w.heap.size+1) [.int .i64 tx,.int .i64 prev] 335):=fun u hu=>⟨b0.below hu b0.lt,b1.below hu b1.lt⟩
 have HC:Hid (∀ w',Box w' (w.heap.size+1) [.int .i64 tx,.int .i64 prev] 335→w'.cell? ⟨w.heap.size+1,0,none⟩=some (.int .i64 tx)∧w'.cell? ⟨w.heap.size+1,1,none⟩=some (.int .i64 prev)):=fun w' b=>⟨b.cell 0 _ rfl,b.cell 1 _ rfl⟩
 have hh:=HC.out W b1;have hlt:=b1.lt;have HI:Hid ((Tryz.prog.info? 189).map (·.size)=some 15):=by rw [Hid];kernel_rfl
 have HO:Hid (_):=all_oneCell_toArray (ZB (kD n tx prev 2));clear qp b0 b1;go_enter Tryz.func247,Tryz.ntmps247;go_wp2_with fail;rw [hW.out];clear hW kN jY;refine wp_region_held_drew (S:=fun w'=>w'.cell? ⟨w.heap.size+1,0,none⟩=some (.int .i64 tx)∧w'.cell? ⟨w.heap.size+1,1,none⟩=some (.int .i64 prev)) (by kernel_rfl) (HC.out _ (HB.out _ (Below.refl _ _).drew).2) (fun hHeld=>?_);refine tr 0 (.int .i64 n) ?_;refine tr 1 (.pointer (some ⟨w.heap.size+1,0,none⟩)) ?_;refine tr 2 (.agg #[.int .i64 tx,.int .i64 prev]) ?_;refine tr 3 (.agg #[.int .i64 tx,.int .i64 prev]) ?_;refine wpAnyH_ready (rs:=[4]) (by kernel_rfl) (by simp) ?_;refine AllReadyH.cons rfl (fun K hK=>?_) AllReadyH.nil;go_simp;refine (nA tx prev _).mono ?_;rintro e u1 ⟨rfl,hb1⟩;have hB1:Below W.heap.size W u1:=((Below.refl _ _).drew).trans hb1;refine hK.out _ _ (HC.out _ (HB.out _ hB1).2) (fun hHeld=>?_);clear hK K;try simp only [zz]
 refine wpAnyH_ready (rs:=[5]) (by kernel_rfl) (by simp) ?_;refine AllReadyH.cons rfl (fun K hK=>?_) AllReadyH.nil;go_simp;refine (Uh n tx prev 2 _).mono ?_;rintro e u2 ⟨rfl,hb2⟩;have hBL:Below W.heap.size W u2:=hB1.trans (hb2.mono hB1.size);refine hK.out _ _ (HC.out _ (HB.out _ hBL).2) (fun hHeld=>?_);clear hK K;try simp only [zz]
 obtain ⟨WF,qF,bF,hwF,qN⟩:=jb [] [.int .i64 0,.int .i64 0,.int .i64 0,.int .i64 0,.int .i64 0,.bool false,.int .i64 0,.slice none 0 0,.slice none 0 0,.bool false,.int .i64 0,.slice none 0 0,.slice none 0 0,.int .i64 0,.slice none 0 0] (qg.cells (kD n tx prev 2)) [] (by simpa using (HB.out _ hBL).1) rfl;have HF:Hid (Below w.heap.size w WF):=(hbW.trans (hBL.mono hbW.size)).trans (hwF.below (by omega) (by have:=hBL.size;omega));have Ui:Hid (_=_):=uw (kD n tx prev 2) (by simpa using bF);have HS:Hid (WF.cell? ⟨w.heap.size+1,0,none⟩=some (.int .i64 tx)∧WF.cell? ⟨w.heap.size+1,1,none⟩=some (.int .i64 prev)):=HC.out _ ((HB.out _ hBL).2.within hwF (by omega));refine wpAnyH_ready (rs:=[6]) (by kernel_rfl) (by simp) ?_;refine AllReadyH.cons rfl (fun K hK=>?_) AllReadyH.nil;rw [if_pos (by rfl)];refine wp_store_mid 189 (.tmp 4) (.tmp 39) rfl w.heap.size 0 (qg.cells (kD n tx prev 2)).toArray rfl rfl ((HB.out _ hBL).1.there 0 _ (by show 0+15≤15;decide)) HI.out HO.out ?_;have HW:Hid (u2.setCells w.heap.size 0 (qg.cells (kD n tx prev 2)).toArray.toList=WF):=qF.out;rw [HW.out];refine hK.out _ _ HS.out (fun hHeld=>?_);refine wpAnyH_done (by kernel_rfl) ?_ _;clear hwF qF HW hK K HS;go_wp2;exact bodyPost_ret (v:=.agg (qg.cells (kD n tx prev 2)).toArray) (jk Tryz.results247 rfl Ui.out) rfl ⟨rfl,HF.out⟩
theorem PL (n:Int) (tx prev:Int) (w:World):
  Calls Tryz.prog 247 #[.int .i64 n,zw (xW tx prev)] w fun e w'=>e=.returned (.agg (qg.cells (kD n tx prev 3)).toArray)∧Below w.heap.size w w':=by
 obtain ⟨W,hW,b0,b1,hbW,qp⟩:=jf w [.int .i64 0,.int .i64 0,.int .i64 0,.int .i64 0,.int .i64 0,.bool false,.int .i64 0,.slice none 0 0,.slice none 0 0,.bool false,.int .i64 0,.slice none 0 0,.slice none 0 0,.int .i64 0,.slice none 0 0] [.int .i64 tx,.int .i64 prev] 189 336;simp only [zw,xW];have kN:=fun W=>zH W 336 (.agg #[.int .i64 tx,.int .i64 prev]) (by decide)
 have jY:=fun W=>yY W 336 (.agg #[.int .i64 tx,.int .i64 prev]) (by decide)
 have xC:=fun W=>ZZ W (.agg #[.int .i64 tx,.int .i64 prev])
 have HB:Hid (∀ u,Below W.heap.size W u→Box u w.heap.size [.int .i64 0,.int .i64 0,.int .i64 0,.int .i64 0,.int .i64 0,.bool false,.int .i64 0,.slice none 0 0,.slice none 0 0,.bool false,.int .i64 0,.slice none 0 0,.slice none 0 0,.int .i64 0,.slice none 0 0] 189∧Box u (w.heap.size+1) [.int .i64 tx,.int .i64 prev] 336):=fun u hu=>⟨b0.below hu b0.lt,b1.below hu b1.lt⟩
 have HC:Hid (∀ w',Box w' (w.heap.size+1) [.int .i64 tx,.int .i64 prev] 336→w'.cell? ⟨w.heap.size+1,0,none⟩=some (.int .i64 tx)∧w'.cell? ⟨w.heap.size+1,1,none⟩=some (.int .i64 prev)):=fun w' b=>⟨b.cell 0 _ rfl,b.cell 1 _ rfl⟩
 have hh:=HC.out W b1;have hlt:=b1.lt;have HI:Hid ((Tryz.prog.info? 189).map (·.size)=some 15):=by rw [Hid];kernel_rfl
 have HO:Hid (_):=all_oneCell_toArray (ZB (kD n tx prev 3));clear qp b0 b1;go_enter Tryz.func247,Tryz.ntmps247;go_wp2_with fail;rw [hW.out];clear hW kN jY xC;refine wp_region_held_drew (S:=fun w'=>w'.cell? ⟨w.heap.size+1,0,none⟩=some (.int .i64 tx)∧w'.cell? ⟨w.heap.size+1,1,none⟩=some (.int .i64 prev)) (by kernel_rfl) (HC.out _ (HB.out _ (Below.refl _ _).drew).2) (fun hHeld=>?_);refine tr 0 (.int .i64 n) ?_;refine tr 1 (.pointer (some ⟨w.heap.size+1,0,none⟩)) ?_;refine tr 2 (.agg #[.int .i64 tx,.int .i64 prev]) ?_;refine tr 3 (.agg #[.int .i64 tx,.int .i64 prev]) ?_;refine wpAnyH_ready (rs:=[4]) (by kernel_rfl) (by simp) ?_;refine AllReadyH.cons rfl (fun K hK=>?_) AllReadyH.nil;go_simp;refine (dH tx prev _).mono ?_;rintro e u1 ⟨rfl,hb1⟩;have hB1:Below W.heap.size W u1:=((Below.refl _ _).drew).trans hb1;refine hK.out _ _ (HC.out _ (HB.out _ hB1).2) (fun hHeld=>?_);clear hK K;try simp only [zz]
 refine wpAnyH_ready (rs:=[5]) (by kernel_rfl) (by simp) ?_;refine AllReadyH.cons rfl (fun K hK=>?_) AllReadyH.nil;go_simp;refine (Uh n tx prev 3 _).mono ?_;rintro e u2 ⟨rfl,hb2⟩;have hBL:Below W.heap.size W u2:=hB1.trans (hb2.mono hB1.size);refine hK.out _ _ (HC.out _ (HB.out _ hBL).2) (fun hHeld=>?_);clear hK K;try simp only [zz]
 obtain ⟨WF,qF,bF,hwF,qN⟩:=jb [] [.int .i64 0,.int .i64 0,.int .i64 0,.int .i64 0,.int .i64 0,.bool false,.int .i64 0,.slice none 0 0,.slice none 0 0,.bool false,.int .i64 0,.slice none 0 0,.slice none 0 0,.int .i64 0,.slice none 0 0] (qg.cells (kD n tx prev 3)) [] (by simpa using (HB.out _ hBL).1) rfl;have HF:Hid (Below w.heap.size w WF):=(hbW.trans (hBL.mono hbW.size)).trans (hwF.below (by omega) (by have:=hBL.size;omega));have Ui:Hid (_=_):=uw (kD n tx prev 3) (by simpa using bF);have HS:Hid (WF.cell? ⟨w.heap.size+1,0,none⟩=some (.int .i64 tx)∧WF.cell? ⟨w.heap.size+1,1,none⟩=some (.int .i64 prev)):=HC.out _ ((HB.out _ hBL).2.within hwF (by omega));refine wpAnyH_ready (rs:=[6]) (by kernel_rfl) (by simp) ?_;refine AllReadyH.cons rfl (fun K hK=>?_) AllReadyH.nil;rw [if_pos (by rfl)];refine wp_store_mid 189 (.tmp 4) (.tmp 48) rfl w.heap.size 0 (qg.cells (kD n tx prev 3)).toArray rfl rfl ((HB.out _ hBL).1.there 0 _ (by show 0+15≤15;decide)) HI.out HO.out ?_;have HW:Hid (u2.setCells w.heap.size 0 (qg.cells (kD n tx prev 3)).toArray.toList=WF):=qF.out;rw [HW.out];refine hK.out _ _ HS.out (fun hHeld=>?_);refine wpAnyH_done (by kernel_rfl) ?_ _;clear hwF qF HW hK K HS;go_wp2;exact bodyPost_ret (v:=.agg (qg.cells (kD n tx prev 3)).toArray) (jk Tryz.results247 rfl Ui.out) rfl ⟨rfl,HF.out⟩
theorem rW (n:Int) (tx prev oid:Int) (a:qf) (next:Int) (w:World):
  Calls Tryz.prog 247 #[.int .i64 n,wC (KW tx prev oid a next)] w fun e w'=>e=.returned (.agg (qg.cells (⟨n,tx,prev,4,oid,qh,a,next,[],none,0⟩)).toArray)∧Below w.heap.size w w':=by
 obtain ⟨W,hW,b0,b1,hbW,qp⟩:=jf w [.int .i64 0,.int .i64 0,.int .i64 0,.int .i64 0,.int .i64 0,.bool false,.int .i64 0,.slice none 0 0,.slice none 0 0,.bool false,.int .i64 0,.slice none 0 0,.slice none 0 0,.int .i64 0,.slice none 0 0] [.int .i64 tx,.int .i64 prev,.int .i64 oid,.bool a.v.has,.int .i64 a.v.o.kind,.slice a.aI a.v.o.ints.length a.cI,.slice a.aR a.v.o.refs.length a.cR,.int .i64 next] 189 338;simp only [wC,KW];have kN:=fun W=>zH W 338 (.agg #[.int .i64 tx,.int .i64 prev,.int .i64 oid,.bool a.v.has,.int .i64 a.v.o.kind,.slice a.aI a.v.o.ints.length a.cI,.slice a.aR a.v.o.refs.length a.cR,.int .i64 next]) (by decide)
 have jY:=fun W=>yY W 338 (.agg #[.int .i64 tx,.int .i64 prev,.int .i64 oid,.bool a.v.has,.int .i64 a.v.o.kind,.slice a.aI a.v.o.ints.length a.cI,.slice a.aR a.v.o.refs.length a.cR,.int .i64 next]) (by decide)
 have xC:=fun W=>vZ W 338 (.agg #[.int .i64 tx,.int .i64 prev,.int .i64 oid,.bool a.v.has,.int .i64 a.v.o.kind,.slice a.aI a.v.o.ints.length a.cI,.slice a.aR a.v.o.refs.length a.cR,.int .i64 next]) (by decide)
 have zI:=fun W=>V9 W (.agg #[.int .i64 tx,.int .i64 prev,.int .i64 oid,.bool a.v.has,.int .i64 a.v.o.kind,.slice a.aI a.v.o.ints.length a.cI,.slice a.aR a.v.o.refs.length a.cR,.int .i64 next])
 have HB:Hid (∀ u,Below W.heap.size W u→Box u w.heap.size [.int .i64 0,.int .i64 0,.int .i64 0,.int .i64 0,.int .i64 0,.bool false,.int .i64 0,.slice none 0 0,.slice none 0 0,.bool false,.int .i64 0,.slice none 0 0,.slice none 0 0,.int .i64 0,.slice none 0 0] 189∧Box u (w.heap.size+1) [.int .i64 tx,.int .i64 prev,.int .i64 oid,.bool a.v.has,.int .i64 a.v.o.kind,.slice a.aI a.v.o.ints.length a.cI,.slice a.aR a.v.o.refs.length a.cR,.int .i64 next] 338):=fun u hu=>⟨b0.below hu b0.lt,b1.below hu b1.lt⟩
 have HC:Hid (∀ w',Box w' (w.heap.size+1) [.int .i64 tx,.int .i64 prev,.int .i64 oid,.bool a.v.has,.int .i64 a.v.o.kind,.slice a.aI a.v.o.ints.length a.cI,.slice a.aR a.v.o.refs.length a.cR,.int .i64 next] 338→w'.cell? ⟨w.heap.size+1,0,none⟩=some (.int .i64 tx)∧w'.cell? ⟨w.heap.size+1,1,none⟩=some (.int .i64 prev)∧w'.cell? ⟨w.heap.size+1,2,none⟩=some (.int .i64 oid)∧w'.cell? ⟨w.heap.size+1,3,none⟩=some (.bool a.v.has)∧w'.cell? ⟨w.heap.size+1,4,none⟩=some (.int .i64 a.v.o.kind)∧w'.cell? ⟨w.heap.size+1,5,none⟩=some (.slice a.aI a.v.o.ints.length a.cI)∧w'.cell? ⟨w.heap.size+1,6,none⟩=some (.slice a.aR a.v.o.refs.length a.cR)∧w'.cell? ⟨w.heap.size+1,7,none⟩=some (.int .i64 next)):=fun w' b=>⟨b.cell 0 _ rfl,b.cell 1 _ rfl,b.cell 2 _ rfl,b.cell 3 _ rfl,b.cell 4 _ rfl,b.cell 5 _ rfl,b.cell 6 _ rfl,b.cell 7 _ rfl⟩
 have hh:=HC.out W b1;have hlt:=b1.lt;have HI:Hid ((Tryz.prog.info? 189).map (·.size)=some 15):=by rw [Hid];kernel_rfl
 have HO:Hid (_):=all_oneCell_toArray (ZB (⟨n,tx,prev,4,oid,qh,a,next,[],none,0⟩));clear qp b0 b1;go_enter Tryz.func247,Tryz.ntmps247;go_wp2_with fail;rw [hW.out];clear hW kN jY xC zI;refine wp_region_held_drew (S:=fun w'=>w'.cell? ⟨w.heap.size+1,0,none⟩=some (.int .i64 tx)∧w'.cell? ⟨w.heap.size+1,1,none⟩=some (.int .i64 prev)∧w'.cell? ⟨w.heap.size+1,2,none⟩=some (.int .i64 oid)∧w'.cell? ⟨w.heap.size+1,3,none⟩=some (.bool a.v.has)∧w'.cell? ⟨w.heap.size+1,4,none⟩=some (.int .i64 a.v.o.kind)∧w'.cell? ⟨w.heap.size+1,5,none⟩=some (.slice a.aI a.v.o.ints.length a.cI)∧w'.cell? ⟨w.heap.size+1,6,none⟩=some (.slice a.aR a.v.o.refs.length a.cR)∧w'.cell? ⟨w.heap.size+1,7,none⟩=some (.int .i64 next)) (by kernel_rfl) (HC.out _ (HB.out _ (Below.refl _ _).drew).2) (fun hHeld=>?_);refine tr 0 (.int .i64 n) ?_;refine tr 1 (.pointer (some ⟨w.heap.size+1,0,none⟩)) ?_;refine tr 2 (.pointer (some ⟨w.heap.size+1,0,none⟩)) ?_;refine tr 3 (.int .i64 tx) ?_;refine tr 4 (.pointer (some ⟨w.heap.size+1,0,none⟩)) ?_;refine tr 5 (.pointer (some ⟨w.heap.size+1,1,none⟩)) ?_;refine tr 6 (.int .i64 prev) ?_;refine tr 7 (.agg #[.int .i64 tx,.int .i64 prev,.int .i64 oid,.bool a.v.has,.int .i64 a.v.o.kind,.slice a.aI a.v.o.ints.length a.cI,.slice a.aR a.v.o.refs.length a.cR,.int .i64 next]) ?_;refine tr 9 (.pointer (some ⟨w.heap.size+1,2,none⟩)) ?_;refine tr 10 (.int .i64 oid) ?_;refine tr 11 (.pointer (some ⟨w.heap.size+1,3,none⟩)) ?_;refine tr 12 (.agg #[.bool a.v.has,.int .i64 a.v.o.kind,.slice a.aI a.v.o.ints.length a.cI,.slice a.aR a.v.o.refs.length a.cR]) ?_;refine tr 13 (.pointer (some ⟨w.heap.size+1,7,none⟩)) ?_;refine tr 14 (.int .i64 next) ?_;refine wpAnyH_ready (rs:=[8]) (by kernel_rfl) (by simp) ?_;refine AllReadyH.cons rfl (fun K hK=>?_) AllReadyH.nil;go_simp;refine (H7 tx prev oid a next _).mono ?_;rintro e u1 ⟨rfl,hb1⟩;have hB1:Below W.heap.size W u1:=((Below.refl _ _).drew).trans hb1;refine hK.out _ _ (HC.out _ (HB.out _ hB1).2) (fun hHeld=>?_);clear hK K;try simp only [zz]
 have hBL:=hB1;refine tr 15 (.agg (qg.cells (⟨n,tx,prev,4,oid,qh,a,next,[],none,0⟩)).toArray) ?_;obtain ⟨WF,qF,bF,hwF,qN⟩:=jb [] [.int .i64 0,.int .i64 0,.int .i64 0,.int .i64 0,.int .i64 0,.bool false,.int .i64 0,.slice none 0 0,.slice none 0 0,.bool false,.int .i64 0,.slice none 0 0,.slice none 0 0,.int .i64 0,.slice none 0 0] (qg.cells (⟨n,tx,prev,4,oid,qh,a,next,[],none,0⟩)) [] (by simpa using (HB.out _ hBL).1) rfl;have HF:Hid (Below w.heap.size w WF):=(hbW.trans (hBL.mono hbW.size)).trans (hwF.below (by omega) (by have:=hBL.size;omega));have Ui:Hid (_=_):=uw (⟨n,tx,prev,4,oid,qh,a,next,[],none,0⟩) (by simpa using bF);have HS:Hid (WF.cell? ⟨w.heap.size+1,0,none⟩=some (.int .i64 tx)∧WF.cell? ⟨w.heap.size+1,1,none⟩=some (.int .i64 prev)∧WF.cell? ⟨w.heap.size+1,2,none⟩=some (.int .i64 oid)∧WF.cell? ⟨w.heap.size+1,3,none⟩=some (.bool a.v.has)∧WF.cell? ⟨w.heap.size+1,4,none⟩=some (.int .i64 a.v.o.kind)∧WF.cell? ⟨w.heap.size+1,5,none⟩=some (.slice a.aI a.v.o.ints.length a.cI)∧WF.cell? ⟨w.heap.size+1,6,none⟩=some (.slice a.aR a.v.o.refs.length a.cR)∧WF.cell? ⟨w.heap.size+1,7,none⟩=some (.int .i64 next)):=HC.out _ ((HB.out _ hBL).2.within hwF (by omega));refine wpAnyH_ready (rs:=[16]) (by kernel_rfl) (by simp) ?_;refine AllReadyH.cons rfl (fun K hK=>?_) AllReadyH.nil;rw [if_pos (by rfl)];refine wp_store_mid 189 (.tmp 4) (.tmp 67) rfl w.heap.size 0 (qg.cells (⟨n,tx,prev,4,oid,qh,a,next,[],none,0⟩)).toArray rfl rfl ((HB.out _ hBL).1.there 0 _ (by show 0+15≤15;decide)) HI.out HO.out ?_;have HW:Hid (u1.setCells w.heap.size 0 (qg.cells (⟨n,tx,prev,4,oid,qh,a,next,[],none,0⟩)).toArray.toList=WF):=qF.out;rw [HW.out];refine hK.out _ _ HS.out (fun hHeld=>?_);refine wpAnyH_done (by kernel_rfl) ?_ _;clear hwF qF HW hK K HS;go_wp2;exact bodyPost_ret (v:=.agg (qg.cells (⟨n,tx,prev,4,oid,qh,a,next,[],none,0⟩)).toArray) (jk Tryz.results247 rfl Ui.out) rfl ⟨rfl,HF.out⟩
theorem Fw (n:Int) (tx prev:Int) (w:World):
  Calls Tryz.prog 247 #[.int .i64 n,vG (xW tx prev)] w fun e w'=>e=.returned (.agg (qg.cells (kD n tx prev 5)).toArray)∧Below w.heap.size w w':=by
 obtain ⟨W,hW,b0,b1,hbW,qp⟩:=jf w [.int .i64 0,.int .i64 0,.int .i64 0,.int .i64 0,.int .i64 0,.bool false,.int .i64 0,.slice none 0 0,.slice none 0 0,.bool false,.int .i64 0,.slice none 0 0,.slice none 0 0,.int .i64 0,.slice none 0 0] [.int .i64 tx,.int .i64 prev] 189 339;simp only [vG,xW];have kN:=fun W=>zH W 339 (.agg #[.int .i64 tx,.int .i64 prev]) (by decide)
 have jY:=fun W=>yY W 339 (.agg #[.int .i64 tx,.int .i64 prev]) (by decide)
 have xC:=fun W=>vZ W 339 (.agg #[.int .i64 tx,.int .i64 prev]) (by decide)
 have zI:=fun W=>Kb W 339 (.agg #[.int .i64 tx,.int .i64 prev]) (by decide)
 have Qg:=fun W=>UW W (.agg #[.int .i64 tx,.int .i64 prev])
 have HB:Hid (∀ u,Below W.heap.size W u→Box u w.heap.size [.int .i64 0,.int .i64 0,.int .i64 0,.int .i64 0,.int .i64 0,.bool false,.int .i64 0,.slice none 0 0,.slice none 0 0,.bool false,.int .i64 0,.slice none 0 0,.slice none 0 0,.int .i64 0,.slice none 0 0] 189∧Box u (w.heap.size+1) [.int .i64 tx,.int .i64 prev] 339):=fun u hu=>⟨b0.below hu b0.lt,b1.below hu b1.lt⟩
 have HC:Hid (∀ w',Box w' (w.heap.size+1) [.int .i64 tx,.int .i64 prev] 339→w'.cell? ⟨w.heap.size+1,0,none⟩=some (.int .i64 tx)∧w'.cell? ⟨w.heap.size+1,1,none⟩=some (.int .i64 prev)):=fun w' b=>⟨b.cell 0 _ rfl,b.cell 1 _ rfl⟩
 have hh:=HC.out W b1;have hlt:=b1.lt;have HI:Hid ((Tryz.prog.info? 189).map (·.size)=some 15):=by rw [Hid];kernel_rfl
 have HO:Hid (_):=all_oneCell_toArray (ZB (kD n tx prev 5));clear qp b0 b1;go_enter Tryz.func247,Tryz.ntmps247;go_wp2_with fail;rw [hW.out];clear hW kN jY xC zI Qg;refine wp_region_held_drew (S:=fun w'=>w'.cell? ⟨w.heap.size+1,0,none⟩=some (.int .i64 tx)∧w'.cell? ⟨w.heap.size+1,1,none⟩=some (.int .i64 prev)) (by kernel_rfl) (HC.out _ (HB.out _ (Below.refl _ _).drew).2) (fun hHeld=>?_);refine tr 0 (.int .i64 n) ?_;refine tr 1 (.pointer (some ⟨w.heap.size+1,0,none⟩)) ?_;refine tr 2 (.agg #[.int .i64 tx,.int .i64 prev]) ?_;refine tr 3 (.agg #[.int .i64 tx,.int .i64 prev]) ?_;refine wpAnyH_ready (rs:=[4]) (by kernel_rfl) (by simp) ?_;refine AllReadyH.cons rfl (fun K hK=>?_) AllReadyH.nil;go_simp;refine (Pm tx prev _).mono ?_;rintro e u1 ⟨rfl,hb1⟩;have hB1:Below W.heap.size W u1:=((Below.refl _ _).drew).trans hb1;refine hK.out _ _ (HC.out _ (HB.out _ hB1).2) (fun hHeld=>?_);clear hK K;try simp only [zz]
 refine wpAnyH_ready (rs:=[5]) (by kernel_rfl) (by simp) ?_;refine AllReadyH.cons rfl (fun K hK=>?_) AllReadyH.nil;go_simp;refine (Uh n tx prev 5 _).mono ?_;rintro e u2 ⟨rfl,hb2⟩;have hBL:Below W.heap.size W u2:=hB1.trans (hb2.mono hB1.size);refine hK.out _ _ (HC.out _ (HB.out _ hBL).2) (fun hHeld=>?_);clear hK K;try simp only [zz]
 obtain ⟨WF,qF,bF,hwF,qN⟩:=jb [] [.int .i64 0,.int .i64 0,.int .i64 0,.int .i64 0,.int .i64 0,.bool false,.int .i64 0,.slice none 0 0,.slice none 0 0,.bool false,.int .i64 0,.slice none 0 0,.slice none 0 0,.int .i64 0,.slice none 0 0] (qg.cells (kD n tx prev 5)) [] (by simpa using (HB.out _ hBL).1) rfl;have HF:Hid (Below w.heap.size w WF):=(hbW.trans (hBL.mono hbW.size)).trans (hwF.below (by omega) (by have:=hBL.size;omega));have Ui:Hid (_=_):=uw (kD n tx prev 5) (by simpa using bF);have HS:Hid (WF.cell? ⟨w.heap.size+1,0,none⟩=some (.int .i64 tx)∧WF.cell? ⟨w.heap.size+1,1,none⟩=some (.int .i64 prev)):=HC.out _ ((HB.out _ hBL).2.within hwF (by omega));refine wpAnyH_ready (rs:=[6]) (by kernel_rfl) (by simp) ?_;refine AllReadyH.cons rfl (fun K hK=>?_) AllReadyH.nil;rw [if_pos (by rfl)];refine wp_store_mid 189 (.tmp 4) (.tmp 76) rfl w.heap.size 0 (qg.cells (kD n tx prev 5)).toArray rfl rfl ((HB.out _ hBL).1.there 0 _ (by show 0+15≤15;decide)) HI.out HO.out ?_;have HW:Hid (u2.setCells w.heap.size 0 (qg.cells (kD n tx prev 5)).toArray.toList=WF):=qF.out;rw [HW.out];refine hK.out _ _ HS.out (fun hHeld=>?_);refine wpAnyH_done (by kernel_rfl) ?_ _;clear hwF qF HW hK K HS;go_wp2;exact bodyPost_ret (v:=.agg (qg.cells (kD n tx prev 5)).toArray) (jk Tryz.results247 rfl Ui.out) rfl ⟨rfl,HF.out⟩
theorem PM (n:Int) (ls:List qC) (aL:Option Addr) (cL:Nat) (w:World):
  Calls Tryz.prog 247 #[.int .i64 n,zx (Jg ls aL cL)] w fun e w'=>e=.returned (.agg (qg.cells (⟨n,0,0,6,0,qh,qh,0,ls,aL,cL⟩)).toArray)∧Below w.heap.size w w':=by
 obtain ⟨W,hW,b0,b1,hbW,qp⟩:=jf w [.int .i64 0,.int .i64 0,.int .i64 0,.int .i64 0,.int .i64 0,.bool false,.int .i64 0,.slice none 0 0,.slice none 0 0,.bool false,.int .i64 0,.slice none 0 0,.slice none 0 0,.int .i64 0,.slice none 0 0] [.slice aL ls.length cL] 189 341;simp only [zx,Jg];have kN:=fun W=>zH W 341 (.agg #[.slice aL ls.length cL]) (by decide)
 have jY:=fun W=>yY W 341 (.agg #[.slice aL ls.length cL]) (by decide)
 have xC:=fun W=>vZ W 341 (.agg #[.slice aL ls.length cL]) (by decide)
 have zI:=fun W=>Kb W 341 (.agg #[.slice aL ls.length cL]) (by decide)
 have Qg:=fun W=>mQ W 341 (.agg #[.slice aL ls.length cL]) (by decide)
 have Ke:=fun W=>Z4 W (.agg #[.slice aL ls.length cL])
 have HB:Hid (∀ u,Below W.heap.size W u→Box u w.heap.size [.int .i64 0,.int .i64 0,.int .i64 0,.int .i64 0,.int .i64 0,.bool false,.int .i64 0,.slice none 0 0,.slice none 0 0,.bool false,.int .i64 0,.slice none 0 0,.slice none 0 0,.int .i64 0,.slice none 0 0] 189∧Box u (w.heap.size+1) [.slice aL ls.length cL] 341):=fun u hu=>⟨b0.below hu b0.lt,b1.below hu b1.lt⟩
 have HC:Hid (∀ w',Box w' (w.heap.size+1) [.slice aL ls.length cL] 341→w'.cell? ⟨w.heap.size+1,0,none⟩=some (.slice aL ls.length cL)):=fun w' b=>b.cell 0 _ rfl
 have hh:=HC.out W b1;have hlt:=b1.lt;have HI:Hid ((Tryz.prog.info? 189).map (·.size)=some 15):=by rw [Hid];kernel_rfl
 have HO:Hid (_):=all_oneCell_toArray (ZB (⟨n,0,0,6,0,qh,qh,0,ls,aL,cL⟩));clear qp b0 b1;go_enter Tryz.func247,Tryz.ntmps247;go_wp2_with fail;rw [hW.out];clear hW kN jY xC zI Qg Ke;refine wp_region_held_drew (S:=fun w'=>w'.cell? ⟨w.heap.size+1,0,none⟩=some (.slice aL ls.length cL)) (by kernel_rfl) (HC.out _ (HB.out _ (Below.refl _ _).drew).2) (fun hHeld=>?_);refine tr 0 (.int .i64 n) ?_;refine tr 1 (.agg #[.slice aL ls.length cL]) ?_;refine tr 3 (.pointer (some ⟨w.heap.size+1,0,none⟩)) ?_;refine tr 4 (.slice aL ls.length cL) ?_;refine wpAnyH_ready (rs:=[2]) (by kernel_rfl) (by simp) ?_;refine AllReadyH.cons rfl (fun K hK=>?_) AllReadyH.nil;go_simp;refine (dJ ls aL cL _).mono ?_;rintro e u1 ⟨rfl,hb1⟩;have hB1:Below W.heap.size W u1:=((Below.refl _ _).drew).trans hb1;refine hK.out _ _ (HC.out _ (HB.out _ hB1).2) (fun hHeld=>?_);clear hK K;try simp only [zz]
 have hBL:=hB1;refine tr 5 (.agg (qg.cells (⟨n,0,0,6,0,qh,qh,0,ls,aL,cL⟩)).toArray) ?_;obtain ⟨WF,qF,bF,hwF,qN⟩:=jb [] [.int .i64 0,.int .i64 0,.int .i64 0,.int .i64 0,.int .i64 0,.bool false,.int .i64 0,.slice none 0 0,.slice none 0 0,.bool false,.int .i64 0,.slice none 0 0,.slice none 0 0,.int .i64 0,.slice none 0 0] (qg.cells (⟨n,0,0,6,0,qh,qh,0,ls,aL,cL⟩)) [] (by simpa using (HB.out _ hBL).1) rfl;have HF:Hid (Below w.heap.size w WF):=(hbW.trans (hBL.mono hbW.size)).trans (hwF.below (by omega) (by have:=hBL.size;omega));have Ui:Hid (_=_):=uw (⟨n,0,0,6,0,qh,qh,0,ls,aL,cL⟩) (by simpa using bF);have HS:Hid (WF.cell? ⟨w.heap.size+1,0,none⟩=some (.slice aL ls.length cL)):=HC.out _ ((HB.out _ hBL).2.within hwF (by omega));refine wpAnyH_ready (rs:=[6]) (by kernel_rfl) (by simp) ?_;refine AllReadyH.cons rfl (fun K hK=>?_) AllReadyH.nil;rw [if_pos (by rfl)];refine wp_store_mid 189 (.tmp 4) (.tmp 85) rfl w.heap.size 0 (qg.cells (⟨n,0,0,6,0,qh,qh,0,ls,aL,cL⟩)).toArray rfl rfl ((HB.out _ hBL).1.there 0 _ (by show 0+15≤15;decide)) HI.out HO.out ?_;have HW:Hid (u1.setCells w.heap.size 0 (qg.cells (⟨n,0,0,6,0,qh,qh,0,ls,aL,cL⟩)).toArray.toList=WF):=qF.out;rw [HW.out];refine hK.out _ _ HS.out (fun hHeld=>?_);refine wpAnyH_done (by kernel_rfl) ?_ _;clear hwF qF HW hK K HS;go_wp2;exact bodyPost_ret (v:=.agg (qg.cells (⟨n,0,0,6,0,qh,qh,0,ls,aL,cL⟩)).toArray) (jk Tryz.results247 rfl Ui.out) rfl ⟨rfl,HF.out⟩
theorem Fx (n:Int) (w:World):Calls Tryz.prog 247 #[.int .i64 n,.nilIface] w fun e w'=>e=.returned (.agg (kD 0 0 0 0).cells.toArray)∧Below w.heap.size w w':=by
 obtain ⟨W,hW,b1,hbW,qp⟩:=qx w (kD 0 0 0 0).cells 189;have HL:Hid (_=_):=uw (kD 0 0 0 0) b1;simp only [kD,qg.cells,qh,List.length_nil] at hW;clear qp b1;have kN:=UU;have jY:=Zf;have xC:=Z0;have zI:=Ua;have Qg:=UX;have Ke:=Z5;go_enter Tryz.func247,Tryz.ntmps247;go_wp2;refine bodyPost_ret (v:=.agg (kD 0 0 0 0).cells.toArray) (jk Tryz.results247 rfl ?_) rfl ⟨rfl,?_⟩
 ·rw [show _=W from hW.out];exact HL.out
 ·rw [show _=W from hW.out];exact hbW
theorem Xt (w:World) (lo hi:Nat) (h:hi≤w.heap.size):qh.own w lo hi:=⟨QY _ _ _ h,QY _ _ _ h,fun k hk=>by cases hk⟩
theorem Rs (w:World) (lo hi:Nat) (h:hi≤w.heap.size):qm.own w lo hi:=⟨Xt w lo hi h,Xt w lo hi h,U6 w lo hi h,by decide⟩
theorem Xb {w:World} {C:Nat} (q:qg) (old:List Value) (ho:old.length=15) (bC:Box w C old 189):
  ∃ WF,Hid (w.setCells C 0 q.cells=WF)∧Within C (C+1) w WF∧WF.heap.size=w.heap.size∧Hid (w.there C 0 q.cells.toArray.size)∧Hid ((loadVar 189 ⟨C,0,none⟩).run Tryz.prog WF=.ok (.agg q.cells.toArray) WF)∧Box WF C q.cells 189:=by
 obtain ⟨WF,qF,bF,hwF,qN⟩:=jb [] old q.cells [] (by simpa using bC) (by rw [ho];rfl);have Jp:Box WF C q.cells 189:=by simpa using bF
 exact ⟨WF,qF,hwF,qN,bC.there 0 _ (by rw [ho];show 0+15≤15;decide),uw q Jp,Jp⟩
theorem JZ (q:qg):(Tryz.prog.info? 189).map (·.size)=some q.cells.length:=by show _=some 15;kernel_rfl
theorem Q3 (q:qg):q.cells.toArray.all (·.oneCell')=true:=all_oneCell_toArray (ZB q)
theorem Tryz.pK:(Tryz.prog.info? 189).map (fun i=>(i.zero,i.size,i.bytes))=some (some (.agg qm.cells.toArray),15,200):=by kernel_rfl
theorem Jy {w:World} {base:Nat} {e:TypeId} {size n:Nat} {v:Value} {xs:List Value} (h:w.ownsRow base e size v n xs) {k:Nat} (hk:v.ownBlock=some k):∃ cur,w.heap[k]? =some (.cells cur e (0,0)):=by
 rcases h.2 with ⟨rfl,_⟩ | ⟨g,cap,cur,rfl,_,hg,_⟩
 ·cases hk
 ·cases hk;exact ⟨cur,hg⟩
theorem VI {w:World} {base lo hi n:Nat} {v:Value} {xs:List Value} {r:qg} (h:w.ownsRow base 189 15 v n xs) (hr:r.own w lo hi):∀ k,v.ownBlock=some k→k∉r.blocks:=by
 intro k hk hm;obtain ⟨cur,hc⟩:=Jy h hk;simp only [qg.blocks,qf.blocks,List.mem_append,Option.mem_toList] at hm;have no:∀ {b2 s2 n2:Nat} {e2:TypeId} {v2:Value} {x2:List Value},w.ownsRow b2 e2 s2 v2 n2 x2→v2.ownBlock=some k→e2=189:=by
  intro b2 s2 n2 e2 v2 x2 h2 hk2;obtain ⟨qdX,hc2⟩:=Jy h2 hk2;rw [hc] at hc2;simp only [Option.some.injEq,Obj.cells.injEq] at hc2;exact hc2.2.1.symm
 rcases hm with (h1 | h1) | (h1 | h1) | h1
 ·have:=no hr.bf.ints.1 h1;cases this
 ·have:=no hr.bf.refs.1 h1;cases this
 ·have:=no hr.af.ints.1 h1;cases this
 ·have:=no hr.af.refs.1 h1;cases this
 ·have:=no hr.txs.1 h1;cases this
theorem Tryz.ZH:(Tryz.prog.info? 167).map (fun i=>(i.zero,i.size,i.bytes))=some (some (.agg qc.cells.toArray),20,280):=by kernel_rfl
theorem wK {w:World} {base lo hi n:Nat} {v:Value} {xs:List Value} {r:qb} (h:w.ownsRow base 167 20 v n xs) (hr:r.own w lo hi):∀ k,v.ownBlock=some k→k∉r.blocks:=by
 intro k hk hm;obtain ⟨cur,hc⟩:=Jy h hk;have no:∀ {b2 s2 n2:Nat} {e2:TypeId} {v2:Value} {x2:List Value},w.ownsRow b2 e2 s2 v2 n2 x2→v2.ownBlock=some k→e2=167:=by
  intro b2 s2 n2 e2 v2 x2 h2 hk2;obtain ⟨qdX,hc2⟩:=Jy h2 hk2;rw [hc] at hc2;simp only [Option.some.injEq,Obj.cells.injEq] at hc2;exact hc2.2.1.symm
 obtain ⟨x,hx,hm⟩:=List.mem_flatMap.1 hm;simp only [qf.blocks,List.mem_append,Option.mem_toList] at hm;rcases hm with h1 | h1
 ·have:=no (hr.each x hx).ints.1 h1;cases this
 ·have:=no (hr.each x hx).refs.1 h1;cases this
theorem PO {w:World} {ops:Array Oper} {rest:List Oper} {o:Oper} {act:Act} {Q:Exit→Act→World→Prop} (hgd:o.guard=none) (s x:Operand)
  (ho:o.op=.call { callee:=.builtin .append,args:=#[s,x],argTypes:=#[33,33] })
  (lo hi:Nat) (a:Option Addr) (c:Nat) (rs:List qb) (hs:act.eval s=.slice a rs.length c) (hown:OwnSts w lo hi a c rs)
  (b off:Nat) (sc:Nat) (q:qb) (hx:act.eval x=.slice (some ⟨b,off,none⟩) 1 sc) (hr:w.rangeAt b off q.cells) (l u:Nat) (hq:q.own w l u) (hl:hi≤l) (hu:u≤w.heap.size)
  (hb:rs.length+1≤68719476736) (hlo:lo≤hi)
  (h:∀ a' c' w',OwnSts w' lo w'.heap.size a' c' (rs++[q])→w.grownBy w' (Value.slice a rs.length c).ownBlock→wpList Tryz.prog ops Q rest (act.put o.dst (.slice a' (rs++[q]).length c')) w'):
  wpList Tryz.prog ops Q (o::rest) act w:=by
 obtain ⟨i0,hi0,hz0,hz1,hz2⟩:=info_parts Tryz.ZH;have xB:=hq.ql;have htop:=hown.top;refine wpList_append_own w hgd s x 33 ho lo 167 i0 (.agg qc.cells.toArray) 20 280 Tryz.underlying33 hi0 hz0 hz1 hz2 rfl (by decide) _ _ _ hs hown.row ⟨b,off,none⟩ 1 sc q.cells hx (by rfl) ?_ (gQ q) (by simp only [maxLen];omega) (by omega) (by omega) (fun v' w' h1 h2 _=>?_)
 ·intro j v hj;rw [yS];exact hr j v hj
 ·have e:jr rs++q.cells=jr (rs++[q]):=by rw [yU,xV];simp [jr]
  have e2:rs.length+1=(rs++[q]).length:=by simp
  rw [e,e2] at h1;have sh:∃ a' c',v'=.slice a' (rs++[q]).length c':=by
   rcases h1.2 with ⟨rfl,h0⟩ | ⟨g,cap,cur,rfl,_⟩
   ·simp at h0
   ·exact ⟨_,_,rfl⟩
  obtain ⟨a',c',rfl⟩:=sh;have hsz:=h2.size;have ht:Touch (Value.slice a rs.length c).ownBlock.toList w w':=Touch.jw h2 (fun k hk=>Option.mem_toList.2 hk);have hrow:=h1.lt;have hold:∀ r∈rs,r.own w' lo w'.heap.size:=fun r hr=>((hown.each r hr).touch ht (fun k hk hk'=>(List.nodup_append.1 hown.apart).2.2 k hk' k (List.mem_flatMap.2 ⟨r,hr,hk⟩) rfl)).widen (Nat.le_refl _) (by omega) (Nat.le_refl _)
  have hnew:q.own w' lo w'.heap.size:=(hq.touch ht (fun k hk hk'=>by have:=xB k hk;have:=hown.blk k (Option.mem_toList.1 hk');omega)).widen (by omega) (by omega) (Nat.le_refl _);refine h a' c' w' ⟨h1,Nat.le_refl _,fun k hk=>(hrow k hk).2,fun r hr=>?_,?_⟩ h2
  ·rcases List.mem_append.1 hr with hr | hr
   ·exact hold r hr
   ·obtain rfl:=List.mem_singleton.1 hr;exact hnew
  ·rw [List.flatMap_append,List.nodup_append,List.nodup_append];have hap:=(List.nodup_append.1 hown.apart).2.1;have hin:∀ x∈rs.flatMap qb.blocks,lo≤x∧x<hi:=fun x hx=>by
    obtain ⟨r,hr,hx⟩:=List.mem_flatMap.1 hx;exact (hown.each r hr).ql x hx
   refine ⟨by cases (Value.slice a' (rs++[q]).length c').ownBlock<;>simp,⟨hap,by simpa using hq.apart,fun x hx y hy e=>?_⟩,fun x hx y hy e=>?_⟩
   ·have:=hin x hx;simp only [List.flatMap_cons,List.flatMap_nil,List.append_nil] at hy;have:=xB y hy;omega
   ·have hx':=Option.mem_toList.1 hx;subst e;rcases List.mem_append.1 hy with hy | hy
    ·obtain ⟨r,hr,hy⟩:=List.mem_flatMap.1 hy;exact wK h1 (hold r hr) x hx' hy
    ·simp only [List.flatMap_cons,List.flatMap_nil,List.append_nil] at hy;exact wK h1 hnew x hx' hy
structure JR where
 recs:List QW
 sure:Int
structure qz where
 recs:List qg
 sure:Int
 a:Option Addr
 c:Nat
def qz.v (l:qz):JR:=⟨l.recs.map qg.v,l.sure⟩
def qz.cells (l:qz):List Value:=[.slice l.a l.recs.length l.c,.int .i64 l.sure]
def qz.reads (w:World) (l:qz):Prop:=xc w l.a l.recs
def qz.own (w:World) (lo hi:Nat) (l:qz):Prop:=qV w lo hi l.a l.c l.recs
structure qz.short (l:qz) (m:Nat):Prop where
 len:l.recs.length≤m
 each:∀ r∈l.recs,r.short m
theorem qz.short.at {l:qz} {m:Nat} (h:l.short m) (k:Nat) (hk:k<l.recs.length):(l.recs.getD k qm).short m:=h.each _ (zZ _ k hk)
theorem Xr {rs ts:List qg} (h:ts.map qg.v=rs.map qg.v):ts.length=rs.length:=by simpa using congrArg List.length h
theorem fw {rs ts:List qg} (h:ts.map qg.v=rs.map qg.v) (k:Nat) (hk:k<rs.length):(ts.getD k qm).v=(rs.getD k qm).v:=by
 have hk':k<ts.length:=by rw [Xr h];exact hk
 have:=congrArg (fun x=>x[k]?) h
 simpa [List.getD,hk,hk'] using this
theorem MK {rs ts:List qg} (h:ts.map qg.v=rs.map qg.v) (P:qg→Prop) (hP:∀ a b:qg,a.v=b.v→P b→P a) (hall:∀ r∈rs,P r):∀ r∈ts,P r:=by
 intro r hr;obtain ⟨k,hk,rfl⟩:=List.getElem_of_mem hr;have hk':k<rs.length:=by rw [← Xr h];exact hk
 have e:=fw h k hk';refine hP _ (rs.getD k qm) ?_ (hall _ (zZ rs k hk'));rw [← e];simp [List.getD,hk]
theorem qz.yC {l t:qz} {m:Nat} (h:t.v=l.v) (hl:l.short m):t.short m:=by
 simp only [qz.v,JR.mk.injEq] at h;exact ⟨by rw [Xr h.1];exact hl.len,MK h.1 (fun r=>r.short m) (fun a b e hb=>Go.Proofs.YtjkckhfddgeboaaGreatDoor.yC e hb) hl.each⟩
theorem qz.qZ {l:qz} (hl:l.short 1048576):l.short 1099511627776:=⟨by have:=hl.len;omega,fun r hr=>Go.Proofs.YtjkckhfddgeboaaGreatDoor.qZ (hl.each r hr)⟩
end Go.Proofs.YtjkckhfddgeboaaGreatDoor
namespace Go.Proofs.YtjkckhfddgeboaaGreatDoor
open Go.RowKit
structure ji where
 disk:List (Int × List jy)
 seats:List jc
 hand:Int
 log:JR
 txs:List qC
 holds:List qJ
 next:Int
 down:Bool
structure qa where
 disk:List qw
 seats:List qb
 aS:Option Addr
 cS:Nat
 hand:Int
 log:qz
 txs:List qC
 aT:Option Addr
 cT:Nat
 holds:List qJ
 aH:Option Addr
 cH:Nat
 next:Int
 down:Bool
def qa.v (e:qa):ji:=⟨e.disk.map (fun p=>(p.lsn,p.ss.map (·.v))),e.seats.map qb.v,e.hand,e.log.v,e.txs,e.holds,e.next,e.down⟩
def qj (ps:List qw):List Value:=ps.flatMap qw.cells
def qa.tail (e:qa):List Value:=[.slice e.aS e.seats.length e.cS,.int .i64 e.hand,.slice e.log.a e.log.recs.length e.log.c,.int .i64 e.log.sure,.slice e.aT e.txs.length e.cT,.slice e.aH e.holds.length e.cH,.int .i64 e.next,.bool e.down]
def qa.cells (e:qa):List Value:=qj e.disk++e.tail
structure qa.shape (e:qa):Prop where
 eight:e.disk.length=8
 four:∀ p∈e.disk,p.ss.length=4
theorem jL:∀ (ps:List qw),(∀ p∈ps,p.ss.length=4)→(qj ps).length=ps.length*17:=by
 intro ps
 induction ps with
 | nil=>intro _;rfl
 | cons p r ih=>
  intro h;have h1:=ih (fun q hq=>h q (List.mem_cons_of_mem _ hq));have h2:=jo p (h p List.mem_cons_self);simp only [qj,List.flatMap_cons,List.length_append,List.length_cons] at h1 ⊢;omega
theorem qa.xx {e:qa} (h:e.shape):(qj e.disk).length=136:=by rw [jL _ h.four,h.eight]
theorem qa.xR {e:qa} (h:e.shape):e.cells.length=144:=by rw [qa.cells,List.length_append,qa.xx h];rfl
theorem qa.vV {w:World} {B:Nat} {t:TypeId} {e:qa} (h:e.shape) (b:Box w B e.cells t) (j:Nat) (v:Value) (hv:e.tail[j]? =some v):w.cell? ⟨B,136+j,none⟩=some v:=by
 refine b.cell (136+j) v ?_;rw [qa.cells,List.getElem?_append_right (by rw [qa.xx h];omega),qa.xx h,show 136+j-136=j by omega];exact hv
theorem uA (ps:List qw) (k:Nat) (hk:k<ps.length):qj ps=qj (ps.take k)++(ps[k].cells++qj (ps.drop (k+1))):=by
 have e:ps=ps.take k++ps[k]::ps.drop (k+1):=by
  conv=>lhs;rw [← List.take_append_drop k ps,List.drop_eq_getElem_cons hk]
 conv=>lhs;rw [e]
 simp only [qj,List.flatMap_append,List.flatMap_cons]
theorem qa.YT {w:World} {B:Nat} {t:TypeId} {e:qa} (h:e.shape) (b:Box w B e.cells t) (k:Nat) (hk:k<e.disk.length):w.rangeAt B (k*17) e.disk[k].cells:=by
 have e1:e.cells=qj (e.disk.take k)++(e.disk[k].cells++(qj (e.disk.drop (k+1))++e.tail)):=by rw [qa.cells,uA e.disk k hk];simp
 have b':=b;rw [e1] at b';have:=Box.range _ _ _ b'
 rwa [jL _ (fun p hp=>h.four p (List.mem_of_mem_take hp)),List.length_take,Nat.min_eq_left (Nat.le_of_lt hk)] at this
def rowOf (a:Option Addr) (n c:Nat):List Nat:=(Value.slice a n c).ownBlock.toList
def qa.JA (e:qa):List Nat:=(e.disk.flatMap (·.ss)).flatMap qf.blocks
def qa.blocks (e:qa):List Nat:=e.JA++(qo e.aS e.cS e.seats++(kr e.log.a e.log.c e.log.recs++(rowOf e.aT e.txs.length e.cT++rowOf e.aH e.holds.length e.cH)))
structure qa.own (w:World) (lo hi:Nat) (e:qa):Prop where
 disk:qG w lo hi (e.disk.flatMap (·.ss))
 pool:OwnSts w lo hi e.aS e.cS e.seats
 log:qV w lo hi e.log.a e.log.c e.log.recs
 txs:OwnL w lo hi e.aT e.cT e.txs
 holds:OwnH w lo hi e.aH e.cH e.holds
 apart:e.blocks.Nodup
theorem qG.touch {w w':World} {lo hi:Nat} {ss:List qf} {bl:List Nat} (h:qG w lo hi ss) (ht:Touch bl w w') (hd:∀ k∈ss.flatMap qf.blocks,k∉bl):qG w' lo hi ss:=
 ⟨fun x hx=>qf.touch (h.each x hx) ht (fun k hk=>hd k (List.mem_flatMap.2 ⟨x,hx,hk⟩)),h.apart⟩
theorem qa.own.ql {w:World} {lo hi:Nat} {e:qa} (h:e.own w lo hi):∀ k∈e.blocks,lo≤k∧k<hi:=by
 intro k hk;simp only [qa.blocks,List.mem_append] at hk;rcases hk with hk | hk | hk | hk | hk
 ·exact h.disk.ql k hk
 ·exact h.pool.ql k hk
 ·exact h.log.ql k hk
 ·exact h.txs.lt k (Option.mem_toList.1 hk)
 ·exact h.holds.lt k (Option.mem_toList.1 hk)
theorem qa.own.touch {w w':World} {lo hi:Nat} {e:qa} {bl:List Nat} (h:e.own w lo hi) (ht:Touch bl w w') (hd:∀ k∈e.blocks,k∉bl):e.own w' lo hi:=by
 simp only [qa.blocks,List.mem_append] at hd;exact ⟨h.disk.touch ht (fun k hk=>hd k (.inl hk)),h.pool.touch ht (fun k hk=>hd k (.inr (.inl hk))),h.log.touch ht (fun k hk=>hd k (.inr (.inr (.inl hk)))),h.txs.touch ht (fun k hk=>hd k (.inr (.inr (.inr (.inl (Option.mem_toList.2 hk)))))),h.holds.touch ht (fun k hk=>hd k (.inr (.inr (.inr (.inr (Option.mem_toList.2 hk)))))),h.apart⟩
theorem qa.own.within {w w':World} {lo hi l r:Nat} {e:qa} (h:e.own w lo hi) (hw:Within l r w w') (hd:hi≤l∨r≤lo):e.own w' lo hi:=
 ⟨h.disk.within hw hd,h.pool.within hw hd,h.log.within hw hd,h.txs.within hw hd,h.holds.within hw hd,h.apart⟩
theorem qa.own.below {w w':World} {lo hi:Nat} {e:qa} (h:e.own w lo hi) (hb:Below w.heap.size w w'):e.own w' lo hi:=
 ⟨h.disk.below hb,h.pool.below hb,h.log.below hb,h.txs.below hb,h.holds.below hb,h.apart⟩
theorem qa.own.widen {w:World} {lo hi lo' hi':Nat} {e:qa} (h:e.own w lo hi) (h1:lo'≤lo) (h2:hi≤hi') (h3:hi'≤w.heap.size):e.own w lo' hi':=
 ⟨h.disk.widen h1 h2 h3,h.pool.widen h1 h2 h3,h.log.widen h1 h2 h3,h.txs.widen h1 h2 h3,h.holds.widen h1 h2 h3,h.apart⟩
theorem Tryz.AP:(Tryz.prog.info? 42).map (·.size)=some 144:=by kernel_rfl
def qM:qw:=⟨0,[qh,qh,qh,qh]⟩
def zeroE:qa:=⟨[qM,qM,qM,qM,qM,qM,qM,qM],[],none,0,0,⟨[],0,none,0⟩,[],none,0,[],none,0,0,false⟩
theorem Tryz.JV:(Tryz.prog.info? 42).map (·.zero)=some (some (.agg zeroE.cells.toArray)):=by kernel_rfl
end Go.Proofs.YtjkckhfddgeboaaGreatDoor