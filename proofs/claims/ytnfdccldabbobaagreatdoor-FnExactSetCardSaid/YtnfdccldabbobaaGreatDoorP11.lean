/- Texts. -/
import Derived.Test.YtnfdccldabbobaaGreatDoorP9
set_option maxHeartbeats 8000000
set_option maxRecDepth 100000
namespace Go.Proofs.YtnfdccldabbobaaGreatDoor
open Go.RowKit Go.Proofs.Tryz
theorem UO {P:Prop} (h:P:=by
 go_enter func219,ntmps219;go_wp2;go_ret;exact ⟨qm HB.out.symm,rfl⟩):P:=h
theorem tL (x:Int) (w:World):Calls prog 219 #[.int .i64 x] w fun e w'=>e=.returned (.bool (inB x 1 1000))∧w'=w:=by
 by_cases h1:1≤x
 ·by_cases h2:x≤1000
  ·have HB:Hid (inB x 1 1000=true):=by simp [Hid,inB];omega
   exact UO
  ·have HB:Hid (inB x 1 1000=false):=by simp [Hid,inB];omega
   exact UO
 ·have HB:Hid (inB x 1 1000=false):=by simp [Hid,inB];omega
  exact UO
theorem UQ {P:Prop} (h:P:=by
 go_enter func35,ntmps35;go_wp2;go_ret;exact ⟨qm HB.out.symm,rfl⟩):P:=h
theorem Zc (x:Int) (w:World):Calls prog 35 #[.int .i64 x] w fun e w'=>e=.returned (.bool (inB x 1 31))∧w'=w:=by
 by_cases h1:1≤x
 ·by_cases h2:x≤31
  ·have HB:Hid (inB x 1 31=true):=by simp [Hid,inB];omega
   exact UQ
  ·have HB:Hid (inB x 1 31=false):=by simp [Hid,inB];omega
   exact UQ
 ·have HB:Hid (inB x 1 31=false):=by simp [Hid,inB];omega
  exact UQ
theorem UR {P:Prop} (h:P:=by
 go_enter func198,ntmps198;go_wp2;go_ret;exact ⟨qm HB.out.symm,rfl⟩):P:=h
theorem ZI (n x:Int) (w:World):Calls prog 198 #[.int .i64 n,.int .i64 x] w fun e w'=>e=.returned (.bool (inB x 0 (n-1)))∧w'=w:=by
 by_cases h1:0≤x
 ·by_cases h2:x<n
  ·have HB:Hid (inB x 0 (n-1)=true):=by simp [Hid,inB];omega
   exact UR
  ·have HB:Hid (inB x 0 (n-1)=false):=by simp [Hid,inB];omega
   exact UR
 ·have HB:Hid (inB x 0 (n-1)=false):=by simp [Hid,inB];omega
  exact UR
def jX (n tx prev:Int):Bool:=inB tx 1 1000 && inB prev 0 (n-1)
theorem VH (n tx prev:Int) (w:World):Calls prog 197 #[.int .i64 n,.agg #[.int .i64 tx,.int .i64 prev]] w fun e w'=>e=.returned (.bool (jX n tx prev))∧qa w w':=by
 obtain ⟨W,hW,b0,hbW,qD⟩:=qB w [.int .i64 tx,.int .i64 prev] 240;have HZ:Hid (jX n tx prev=(inB tx 1 1000 && inB prev 0 (n-1))):=rfl;generalize jX n tx prev=R at*
 have y0:=b0.cell 0 _ rfl;have y1:=b0.cell 1 _ rfl;clear qD b0;go_enter func197,ntmps197;go_wp2_with fail;rw [hW.out];clear hW;refine (tL _ W).mono ?_;rintro e u ⟨rfl,hu⟩;rw [hu];clear hu u;cases h0:inB tx 1 1000 with
 | false=>
  have HR:Hid (R=false):=by rw [Hid,HZ.out];simp [h0]
  go_wp2;go_ret;exact ⟨qm HR.out.symm,hbW⟩
 | true=>
  have HR:Hid (R=inB prev 0 (n-1)):=by rw [Hid,HZ.out];simp [h0]
  go_wp2_with fail;refine (ZI _ _ W).mono ?_;rintro e u ⟨rfl,hu⟩;rw [hu];clear hu u;go_wp2;go_ret;exact ⟨qm HR.out.symm,hbW⟩
def Yp (ls:List qM):Nat→Int
 | 0=>0
 | k+1=>(ls.getD k qz).tx
theorem Ia (n:Int) (ls:List qM) (k:Nat):yS n ls k=(decide (Yp ls k<(ls.getD k qz).tx) && (inB (ls.getD k qz).tx 1 1000 && (!((ls.getD k qz).last == 0) && inB (ls.getD k qz).last 0 (n-1)))):=by
 rw [Bool.eq_iff_iff];cases k with
 | zero=>simp [yS,Yp,inB];omega
 | succ k=>simp [yS,Yp,inB];omega
theorem Rw (n:Int) (aL:Option Addr) (cL:Nat) (ls:List qM) (w:World) (hr:kQ w aL ls) (hl:ls.length≤1099511627776):
  Calls prog 199 #[.int .i64 n,.slice aL ls.length cL] w fun e w'=>e=.returned (.bool (xI n ls))∧qa w w':=by
 have kI:Hid (∀ k,k<ls.length→yS n ls k=false→xI n ls=false):=fun k hk h=>PS k hk h
 have Ze:Hid ((∀ k,k<ls.length→yS n ls k=true)→xI n ls=decide (ls.length≤20)):=fun h=>GN h
 generalize xI n ls=R at*
 go_enter func199,ntmps199;go_wp2;go_loopw [5,10] (fun t i wr=>∃ k:Nat,k≤ls.length∧i=.int .i64 k∧t=.int .i64 (Yp ls k)∧Hid (∀ j,j<k→yS n ls j=true)∧qa w wr) (fun _ i _=>ls.length-(intOf i).toNat)
 case atStart=>exact ⟨0,qaw _,rfl,rfl,fun j hj=>by omega,qab _ _⟩
 case round=>
  obtain ⟨k,hk,rfl,rfl,hall,hbl⟩:=hrel;have hrr:=hr.below hbl;clear hr;by_cases hlt:k<ls.length
  ·obtain ⟨b,off,rfl,hcell⟩:=hrr (by intro e;rw [e] at hlt;simp at hlt);obtain ⟨c0,c1,c2⟩:=hcell k hlt;have HQ:Hid (_=_):=Ia n ls k;have HX:Hid (Yp ls (k+1)=(ls.getD k qz).tx):=rfl;have HN:Hid (yS n ls k=false→R=false):=fun h=>kI.out k hlt h
   clear hcell kI Ze;generalize Yp ls k=p at*
   generalize hz:ls.getD k qz=z at*
   obtain ⟨W,hW,b0,hbW,qD⟩:=qB wr [.int .i64 z.tx,.int .i64 z.last,.bool z.aborts] 115;have y0:=b0.cell 0 _ rfl;have y1:=b0.cell 1 _ rfl;have BW:=qf hbl hbW;clear qD b0 hz hbW;by_cases hA:z.tx≤p
   ·have HR:Hid (R=false):=HN.out (by rw [HQ.out];simp;omega);clear HQ HN HX;go_wp2;go_ret;exact ⟨qm HR.out.symm,by rw [hW.out];exact BW⟩
   go_wp2_with fail;rw [hW.out];refine (tL _ W).mono ?_;rintro e u ⟨rfl,hu⟩;rw [hu];clear hu u hW;cases hB:inB z.tx 1 1000 with
   | false=>
    have HR:Hid (R=false):=HN.out (by rw [HQ.out];simp [hB]);clear HQ HN HX;go_wp2;go_ret;exact ⟨qm HR.out.symm,BW⟩
   | true=>
    cases hC:(z.last == 0) with
    | true=>
     have HR:Hid (R=false):=HN.out (by rw [HQ.out];simp [hC]);clear HQ HN HX;go_wp2;go_ret;exact ⟨qm HR.out.symm,BW⟩
    | false=>
     go_wp2_with fail;refine (ZI _ _ W).mono ?_;rintro e u ⟨rfl,hu⟩;rw [hu];clear hu u;cases hD:inB z.last 0 (n-1) with
     | false=>
      have HR:Hid (R=false):=HN.out (by rw [HQ.out];simp [hD]);clear HQ HN HX;go_wp2;go_ret;exact ⟨qm HR.out.symm,BW⟩
     | true=>
      have HK:Hid (∀ j,j<k+1→yS n ls j=true):=by
       intro j hj;by_cases e:j=k
       ·rw [e,HQ.out];simp [hB,hC,hD];omega
       ·exact hall.out j (by omega)
      clear HQ HN;go_wp2;go_roundw
      case rel=>exact ⟨k+1,by omega,by go_num,by rw [HX.out],HK,BW⟩
      case measure=>simp [intOf];omega
  ·have HR:Hid (R=decide (ls.length≤20)):=Ze.out (fun j hj=>hall.out j (by omega));clear kI Ze;go_wp2;go_ret;exact ⟨qm (by rw [HR.out];exact decide_eq_decide.2 (by omega)),hbl⟩
theorem PT {P:Prop} (h:P:=by
 have HR:Hid (R=false):=by rw [Hid,HQ.out];simp [h0,h1,h2]
 go_wp2;go_ret;exact ⟨qm HR.out.symm,b_2⟩):P:=h
theorem PU {P:Prop} (h:P:=by
 have HR:Hid (R=false):=by rw [Hid,HQ.out];simp [h0,h1]
 go_wp2;go_ret;exact ⟨qm HR.out.symm,b_0⟩):P:=h
theorem PV {P:Prop} (h:P:=by
 have HR:Hid (R=false):=by rw [Hid,HQ.out];simp [h0]
 go_wp2;go_ret;exact ⟨qm HR.out.symm,b_0⟩):P:=h
theorem iy (n:Int) (tx prev oid:Int) (b a:qj) (w:World) (hg:jR w) (hb:b.reads w) (ha:a.reads w) (hlb:Fit [b]) (hla:Fit [a]):
  Calls prog 174 #[.int .i64 n,wM (XM tx prev oid b a)] w fun e w'=>e=.returned (.bool (jX n tx prev && (inB oid 1 31 && (qL b.v && (qL a.v)))))∧qa w w':=by
 obtain ⟨W,hW,b0,hbW,qD⟩:=qB w [.int .i64 tx,.int .i64 prev,.int .i64 oid,.bool b.v.has,.int .i64 b.v.o.kind,.slice b.aI b.v.o.ints.length b.cI,.slice b.aR b.v.o.refs.length b.cR,.bool a.v.has,.int .i64 a.v.o.kind,.slice a.aI a.v.o.ints.length a.cI,.slice a.aR a.v.o.refs.length a.cR] 242;have HZ:Hid (∀ R,R=(jX n tx prev && (inB oid 1 31 && (qL b.v && (qL a.v))))→R=(jX n tx prev && (inB oid 1 31 && (qL b.v && (qL a.v))))):=fun _ h=>h
 simp only [wM,XM];have xN:=fun W=>ZJ W (.agg #[.int .i64 tx,.int .i64 prev,.int .i64 oid,.bool b.v.has,.int .i64 b.v.o.kind,.slice b.aI b.v.o.ints.length b.cI,.slice b.aR b.v.o.refs.length b.cR,.bool a.v.has,.int .i64 a.v.o.kind,.slice a.aI a.v.o.ints.length a.cI,.slice a.aR a.v.o.refs.length a.cR])
 have HX:Hid (∀ u,qa W u→Box u w.heap.size [.int .i64 tx,.int .i64 prev,.int .i64 oid,.bool b.v.has,.int .i64 b.v.o.kind,.slice b.aI b.v.o.ints.length b.cI,.slice b.aR b.v.o.refs.length b.cR,.bool a.v.has,.int .i64 a.v.o.kind,.slice a.aI a.v.o.ints.length a.cI,.slice a.aR a.v.o.refs.length a.cR] 242):=fun u hu=>b0.below hu b0.lt
 obtain ⟨R,HQ⟩:∃ R,Hid (R=(jX n tx prev && (inB oid 1 31 && (qL b.v && (qL a.v))))):=⟨_,rfl⟩;rw [← HQ.out];clear qD b0 HZ;go_enter func174,ntmps174;have x0:=(HX.out W (qab _ _)).cell 0 _ rfl;have x1:=(HX.out W (qab _ _)).cell 1 _ rfl;have x2:=(HX.out W (qab _ _)).cell 2 _ rfl;have x3:=(HX.out W (qab _ _)).cell 3 _ rfl;have x4:=(HX.out W (qab _ _)).cell 4 _ rfl;have x5:=(HX.out W (qab _ _)).cell 5 _ rfl;have x6:=(HX.out W (qab _ _)).cell 6 _ rfl;have x7:=(HX.out W (qab _ _)).cell 7 _ rfl;have x8:=(HX.out W (qab _ _)).cell 8 _ rfl;have x9:=(HX.out W (qab _ _)).cell 9 _ rfl;have xO:=(HX.out W (qab _ _)).cell 10 _ rfl;go_wp2_with fail;rw [hW.out];clear hW;have l0:qa W W:=qab _ _;refine (VH n tx prev W).mono ?_;clear x0 x1 x2 x3 x4 x5 x6 x7 x8 x9 xO;rintro e u0 ⟨rfl,hb0⟩;have b_0:qa w u0:=(hbW).trans (hb0.mono (hbW).size);have l_0:qa W u0:=(l0).trans (hb0.mono (l0).size);have x0:=(HX.out u0 (l_0)).cell 0 _ rfl;have x1:=(HX.out u0 (l_0)).cell 1 _ rfl;have x2:=(HX.out u0 (l_0)).cell 2 _ rfl;have x3:=(HX.out u0 (l_0)).cell 3 _ rfl;have x4:=(HX.out u0 (l_0)).cell 4 _ rfl;have x5:=(HX.out u0 (l_0)).cell 5 _ rfl;have x6:=(HX.out u0 (l_0)).cell 6 _ rfl;have x7:=(HX.out u0 (l_0)).cell 7 _ rfl;have x8:=(HX.out u0 (l_0)).cell 8 _ rfl;have x9:=(HX.out u0 (l_0)).cell 9 _ rfl;have xO:=(HX.out u0 (l_0)).cell 10 _ rfl;clear hb0;cases h0:jX n tx prev with
 | false=>
  exact PV
 | true=>
  go_wp2_with fail;refine (Zc oid u0).mono ?_;rintro e v ⟨rfl,hv⟩;rw [hv];clear hv v;cases h1:inB oid 1 31 with
  | false=>
   exact PU
  | true=>
   go_wp2_with fail;refine (Jr b u0 (hg.keep (b_0)) (jd.below hb (b_0)) hlb).mono ?_;clear x0 x1 x2 x3 x4 x5 x6 x7 x8 x9 xO;rintro e u2 ⟨rfl,hb2⟩;have b_2:qa w u2:=(b_0).trans (hb2.mono (b_0).size);have l_2:qa W u2:=(l_0).trans (hb2.mono (l_0).size);have x0:=(HX.out u2 (l_2)).cell 0 _ rfl;have x1:=(HX.out u2 (l_2)).cell 1 _ rfl;have x2:=(HX.out u2 (l_2)).cell 2 _ rfl;have x3:=(HX.out u2 (l_2)).cell 3 _ rfl;have x4:=(HX.out u2 (l_2)).cell 4 _ rfl;have x5:=(HX.out u2 (l_2)).cell 5 _ rfl;have x6:=(HX.out u2 (l_2)).cell 6 _ rfl;have x7:=(HX.out u2 (l_2)).cell 7 _ rfl;have x8:=(HX.out u2 (l_2)).cell 8 _ rfl;have x9:=(HX.out u2 (l_2)).cell 9 _ rfl;have xO:=(HX.out u2 (l_2)).cell 10 _ rfl;clear hb2;cases h2:qL b.v with
   | false=>
    exact PT
   | true=>
    go_wp2_with fail;refine (Jr a u2 (hg.keep (b_2)) (jd.below ha (b_2)) hla).mono ?_;clear x0 x1 x2 x3 x4 x5 x6 x7 x8 x9 xO;rintro e u3 ⟨rfl,hb3⟩;have b_3:qa w u3:=(b_2).trans (hb3.mono (b_2).size);have l_3:qa W u3:=(l_2).trans (hb3.mono (l_2).size);have x0:=(HX.out u3 (l_3)).cell 0 _ rfl;have x1:=(HX.out u3 (l_3)).cell 1 _ rfl;have x2:=(HX.out u3 (l_3)).cell 2 _ rfl;have x3:=(HX.out u3 (l_3)).cell 3 _ rfl;have x4:=(HX.out u3 (l_3)).cell 4 _ rfl;have x5:=(HX.out u3 (l_3)).cell 5 _ rfl;have x6:=(HX.out u3 (l_3)).cell 6 _ rfl;have x7:=(HX.out u3 (l_3)).cell 7 _ rfl;have x8:=(HX.out u3 (l_3)).cell 8 _ rfl;have x9:=(HX.out u3 (l_3)).cell 9 _ rfl;have xO:=(HX.out u3 (l_3)).cell 10 _ rfl;clear hb3;have HR:Hid (R=qL a.v):=by rw [Hid,HQ.out];simp [h0,h1,h2]
    generalize qL a.v=G at*
    go_wp2;go_ret;exact ⟨qm HR.out.symm,b_3⟩
theorem UT {P:Prop} (h:P:=by
 obtain ⟨R,HQ⟩:∃ R,Hid (R=(jX n tx prev)):=⟨_,rfl⟩;rw [← HQ.out];clear qD b0 HZ;go_enter func174,ntmps174;have x0:=(HX.out W (qab _ _)).cell 0 _ rfl;have x1:=(HX.out W (qab _ _)).cell 1 _ rfl;go_wp2_with fail;rw [hW.out];clear hW;have l0:qa W W:=qab _ _;refine (VH n tx prev W).mono ?_;clear x0 x1;rintro e u0 ⟨rfl,hb0⟩;have b_0:qa w u0:=(hbW).trans (hb0.mono (hbW).size);have l_0:qa W u0:=(l0).trans (hb0.mono (l0).size);have x0:=(HX.out u0 (l_0)).cell 0 _ rfl;have x1:=(HX.out u0 (l_0)).cell 1 _ rfl;clear hb0;have HR:Hid (R=jX n tx prev):=HQ.out;generalize jX n tx prev=G at*
 go_wp2;go_ret;exact ⟨qm HR.out.symm,b_0⟩):P:=h
theorem fw (n:Int) (tx prev:Int) (w:World):
  Calls prog 174 #[.int .i64 n,zX (za tx prev)] w fun e w'=>e=.returned (.bool (jX n tx prev))∧qa w w':=by
 obtain ⟨W,hW,b0,hbW,qD⟩:=qB w [.int .i64 tx,.int .i64 prev] 246;have HZ:Hid (∀ R,R=(jX n tx prev)→R=(jX n tx prev)):=fun _ h=>h
 simp only [zX,za];have xN:=fun W=>yw W 246 (.agg #[.int .i64 tx,.int .i64 prev]) (by decide)
 have xm:=fun W=>Ve W (.agg #[.int .i64 tx,.int .i64 prev])
 have HX:Hid (∀ u,qa W u→Box u w.heap.size [.int .i64 tx,.int .i64 prev] 246):=fun u hu=>b0.below hu b0.lt
 exact UT
theorem tN (n:Int) (tx prev:Int) (w:World):
  Calls prog 174 #[.int .i64 n,vC (za tx prev)] w fun e w'=>e=.returned (.bool (jX n tx prev))∧qa w w':=by
 obtain ⟨W,hW,b0,hbW,qD⟩:=qB w [.int .i64 tx,.int .i64 prev] 247;have HZ:Hid (∀ R,R=(jX n tx prev)→R=(jX n tx prev)):=fun _ h=>h
 simp only [vC,za];have xN:=fun W=>yw W 247 (.agg #[.int .i64 tx,.int .i64 prev]) (by decide)
 have xm:=fun W=>wO W 247 (.agg #[.int .i64 tx,.int .i64 prev]) (by decide)
 have yG:=fun W=>Uh W (.agg #[.int .i64 tx,.int .i64 prev])
 have HX:Hid (∀ u,qa W u→Box u w.heap.size [.int .i64 tx,.int .i64 prev] 247):=fun u hu=>b0.below hu b0.lt
 exact UT
theorem iA (n:Int) (tx prev:Int) (w:World):
  Calls prog 174 #[.int .i64 n,uU (za tx prev)] w fun e w'=>e=.returned (.bool (jX n tx prev))∧qa w w':=by
 obtain ⟨W,hW,b0,hbW,qD⟩:=qB w [.int .i64 tx,.int .i64 prev] 248;have HZ:Hid (∀ R,R=(jX n tx prev)→R=(jX n tx prev)):=fun _ h=>h
 simp only [uU,za];have xN:=fun W=>yw W 248 (.agg #[.int .i64 tx,.int .i64 prev]) (by decide)
 have xm:=fun W=>wO W 248 (.agg #[.int .i64 tx,.int .i64 prev]) (by decide)
 have yG:=fun W=>Qk W 248 (.agg #[.int .i64 tx,.int .i64 prev]) (by decide)
 have vE:=fun W=>uq W 248 (.agg #[.int .i64 tx,.int .i64 prev]) (by decide)
 have Q5:=fun W=>mF W (.agg #[.int .i64 tx,.int .i64 prev])
 have HX:Hid (∀ u,qa W u→Box u w.heap.size [.int .i64 tx,.int .i64 prev] 248):=fun u hu=>b0.below hu b0.lt
 exact UT
theorem Rx (n:Int) (tx prev oid:Int) (a:qj) (next:Int) (w:World) (hg:jR w) (ha:a.reads w) (hla:Fit [a]):
  Calls prog 174 #[.int .i64 n,zG (JQ tx prev oid a next)] w fun e w'=>e=.returned (.bool (jX n tx prev && (inB oid 1 31 && (qL a.v && (inB next 0 (n-1))))))∧qa w w':=by
 obtain ⟨W,hW,b0,hbW,qD⟩:=qB w [.int .i64 tx,.int .i64 prev,.int .i64 oid,.bool a.v.has,.int .i64 a.v.o.kind,.slice a.aI a.v.o.ints.length a.cI,.slice a.aR a.v.o.refs.length a.cR,.int .i64 next] 244;have HZ:Hid (∀ R,R=(jX n tx prev && (inB oid 1 31 && (qL a.v && (inB next 0 (n-1)))))→R=(jX n tx prev && (inB oid 1 31 && (qL a.v && (inB next 0 (n-1)))))):=fun _ h=>h
 simp only [zG,JQ];have xN:=fun W=>yw W 244 (.agg #[.int .i64 tx,.int .i64 prev,.int .i64 oid,.bool a.v.has,.int .i64 a.v.o.kind,.slice a.aI a.v.o.ints.length a.cI,.slice a.aR a.v.o.refs.length a.cR,.int .i64 next]) (by decide)
 have xm:=fun W=>wO W 244 (.agg #[.int .i64 tx,.int .i64 prev,.int .i64 oid,.bool a.v.has,.int .i64 a.v.o.kind,.slice a.aI a.v.o.ints.length a.cI,.slice a.aR a.v.o.refs.length a.cR,.int .i64 next]) (by decide)
 have yG:=fun W=>Qk W 244 (.agg #[.int .i64 tx,.int .i64 prev,.int .i64 oid,.bool a.v.has,.int .i64 a.v.o.kind,.slice a.aI a.v.o.ints.length a.cI,.slice a.aR a.v.o.refs.length a.cR,.int .i64 next]) (by decide)
 have vE:=fun W=>Yz W (.agg #[.int .i64 tx,.int .i64 prev,.int .i64 oid,.bool a.v.has,.int .i64 a.v.o.kind,.slice a.aI a.v.o.ints.length a.cI,.slice a.aR a.v.o.refs.length a.cR,.int .i64 next])
 have HX:Hid (∀ u,qa W u→Box u w.heap.size [.int .i64 tx,.int .i64 prev,.int .i64 oid,.bool a.v.has,.int .i64 a.v.o.kind,.slice a.aI a.v.o.ints.length a.cI,.slice a.aR a.v.o.refs.length a.cR,.int .i64 next] 244):=fun u hu=>b0.below hu b0.lt
 obtain ⟨R,HQ⟩:∃ R,Hid (R=(jX n tx prev && (inB oid 1 31 && (qL a.v && (inB next 0 (n-1)))))):=⟨_,rfl⟩;rw [← HQ.out];clear qD b0 HZ;go_enter func174,ntmps174;have x0:=(HX.out W (qab _ _)).cell 0 _ rfl;have x1:=(HX.out W (qab _ _)).cell 1 _ rfl;have x2:=(HX.out W (qab _ _)).cell 2 _ rfl;have x3:=(HX.out W (qab _ _)).cell 3 _ rfl;have x4:=(HX.out W (qab _ _)).cell 4 _ rfl;have x5:=(HX.out W (qab _ _)).cell 5 _ rfl;have x6:=(HX.out W (qab _ _)).cell 6 _ rfl;have x7:=(HX.out W (qab _ _)).cell 7 _ rfl;go_wp2_with fail;rw [hW.out];clear hW;have l0:qa W W:=qab _ _;refine (VH n tx prev W).mono ?_;clear x0 x1 x2 x3 x4 x5 x6 x7;rintro e u0 ⟨rfl,hb0⟩;have b_0:qa w u0:=(hbW).trans (hb0.mono (hbW).size);have l_0:qa W u0:=(l0).trans (hb0.mono (l0).size);have x0:=(HX.out u0 (l_0)).cell 0 _ rfl;have x1:=(HX.out u0 (l_0)).cell 1 _ rfl;have x2:=(HX.out u0 (l_0)).cell 2 _ rfl;have x3:=(HX.out u0 (l_0)).cell 3 _ rfl;have x4:=(HX.out u0 (l_0)).cell 4 _ rfl;have x5:=(HX.out u0 (l_0)).cell 5 _ rfl;have x6:=(HX.out u0 (l_0)).cell 6 _ rfl;have x7:=(HX.out u0 (l_0)).cell 7 _ rfl;clear hb0;cases h0:jX n tx prev with
 | false=>
  exact PV
 | true=>
  go_wp2_with fail;refine (Zc oid u0).mono ?_;rintro e v ⟨rfl,hv⟩;rw [hv];clear hv v;cases h1:inB oid 1 31 with
  | false=>
   exact PU
  | true=>
   go_wp2_with fail;refine (Jr a u0 (hg.keep (b_0)) (jd.below ha (b_0)) hla).mono ?_;clear x0 x1 x2 x3 x4 x5 x6 x7;rintro e u2 ⟨rfl,hb2⟩;have b_2:qa w u2:=(b_0).trans (hb2.mono (b_0).size);have l_2:qa W u2:=(l_0).trans (hb2.mono (l_0).size);have x0:=(HX.out u2 (l_2)).cell 0 _ rfl;have x1:=(HX.out u2 (l_2)).cell 1 _ rfl;have x2:=(HX.out u2 (l_2)).cell 2 _ rfl;have x3:=(HX.out u2 (l_2)).cell 3 _ rfl;have x4:=(HX.out u2 (l_2)).cell 4 _ rfl;have x5:=(HX.out u2 (l_2)).cell 5 _ rfl;have x6:=(HX.out u2 (l_2)).cell 6 _ rfl;have x7:=(HX.out u2 (l_2)).cell 7 _ rfl;clear hb2;cases h2:qL a.v with
   | false=>
    exact PT
   | true=>
    go_wp2_with fail;refine (ZI n next u2).mono ?_;rintro e v ⟨rfl,hv⟩;rw [hv];clear hv v;have HR:Hid (R=inB next 0 (n-1)):=by rw [Hid,HQ.out];simp [h0,h1,h2]
    generalize inB next 0 (n-1)=G at*
    go_wp2;go_ret;exact ⟨qm HR.out.symm,b_2⟩
theorem tQ (n:Int) (ls:List qM) (aL:Option Addr) (cL:Nat) (w:World) (hr:kQ w aL ls) (hl:ls.length≤1099511627776):
  Calls prog 174 #[.int .i64 n,vF (Kj ls aL cL)] w fun e w'=>e=.returned (.bool (xI n ls))∧qa w w':=by
 obtain ⟨W,hW,b0,hbW,qD⟩:=qB w [.slice aL ls.length cL] 250;have HZ:Hid (∀ R,R=(xI n ls)→R=(xI n ls)):=fun _ h=>h
 simp only [vF,Kj];have xN:=fun W=>yw W 250 (.agg #[.slice aL ls.length cL]) (by decide)
 have xm:=fun W=>wO W 250 (.agg #[.slice aL ls.length cL]) (by decide)
 have yG:=fun W=>Qk W 250 (.agg #[.slice aL ls.length cL]) (by decide)
 have vE:=fun W=>uq W 250 (.agg #[.slice aL ls.length cL]) (by decide)
 have Q5:=fun W=>GQ W 250 (.agg #[.slice aL ls.length cL]) (by decide)
 have Xj:=fun W=>Ui W (.agg #[.slice aL ls.length cL])
 have HX:Hid (∀ u,qa W u→Box u w.heap.size [.slice aL ls.length cL] 250):=fun u hu=>b0.below hu b0.lt
 obtain ⟨R,HQ⟩:∃ R,Hid (R=(xI n ls)):=⟨_,rfl⟩;rw [← HQ.out];clear qD b0 HZ;go_enter func174,ntmps174;have x0:=(HX.out W (qab _ _)).cell 0 _ rfl;go_wp2_with fail;rw [hW.out];clear hW;have l0:qa W W:=qab _ _;refine (Rw n aL cL ls W (hr.below (hbW)) hl).mono ?_;clear x0;rintro e u0 ⟨rfl,hb0⟩;have b_0:qa w u0:=(hbW).trans (hb0.mono (hbW).size);have l_0:qa W u0:=(l0).trans (hb0.mono (l0).size);have x0:=(HX.out u0 (l_0)).cell 0 _ rfl;clear hb0;have HR:Hid (R=xI n ls):=HQ.out;generalize xI n ls=G at*
 go_wp2;go_ret;exact ⟨qm HR.out.symm,b_0⟩
theorem iB (n:Int) (w:World):Calls prog 174 #[.int .i64 n,.nilIface] w fun e w'=>e=.returned (.bool false)∧qa w w':=by
 have xN:=ZK;have xm:=Vf;have yG:=Uj;have vE:=YA;have Q5:=mG;have Xj:=Uk;go_enter func174,ntmps174;go_wp2;go_ret;exact ⟨rfl,qab _ _⟩
theorem tT (tx prev oid:Int) (b a:qj) (w:World):Calls prog 201 #[.agg #[.int .i64 tx,.int .i64 prev,.int .i64 oid,.bool b.v.has,.int .i64 b.v.o.kind,.slice b.aI b.v.o.ints.length b.cI,.slice b.aR b.v.o.refs.length b.cR,.bool a.v.has,.int .i64 a.v.o.kind,.slice a.aI a.v.o.ints.length a.cI,.slice a.aR a.v.o.refs.length a.cR]] w fun e w'=>e=.returned (.int .i64 1)∧qa w w':=by
 go_enter func201,ntmps201;go_wp2;go_ret;exact ⟨rfl,(qab _ _).alloc qg _⟩
theorem GR (tx prev:Int) (w:World):Calls prog 203 #[.agg #[.int .i64 tx,.int .i64 prev]] w fun e w'=>e=.returned (.int .i64 2)∧qa w w':=by
 go_enter func203,ntmps203;go_wp2;go_ret;exact ⟨rfl,(qab _ _).alloc qg _⟩
theorem NN (tx prev:Int) (w:World):Calls prog 204 #[.agg #[.int .i64 tx,.int .i64 prev]] w fun e w'=>e=.returned (.int .i64 3)∧qa w w':=by
 go_enter func204,ntmps204;go_wp2;go_ret;exact ⟨rfl,(qab _ _).alloc qg _⟩
theorem fA (tx prev oid:Int) (a:qj) (next:Int) (w:World):Calls prog 205 #[.agg #[.int .i64 tx,.int .i64 prev,.int .i64 oid,.bool a.v.has,.int .i64 a.v.o.kind,.slice a.aI a.v.o.ints.length a.cI,.slice a.aR a.v.o.refs.length a.cR,.int .i64 next]] w fun e w'=>e=.returned (.int .i64 4)∧qa w w':=by
 go_enter func205,ntmps205;go_wp2;go_ret;exact ⟨rfl,(qab _ _).alloc qg _⟩
theorem tY (tx prev:Int) (w:World):Calls prog 206 #[.agg #[.int .i64 tx,.int .i64 prev]] w fun e w'=>e=.returned (.int .i64 5)∧qa w w':=by
 go_enter func206,ntmps206;go_wp2;go_ret;exact ⟨rfl,(qab _ _).alloc qg _⟩
theorem NP (ls:List qM) (aL:Option Addr) (cL:Nat) (w:World):Calls prog 207 #[.agg #[.slice aL ls.length cL]] w fun e w'=>e=.returned (.int .i64 6)∧qa w w':=by
 go_enter func207,ntmps207;go_wp2;go_ret;exact ⟨rfl,(qab _ _).alloc qg _⟩
theorem QA {w:World} {B:Nat} (r:ql) (b:Box w B r.cells 124):(loadVar 124 ⟨B,0,none⟩).run prog w=.ok (.agg r.cells.toArray) w:=
 qeI (P:=prog) w B 0 124 r.cells _ (qN b) underlying124 rfl (by show _=some 15;kernel_rfl)
def xK (n tx prev kind:Int):ql:=⟨n,tx,prev,kind,0,qw,qw,0,[],none,0⟩
theorem UU (n tx prev kind:Int) (w:World):Calls prog 202 #[.int .i64 n,.agg #[.int .i64 tx,.int .i64 prev],.int .i64 kind] w fun e w'=>e=.returned (.agg (xK n tx prev kind).cells.toArray)∧qa w w':=by
 obtain ⟨W,hW,b0,b1,hbW,qD⟩:=jK w [.int .i64 tx,.int .i64 prev] (xK n tx prev kind).cells 240 124;have HL:Hid (_=_):=QA (xK n tx prev kind) b1;simp only [xK,ql.cells,qw,qdo] at hW;clear qD b0 b1;go_enter func202,ntmps202;go_wp2;refine qa3 (v:=.agg (xK n tx prev kind).cells.toArray) (jQ results202 rfl ?_) rfl ⟨rfl,?_⟩
 ·rw [show _=W from hW.out];exact HL.out
 ·rw [show _=W from hW.out];exact hbW
theorem Ib (n:Int) (tx prev oid:Int) (b a:qj) (w:World):
  Calls prog 176 #[.int .i64 n,wM (XM tx prev oid b a)] w fun e w'=>e=.returned (.agg (ql.cells (⟨n,tx,prev,1,oid,b,a,0,[],none,0⟩)).toArray)∧qa w w':=by
 obtain ⟨W,hW,b0,b1,hbW,qD⟩:=jK w [.int .i64 0,.int .i64 0,.int .i64 0,.int .i64 0,.int .i64 0,.bool false,.int .i64 0,.slice none 0 0,.slice none 0 0,.bool false,.int .i64 0,.slice none 0 0,.slice none 0 0,.int .i64 0,.slice none 0 0] [.int .i64 tx,.int .i64 prev,.int .i64 oid,.bool b.v.has,.int .i64 b.v.o.kind,.slice b.aI b.v.o.ints.length b.cI,.slice b.aR b.v.o.refs.length b.cR,.bool a.v.has,.int .i64 a.v.o.kind,.slice a.aI a.v.o.ints.length a.cI,.slice a.aR a.v.o.refs.length a.cR] 124 242;simp only [wM,XM];have xN:=fun W=>ZJ W (.agg #[.int .i64 tx,.int .i64 prev,.int .i64 oid,.bool b.v.has,.int .i64 b.v.o.kind,.slice b.aI b.v.o.ints.length b.cI,.slice b.aR b.v.o.refs.length b.cR,.bool a.v.has,.int .i64 a.v.o.kind,.slice a.aI a.v.o.ints.length a.cI,.slice a.aR a.v.o.refs.length a.cR])
 have HB:Hid (∀ u,qa W u→Box u w.heap.size [.int .i64 0,.int .i64 0,.int .i64 0,.int .i64 0,.int .i64 0,.bool false,.int .i64 0,.slice none 0 0,.slice none 0 0,.bool false,.int .i64 0,.slice none 0 0,.slice none 0 0,.int .i64 0,.slice none 0 0] 124∧Box u (w.heap.size+1) [.int .i64 tx,.int .i64 prev,.int .i64 oid,.bool b.v.has,.int .i64 b.v.o.kind,.slice b.aI b.v.o.ints.length b.cI,.slice b.aR b.v.o.refs.length b.cR,.bool a.v.has,.int .i64 a.v.o.kind,.slice a.aI a.v.o.ints.length a.cI,.slice a.aR a.v.o.refs.length a.cR] 242):=fun u hu=>⟨b0.below hu b0.lt,b1.below hu b1.lt⟩
 have HC:Hid (∀ w',Box w' (w.heap.size+1) [.int .i64 tx,.int .i64 prev,.int .i64 oid,.bool b.v.has,.int .i64 b.v.o.kind,.slice b.aI b.v.o.ints.length b.cI,.slice b.aR b.v.o.refs.length b.cR,.bool a.v.has,.int .i64 a.v.o.kind,.slice a.aI a.v.o.ints.length a.cI,.slice a.aR a.v.o.refs.length a.cR] 242→w'.cell? ⟨w.heap.size+1,0,none⟩=some (.int .i64 tx)∧w'.cell? ⟨w.heap.size+1,1,none⟩=some (.int .i64 prev)∧w'.cell? ⟨w.heap.size+1,2,none⟩=some (.int .i64 oid)∧w'.cell? ⟨w.heap.size+1,3,none⟩=some (.bool b.v.has)∧w'.cell? ⟨w.heap.size+1,4,none⟩=some (.int .i64 b.v.o.kind)∧w'.cell? ⟨w.heap.size+1,5,none⟩=some (.slice b.aI b.v.o.ints.length b.cI)∧w'.cell? ⟨w.heap.size+1,6,none⟩=some (.slice b.aR b.v.o.refs.length b.cR)∧w'.cell? ⟨w.heap.size+1,7,none⟩=some (.bool a.v.has)∧w'.cell? ⟨w.heap.size+1,8,none⟩=some (.int .i64 a.v.o.kind)∧w'.cell? ⟨w.heap.size+1,9,none⟩=some (.slice a.aI a.v.o.ints.length a.cI)∧w'.cell? ⟨w.heap.size+1,10,none⟩=some (.slice a.aR a.v.o.refs.length a.cR)):=fun w' b=>⟨b.cell 0 _ rfl,b.cell 1 _ rfl,b.cell 2 _ rfl,b.cell 3 _ rfl,b.cell 4 _ rfl,b.cell 5 _ rfl,b.cell 6 _ rfl,b.cell 7 _ rfl,b.cell 8 _ rfl,b.cell 9 _ rfl,b.cell 10 _ rfl⟩
 have hh:=HC.out W b1;have hlt:=b1.lt;have HI:Hid ((prog.info? 124).map (·.size)=some 15):=by rw [Hid];kernel_rfl
 have HO:Hid (_):=qaf (ZL (⟨n,tx,prev,1,oid,b,a,0,[],none,0⟩));clear qD b0 b1;go_enter func176,ntmps176;go_wp2_with fail;rw [hW.out];clear hW xN;refine qaZ (S:=fun w'=>w'.cell? ⟨w.heap.size+1,0,none⟩=some (.int .i64 tx)∧w'.cell? ⟨w.heap.size+1,1,none⟩=some (.int .i64 prev)∧w'.cell? ⟨w.heap.size+1,2,none⟩=some (.int .i64 oid)∧w'.cell? ⟨w.heap.size+1,3,none⟩=some (.bool b.v.has)∧w'.cell? ⟨w.heap.size+1,4,none⟩=some (.int .i64 b.v.o.kind)∧w'.cell? ⟨w.heap.size+1,5,none⟩=some (.slice b.aI b.v.o.ints.length b.cI)∧w'.cell? ⟨w.heap.size+1,6,none⟩=some (.slice b.aR b.v.o.refs.length b.cR)∧w'.cell? ⟨w.heap.size+1,7,none⟩=some (.bool a.v.has)∧w'.cell? ⟨w.heap.size+1,8,none⟩=some (.int .i64 a.v.o.kind)∧w'.cell? ⟨w.heap.size+1,9,none⟩=some (.slice a.aI a.v.o.ints.length a.cI)∧w'.cell? ⟨w.heap.size+1,10,none⟩=some (.slice a.aR a.v.o.refs.length a.cR)) (by kernel_rfl) (HC.out _ (HB.out _ (qab _ _).drew).2) (fun qc=>?_)
 iterate 8 refine jv ?_
 refine jg 9 ?_;refine jg 10 ?_;refine jg 11 ?_;refine jg 12 ?_;refine jg 13 ?_;refine jg 14 ?_;refine jc 8 (fun K hK=>?_);go_simp;refine (tT tx prev oid b a _).mono ?_;rintro e u1 ⟨rfl,hb1⟩;have hB1:qa W u1:=((qab _ _).drew).trans hb1;refine qX hK (HC.out _ (HB.out _ hB1).2) fun qc=>?_
 clear hK K;try simp only [zz]
 have hBL:=hB1;refine jg 15 ?_;obtain ⟨WF,qK,bF,hwF,q8⟩:=jE [] [.int .i64 0,.int .i64 0,.int .i64 0,.int .i64 0,.int .i64 0,.bool false,.int .i64 0,.slice none 0 0,.slice none 0 0,.bool false,.int .i64 0,.slice none 0 0,.slice none 0 0,.int .i64 0,.slice none 0 0] (ql.cells (⟨n,tx,prev,1,oid,b,a,0,[],none,0⟩)) [] (by simpa using (HB.out _ hBL).1) rfl;have HF:Hid (qa w WF):=(qf hbW hBL).trans (hwF.below (by omega) (by have:=hBL.size;omega));have UW:Hid (_=_):=QA (⟨n,tx,prev,1,oid,b,a,0,[],none,0⟩) (by simpa using bF);have HS:Hid (WF.cell? ⟨w.heap.size+1,0,none⟩=some (.int .i64 tx)∧WF.cell? ⟨w.heap.size+1,1,none⟩=some (.int .i64 prev)∧WF.cell? ⟨w.heap.size+1,2,none⟩=some (.int .i64 oid)∧WF.cell? ⟨w.heap.size+1,3,none⟩=some (.bool b.v.has)∧WF.cell? ⟨w.heap.size+1,4,none⟩=some (.int .i64 b.v.o.kind)∧WF.cell? ⟨w.heap.size+1,5,none⟩=some (.slice b.aI b.v.o.ints.length b.cI)∧WF.cell? ⟨w.heap.size+1,6,none⟩=some (.slice b.aR b.v.o.refs.length b.cR)∧WF.cell? ⟨w.heap.size+1,7,none⟩=some (.bool a.v.has)∧WF.cell? ⟨w.heap.size+1,8,none⟩=some (.int .i64 a.v.o.kind)∧WF.cell? ⟨w.heap.size+1,9,none⟩=some (.slice a.aI a.v.o.ints.length a.cI)∧WF.cell? ⟨w.heap.size+1,10,none⟩=some (.slice a.aR a.v.o.refs.length a.cR)):=HC.out _ ((HB.out _ hBL).2.within hwF (by omega));refine jc 16 (fun K hK=>?_);rw [qan (by rfl)];refine qc7 124 (.tmp 4) (.tmp 30) rfl w.heap.size 0 (ql.cells (⟨n,tx,prev,1,oid,b,a,0,[],none,0⟩)).toArray rfl rfl ((HB.out _ hBL).1.there 0 _ (by show 0+15≤15;decide)) HI.out HO.out ?_;have HW:Hid (u1.setCells w.heap.size 0 (ql.cells (⟨n,tx,prev,1,oid,b,a,0,[],none,0⟩)).toArray.toList=WF):=qK.out;rw [HW.out];refine hK.out _ _ HS.out (fun qc=>?_);refine qau (by kernel_rfl) ?_ _;clear hwF qK HW hK K HS;go_wp2;exact qa3 (v:=.agg (ql.cells (⟨n,tx,prev,1,oid,b,a,0,[],none,0⟩)).toArray) (jQ results176 rfl UW.out) rfl ⟨rfl,HF.out⟩
theorem tZ (n:Int) (tx prev:Int) (w:World):
  Calls prog 176 #[.int .i64 n,zX (za tx prev)] w fun e w'=>e=.returned (.agg (ql.cells (xK n tx prev 2)).toArray)∧qa w w':=by
 obtain ⟨W,hW,b0,b1,hbW,qD⟩:=jK w [.int .i64 0,.int .i64 0,.int .i64 0,.int .i64 0,.int .i64 0,.bool false,.int .i64 0,.slice none 0 0,.slice none 0 0,.bool false,.int .i64 0,.slice none 0 0,.slice none 0 0,.int .i64 0,.slice none 0 0] [.int .i64 tx,.int .i64 prev] 124 246;simp only [zX,za];have xN:=fun W=>yw W 246 (.agg #[.int .i64 tx,.int .i64 prev]) (by decide)
 have xm:=fun W=>Ve W (.agg #[.int .i64 tx,.int .i64 prev])
 have HB:Hid (∀ u,qa W u→Box u w.heap.size [.int .i64 0,.int .i64 0,.int .i64 0,.int .i64 0,.int .i64 0,.bool false,.int .i64 0,.slice none 0 0,.slice none 0 0,.bool false,.int .i64 0,.slice none 0 0,.slice none 0 0,.int .i64 0,.slice none 0 0] 124∧Box u (w.heap.size+1) [.int .i64 tx,.int .i64 prev] 246):=fun u hu=>⟨b0.below hu b0.lt,b1.below hu b1.lt⟩
 have HC:Hid (∀ w',Box w' (w.heap.size+1) [.int .i64 tx,.int .i64 prev] 246→w'.cell? ⟨w.heap.size+1,0,none⟩=some (.int .i64 tx)∧w'.cell? ⟨w.heap.size+1,1,none⟩=some (.int .i64 prev)):=fun w' b=>⟨b.cell 0 _ rfl,b.cell 1 _ rfl⟩
 have hh:=HC.out W b1;have hlt:=b1.lt;have HI:Hid ((prog.info? 124).map (·.size)=some 15):=by rw [Hid];kernel_rfl
 have HO:Hid (_):=qaf (ZL (xK n tx prev 2));clear qD b0 b1;go_enter func176,ntmps176;go_wp2_with fail;rw [hW.out];clear hW xN xm;refine qaZ (S:=fun w'=>w'.cell? ⟨w.heap.size+1,0,none⟩=some (.int .i64 tx)∧w'.cell? ⟨w.heap.size+1,1,none⟩=some (.int .i64 prev)) (by kernel_rfl) (HC.out _ (HB.out _ (qab _ _).drew).2) (fun qc=>?_)
 iterate 4 refine jv ?_
 refine jc 4 (fun K hK=>?_);go_simp;refine (GR tx prev _).mono ?_;rintro e u1 ⟨rfl,hb1⟩;have hB1:qa W u1:=((qab _ _).drew).trans hb1;refine qX hK (HC.out _ (HB.out _ hB1).2) fun qc=>?_
 clear hK K;try simp only [zz]
 refine jc 5 (fun K hK=>?_);go_simp;refine (UU n tx prev 2 _).mono ?_;rintro e u2 ⟨rfl,hb2⟩;have hBL:=qf hB1 hb2;refine qX hK (HC.out _ (HB.out _ hBL).2) fun qc=>?_
 clear hK K;try simp only [zz]
 obtain ⟨WF,qK,bF,hwF,q8⟩:=jE [] [.int .i64 0,.int .i64 0,.int .i64 0,.int .i64 0,.int .i64 0,.bool false,.int .i64 0,.slice none 0 0,.slice none 0 0,.bool false,.int .i64 0,.slice none 0 0,.slice none 0 0,.int .i64 0,.slice none 0 0] (ql.cells (xK n tx prev 2)) [] (by simpa using (HB.out _ hBL).1) rfl;have HF:Hid (qa w WF):=(qf hbW hBL).trans (hwF.below (by omega) (by have:=hBL.size;omega));have UW:Hid (_=_):=QA (xK n tx prev 2) (by simpa using bF);have HS:Hid (WF.cell? ⟨w.heap.size+1,0,none⟩=some (.int .i64 tx)∧WF.cell? ⟨w.heap.size+1,1,none⟩=some (.int .i64 prev)):=HC.out _ ((HB.out _ hBL).2.within hwF (by omega));refine jc 6 (fun K hK=>?_);rw [qan (by rfl)];refine qc7 124 (.tmp 4) (.tmp 39) rfl w.heap.size 0 (ql.cells (xK n tx prev 2)).toArray rfl rfl ((HB.out _ hBL).1.there 0 _ (by show 0+15≤15;decide)) HI.out HO.out ?_;have HW:Hid (u2.setCells w.heap.size 0 (ql.cells (xK n tx prev 2)).toArray.toList=WF):=qK.out;rw [HW.out];refine hK.out _ _ HS.out (fun qc=>?_);refine qau (by kernel_rfl) ?_ _;clear hwF qK HW hK K HS;go_wp2;exact qa3 (v:=.agg (ql.cells (xK n tx prev 2)).toArray) (jQ results176 rfl UW.out) rfl ⟨rfl,HF.out⟩
theorem Ry (n:Int) (tx prev:Int) (w:World):
  Calls prog 176 #[.int .i64 n,vC (za tx prev)] w fun e w'=>e=.returned (.agg (ql.cells (xK n tx prev 3)).toArray)∧qa w w':=by
 obtain ⟨W,hW,b0,b1,hbW,qD⟩:=jK w [.int .i64 0,.int .i64 0,.int .i64 0,.int .i64 0,.int .i64 0,.bool false,.int .i64 0,.slice none 0 0,.slice none 0 0,.bool false,.int .i64 0,.slice none 0 0,.slice none 0 0,.int .i64 0,.slice none 0 0] [.int .i64 tx,.int .i64 prev] 124 247;simp only [vC,za];have xN:=fun W=>yw W 247 (.agg #[.int .i64 tx,.int .i64 prev]) (by decide)
 have xm:=fun W=>wO W 247 (.agg #[.int .i64 tx,.int .i64 prev]) (by decide)
 have yG:=fun W=>Uh W (.agg #[.int .i64 tx,.int .i64 prev])
 have HB:Hid (∀ u,qa W u→Box u w.heap.size [.int .i64 0,.int .i64 0,.int .i64 0,.int .i64 0,.int .i64 0,.bool false,.int .i64 0,.slice none 0 0,.slice none 0 0,.bool false,.int .i64 0,.slice none 0 0,.slice none 0 0,.int .i64 0,.slice none 0 0] 124∧Box u (w.heap.size+1) [.int .i64 tx,.int .i64 prev] 247):=fun u hu=>⟨b0.below hu b0.lt,b1.below hu b1.lt⟩
 have HC:Hid (∀ w',Box w' (w.heap.size+1) [.int .i64 tx,.int .i64 prev] 247→w'.cell? ⟨w.heap.size+1,0,none⟩=some (.int .i64 tx)∧w'.cell? ⟨w.heap.size+1,1,none⟩=some (.int .i64 prev)):=fun w' b=>⟨b.cell 0 _ rfl,b.cell 1 _ rfl⟩
 have hh:=HC.out W b1;have hlt:=b1.lt;have HI:Hid ((prog.info? 124).map (·.size)=some 15):=by rw [Hid];kernel_rfl
 have HO:Hid (_):=qaf (ZL (xK n tx prev 3));clear qD b0 b1;go_enter func176,ntmps176;go_wp2_with fail;rw [hW.out];clear hW xN xm yG;refine qaZ (S:=fun w'=>w'.cell? ⟨w.heap.size+1,0,none⟩=some (.int .i64 tx)∧w'.cell? ⟨w.heap.size+1,1,none⟩=some (.int .i64 prev)) (by kernel_rfl) (HC.out _ (HB.out _ (qab _ _).drew).2) (fun qc=>?_)
 iterate 4 refine jv ?_
 refine jc 4 (fun K hK=>?_);go_simp;refine (NN tx prev _).mono ?_;rintro e u1 ⟨rfl,hb1⟩;have hB1:qa W u1:=((qab _ _).drew).trans hb1;refine qX hK (HC.out _ (HB.out _ hB1).2) fun qc=>?_
 clear hK K;try simp only [zz]
 refine jc 5 (fun K hK=>?_);go_simp;refine (UU n tx prev 3 _).mono ?_;rintro e u2 ⟨rfl,hb2⟩;have hBL:=qf hB1 hb2;refine qX hK (HC.out _ (HB.out _ hBL).2) fun qc=>?_
 clear hK K;try simp only [zz]
 obtain ⟨WF,qK,bF,hwF,q8⟩:=jE [] [.int .i64 0,.int .i64 0,.int .i64 0,.int .i64 0,.int .i64 0,.bool false,.int .i64 0,.slice none 0 0,.slice none 0 0,.bool false,.int .i64 0,.slice none 0 0,.slice none 0 0,.int .i64 0,.slice none 0 0] (ql.cells (xK n tx prev 3)) [] (by simpa using (HB.out _ hBL).1) rfl;have HF:Hid (qa w WF):=(qf hbW hBL).trans (hwF.below (by omega) (by have:=hBL.size;omega));have UW:Hid (_=_):=QA (xK n tx prev 3) (by simpa using bF);have HS:Hid (WF.cell? ⟨w.heap.size+1,0,none⟩=some (.int .i64 tx)∧WF.cell? ⟨w.heap.size+1,1,none⟩=some (.int .i64 prev)):=HC.out _ ((HB.out _ hBL).2.within hwF (by omega));refine jc 6 (fun K hK=>?_);rw [qan (by rfl)];refine qc7 124 (.tmp 4) (.tmp 48) rfl w.heap.size 0 (ql.cells (xK n tx prev 3)).toArray rfl rfl ((HB.out _ hBL).1.there 0 _ (by show 0+15≤15;decide)) HI.out HO.out ?_;have HW:Hid (u2.setCells w.heap.size 0 (ql.cells (xK n tx prev 3)).toArray.toList=WF):=qK.out;rw [HW.out];refine hK.out _ _ HS.out (fun qc=>?_);refine qau (by kernel_rfl) ?_ _;clear hwF qK HW hK K HS;go_wp2;exact qa3 (v:=.agg (ql.cells (xK n tx prev 3)).toArray) (jQ results176 rfl UW.out) rfl ⟨rfl,HF.out⟩
theorem iC (n:Int) (tx prev oid:Int) (a:qj) (next:Int) (w:World):
  Calls prog 176 #[.int .i64 n,zG (JQ tx prev oid a next)] w fun e w'=>e=.returned (.agg (ql.cells (⟨n,tx,prev,4,oid,qw,a,next,[],none,0⟩)).toArray)∧qa w w':=by
 obtain ⟨W,hW,b0,b1,hbW,qD⟩:=jK w [.int .i64 0,.int .i64 0,.int .i64 0,.int .i64 0,.int .i64 0,.bool false,.int .i64 0,.slice none 0 0,.slice none 0 0,.bool false,.int .i64 0,.slice none 0 0,.slice none 0 0,.int .i64 0,.slice none 0 0] [.int .i64 tx,.int .i64 prev,.int .i64 oid,.bool a.v.has,.int .i64 a.v.o.kind,.slice a.aI a.v.o.ints.length a.cI,.slice a.aR a.v.o.refs.length a.cR,.int .i64 next] 124 244;simp only [zG,JQ];have xN:=fun W=>yw W 244 (.agg #[.int .i64 tx,.int .i64 prev,.int .i64 oid,.bool a.v.has,.int .i64 a.v.o.kind,.slice a.aI a.v.o.ints.length a.cI,.slice a.aR a.v.o.refs.length a.cR,.int .i64 next]) (by decide)
 have xm:=fun W=>wO W 244 (.agg #[.int .i64 tx,.int .i64 prev,.int .i64 oid,.bool a.v.has,.int .i64 a.v.o.kind,.slice a.aI a.v.o.ints.length a.cI,.slice a.aR a.v.o.refs.length a.cR,.int .i64 next]) (by decide)
 have yG:=fun W=>Qk W 244 (.agg #[.int .i64 tx,.int .i64 prev,.int .i64 oid,.bool a.v.has,.int .i64 a.v.o.kind,.slice a.aI a.v.o.ints.length a.cI,.slice a.aR a.v.o.refs.length a.cR,.int .i64 next]) (by decide)
 have vE:=fun W=>Yz W (.agg #[.int .i64 tx,.int .i64 prev,.int .i64 oid,.bool a.v.has,.int .i64 a.v.o.kind,.slice a.aI a.v.o.ints.length a.cI,.slice a.aR a.v.o.refs.length a.cR,.int .i64 next])
 have HB:Hid (∀ u,qa W u→Box u w.heap.size [.int .i64 0,.int .i64 0,.int .i64 0,.int .i64 0,.int .i64 0,.bool false,.int .i64 0,.slice none 0 0,.slice none 0 0,.bool false,.int .i64 0,.slice none 0 0,.slice none 0 0,.int .i64 0,.slice none 0 0] 124∧Box u (w.heap.size+1) [.int .i64 tx,.int .i64 prev,.int .i64 oid,.bool a.v.has,.int .i64 a.v.o.kind,.slice a.aI a.v.o.ints.length a.cI,.slice a.aR a.v.o.refs.length a.cR,.int .i64 next] 244):=fun u hu=>⟨b0.below hu b0.lt,b1.below hu b1.lt⟩
 have HC:Hid (∀ w',Box w' (w.heap.size+1) [.int .i64 tx,.int .i64 prev,.int .i64 oid,.bool a.v.has,.int .i64 a.v.o.kind,.slice a.aI a.v.o.ints.length a.cI,.slice a.aR a.v.o.refs.length a.cR,.int .i64 next] 244→w'.cell? ⟨w.heap.size+1,0,none⟩=some (.int .i64 tx)∧w'.cell? ⟨w.heap.size+1,1,none⟩=some (.int .i64 prev)∧w'.cell? ⟨w.heap.size+1,2,none⟩=some (.int .i64 oid)∧w'.cell? ⟨w.heap.size+1,3,none⟩=some (.bool a.v.has)∧w'.cell? ⟨w.heap.size+1,4,none⟩=some (.int .i64 a.v.o.kind)∧w'.cell? ⟨w.heap.size+1,5,none⟩=some (.slice a.aI a.v.o.ints.length a.cI)∧w'.cell? ⟨w.heap.size+1,6,none⟩=some (.slice a.aR a.v.o.refs.length a.cR)∧w'.cell? ⟨w.heap.size+1,7,none⟩=some (.int .i64 next)):=fun w' b=>⟨b.cell 0 _ rfl,b.cell 1 _ rfl,b.cell 2 _ rfl,b.cell 3 _ rfl,b.cell 4 _ rfl,b.cell 5 _ rfl,b.cell 6 _ rfl,b.cell 7 _ rfl⟩
 have hh:=HC.out W b1;have hlt:=b1.lt;have HI:Hid ((prog.info? 124).map (·.size)=some 15):=by rw [Hid];kernel_rfl
 have HO:Hid (_):=qaf (ZL (⟨n,tx,prev,4,oid,qw,a,next,[],none,0⟩));clear qD b0 b1;go_enter func176,ntmps176;go_wp2_with fail;rw [hW.out];clear hW xN xm yG vE;refine qaZ (S:=fun w'=>w'.cell? ⟨w.heap.size+1,0,none⟩=some (.int .i64 tx)∧w'.cell? ⟨w.heap.size+1,1,none⟩=some (.int .i64 prev)∧w'.cell? ⟨w.heap.size+1,2,none⟩=some (.int .i64 oid)∧w'.cell? ⟨w.heap.size+1,3,none⟩=some (.bool a.v.has)∧w'.cell? ⟨w.heap.size+1,4,none⟩=some (.int .i64 a.v.o.kind)∧w'.cell? ⟨w.heap.size+1,5,none⟩=some (.slice a.aI a.v.o.ints.length a.cI)∧w'.cell? ⟨w.heap.size+1,6,none⟩=some (.slice a.aR a.v.o.refs.length a.cR)∧w'.cell? ⟨w.heap.size+1,7,none⟩=some (.int .i64 next)) (by kernel_rfl) (HC.out _ (HB.out _ (qab _ _).drew).2) (fun qc=>?_)
 iterate 8 refine jv ?_
 refine jg 9 ?_;refine jg 10 ?_;refine jg 11 ?_;refine jg 12 ?_;refine jg 13 ?_;refine jg 14 ?_;refine jc 8 (fun K hK=>?_);go_simp;refine (fA tx prev oid a next _).mono ?_;rintro e u1 ⟨rfl,hb1⟩;have hB1:qa W u1:=((qab _ _).drew).trans hb1;refine qX hK (HC.out _ (HB.out _ hB1).2) fun qc=>?_
 clear hK K;try simp only [zz]
 have hBL:=hB1;refine jg 15 ?_;obtain ⟨WF,qK,bF,hwF,q8⟩:=jE [] [.int .i64 0,.int .i64 0,.int .i64 0,.int .i64 0,.int .i64 0,.bool false,.int .i64 0,.slice none 0 0,.slice none 0 0,.bool false,.int .i64 0,.slice none 0 0,.slice none 0 0,.int .i64 0,.slice none 0 0] (ql.cells (⟨n,tx,prev,4,oid,qw,a,next,[],none,0⟩)) [] (by simpa using (HB.out _ hBL).1) rfl;have HF:Hid (qa w WF):=(qf hbW hBL).trans (hwF.below (by omega) (by have:=hBL.size;omega));have UW:Hid (_=_):=QA (⟨n,tx,prev,4,oid,qw,a,next,[],none,0⟩) (by simpa using bF);have HS:Hid (WF.cell? ⟨w.heap.size+1,0,none⟩=some (.int .i64 tx)∧WF.cell? ⟨w.heap.size+1,1,none⟩=some (.int .i64 prev)∧WF.cell? ⟨w.heap.size+1,2,none⟩=some (.int .i64 oid)∧WF.cell? ⟨w.heap.size+1,3,none⟩=some (.bool a.v.has)∧WF.cell? ⟨w.heap.size+1,4,none⟩=some (.int .i64 a.v.o.kind)∧WF.cell? ⟨w.heap.size+1,5,none⟩=some (.slice a.aI a.v.o.ints.length a.cI)∧WF.cell? ⟨w.heap.size+1,6,none⟩=some (.slice a.aR a.v.o.refs.length a.cR)∧WF.cell? ⟨w.heap.size+1,7,none⟩=some (.int .i64 next)):=HC.out _ ((HB.out _ hBL).2.within hwF (by omega));refine jc 16 (fun K hK=>?_);rw [qan (by rfl)];refine qc7 124 (.tmp 4) (.tmp 67) rfl w.heap.size 0 (ql.cells (⟨n,tx,prev,4,oid,qw,a,next,[],none,0⟩)).toArray rfl rfl ((HB.out _ hBL).1.there 0 _ (by show 0+15≤15;decide)) HI.out HO.out ?_;have HW:Hid (u1.setCells w.heap.size 0 (ql.cells (⟨n,tx,prev,4,oid,qw,a,next,[],none,0⟩)).toArray.toList=WF):=qK.out;rw [HW.out];refine hK.out _ _ HS.out (fun qc=>?_);refine qau (by kernel_rfl) ?_ _;clear hwF qK HW hK K HS;go_wp2;exact qa3 (v:=.agg (ql.cells (⟨n,tx,prev,4,oid,qw,a,next,[],none,0⟩)).toArray) (jQ results176 rfl UW.out) rfl ⟨rfl,HF.out⟩
theorem Ic (n:Int) (tx prev:Int) (w:World):
  Calls prog 176 #[.int .i64 n,uU (za tx prev)] w fun e w'=>e=.returned (.agg (ql.cells (xK n tx prev 5)).toArray)∧qa w w':=by
 obtain ⟨W,hW,b0,b1,hbW,qD⟩:=jK w [.int .i64 0,.int .i64 0,.int .i64 0,.int .i64 0,.int .i64 0,.bool false,.int .i64 0,.slice none 0 0,.slice none 0 0,.bool false,.int .i64 0,.slice none 0 0,.slice none 0 0,.int .i64 0,.slice none 0 0] [.int .i64 tx,.int .i64 prev] 124 248;simp only [uU,za];have xN:=fun W=>yw W 248 (.agg #[.int .i64 tx,.int .i64 prev]) (by decide)
 have xm:=fun W=>wO W 248 (.agg #[.int .i64 tx,.int .i64 prev]) (by decide)
 have yG:=fun W=>Qk W 248 (.agg #[.int .i64 tx,.int .i64 prev]) (by decide)
 have vE:=fun W=>uq W 248 (.agg #[.int .i64 tx,.int .i64 prev]) (by decide)
 have Q5:=fun W=>mF W (.agg #[.int .i64 tx,.int .i64 prev])
 have HB:Hid (∀ u,qa W u→Box u w.heap.size [.int .i64 0,.int .i64 0,.int .i64 0,.int .i64 0,.int .i64 0,.bool false,.int .i64 0,.slice none 0 0,.slice none 0 0,.bool false,.int .i64 0,.slice none 0 0,.slice none 0 0,.int .i64 0,.slice none 0 0] 124∧Box u (w.heap.size+1) [.int .i64 tx,.int .i64 prev] 248):=fun u hu=>⟨b0.below hu b0.lt,b1.below hu b1.lt⟩
 have HC:Hid (∀ w',Box w' (w.heap.size+1) [.int .i64 tx,.int .i64 prev] 248→w'.cell? ⟨w.heap.size+1,0,none⟩=some (.int .i64 tx)∧w'.cell? ⟨w.heap.size+1,1,none⟩=some (.int .i64 prev)):=fun w' b=>⟨b.cell 0 _ rfl,b.cell 1 _ rfl⟩
 have hh:=HC.out W b1;have hlt:=b1.lt;have HI:Hid ((prog.info? 124).map (·.size)=some 15):=by rw [Hid];kernel_rfl
 have HO:Hid (_):=qaf (ZL (xK n tx prev 5));clear qD b0 b1;go_enter func176,ntmps176;go_wp2_with fail;rw [hW.out];clear hW xN xm yG vE Q5;refine qaZ (S:=fun w'=>w'.cell? ⟨w.heap.size+1,0,none⟩=some (.int .i64 tx)∧w'.cell? ⟨w.heap.size+1,1,none⟩=some (.int .i64 prev)) (by kernel_rfl) (HC.out _ (HB.out _ (qab _ _).drew).2) (fun qc=>?_)
 iterate 4 refine jv ?_
 refine jc 4 (fun K hK=>?_);go_simp;refine (tY tx prev _).mono ?_;rintro e u1 ⟨rfl,hb1⟩;have hB1:qa W u1:=((qab _ _).drew).trans hb1;refine qX hK (HC.out _ (HB.out _ hB1).2) fun qc=>?_
 clear hK K;try simp only [zz]
 refine jc 5 (fun K hK=>?_);go_simp;refine (UU n tx prev 5 _).mono ?_;rintro e u2 ⟨rfl,hb2⟩;have hBL:=qf hB1 hb2;refine qX hK (HC.out _ (HB.out _ hBL).2) fun qc=>?_
 clear hK K;try simp only [zz]
 obtain ⟨WF,qK,bF,hwF,q8⟩:=jE [] [.int .i64 0,.int .i64 0,.int .i64 0,.int .i64 0,.int .i64 0,.bool false,.int .i64 0,.slice none 0 0,.slice none 0 0,.bool false,.int .i64 0,.slice none 0 0,.slice none 0 0,.int .i64 0,.slice none 0 0] (ql.cells (xK n tx prev 5)) [] (by simpa using (HB.out _ hBL).1) rfl;have HF:Hid (qa w WF):=(qf hbW hBL).trans (hwF.below (by omega) (by have:=hBL.size;omega));have UW:Hid (_=_):=QA (xK n tx prev 5) (by simpa using bF);have HS:Hid (WF.cell? ⟨w.heap.size+1,0,none⟩=some (.int .i64 tx)∧WF.cell? ⟨w.heap.size+1,1,none⟩=some (.int .i64 prev)):=HC.out _ ((HB.out _ hBL).2.within hwF (by omega));refine jc 6 (fun K hK=>?_);rw [qan (by rfl)];refine qc7 124 (.tmp 4) (.tmp 76) rfl w.heap.size 0 (ql.cells (xK n tx prev 5)).toArray rfl rfl ((HB.out _ hBL).1.there 0 _ (by show 0+15≤15;decide)) HI.out HO.out ?_;have HW:Hid (u2.setCells w.heap.size 0 (ql.cells (xK n tx prev 5)).toArray.toList=WF):=qK.out;rw [HW.out];refine hK.out _ _ HS.out (fun qc=>?_);refine qau (by kernel_rfl) ?_ _;clear hwF qK HW hK K HS;go_wp2;exact qa3 (v:=.agg (ql.cells (xK n tx prev 5)).toArray) (jQ results176 rfl UW.out) rfl ⟨rfl,HF.out⟩
theorem Rz (n:Int) (ls:List qM) (aL:Option Addr) (cL:Nat) (w:World):
  Calls prog 176 #[.int .i64 n,vF (Kj ls aL cL)] w fun e w'=>e=.returned (.agg (ql.cells (⟨n,0,0,6,0,qw,qw,0,ls,aL,cL⟩)).toArray)∧qa w w':=by
 obtain ⟨W,hW,b0,b1,hbW,qD⟩:=jK w [.int .i64 0,.int .i64 0,.int .i64 0,.int .i64 0,.int .i64 0,.bool false,.int .i64 0,.slice none 0 0,.slice none 0 0,.bool false,.int .i64 0,.slice none 0 0,.slice none 0 0,.int .i64 0,.slice none 0 0] [.slice aL ls.length cL] 124 250;simp only [vF,Kj];have xN:=fun W=>yw W 250 (.agg #[.slice aL ls.length cL]) (by decide)
 have xm:=fun W=>wO W 250 (.agg #[.slice aL ls.length cL]) (by decide)
 have yG:=fun W=>Qk W 250 (.agg #[.slice aL ls.length cL]) (by decide)
 have vE:=fun W=>uq W 250 (.agg #[.slice aL ls.length cL]) (by decide)
 have Q5:=fun W=>GQ W 250 (.agg #[.slice aL ls.length cL]) (by decide)
 have Xj:=fun W=>Ui W (.agg #[.slice aL ls.length cL])
 have HB:Hid (∀ u,qa W u→Box u w.heap.size [.int .i64 0,.int .i64 0,.int .i64 0,.int .i64 0,.int .i64 0,.bool false,.int .i64 0,.slice none 0 0,.slice none 0 0,.bool false,.int .i64 0,.slice none 0 0,.slice none 0 0,.int .i64 0,.slice none 0 0] 124∧Box u (w.heap.size+1) [.slice aL ls.length cL] 250):=fun u hu=>⟨b0.below hu b0.lt,b1.below hu b1.lt⟩
 have HC:Hid (∀ w',Box w' (w.heap.size+1) [.slice aL ls.length cL] 250→w'.cell? ⟨w.heap.size+1,0,none⟩=some (.slice aL ls.length cL)):=fun w' b=>b.cell 0 _ rfl
 have hh:=HC.out W b1;have hlt:=b1.lt;have HI:Hid ((prog.info? 124).map (·.size)=some 15):=by rw [Hid];kernel_rfl
 have HO:Hid (_):=qaf (ZL (⟨n,0,0,6,0,qw,qw,0,ls,aL,cL⟩));clear qD b0 b1;go_enter func176,ntmps176;go_wp2_with fail;rw [hW.out];clear hW xN xm yG vE Q5 Xj;refine qaZ (S:=fun w'=>w'.cell? ⟨w.heap.size+1,0,none⟩=some (.slice aL ls.length cL)) (by kernel_rfl) (HC.out _ (HB.out _ (qab _ _).drew).2) (fun qc=>?_)
 iterate 2 refine jv ?_
 refine jg 3 ?_;refine jg 4 ?_;refine jc 2 (fun K hK=>?_);go_simp;refine (NP ls aL cL _).mono ?_;rintro e u1 ⟨rfl,hb1⟩;have hB1:qa W u1:=((qab _ _).drew).trans hb1;refine qX hK (HC.out _ (HB.out _ hB1).2) fun qc=>?_
 clear hK K;try simp only [zz]
 have hBL:=hB1;refine jg 5 ?_;obtain ⟨WF,qK,bF,hwF,q8⟩:=jE [] [.int .i64 0,.int .i64 0,.int .i64 0,.int .i64 0,.int .i64 0,.bool false,.int .i64 0,.slice none 0 0,.slice none 0 0,.bool false,.int .i64 0,.slice none 0 0,.slice none 0 0,.int .i64 0,.slice none 0 0] (ql.cells (⟨n,0,0,6,0,qw,qw,0,ls,aL,cL⟩)) [] (by simpa using (HB.out _ hBL).1) rfl;have HF:Hid (qa w WF):=(qf hbW hBL).trans (hwF.below (by omega) (by have:=hBL.size;omega));have UW:Hid (_=_):=QA (⟨n,0,0,6,0,qw,qw,0,ls,aL,cL⟩) (by simpa using bF);have HS:Hid (WF.cell? ⟨w.heap.size+1,0,none⟩=some (.slice aL ls.length cL)):=HC.out _ ((HB.out _ hBL).2.within hwF (by omega));refine jc 6 (fun K hK=>?_);rw [qan (by rfl)];refine qc7 124 (.tmp 4) (.tmp 85) rfl w.heap.size 0 (ql.cells (⟨n,0,0,6,0,qw,qw,0,ls,aL,cL⟩)).toArray rfl rfl ((HB.out _ hBL).1.there 0 _ (by show 0+15≤15;decide)) HI.out HO.out ?_;have HW:Hid (u1.setCells w.heap.size 0 (ql.cells (⟨n,0,0,6,0,qw,qw,0,ls,aL,cL⟩)).toArray.toList=WF):=qK.out;rw [HW.out];refine hK.out _ _ HS.out (fun qc=>?_);refine qau (by kernel_rfl) ?_ _;clear hwF qK HW hK K HS;go_wp2;exact qa3 (v:=.agg (ql.cells (⟨n,0,0,6,0,qw,qw,0,ls,aL,cL⟩)).toArray) (jQ results176 rfl UW.out) rfl ⟨rfl,HF.out⟩
theorem Ie (n:Int) (w:World):Calls prog 176 #[.int .i64 n,.nilIface] w fun e w'=>e=.returned (.agg (xK 0 0 0 0).cells.toArray)∧qa w w':=by
 obtain ⟨W,hW,b1,hbW,qD⟩:=qB w (xK 0 0 0 0).cells 124;have HL:Hid (_=_):=QA (xK 0 0 0 0) b1;simp only [xK,ql.cells,qw,qdo] at hW;clear qD b1;have xN:=ZK;have xm:=Vf;have yG:=Uj;have vE:=YA;have Q5:=mG;have Xj:=Uk;go_enter func176,ntmps176;go_wp2;refine qa3 (v:=.agg (xK 0 0 0 0).cells.toArray) (jQ results176 rfl ?_) rfl ⟨rfl,?_⟩
 ·rw [show _=W from hW.out];exact HL.out
 ·rw [show _=W from hW.out];exact hbW
end Go.Proofs.YtnfdccldabbobaaGreatDoor
