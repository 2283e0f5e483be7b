/- Texts. -/
import Derived.Test.YtnfdccldabbobaaGreatDoorP9
set_option maxHeartbeats 8000000
set_option maxRecDepth 100000
namespace Go.Proofs.YtnfdccldabbobaaGreatDoor
open Go.RowKit Go.Proofs.Tryz
def JR (a b:qM):Bool:=decide (a.tx=b.tx) && (decide (a.last=b.last) && (a.aborts == b.aborts))
theorem II {a b:qM}:JR a b=true ↔ a=b:=by
 obtain ⟨a1,a2,a3⟩:=a;obtain ⟨b1,b2,b3⟩:=b;simp [JR]
def Qo (xs ys:List qM):Bool:=decide (xs.length=ys.length) && (List.range xs.length).all fun k=>JR (xs.getD k qz) (ys.getD k qz)
theorem Hl {xs ys:List qM} (h:¬ xs.length=ys.length):Qo xs ys=false:=by simp [Qo,h]
theorem IJ {xs ys:List qM} (k:Nat) (hk:k<xs.length) (h:JR (xs.getD k qz) (ys.getD k qz)=false):Qo xs ys=false:=by
 have:((List.range xs.length).all fun k=>JR (xs.getD k qz) (ys.getD k qz))=false:=by
  rw [qfw];exact ⟨k,qds.2 hk,by rw [h];decide⟩
 unfold Qo;rw [this,Bool.and_false]
theorem Hm {xs ys:List qM} (hl:xs.length=ys.length) (h:∀ k,k<xs.length→JR (xs.getD k qz) (ys.getD k qz)=true):Qo xs ys=true:=by
 have:((List.range xs.length).all fun k=>JR (xs.getD k qz) (ys.getD k qz))=true:=by
  rw [qdt];exact fun k hk=>h k (qds.1 hk)
 unfold Qo;rw [this,Bool.and_true];exact qaC hl
theorem RP (xs:List qM):Qo xs xs=true:=Hm rfl (fun _ _=>II.2 rfl)
theorem VN (xs:List qM):Qo [] xs=decide (xs.length=0):=by
 cases xs with
 | nil=>rfl
 | cons x r=>rw [Hl (by simp)];simp
theorem Bv (a b:qM) (w:World):(binOp .neq 115 (.agg #[.int .i64 a.tx,.int .i64 a.last,.bool a.aborts]) (.agg #[.int .i64 b.tx,.int .i64 b.last,.bool b.aborts])).run prog w=.ok (.bool (!JR a b)) w:=by
 obtain ⟨a1,a2,a3⟩:=a;obtain ⟨b1,b2,b3⟩:=b;have hp:prog.stoodInHeld 115=false:=by kernel_rfl
 by_cases h1:a1=b1<;>by_cases h2:a2=b2<;>cases a3<;>cases b3<;>go_simp<;>simp_all [JR]
theorem NU (a b:Option Addr) (ca cb:Nat) (xs ys:List qM) (w:World) (ha:kQ w a xs) (hb:kQ w b ys) (hl:xs.length≤1099511627776) (hl2:ys.length≤1099511627776):
  Calls prog 200 #[.slice a xs.length ca,.slice b ys.length cb] w fun e w'=>e=.returned (.bool (Qo xs ys))∧∃ n,w'=w.drewN n:=by
 by_cases hle:xs.length=ys.length
 case neg=>
  have HE:Hid (_=_):=Hl hle;have Wd:((xs.length:Int) == (ys.length:Int))=false:=by simp;omega
  go_enter func200,ntmps200;go_wp2;go_ret;exact ⟨qm HE.out.symm,0,rfl⟩
 case pos=>
 have HL:Hid (xs.length=ys.length):=hle;have Wd:((xs.length:Int) == (ys.length:Int))=true:=by simp;omega
 rcases ha.cases with rfl | ⟨b1,o1,rfl,hpos,hc1⟩
 ·obtain rfl:ys=[]:=qcI.1 (by simpa using hle.symm);have HE:Hid (Qo [] []=true):=rfl;clear hle Wd HL;go_enter func200,ntmps200;go_wp2;refine qdp 1 ?_;rw [qdC];go_wp2;go_ret;exact ⟨qm HE.out.symm,0,rfl⟩
 ·rcases hb.cases with rfl | ⟨b2,o2,rfl,_,hc2⟩
  ·simp at hle;simp [hle] at hpos
  ·clear hle;go_enter func200,ntmps200;go_wp2;go_loopw [13] (fun i wr=>∃ k:Nat,k≤xs.length∧i=.int .i64 k∧Hid (∀ t,t<k→JR (xs.getD t qz) (ys.getD t qz)=true)∧∃ n,wr=w.drewN n) (fun i _=>xs.length-(intOf i).toNat)
   case atStart=>exact ⟨0,qaw _,rfl,fun t ht=>by omega,0,rfl⟩
   case round=>
    obtain ⟨k,hk,rfl,hall,n,rfl⟩:=hrel;by_cases hlt:k<xs.length
    ·obtain ⟨h10,h11,h12⟩:=hc1 k hlt;obtain ⟨h20,h21,h22⟩:=hc2 k (by have:=HL.out;omega);have hlt2:(k:Int)<(ys.length:Int):=by have:=HL.out;omega
     have hnl:=Bv (xs.getD k qz) (ys.getD k qz);clear hc1 hc2;cases hz:JR (xs.getD k qz) (ys.getD k qz) with
     | true=>
      have HN:Hid (∀ t,t<k+1→JR (xs.getD t qz) (ys.getD t qz)=true):=by
       intro t ht;by_cases e:t=k
       ·rw [e];exact hz
       ·exact hall.out t (by omega)
      rw [hz] at hnl;clear hz;generalize xs.getD k qz=z at*
      generalize ys.getD k qz=y at*
      go_wp2
      go_quiet (fail)
      go_wp2;go_roundw
      case rel=>exact ⟨k+1,by omega,by go_num,HN,_,rfl⟩
      case measure=>simp [intOf];omega
     | false=>
      have HE:Hid (_=_):=IJ k hlt hz;rw [hz] at hnl;clear hz;generalize xs.getD k qz=z at*
      generalize ys.getD k qz=y at*
      go_wp2
      go_quiet (fail)
      go_wp2;go_ret;exact ⟨qm HE.out.symm,n+nq,by first | rfl | simp⟩
    ·have HE:Hid (_=_):=Hm HL.out (fun t ht=>hall.out t (by omega));go_wp2;go_ret;exact ⟨qm HE.out.symm,n,rfl⟩
def ym (a b:qO):Bool:=(a.has == b.has) && zR a.o b.o
theorem J2 (s t:qj) (w:World) (hs:s.reads w) (ht:t.reads w) (hls:Fit [s]) (hlt:Fit [t]):
  Calls prog 177 #[.agg s.cells.toArray,.agg t.cells.toArray] w fun e w'=>e=.returned (.bool (ym s.v t.v))∧qa w w':=by
 obtain ⟨h1,h2⟩:=hls s (qac.2 rfl);obtain ⟨h3,h4⟩:=hlt t (qac.2 rfl);obtain ⟨W,hW,b0,b1,hbW,qD⟩:=jK w s.cells t.cells 45 45;have C1:=Zm s.v.o t.v.o s.aI s.cI s.aR s.cR t.aI t.cI t.aR t.cR W (jd.below hs hbW) (jd.below ht hbW) h1 h2 h3 h4;have HZ:Hid (ym s.v t.v=((s.v.has == t.v.has) && zR s.v.o t.v.o)):=rfl;generalize ym s.v t.v=R at*
 simp only [qj.cells] at*
 obtain ⟨x0,x1,x2,x3,_⟩:=b0.four;obtain ⟨y0,y1,y2,y3,_⟩:=b1.four;clear qD b0 b1;cases hb:(s.v.has == t.v.has) with
 | false=>
  have HR:Hid (R=false):=by rw [Hid,HZ.out];simp [hb]
  clear HZ C1;go_enter func177,ntmps177;go_wp2;go_ret;exact ⟨qm HR.out.symm,by rw [hW.out];exact hbW⟩
 | true=>
  have HR:Hid (R=zR s.v.o t.v.o):=by rw [Hid,HZ.out];simp [hb]
  clear HZ;go_enter func177,ntmps177;go_wp2_with fail;rw [hW.out];refine C1.mono ?_;clear C1 x0 x1 x2 x3 y0 y1 y2 y3;rintro e w1 ⟨rfl,hb1⟩;go_wp2;go_ret;exact ⟨qm HR.out.symm,qf hbW hb1⟩
def vG (r t:xS):Bool:=((r.lsn == t.lsn) && ((r.tx == t.tx) && ((r.prev == t.prev) && ((r.kind == t.kind) && ((r.oid == t.oid) && (ym r.bf t.bf && (ym r.af t.af && ((r.next == t.next) && Qo r.txs t.txs))))))))
theorem RQ (r t:ql) (w:World) (hr:r.reads w) (ht:t.reads w) (hlr:r.short 1099511627776) (hlt:t.short 1099511627776):
  Calls prog 175 #[.agg r.cells.toArray,.agg t.cells.toArray] w fun e w'=>e=.returned (.bool (vG r.v t.v))∧qa w w':=by
 obtain ⟨W,hW,b0,b1,hbW,qD⟩:=jK w r.cells t.cells 124 124;have HZ:Hid (vG r.v t.v=((r.lsn == t.lsn) && ((r.tx == t.tx) && ((r.prev == t.prev) && ((r.kind == t.kind) && ((r.oid == t.oid) && (ym r.bf.v t.bf.v && (ym r.af.v t.af.v && ((r.next == t.next) && Qo r.txs t.txs))))))))):=rfl;have HB:Hid (∀ u,qa w u→Calls _ _ _ _ _):=fun u hu=>J2 r.bf t.bf u (jd.below hr.bf hu) (jd.below ht.bf hu) (fun s hs=>by obtain rfl:=qac.1 hs;exact hlr.bf) (fun s hs=>by obtain rfl:=qac.1 hs;exact hlt.bf)
 have HA:Hid (∀ u,qa w u→Calls _ _ _ _ _):=fun u hu=>J2 r.af t.af u (jd.below hr.af hu) (jd.below ht.af hu) (fun s hs=>by obtain rfl:=qac.1 hs;exact hlr.af) (fun s hs=>by obtain rfl:=qac.1 hs;exact hlt.af)
 have HL:Hid (∀ u,qa w u→Calls _ _ _ _ _):=fun u hu=>NU r.aL t.aL r.cL t.cL r.txs t.txs u (hr.txs.below hu) (ht.txs.below hu) hlr.txs hlt.txs
 have HX:Hid (∀ u,qa W u→Box u w.heap.size r.cells 124∧Box u (w.heap.size+1) t.cells 124):=fun u hu=>⟨b0.below hu b0.lt,b1.below hu b1.lt⟩
 generalize vG r.v t.v=R at*
 clear qD hr ht hlr hlt b0 b1;simp only [ql.cells,qj.cells] at*
 have l0:qa W W:=qab _ _;obtain ⟨x0,x1,x2,x3,x4,x5,x6,x7,x8,x9,xO,yA,yE,yQ,yC⟩:=fifteen (HX.out W l0).1;obtain ⟨y0,y1,y2,y3,y4,y5,y6,y7,y8,y9,We,Vj,Vk,y13,Ho⟩:=fifteen (HX.out W l0).2;go_enter func175,ntmps175;cases c0:(r.lsn == t.lsn) with
 | false=>
  have HR:Hid (R=false):=by rw [Hid,HZ.out];simp [c0]
  clear HZ;go_wp2;go_ret;exact ⟨qm HR.out.symm,by rw [hW.out];exact hbW⟩
 | true=>
  cases c1:(r.tx == t.tx) with
  | false=>
   have HR:Hid (R=false):=by rw [Hid,HZ.out];simp [c0,c1]
   clear HZ;go_wp2;go_ret;exact ⟨qm HR.out.symm,by rw [hW.out];exact hbW⟩
  | true=>
   cases c2:(r.prev == t.prev) with
   | false=>
    have HR:Hid (R=false):=by rw [Hid,HZ.out];simp [c0,c1,c2]
    clear HZ;go_wp2;go_ret;exact ⟨qm HR.out.symm,by rw [hW.out];exact hbW⟩
   | true=>
    cases c3:(r.kind == t.kind) with
    | false=>
     have HR:Hid (R=false):=by rw [Hid,HZ.out];simp [c0,c1,c2,c3]
     clear HZ;go_wp2;go_ret;exact ⟨qm HR.out.symm,by rw [hW.out];exact hbW⟩
    | true=>
     cases c4:(r.oid == t.oid) with
     | false=>
      have HR:Hid (R=false):=by rw [Hid,HZ.out];simp [c0,c1,c2,c3,c4]
      clear HZ;go_wp2;go_ret;exact ⟨qm HR.out.symm,by rw [hW.out];exact hbW⟩
     | true=>
      go_wp2_with fail;rw [hW.out];clear hW;refine (HB.out W hbW).mono ?_;clear x0 x1 x2 x3 x4 x5 x6 x7 x8 x9 xO yA yE yQ yC y0 y1 y2 y3 y4 y5 y6 y7 y8 y9 We Vj Vk y13 Ho;rintro e u5 ⟨rfl,hb5⟩;have b_5:qa w u5:=(hbW).trans (hb5.mono (hbW).size);have l_5:qa W u5:=(l0).trans (hb5.mono (l0).size);obtain ⟨x0,x1,x2,x3,x4,x5,x6,x7,x8,x9,xO,yA,yE,yQ,yC⟩:=fifteen (HX.out u5 l_5).1;obtain ⟨y0,y1,y2,y3,y4,y5,y6,y7,y8,y9,We,Vj,Vk,y13,Ho⟩:=fifteen (HX.out u5 l_5).2;clear hb5;cases c5:ym r.bf.v t.bf.v with
      | false=>
       have HR:Hid (R=false):=by rw [Hid,HZ.out];simp [c0,c1,c2,c3,c4,c5]
       clear HZ;go_wp2;go_ret;exact ⟨qm HR.out.symm,b_5⟩
      | true=>
       go_wp2_with fail;refine (HA.out u5 b_5).mono ?_;clear x0 x1 x2 x3 x4 x5 x6 x7 x8 x9 xO yA yE yQ yC y0 y1 y2 y3 y4 y5 y6 y7 y8 y9 We Vj Vk y13 Ho;rintro e u6 ⟨rfl,hb6⟩;have b_6:qa w u6:=(b_5).trans (hb6.mono (b_5).size);have l_6:qa W u6:=(l_5).trans (hb6.mono (l_5).size);obtain ⟨x0,x1,x2,x3,x4,x5,x6,x7,x8,x9,xO,yA,yE,yQ,yC⟩:=fifteen (HX.out u6 l_6).1;obtain ⟨y0,y1,y2,y3,y4,y5,y6,y7,y8,y9,We,Vj,Vk,y13,Ho⟩:=fifteen (HX.out u6 l_6).2;clear hb6;cases c6:ym r.af.v t.af.v with
       | false=>
        have HR:Hid (R=false):=by rw [Hid,HZ.out];simp [c0,c1,c2,c3,c4,c5,c6]
        clear HZ;go_wp2;go_ret;exact ⟨qm HR.out.symm,b_6⟩
       | true=>
        cases c7:(r.next == t.next) with
        | false=>
         have HR:Hid (R=false):=by rw [Hid,HZ.out];simp [c0,c1,c2,c3,c4,c5,c6,c7]
         clear HZ;go_wp2;go_ret;exact ⟨qm HR.out.symm,b_6⟩
        | true=>
         go_wp2_with fail;refine (HL.out u6 b_6).mono ?_;clear x0 x1 x2 x3 x4 x5 x6 x7 x8 x9 xO yA yE yQ yC y0 y1 y2 y3 y4 y5 y6 y7 y8 y9 We Vj Vk y13 Ho;rintro e u8 ⟨rfl,nn,hnn⟩;have uu:Below (u6).heap.size u6 u8:=by rw [hnn];exact qfI (qab _ _) nn
         clear hnn;have b_8:qa w u8:=(b_6).trans (uu.mono (b_6).size);have l_8:qa W u8:=(l_6).trans (uu.mono (l_6).size);have HR:Hid (R=Qo r.txs t.txs):=by rw [Hid,HZ.out];simp [c0,c1,c2,c3,c4,c5,c6,c7]
         clear HZ;go_wp2;go_ret;exact ⟨qm HR.out.symm,b_8⟩
end Go.Proofs.YtnfdccldabbobaaGreatDoor
