/- Texts. -/
import Derived.Test.YtnfdccldabbobaaGreatDoorP1
set_option maxHeartbeats 8000000
set_option maxRecDepth 100000
namespace Go.Proofs.YtnfdccldabbobaaGreatDoor
open Go.RowKit Go.Proofs.Tryz
theorem Ux (a b:Option Addr) (ca cb:Nat) (xs ys:List Int) (w:World) (ha:xH w a xs) (hb:xH w b ys) (hl:xs.length≤1099511627776) (hl2:ys.length≤1099511627776):
  Calls prog 130 #[.slice a xs.length ca,.slice b ys.length cb] w fun e w'=>e=.returned (.bool (decide (xs=ys)))∧∃ n,w'=w.drewN n:=by
 by_cases hle:xs.length=ys.length
 case neg=>
  have HE:Hid (_=_):=I7 hle;have Wd:((xs.length:Int) == (ys.length:Int))=false:=by simp;omega
  go_enter func130,ntmps130;go_wp2;go_ret;exact ⟨qm HE.out.symm,0,rfl⟩
 case pos=>
 have HL:Hid (xs.length=ys.length):=hle;have Wd:((xs.length:Int) == (ys.length:Int))=true:=by simp;omega
 rcases ha.cases with rfl | ⟨b1,o1,rfl,hpos,hc1⟩
 ·obtain rfl:ys=[]:=qcI.1 (by simpa using hle.symm);have HE:Hid (decide (([]:List Int)=[])=true):=by simp [Hid]
  clear hle Wd HL;go_enter func130,ntmps130;go_wp2;refine qdp 1 ?_;rw [qdC];go_wp2;go_ret;exact ⟨qm HE.out.symm,0,rfl⟩
 ·rcases hb.cases with rfl | ⟨b2,o2,rfl,_,hc2⟩
  ·simp at hle;simp [hle] at hpos
  ·clear hle;go_enter func130,ntmps130;go_wp2;go_loopw [13] (fun i wr=>∃ k:Nat,k≤xs.length∧i=.int .i64 k∧Hid (∀ t,t<k→xs.getD t 0=ys.getD t 0)∧∃ n,wr=w.drewN n) (fun i _=>xs.length-(RowKit.intOf i).toNat)
   case atStart=>exact ⟨0,qaw _,rfl,fun t ht=>by omega,0,rfl⟩
   case round=>
    obtain ⟨k,hk,rfl,hall,n,rfl⟩:=hrel;by_cases hlt:k<xs.length
    ·have h1:=hc1 k hlt;have h2:=hc2 k (by have:=HL.out;omega);have hlt2:(k:Int)<(ys.length:Int):=by have:=HL.out;omega
     clear hc1 hc2;by_cases hz:xs.getD k 0=ys.getD k 0
     ·have HN:Hid (∀ t,t<k+1→xs.getD t 0=ys.getD t 0):=by
       intro t ht;by_cases e:t=k
       ·rw [e];exact hz
       ·exact hall.out t (by omega)
      rw [← hz] at h2;clear hz;generalize xs.getD k 0=z at*
      go_wp2
      go_quiet (fail)
      go_wp2;go_roundw
      case rel=>exact ⟨k+1,by omega,by go_num,HN,_,rfl⟩
      case measure=>simp [RowKit.intOf];omega
     ·have HE:Hid (_=_):=qcD k hz;have hzb:(xs.getD k 0 == ys.getD k 0)=false:=by simpa using hz
      clear hz;generalize xs.getD k 0=z at*
      generalize ys.getD k 0=y at*
      go_wp2
      go_quiet (fail)
      go_wp2;go_ret;exact ⟨qm HE.out.symm,n+nq,by first | rfl | simp⟩
    ·have HE:Hid (_=_):=I8 HL.out (fun t ht=>hall.out t (by omega));go_wp2;go_ret;exact ⟨qm HE.out.symm,n,rfl⟩
theorem Zm (o p:yo) (aI:Option Addr) (cI:Nat) (aR:Option Addr) (cR:Nat) (bI:Option Addr) (dI:Nat) (bR:Option Addr) (dR:Nat) (w:World) (ha:jd w aI cI aR cR o) (hb:jd w bI dI bR dR p) (h1:o.ints.length≤1099511627776) (h2:o.refs.length≤1099511627776) (h3:p.ints.length≤1099511627776) (h4:p.refs.length≤1099511627776):
  Calls prog 79 #[.agg #[.int .i64 o.kind,.slice aI o.ints.length cI,.slice aR o.refs.length cR],.agg #[.int .i64 p.kind,.slice bI p.ints.length dI,.slice bR p.refs.length dR]] w fun e w'=>e=.returned (.bool (zR o p))∧qa w w':=by
 obtain ⟨k,ints,refs⟩:=o;obtain ⟨k',Jt,refs'⟩:=p;obtain ⟨Dc,De,_,_⟩:=ha;obtain ⟨Df,hbR,_,_⟩:=hb;simp only at*
 obtain ⟨W,hW,b0,b1,hbW,qD⟩:=jK w [.int .i64 k,.slice aI ints.length cI,.slice aR refs.length cR] [.int .i64 k',.slice bI Jt.length dI,.slice bR refs'.length dR] 43 43;by_cases hk:k=k'
 case neg=>
  have HE:Hid (zR ⟨k,ints,refs⟩ ⟨k',Jt,refs'⟩=false):=by simp [Hid,zR,hk]
  have hkb:(k == k')=false:=by simpa using hk
  clear hk;go_enter func79,ntmps79;go_wp2;go_ret;exact ⟨qm HE.out.symm,by rw [hW.out];exact hbW⟩
 case pos=>
 subst hk;have HE:Hid (zR ⟨k,ints,refs⟩ ⟨k,Jt,refs'⟩=(decide (ints=Jt) && decide (refs=refs'))):=by simp [Hid,zR]
 go_enter func79,ntmps79;go_wp2_with fail;rw [hW.out];refine (Ux aI bI cI dI ints Jt W (Dc.below hbW) (Df.below hbW) h1 h3).mono ?_;rintro e w1 ⟨rfl,n1,rfl⟩;have c0:=(b0.drewN n1).cell 2 _ rfl;have c1:=(b1.drewN n1).cell 2 _ rfl;have hb1:qa w (W.drewN n1):=qfI hbW n1;cases hd:decide (ints=Jt) with
 | false=>
  rw [hd] at HE;clear hd;go_wp2;go_ret;exact ⟨qm (by rw [HE.out];rfl),hb1⟩
 | true=>
  rw [hd] at HE;clear hd;go_wp2_with fail;refine (Ux aR bR cR dR refs refs' (W.drewN n1) (De.below hb1) (hbR.below hb1) h2 h4).mono ?_;rintro e w2 ⟨rfl,n2,rfl⟩;generalize decide (refs=refs')=D at*
  go_wp2;go_ret;exact ⟨qm (by rw [HE.out];rfl),qfI hbW (n1+n2)⟩
end Go.Proofs.YtnfdccldabbobaaGreatDoor
