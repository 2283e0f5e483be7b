/- Texts. -/
import Derived.ProofKit
import Derived.OpenShut
import Derived.ChangeOld
import Derived.ChangeArms
import Derived.Test.YtnfdccldabbobaaGreatDoorP2
import Derived.Test.YtnfdccldabbobaaGreatDoorP4
import Derived.Test.YtnfdccldabbobaaGreatDoorP7
set_option maxHeartbeats 8000000
set_option maxRecDepth 100000
namespace Go.Proofs.YtnfdccldabbobaaGreatDoor
open Go.RowKit Go.Proofs.Tryz
section
open Go.ChangeShapes Go.WideShapes Go.ChangeAt Go.RowKit
def zy (z:Int):Prop:= -9223372036854775808≤z∧z≤9223372036854775807
theorem wf_i64 {z:Int} (h:(Lit.int .i64 z).wf=true):zy z:=by
 simp [Lit.wf,IntKind.min,IntKind.max,IntKind.signed,IntKind.bits] at h;unfold zy;omega
theorem jV {α:Type} (xs:List α) (i:Nat) (h:i<xs.length):∃ y,xs[i]? =some y:=⟨_,qcG h⟩
section
variable {H:Type} {enc:TypeId × Value→H} {w:World} {base:Nat} {spare:Nat→Bool} {held:Bool}
theorem DK {fuel:Nat} {cs:List Value} {x:DataW H × List MemPlace} (h:DataW.trod enc prog w base spare held fuel 22 cs=some x):
  ∃ (a:Option Addr) (c:Nat) (ns:List Int),cs=[.slice a ns.length c]∧xH w a ns∧(a=none→c=0)∧ns.length≤maxLen∧∀ z∈ns,zy z:=by
 rcases open_ints underlying22 underlying3 (by kernel_rfl) h with ⟨rfl,_⟩ | ⟨a,len,cap,zs,rfl,_,hl,hm,hz,_,hcell,hwf⟩
 ·exact ⟨none,0,[],rfl,fun h=>absurd rfl h,fun _=>rfl,by simp,by simp⟩
 ·have hlz:len≤zs.length:=by rw [hz];split<;>omega
  refine ⟨some a,cap,zs.take len,by simp;omega,?_,(fun h=>by cases h),by simp;omega,fun z hzz=>wf_i64 (hwf z (qfN hzz))⟩;intro hne;have hpos:=qe9.2 hne;simp at hpos;obtain ⟨b,off,spot⟩:=a;have hc0:=hcell 0 (by omega);have hspot:spot=none:=by simpa [Addr.add] using World.cell?_spot hc0
  subst hspot;refine ⟨b,off,rfl,fun i hi=>?_⟩;have hi':i<len:=by simp at hi;omega
  have:=hcell i (by omega);have e:(List.take len zs).getD i 0=zs.getD i 0:=by simp [List.getD,hi']
  rw [e,← zI];exact this
theorem zl {fuel:Nat} {cs:List Value} {x:DataW H × List MemPlace} (h:DataW.trod enc prog w base spare held fuel 3 cs=some x):∃ n:Int,cs=[.int .i64 n]∧zy n:=by
 obtain ⟨n,rfl,_,hw⟩:=DataW.trod_int underlying3 h;exact ⟨n,rfl,wf_i64 hw⟩
theorem Tryz.Ki:prog.cellsOf 3=1:=by kernel_rfl
theorem Tryz.qec:prog.cellsOf 22=1:=by kernel_rfl
theorem Tryz.Ow:prog.cellsOf 24=3:=by kernel_rfl
theorem CY {fuel:Nat} {cs:List Value} {x:DataW H × List MemPlace} (h:DataW.trod enc prog w base spare held fuel 24 cs=some x):
  ∃ (o:yo) (aI:Option Addr) (cI:Nat) (aR:Option Addr) (cR:Nat),cs=[.int .i64 o.kind,.slice aI o.ints.length cI,.slice aR o.refs.length cR]∧jd w aI cI aR cR o∧o.ints.length≤maxLen∧o.refs.length≤maxLen∧zy o.kind∧(∀ z∈o.ints,zy z)∧(∀ z∈o.refs,zy z):=by
 obtain ⟨xs,n,_,_,hlen,hxl,hf⟩:=qfC underlying24 h;rw [Tryz.Ow] at hlen
 match cs,hlen with
 | [v0,v1,v2],_=>
  have f0:=hf 0 _ rfl;have f1:=hf 1 _ rfl;have f2:=hf 2 _ rfl;obtain ⟨y0,hx0⟩:=jV xs 0 (by rw [hxl];decide);obtain ⟨y1,hx1⟩:=jV xs 1 (by rw [hxl];decide);obtain ⟨y2,hx2⟩:=jV xs 2 (by rw [hxl];decide);rw [hx0] at f0;rw [hx1] at f1;rw [hx2] at f2;simp only [qeM,qeF,qeG,Tryz.Ki,Tryz.qec,List.drop,List.take] at f0 f1 f2;obtain ⟨k,e0,wk⟩:=zl f0;obtain ⟨aI,cI,ints,e1,hI,nI,lI,wI⟩:=DK f1;obtain ⟨aR,cR,refs,e2,hR,nR,lR,wR⟩:=DK f2;simp only [qfh,qgt] at e0 e1 e2;subst e0 e1 e2;exact ⟨⟨k,ints,refs⟩,aI,cI,aR,cR,rfl,⟨hI,hR,nI,nR⟩,lI,lR,wk,wI,wR⟩
theorem ql9 {b0:Nat} {v:Value} {d:DataW H} {ps:List MemPlace} (hval:Value.okWide prog w .any b0 24 v) (h:DataW.Trod enc prog w base spare held 24 v d ps):
  ∃ (o:yo) (aI:Option Addr) (cI:Nat) (aR:Option Addr) (cR:Nat),v=.agg #[.int .i64 o.kind,.slice aI o.ints.length cI,.slice aR o.refs.length cR]∧jd w aI cI aR cR o∧o.ints.length≤maxLen∧o.refs.length≤maxLen∧zy o.kind∧(∀ z∈o.ints,zy z)∧(∀ z∈o.refs,zy z):=by
 obtain ⟨cs,rfl,hcs⟩:=okWide_struct underlying24 hval;obtain ⟨fuel,hf⟩:=h;have e:(Value.agg cs).cells.toList=cs.toList:=rfl;rw [e] at hf;obtain ⟨o,aI,cI,aR,cR,hc,rest⟩:=CY hf;refine ⟨o,aI,cI,aR,cR,?_,rest⟩;congr 1;apply qgk.1;rw [hc]
end
end
section
open Go.ChangeShapes Go.WideShapes Go.ChangeAt Go.RowKit
structure Qj (w:World) (s:qj):Prop where
 reads:s.reads w
 lI:s.v.o.ints.length≤maxLen
 lR:s.v.o.refs.length≤maxLen
 kind:zy s.v.o.kind
 ints:∀ z∈s.v.o.ints,zy z
 refs:∀ z∈s.v.o.refs,zy z
section
variable {H:Type} {enc:TypeId × Value→H} {w:World} {base:Nat} {spare:Nat→Bool} {held:Bool}
theorem Tryz.GL:prog.cellsOf 4=1:=by kernel_rfl
theorem Tryz.NL:prog.cellsOf 26=4:=by kernel_rfl
theorem Tryz.qbZ:prog.cellsOf 27=16:=by kernel_rfl
theorem Tryz.NW:prog.cellsOf 29=17:=by kernel_rfl
theorem Zb {fuel:Nat} {cs:List Value} {x:DataW H × List MemPlace} (h:DataW.trod enc prog w base spare held fuel 26 cs=some x):
  ∃ s:qj,cs=s.cells∧Qj w s:=by
 obtain ⟨xs,n,_,_,hlen,hxl,hf⟩:=qfC underlying26 h;rw [Tryz.NL] at hlen
 match cs,hlen with
 | [v0,v1,v2,v3],_=>
  have f0:=hf 0 _ rfl;have f1:=hf 1 _ rfl;obtain ⟨y0,hx0⟩:=jV xs 0 (by rw [hxl];decide);obtain ⟨y1,hx1⟩:=jV xs 1 (by rw [hxl];decide);rw [hx0] at f0;rw [hx1] at f1;simp only [qeM,qeF,qeG,Tryz.GL,Tryz.Ow,List.drop,List.take] at f0 f1;obtain ⟨b,e0,_⟩:=DataW.trod_bool underlying4 f0;obtain ⟨o,aI,cI,aR,cR,e1,hr,lI,lR,wk,wI,wR⟩:=CY f1;simp only [qfh,qgt] at e0 e1;obtain ⟨rfl,rfl,rfl⟩:=e1;subst e0;exact ⟨⟨⟨b,o⟩,aI,cI,aR,cR⟩,rfl,hr,lI,lR,wk,wI,wR⟩
theorem qed (cs:List Value) (h:cs.length=16) (f:∀ i,i<4→∃ s:qj,(cs.drop (i*4)).take 4=s.cells∧Qj w s):∃ ss:List qj,ss.length=4∧cs=cellsS ss∧∀ s∈ss,Qj w s:=by
 obtain ⟨s0,e0,h0⟩:=f 0 (by omega);obtain ⟨s1,e1,h1⟩:=f 1 (by omega);obtain ⟨s2,e2,h2⟩:=f 2 (by omega);obtain ⟨s3,e3,h3⟩:=f 3 (by omega);refine ⟨[s0,s1,s2,s3],rfl,?_,?_⟩
 ·simp only [cellsS,qaY,qdH,qcZ,← e0,← e1,← e2,← e3];simp only [Nat.zero_mul,Nat.one_mul,List.drop_zero];have d:∀ (l:List Value) (k:Nat),l.drop k=(l.drop k).take 4++l.drop (k+4):=fun l k=>by rw [← List.drop_drop,qdJ]
  have a0:=d cs 0;have a1:=d cs 4;have a2:=d cs 8;have a3:=d cs 12;rw [List.drop_zero] at a0;have a4:cs.drop (12+4)=[]:=qe5 (by omega);rw [a4,qcZ] at a3;simp only [show 0+4=4 from rfl,show 4+4=8 from rfl,show 8+4=12 from rfl,show 2*4=8 from rfl,show 3*4=12 from rfl] at*
  conv=>lhs;rw [a0,a1,a2,a3]
 ·intro s hs;simp only [qcv,qdu,qfL] at hs;rcases hs with rfl | rfl | rfl | rfl<;>assumption
theorem Wo {fuel:Nat} {cs:List Value} {x:DataW H × List MemPlace} (h:DataW.trod enc prog w base spare held fuel 29 cs=some x):
  ∃ p:qA,cs=p.cells∧p.ss.length=4∧zy p.lsn∧∀ s∈p.ss,Qj w s:=by
 obtain ⟨xs,n,_,_,hlen,hxl,hf⟩:=qfC underlying29 h;rw [Tryz.NW] at hlen;obtain ⟨v0,r,rfl⟩:∃ v0 r,cs=v0::r:=by
  cases cs with
  | nil=>simp at hlen
  | cons v r=>exact ⟨v,r,rfl⟩
 have qma:r.length=16:=by simpa using hlen
 have f0:=hf 0 _ rfl;have f1:=hf 1 _ rfl;obtain ⟨y0,hx0⟩:=jV xs 0 (by rw [hxl];decide);obtain ⟨y1,hx1⟩:=jV xs 1 (by rw [hxl];decide);rw [hx0] at f0;rw [hx1] at f1;simp only [qeM,qeF,qeG,Tryz.Ki,Tryz.qbZ,List.drop_zero,List.drop_succ_cons,List.take_succ_cons,List.take_zero] at f0 f1;rw [qdD (by omega)] at f1;obtain ⟨k,e0,wk⟩:=zl f0;obtain ⟨ys,m,_,_,_,hyl,hg⟩:=DataW.trod_array underlying27 f1;obtain ⟨ss,h4,e1,hs⟩:=qed (w:=w) r qma (fun i hi=>by
  have g:=hg i hi;obtain ⟨y,hy⟩:=jV ys i (by omega);rw [hy,Tryz.NL] at g;exact Zb g)
 simp only [qfh,qgt] at e0;subst e0 e1;exact ⟨⟨k,ss⟩,rfl,h4,wk,hs⟩
theorem qj5 {b0:Nat} {v:Value} {d:DataW H} {ps:List MemPlace} (hval:Value.okWide prog w .any b0 29 v) (h:DataW.Trod enc prog w base spare held 29 v d ps):
  ∃ p:qA,v=.agg p.cells.toArray∧p.ss.length=4∧zy p.lsn∧∀ s∈p.ss,Qj w s:=by
 obtain ⟨cs,rfl,hcs⟩:=okWide_struct underlying29 hval;obtain ⟨fuel,hf⟩:=h;have e:(Value.agg cs).cells.toList=cs.toList:=rfl;rw [e] at hf;obtain ⟨p,hc,rest⟩:=Wo hf;refine ⟨p,?_,rest⟩;congr 1;apply qgk.1;rw [hc]
theorem Ov {b0:Nat} {v:Value} {d:DataW H} {ps:List MemPlace} (hval:Value.okWide prog w .any b0 26 v) (h:DataW.Trod enc prog w base spare held 26 v d ps):
  ∃ s:qj,v=.agg s.cells.toArray∧Qj w s:=by
 obtain ⟨cs,rfl,hcs⟩:=okWide_struct underlying26 hval;obtain ⟨fuel,hf⟩:=h;have e:(Value.agg cs).cells.toList=cs.toList:=rfl;rw [e] at hf;obtain ⟨s,hc,rest⟩:=Zb hf;refine ⟨s,?_,rest⟩;congr 1;apply qgk.1;rw [hc]
end
end
def QO (l:List Int) (least most:Int):Bool:=decide (l.length≤5) && l.all (fun z=>inB z least most)
theorem Ox {l:List Int} {least most:Int} (j:Nat) (hj:j<l.length) (h:inB (l.getD j 0) least most=false):QO l least most=false:=by
 have:(l.all (fun z=>inB z least most))=false:=by
  rw [qfw];exact ⟨l.getD j 0,by simp [List.getD,hj],by rw [h];decide⟩
 simp [QO,this]
theorem Ai {l:List Int} {least most:Int} (h:∀ j,j<l.length→inB (l.getD j 0) least most=true):QO l least most=decide (l.length≤5):=by
 have:(l.all (fun z=>inB z least most))=true:=by
  rw [qdt];intro z hz;obtain ⟨j,hj,rfl⟩:=qfa hz;have:=h j hj
  simpa [List.getD,hj] using this
 simp [QO,this]
theorem Oy (o:yo):okB o=(inB o.kind 1 99 && (QO o.ints (-1000000) 1000000 && QO o.refs 0 31)):=by
 unfold okB QO;cases inB o.kind 1 99<;>cases decide (o.ints.length≤5)<;>cases decide (o.refs.length≤5)<;>cases o.ints.all (fun z=>inB z (-1000000) 1000000)<;>simp
theorem XI {x l m:Int} (h:inB x l m=false):x<l∨(¬ x<l∧m<x):=by simp [inB] at h;omega
theorem YO {x l m:Int} (h:inB x l m=true):¬ x<l∧¬ m<x:=by simp [inB] at h;omega
def Aj (ok:Bool) (e:Ending):Prop:=(ok=true∧e=.returned .nilIface)∨(ok=false∧∃ s,e=.returned (.iface 201 (.agg #[.string s])))
theorem qb0 {ok:Bool} (h:ok=true):Aj ok (.returned .nilIface):=.inl ⟨h,rfl⟩
theorem Gp {ok:Bool} (h:ok=false) (s:ByteArray):Aj ok (.returned (.iface 201 (.agg #[.string s]))):=.inr ⟨h,s,rfl⟩
theorem JL (a:Option Addr) (c:Nat) (l:List Int) (least most:Int) (w:World) (hr:xH w a l) (hl:l.length≤140737488355328):
  Calls prog 159 #[.slice a l.length c,.int .i64 least,.int .i64 most] w fun e w'=>e=.returned (.bool (QO l least most))∧w'=w:=by
 go_enter func159,ntmps159;go_wp2
 go_loop [11] (fun i=>∃ j:Nat,j≤l.length∧i=.int .i64 j∧Hid (∀ t,t<j→inB (l.getD t 0) least most=true)) (fun i=>l.length-(RowKit.intOf i).toNat)
 case atStart=>exact ⟨0,by omega,rfl,fun t ht=>by omega⟩
 case round=>
  obtain ⟨j,hj,rfl,hall⟩:=hrel;by_cases hlt:j<l.length
  ·rcases hr.cases with rfl | ⟨b,off,rfl,hpos,hcell⟩
   ·simp at hlt
   have hc:=hcell j hlt;clear hcell;cases hz:inB (l.getD j 0) least most with
   | false=>
    have HE:Hid (QO l least most=false):=Ox j hlt hz;have hz':=XI hz;clear hz;generalize l.getD j 0=z at*
    rcases hz' with h1 | ⟨h1,h2⟩
    all_goals
     go_wp2;go_ret;exact ⟨qm HE.out.symm,rfl⟩
   | true=>
    have HN:Hid (∀ t,t<j+1→inB (l.getD t 0) least most=true):=by
     intro t ht;by_cases e:t=j
     ·rw [e];exact hz
     ·exact hall.out t (by omega)
    obtain ⟨h1,h2⟩:=YO hz;clear hz;generalize l.getD j 0=z at*
    go_wp2
    go_round
    case rel=>exact ⟨j+1,by omega,by go_num,HN⟩
    case measure=>simp [RowKit.intOf];omega
  ·have HE:Hid (QO l least most=decide (l.length≤5)):=Ai (fun t ht=>hall.out t (by omega));go_wp2;go_ret;exact ⟨qm (by rw [HE.out];exact decide_eq_decide.2 (by omega)),rfl⟩
theorem Fa (o:yo) (aI:Option Addr) (cI:Nat) (aR:Option Addr) (cR:Nat) (w:World) (hr:jd w aI cI aR cR o) (Ht:o.ints.length≤140737488355328) (hnR:o.refs.length≤140737488355328):
  Calls prog 129 #[.agg #[.int .i64 o.kind,.slice aI o.ints.length cI,.slice aR o.refs.length cR]] w fun e w'=>Aj (okB o) e∧qa w w':=by
 have yD:=Oy o;generalize okB o=OK at*
 obtain ⟨k,ints,refs⟩:=o;obtain ⟨hI,hR,_,_⟩:=hr;simp only at*
 obtain ⟨W,hW,b0,hbW,qD⟩:=qB w [.int .i64 k,.slice aI ints.length cI,.slice aR refs.length cR] 43;have hI':=hI.below hbW;have hR':=hR.below hbW;have x0:=b0.cell 0 _ rfl;have x1:=b0.cell 1 _ rfl;have x2:=b0.cell 2 _ rfl;cases hk:inB k 1 99 with
 | false=>
  have HF:Hid (OK=false):=by rw [Hid,yD,hk,qgg]
  clear yD;have hz':=XI hk;clear hk;rcases hz' with h1 | ⟨h1,h2⟩
  all_goals
   go_enter func129,ntmps129;go_wp2;go_ret;exact ⟨Gp HF.out _,hW.out▸hbW⟩
 | true=>
 rw [hk,qfH] at yD;obtain ⟨h1,h2⟩:=YO hk;clear hk;cases hp:QO ints (-1000000) 1000000 with
 | false=>
  have HF:Hid (OK=false):=by rw [Hid,yD,hp,qgg]
  clear yD;have HP:Hid (_=_):=hp;clear hp;go_enter func129,ntmps129;go_wp2_with fail;rw [hW.out];refine (JL aI cI ints _ _ W hI' Ht).mono ?_;rintro e w' ⟨rfl,rfl⟩;rw [HP.out];go_wp2;go_ret;exact ⟨Gp HF.out _,hbW⟩
 | true=>
 rw [hp,qfH] at yD;have HP:Hid (_=_):=hp;clear hp;cases hq:QO refs 0 31 with
 | false=>
  have HF:Hid (OK=false):=by rw [Hid,yD,hq]
  clear yD;have HQ:Hid (_=_):=hq;clear hq;go_enter func129,ntmps129;go_wp2_with fail;rw [hW.out];refine (JL aI cI ints _ _ W hI' Ht).mono ?_;rintro e w' ⟨rfl,rfl⟩;rw [HP.out];go_wp2_with fail;refine (JL aR cR refs _ _ _ hR' hnR).mono ?_;rintro e w' ⟨rfl,rfl⟩;rw [HQ.out];go_wp2;go_ret;exact ⟨Gp HF.out _,hbW⟩
 | true=>
  have HF:Hid (OK=true):=by rw [Hid,yD,hq]
  clear yD;have HQ:Hid (_=_):=hq;clear hq;go_enter func129,ntmps129;go_wp2_with fail;rw [hW.out];refine (JL aI cI ints _ _ W hI' Ht).mono ?_;rintro e w' ⟨rfl,rfl⟩;rw [HP.out];go_wp2_with fail;refine (JL aR cR refs _ _ _ hR' hnR).mono ?_;rintro e w' ⟨rfl,rfl⟩;rw [HQ.out];go_wp2;go_ret;exact ⟨qb0 HF.out,hbW⟩
theorem Fb {P:Prop} (h:P:=by
 rintro e w2 ⟨rfl,hb2⟩;go_wp2;go_ret;exact ⟨by rw [HO.out];rfl,qf B1 hb2⟩):P:=h
theorem rJ (o:yo) (aI:Option Addr) (cI:Nat) (aR:Option Addr) (cR:Nat) (w:World) (hg:jR w) (hr:jd w aI cI aR cR o) (Ht:o.ints.length≤140737488355328) (hnR:o.refs.length≤140737488355328):
  Calls prog 78 #[.agg #[.int .i64 o.kind,.slice aI o.ints.length cI,.slice aR o.refs.length cR]] w fun e w'=>e=.returned (.bool (okB o))∧qa w w':=by
 obtain ⟨W,hW,b0,hbW,qD⟩:=qB w [.int .i64 o.kind,.slice aI o.ints.length cI,.slice aR o.refs.length cR] 43;have hr':=hr.below hbW;have hg':=hg.keep hbW;have x0:=b0.cell 0 _ rfl;have x1:=b0.cell 1 _ rfl;have x2:=b0.cell 2 _ rfl;go_enter func78,ntmps78;go_wp2_with fail;rw [hW.out];refine (Fa o aI cI aR cR W hr' Ht hnR).mono ?_;rintro e w1 ⟨he,hb1⟩;have B1:=qf hbW hb1;rcases he with ⟨hok,rfl⟩ | ⟨hok,s,rfl⟩
 ·have HO:Hid (_=_):=hok;clear hok;go_wp2_with fail;refine (qb1 w1).mono ?_;exact Fb
 ·have HO:Hid (_=_):=hok;clear hok;go_wp2_with fail;refine (qb2 s w1 (hg'.keep hb1)).mono ?_;exact Fb
theorem Ak {s:qO} (h:s.has=false):qL s=zR s.o nC:=by
 obtain ⟨b,k,i,r⟩:=s;simp only at h;subst h;show qL ⟨false,k,i,r⟩=(decide (k=(0:Int)) && (decide (i=([]:List Int)) && decide (r=([]:List Int))));rw [Bool.eq_iff_iff];simp [qL]
theorem DL {P:Prop} (h:P:=by
 rintro e w1 ⟨rfl,hb1⟩;go_wp2;go_ret;exact ⟨qm HE.out.symm,qf hbW hb1⟩):P:=h
theorem Jr (s:qj) (w:World) (hg:jR w) (hr:s.reads w) (hl:Fit [s]):
  Calls prog 36 #[.agg s.cells.toArray] w fun e w'=>e=.returned (.bool (qL s.v))∧qa w w':=by
 obtain ⟨h1,h2⟩:=hl s (qac.2 rfl);obtain ⟨W,hW,b0,hbW,qD⟩:=qB w s.cells 45;have hr':s.reads W:=jd.below hr hbW;have hg':=hg.keep hbW;have HT:Hid (s.v.has=true→qL s.v=okB s.v.o):=fun h=>Dl h
 have HF:Hid (s.v.has=false→qL s.v=zR s.v.o nC):=fun h=>Ak h
 have hno:jd W none 0 none 0 nC:=⟨fun h=>absurd rfl h,fun h=>absurd rfl h,fun _=>rfl,fun _=>rfl⟩;have C1:=rJ s.v.o s.aI s.cI s.aR s.cR W hg' hr' (by omega) (by omega);have C2:=Zm s.v.o nC s.aI s.cI s.aR s.cR none 0 none 0 W hr' hno (by omega) (by omega) (by simp [nC]) (by simp [nC]);simp only [nC] at C2;generalize qL s.v=R at*
 simp only [qj.cells] at*
 cases hh:s.v.has with
 | true=>
  have HE:Hid (_=_):=HT.out hh;rw [hh] at hW;clear hh C2 HT HF;go_enter func36,ntmps36;go_wp2_with fail;rw [hW.out];refine C1.mono ?_;exact DL
 | false=>
  have HE:Hid (_=_):=HF.out hh;rw [hh] at hW;clear hh C1 HT HF;go_enter func36,ntmps36;go_wp2_with fail;rw [hW.out];refine C2.mono ?_;exact DL
theorem Al (ss:List qj) (k:Nat) (hk:k<ss.length):((cellsS ss).drop (k*4)).take 4=(ss.getD k qw).cells:=by
 apply qgc;intro j;rw [List.getElem?_take];by_cases hj:j<4
 ·rw [qan (by omega),List.getElem?_drop];exact Jc ss k j hk hj
 ·rw [qa2 (by omega),qeE (by rw [yc];omega)]
theorem Jp (ss:List qj) (h4:ss.length=4) (k:Nat) (hk:k<4) (w:World):
  (Instr.index 46 (.agg (cellsS ss).toArray) (.int .i64 (k:Int))).run prog w=.ok (.agg (ss.getD k qw).cells.toArray) w:=by
 have he:=Al ss k (by omega);have hz:(sizeOf 45).run prog w=.ok 4 w:=by kernel_rfl
 simp [Instr.index,asIntOf,Go.part,run_underlying underlying46,hz];rw [qan hk,he];simp [List.getD]
theorem ZJ (W:World) (v:Value):(Instr.typeAssert (.iface 242 v) 210 242 true).run prog W=.ok (.tuple #[v,.bool true]) W:=by kernel_rfl
theorem Fe (W:World):(do pure (Value.tuple #[← zeroValue 242,.bool false]):Sem Value).run prog W=.ok (.tuple #[.agg #[.int .i64 0,.int .i64 0,.int .i64 0,.bool false,.int .i64 0,.slice none 0 0,.slice none 0 0,.bool false,.int .i64 0,.slice none 0 0,.slice none 0 0],.bool false]) W:=by kernel_rfl
theorem ZK (W:World):(Instr.typeAssert .nilIface 210 242 true).run prog W=.ok (.tuple #[.agg #[.int .i64 0,.int .i64 0,.int .i64 0,.bool false,.int .i64 0,.slice none 0 0,.slice none 0 0,.bool false,.int .i64 0,.slice none 0 0,.slice none 0 0],.bool false]) W:=by kernel_rfl
theorem yw (W:World) (u:TypeId) (v:Value) (h:u≠242):(Instr.typeAssert (.iface u v) 210 242 true).run prog W=.ok (.tuple #[.agg #[.int .i64 0,.int .i64 0,.int .i64 0,.bool false,.int .i64 0,.slice none 0 0,.slice none 0 0,.bool false,.int .i64 0,.slice none 0 0,.slice none 0 0],.bool false]) W:=by
 have e:(Instr.typeAssert (.iface u v) 210 242 true).run prog W=(if u=242 then (pure (Value.tuple #[v,.bool true]):Sem Value) else (do pure (Value.tuple #[← zeroValue 242,.bool false]))).run prog W:=by kernel_rfl
 rw [e,qa2 h];exact Fe W
theorem Ve (W:World) (v:Value):(Instr.typeAssert (.iface 246 v) 210 246 true).run prog W=.ok (.tuple #[v,.bool true]) W:=by kernel_rfl
theorem MR (W:World):(do pure (Value.tuple #[← zeroValue 246,.bool false]):Sem Value).run prog W=.ok (.tuple #[.agg #[.int .i64 0,.int .i64 0],.bool false]) W:=by kernel_rfl
theorem Vf (W:World):(Instr.typeAssert .nilIface 210 246 true).run prog W=.ok (.tuple #[.agg #[.int .i64 0,.int .i64 0],.bool false]) W:=by kernel_rfl
theorem wO (W:World) (u:TypeId) (v:Value) (h:u≠246):(Instr.typeAssert (.iface u v) 210 246 true).run prog W=.ok (.tuple #[.agg #[.int .i64 0,.int .i64 0],.bool false]) W:=by
 have e:(Instr.typeAssert (.iface u v) 210 246 true).run prog W=(if u=246 then (pure (Value.tuple #[v,.bool true]):Sem Value) else (do pure (Value.tuple #[← zeroValue 246,.bool false]))).run prog W:=by kernel_rfl
 rw [e,qa2 h];exact MR W
theorem Uh (W:World) (v:Value):(Instr.typeAssert (.iface 247 v) 210 247 true).run prog W=.ok (.tuple #[v,.bool true]) W:=by kernel_rfl
theorem Pt (W:World):(do pure (Value.tuple #[← zeroValue 247,.bool false]):Sem Value).run prog W=.ok (.tuple #[.agg #[.int .i64 0,.int .i64 0],.bool false]) W:=by kernel_rfl
theorem Uj (W:World):(Instr.typeAssert .nilIface 210 247 true).run prog W=.ok (.tuple #[.agg #[.int .i64 0,.int .i64 0],.bool false]) W:=by kernel_rfl
theorem Qk (W:World) (u:TypeId) (v:Value) (h:u≠247):(Instr.typeAssert (.iface u v) 210 247 true).run prog W=.ok (.tuple #[.agg #[.int .i64 0,.int .i64 0],.bool false]) W:=by
 have e:(Instr.typeAssert (.iface u v) 210 247 true).run prog W=(if u=247 then (pure (Value.tuple #[v,.bool true]):Sem Value) else (do pure (Value.tuple #[← zeroValue 247,.bool false]))).run prog W:=by kernel_rfl
 rw [e,qa2 h];exact Pt W
theorem Yz (W:World) (v:Value):(Instr.typeAssert (.iface 244 v) 210 244 true).run prog W=.ok (.tuple #[v,.bool true]) W:=by kernel_rfl
theorem rM (W:World):(do pure (Value.tuple #[← zeroValue 244,.bool false]):Sem Value).run prog W=.ok (.tuple #[.agg #[.int .i64 0,.int .i64 0,.int .i64 0,.bool false,.int .i64 0,.slice none 0 0,.slice none 0 0,.int .i64 0],.bool false]) W:=by kernel_rfl
theorem YA (W:World):(Instr.typeAssert .nilIface 210 244 true).run prog W=.ok (.tuple #[.agg #[.int .i64 0,.int .i64 0,.int .i64 0,.bool false,.int .i64 0,.slice none 0 0,.slice none 0 0,.int .i64 0],.bool false]) W:=by kernel_rfl
theorem uq (W:World) (u:TypeId) (v:Value) (h:u≠244):(Instr.typeAssert (.iface u v) 210 244 true).run prog W=.ok (.tuple #[.agg #[.int .i64 0,.int .i64 0,.int .i64 0,.bool false,.int .i64 0,.slice none 0 0,.slice none 0 0,.int .i64 0],.bool false]) W:=by
 have e:(Instr.typeAssert (.iface u v) 210 244 true).run prog W=(if u=244 then (pure (Value.tuple #[v,.bool true]):Sem Value) else (do pure (Value.tuple #[← zeroValue 244,.bool false]))).run prog W:=by kernel_rfl
 rw [e,qa2 h];exact rM W
theorem mF (W:World) (v:Value):(Instr.typeAssert (.iface 248 v) 210 248 true).run prog W=.ok (.tuple #[v,.bool true]) W:=by kernel_rfl
theorem Ff (W:World):(do pure (Value.tuple #[← zeroValue 248,.bool false]):Sem Value).run prog W=.ok (.tuple #[.agg #[.int .i64 0,.int .i64 0],.bool false]) W:=by kernel_rfl
theorem mG (W:World):(Instr.typeAssert .nilIface 210 248 true).run prog W=.ok (.tuple #[.agg #[.int .i64 0,.int .i64 0],.bool false]) W:=by kernel_rfl
theorem GQ (W:World) (u:TypeId) (v:Value) (h:u≠248):(Instr.typeAssert (.iface u v) 210 248 true).run prog W=.ok (.tuple #[.agg #[.int .i64 0,.int .i64 0],.bool false]) W:=by
 have e:(Instr.typeAssert (.iface u v) 210 248 true).run prog W=(if u=248 then (pure (Value.tuple #[v,.bool true]):Sem Value) else (do pure (Value.tuple #[← zeroValue 248,.bool false]))).run prog W:=by kernel_rfl
 rw [e,qa2 h];exact Ff W
theorem Ui (W:World) (v:Value):(Instr.typeAssert (.iface 250 v) 210 250 true).run prog W=.ok (.tuple #[v,.bool true]) W:=by kernel_rfl
theorem Uk (W:World):(Instr.typeAssert .nilIface 210 250 true).run prog W=.ok (.tuple #[.agg #[.slice none 0 0],.bool false]) W:=by kernel_rfl
def za (tx prev:Int):List Value:=[.int .i64 tx,.int .i64 prev]
def XM (tx prev oid:Int) (b a:qj):List Value:=[.int .i64 tx,.int .i64 prev,.int .i64 oid,.bool b.v.has,.int .i64 b.v.o.kind,.slice b.aI b.v.o.ints.length b.cI,.slice b.aR b.v.o.refs.length b.cR,.bool a.v.has,.int .i64 a.v.o.kind,.slice a.aI a.v.o.ints.length a.cI,.slice a.aR a.v.o.refs.length a.cR]
def JQ (tx prev oid:Int) (a:qj) (next:Int):List Value:=[.int .i64 tx,.int .i64 prev,.int .i64 oid,.bool a.v.has,.int .i64 a.v.o.kind,.slice a.aI a.v.o.ints.length a.cI,.slice a.aR a.v.o.refs.length a.cR,.int .i64 next]
def Kj (ls:List qM) (aL:Option Addr) (cL:Nat):List Value:=[.slice aL ls.length cL]
def wM (v:List Value):Value:=.iface 242 (.agg v.toArray)
def zX (v:List Value):Value:=.iface 246 (.agg v.toArray)
def vC (v:List Value):Value:=.iface 247 (.agg v.toArray)
def zG (v:List Value):Value:=.iface 244 (.agg v.toArray)
def uU (v:List Value):Value:=.iface 248 (.agg v.toArray)
def vF (v:List Value):Value:=.iface 250 (.agg v.toArray)
def kW (r:ql):Value:=
 if r.kind == 1 then wM (XM r.tx r.prev r.oid r.bf r.af)
 else if r.kind == 2 then zX (za r.tx r.prev)
 else if r.kind == 3 then vC (za r.tx r.prev)
 else if r.kind == 4 then zG (JQ r.tx r.prev r.oid r.af r.next)
 else if r.kind == 5 then uU (za r.tx r.prev)
 else if r.kind == 6 then vF (Kj r.txs r.aL r.cL)
 else .nilIface
theorem Yr {P:Prop} (h:P:=by
 clear HV;go_enter func165,ntmps165;go_wp2_with fail;rw [hW.out];clear hW;go_wp2;go_ret;exact ⟨by rw [HR.out];rfl,hbW⟩):P:=h
theorem MS (r:ql) (w:World):
  Calls prog 165 #[.agg r.cells.toArray] w fun e w'=>e=.returned (kW r)∧qa w w':=by
 obtain ⟨W,hW,b0,b1,hbW,qD⟩:=jK w r.cells [.int .i64 r.tx,.int .i64 r.prev] 124 240;have HV:Hid (kW r=if r.kind == 1 then wM (XM r.tx r.prev r.oid r.bf r.af)
  else if r.kind == 2 then zX (za r.tx r.prev)
  else if r.kind == 3 then vC (za r.tx r.prev)
  else if r.kind == 4 then zG (JQ r.tx r.prev r.oid r.af r.next)
  else if r.kind == 5 then uU (za r.tx r.prev)
  else if r.kind == 6 then vF (Kj r.txs r.aL r.cL)
  else .nilIface):=rfl
 generalize kW r=D at*
 simp only [ql.cells] at*
 obtain ⟨x0,x1,x2,x3,x4,x5,x6,x7,x8,x9,xO,yA,yE,yQ,yC⟩:=fifteen b0;have y0:=b1.cell 0 _ rfl;have y1:=b1.cell 1 _ rfl;clear b0 b1 qD;cases k1:(r.kind == 1) with
 | true=>
  have HR:Hid (D=wM (XM r.tx r.prev r.oid r.bf r.af)):=by rw [Hid,HV.out];simp [k1]
  exact Yr
 | false=>
  cases k2:(r.kind == 2) with
  | true=>
   have HR:Hid (D=zX (za r.tx r.prev)):=by rw [Hid,HV.out];simp [k1,k2]
   exact Yr
  | false=>
   cases k3:(r.kind == 3) with
   | true=>
    have HR:Hid (D=vC (za r.tx r.prev)):=by rw [Hid,HV.out];simp [k1,k2,k3]
    exact Yr
   | false=>
    cases k4:(r.kind == 4) with
    | true=>
     have HR:Hid (D=zG (JQ r.tx r.prev r.oid r.af r.next)):=by rw [Hid,HV.out];simp [k1,k2,k3,k4]
     exact Yr
    | false=>
     cases k5:(r.kind == 5) with
     | true=>
      have HR:Hid (D=uU (za r.tx r.prev)):=by rw [Hid,HV.out];simp [k1,k2,k3,k4,k5]
      exact Yr
     | false=>
      cases k6:(r.kind == 6) with
      | true=>
       have HR:Hid (D=vF (Kj r.txs r.aL r.cL)):=by rw [Hid,HV.out];simp [k1,k2,k3,k4,k5,k6]
       exact Yr
      | false=>
       have HR:Hid (D=.nilIface):=by rw [Hid,HV.out];simp [k1,k2,k3,k4,k5,k6]
       clear HV;go_enter func165,ntmps165;go_wp2;go_ret;exact ⟨by rw [HR.out];rfl,by rw [hW.out];exact hbW⟩
end Go.Proofs.YtnfdccldabbobaaGreatDoor
