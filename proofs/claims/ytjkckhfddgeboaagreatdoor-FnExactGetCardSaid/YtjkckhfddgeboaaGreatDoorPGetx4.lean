/- Several texts in one, in their order. -/
import Derived.Test.YtjkckhfddgeboaaGreatDoorPGetx1
import Derived.Test.YtjkckhfddgeboaaGreatDoorPGetx3
import Derived.Test.YtjkckhfddgeboaaGreatDoorPGetx2
import Derived.Deep.RegionHeld3
import Derived.Deep.QuietTactic
import Derived.BigQuiet
import Derived.Deep.AppendLies
import Derived.Laws.AppendOwnNone
import Derived.Laws.CopyOwn
import Derived.Deep.RegionHeld
import Derived.MapKept
import Derived.Maps.Own
set_option maxHeartbeats 8000000
set_option maxRecDepth 100000
namespace Go.Proofs.YtjkckhfddgeboaaGreatDoor
open Go.RowKit
theorem mG (p:qw) (h4:p.ss.length=4) (w:World) (hr:jK w p.ss) (hl:∀ s∈p.ss,s.v.o.ints.length≤1099511627776∧s.v.o.refs.length≤1099511627776):
  Calls Tryz.prog 214 #[.agg p.cells.toArray] w fun e w'=>∃ ts:List qf,e=.returned (.agg (qw.cells ⟨p.lsn,ts⟩).toArray)∧Hid (ts.map (·.v)=p.ss.map (·.v))∧qG w' w.heap.size w'.heap.size ts∧Below w.heap.size w w':=by
 obtain ⟨n,ss⟩:=p;simp only [qw.cells] at*
 obtain ⟨W,hW,b0,b1,b2,hbW,qp⟩:=yn w (.int .i64 n::cellsS ss) [.int .i64 0,.bool false,.int .i64 0,.slice none 0 0,.slice none 0 0,.bool false,.int .i64 0,.slice none 0 0,.slice none 0 0,.bool false,.int .i64 0,.slice none 0 0,.slice none 0 0,.bool false,.int .i64 0,.slice none 0 0,.slice none 0 0] [.int .i64 n,.bool false,.int .i64 0,.slice none 0 0,.slice none 0 0,.bool false,.int .i64 0,.slice none 0 0,.slice none 0 0,.bool false,.int .i64 0,.slice none 0 0,.slice none 0 0,.bool false,.int .i64 0,.slice none 0 0,.slice none 0 0] 66 31 31;have b1':Box W (w.heap.size+1) ([]++((.int .i64 0::cellsS Ji)++[])) 31:=b1;have b2':Box W (w.heap.size+1+1) ([.int .i64 n]++(cellsS Ji++[])) 31:=b2;have sK:w.heap.size+1+1<W.heap.size:=by omega
 clear b1 b2 qp;have hc0:=(yF w (.int .i64 n::cellsS ss) 66).cell 0 _ rfl;have hrg0:W.rangeAt w.heap.size 1 (cellsS ss):=Box.range [.int .i64 n] (cellsS ss) [] (by simpa using b0);have hi0:(Tryz.prog.info? 64).map (·.size)=some (cellsS ss).length:=by rw [jq,h4];kernel_rfl
 go_enter Tryz.func214,Tryz.ntmps214;go_wp2_with (first | (guard_target=wpList _ _ _ (Oper.mk (some 8) _ _ _ _ _::_) _ _;refine wpList_load_mid rfl 64 (.tmp 7) rfl w.heap.size 1 rfl (cellsS ss) _ (by rw [hW.out];exact hrg0) Tryz.underlying64 rfl hi0 ?_) | fail);rw [hW.out];clear hW hrg0 hi0 hc0;refine (MU ss h4 W (hr.below hbW) hl).mono ?_;rintro e w1 ⟨ts,rfl,hv,ho,hb1⟩;have htl:ts.length=4:=by have:=congrArg List.length hv.out;simp only [List.length_map] at this;omega
 have hs1:=hb1.size;have b11:=b1'.below hb1 b1'.lt;have zU:=b2'.below hb1 b2'.lt;obtain ⟨W2,hW2,QH,hw2,hs2⟩:=jb [.int .i64 n] (cellsS Ji) (cellsS ts) [] zU (by rw [jq,jq,htl];rfl);have OW:w1.setCells (w.heap.size+1+1) 1 (cellsS ts)=W2:=hW2.out;have b12:=b11.within hw2 (by omega);obtain ⟨WF,qF,bF,hwF,qN⟩:=jb [] (.int .i64 0::cellsS Ji) (.int .i64 n::cellsS ts) [] b12 (by simp only [List.length_cons,jq,htl];rfl);have OX:W2.setCells (w.heap.size+1) 0 (.int .i64 n::cellsS ts)=WF:=qF.out;have ht2:w1.there (w.heap.size+1+1) 1 (cellsS ts).toArray.size:=zU.there 1 _ (by simp only [List.size_toArray,jq,htl,List.length_append,List.length_cons,List.length_nil];decide);have hr2:W2.rangeAt (w.heap.size+1+1) 0 (.int .i64 n::cellsS ts):=Box.range [] (.int .i64 n::cellsS ts) [] (by simpa using QH);have SK:W2.there (w.heap.size+1) 0 (.int .i64 n::cellsS ts).toArray.size:=b12.there 0 _ (by simp only [List.size_toArray,jq,htl,List.length_append,List.length_cons,List.length_nil];decide);have YX:WF.rangeAt (w.heap.size+1) 0 (.int .i64 n::cellsS ts):=Box.range [] (.int .i64 n::cellsS ts) [] (by simpa using bF);have hi4:(Tryz.prog.info? 29).map (·.size)=some (cellsS ts).toArray.size:=by rw [List.size_toArray,jq,htl];kernel_rfl
 have NW:(Tryz.prog.info? 31).map (·.size)=some (.int .i64 n::cellsS ts).length:=by rw [List.length_cons,jq,htl];kernel_rfl
 have h1S:=all_oneCell_toArray (EO ts);have fP:=all_oneCell_toArray (Qx ⟨n,ts⟩);simp only [qw.cells] at fP;have MV:=run_loadVar_mid (P:=Tryz.prog) WF (w.heap.size+1) 0 31 (.int .i64 n::cellsS ts) _ YX Tryz.underlying31 rfl NW;have xM:Below w.heap.size w WF:=((hbW.trans (hb1.mono (by omega))).trans (hw2.below (by omega) (by omega))).trans (hwF.below (by omega) (by omega));have xY:qG WF w.heap.size WF.heap.size ts:=((ho.within hw2 (.inr (by omega))).within hwF (.inr (by omega))).widen (by omega) (by omega) (Nat.le_refl _);have HF:Hid (_∧_∧_):=⟨MV,xM,xY⟩;have HA:Hid (_∧_∧_):=⟨ht2,hr2,SK⟩;have HI:Hid (_∧_):=⟨hi4,NW⟩;have HO:Hid (_∧_):=⟨h1S,fP⟩;have HW2:Hid (_=_):=OW;have zK:Hid (_=_):=OX;clear MV xM xY ht2 hr2 SK hi4 NW h1S fP OW OX YX hs2 qN hw2 hwF QH b12 b11 zU bF hW2 qF b0 b1' b2' hb1 hbW htl;go_wp2_with (first | (guard_target=wpList _ _ _ (Oper.mk none (Op.store _ (Operand.tmp 10) _) _ _ _ _::_) _ _;refine wpList_store_mid rfl 29 (.tmp 10) (.tmp 9) rfl (w.heap.size+1+1) 1 (cellsS ts).toArray rfl rfl HA.out.1 HI.out.1 HO.out.1 ?_) | (guard_target=wpList _ _ _ (Oper.mk (some 11) _ _ _ _ _::_) _ _;refine wpList_load_mid rfl 31 (.tmp 3) rfl (w.heap.size+1+1) 0 rfl (.int .i64 n::cellsS ts) _ (by rw [HW2.out];exact HA.out.2.1) Tryz.underlying31 rfl HI.out.2 ?_) | (guard_target=wpList _ _ _ (Oper.mk none (Op.store _ (Operand.tmp 2) _) _ _ _ _::_) _ _;refine wpList_store_mid rfl 31 (.tmp 2) (.tmp 11) rfl (w.heap.size+1) 0 (.int .i64 n::cellsS ts).toArray rfl rfl (by rw [HW2.out];exact HA.out.2.2) (by rw [List.size_toArray];exact HI.out.2) HO.out.2 ?_) | fail);rw [HW2.out,zK.out];exact bodyPost_ret (v:=.agg (.int .i64 n::cellsS ts).toArray) (jk Tryz.results214 rfl HF.out.1) rfl ⟨ts,rfl,hv,HF.out.2.2,HF.out.2.1⟩
def stR (zs:List Int):Nat→Int × Bool
 | 0=>(0,false)
 | k+1=>(xK zs (stR zs k)).2
def sB (zs:List Int):jy × (Int × Bool):=nz zs (stR zs 6)
def sA (zs:List Int):jy × (Int × Bool):=nz zs (sB zs).2
def sN (zs:List Int):Int × (Int × Bool):=xK zs (sA zs).2
def Vf:QW:=⟨0,0,0,0,0,KM,KM,0,[]⟩
theorem Vb (a b:Option Addr) (ca cb:Nat) (xs ys:List Int) (w:World) (ha:ky w a xs) (hb:ky w b ys) (hl:xs.length≤1099511627776) (hl2:ys.length≤1099511627776):
  Calls Tryz.prog 60 #[.slice a xs.length ca,.slice b ys.length cb] w fun e w'=>e=.returned (.bool (decide (xs=ys)))∧∃ n,w'=w.drewN n:=by
 by_cases hle:xs.length=ys.length
 case neg=>
  have HE:Hid (_=_):=SQ hle;have Vh:((xs.length:Int) == (ys.length:Int))=false:=by simp;omega
  go_enter Tryz.func60,Tryz.ntmps60;go_wp2;go_ret;exact ⟨qd HE.out.symm,0,rfl⟩
 case pos=>
 have HL:Hid (xs.length=ys.length):=hle;have Vh:((xs.length:Int) == (ys.length:Int))=true:=by simp;omega
 rcases ha.cases with rfl | ⟨b1,o1,rfl,hpos,hc1⟩
 ·obtain rfl:ys=[]:=List.length_eq_zero_iff.1 (by simpa using hle.symm);have HE:Hid (decide (([]:List Int)=[])=true):=by simp [Hid]
  clear hle Vh HL;go_enter Tryz.func60,Tryz.ntmps60;go_wp2;refine wp_loop_rounds 1 ?_;rw [rounds_succ];go_wp2;go_ret;exact ⟨qd HE.out.symm,0,rfl⟩
 ·rcases hb.cases with rfl | ⟨b2,o2,rfl,_,hc2⟩
  ·simp at hle;simp [hle] at hpos
  ·clear hle;go_enter Tryz.func60,Tryz.ntmps60;go_wp2;go_loopw [13] (fun i wr=>∃ k:Nat,k≤xs.length∧i=.int .i64 k∧Hid (∀ t,t<k→xs.getD t 0=ys.getD t 0)∧∃ n,wr=w.drewN n) (fun i _=>xs.length-(RowKit.intOf i).toNat)
   case atStart=>exact ⟨0,Nat.zero_le _,rfl,fun t ht=>by omega,0,rfl⟩
   case round=>
    obtain ⟨k,hk,rfl,hall,n,rfl⟩:=hrel;by_cases hlt:k<xs.length
    ·have h1:=hc1 k hlt;have h2:=hc2 k (by have:=HL.out;omega);have hlt2:(k:Int)<(ys.length:Int):=by have:=HL.out;omega
     clear hc1 hc2;by_cases hz:xs.getD k 0=ys.getD k 0
     ·have HN:Hid (∀ t,t<k+1→xs.getD t 0=ys.getD t 0):=by
       intro t ht;by_cases e:t=k
       ·rw [e];exact hz
       ·exact hall.out t (by omega)
      rw [← hz] at h2;clear hz;generalize xs.getD k 0=z at*
      go_wp2
      go_quiet (fail)
      go_wp2;go_roundw
      case rel=>exact ⟨k+1,by omega,by go_num,HN,_,rfl⟩
      case measure=>simp [RowKit.intOf];omega
     ·have HE:Hid (_=_):=oZ k hz;have hzb:(xs.getD k 0 == ys.getD k 0)=false:=by simpa using hz
      clear hz;generalize xs.getD k 0=z at*
      generalize ys.getD k 0=y at*
      go_wp2
      go_quiet (fail)
      go_wp2;go_ret;exact ⟨qd HE.out.symm,n+nq,by first | rfl | simp⟩
    ·have HE:Hid (_=_):=SS HL.out (fun t ht=>hall.out t (by omega));go_wp2;go_ret;exact ⟨qd HE.out.symm,n,rfl⟩
theorem XU (o p:xk) (aI:Option Addr) (cI:Nat) (aR:Option Addr) (cR:Nat) (bI:Option Addr) (dI:Nat) (bR:Option Addr) (dR:Nat) (w:World) (ha:qQ w aI cI aR cR o) (hb:qQ w bI dI bR dR p) (h1:o.ints.length≤1099511627776) (h2:o.refs.length≤1099511627776) (h3:p.ints.length≤1099511627776) (h4:p.refs.length≤1099511627776):
  Calls Tryz.prog 14 #[.agg #[.int .i64 o.kind,.slice aI o.ints.length cI,.slice aR o.refs.length cR],.agg #[.int .i64 p.kind,.slice bI p.ints.length dI,.slice bR p.refs.length dR]] w fun e w'=>e=.returned (.bool (yK o p))∧Below w.heap.size w w':=by
 obtain ⟨k,ints,refs⟩:=o;obtain ⟨k',Qq,refs'⟩:=p;obtain ⟨Gh,Gi,_,_⟩:=ha;obtain ⟨Gj,hbR,_,_⟩:=hb;simp only at*
 obtain ⟨W,hW,b0,b1,hbW,qp⟩:=jf w [.int .i64 k,.slice aI ints.length cI,.slice aR refs.length cR] [.int .i64 k',.slice bI Qq.length dI,.slice bR refs'.length dR] 26 26;by_cases hk:k=k'
 case neg=>
  have HE:Hid (yK ⟨k,ints,refs⟩ ⟨k',Qq,refs'⟩=false):=by simp [Hid,yK,hk]
  have hkb:(k == k')=false:=by simpa using hk
  clear hk;go_enter Tryz.func14,Tryz.ntmps14;go_wp2;go_ret;exact ⟨qd HE.out.symm,by rw [hW.out];exact hbW⟩
 case pos=>
 subst hk;have HE:Hid (yK ⟨k,ints,refs⟩ ⟨k,Qq,refs'⟩=(decide (ints=Qq) && decide (refs=refs'))):=by simp [Hid,yK]
 go_enter Tryz.func14,Tryz.ntmps14;go_wp2_with fail;rw [hW.out];refine (Vb aI bI cI dI ints Qq W (Gh.below hbW) (Gj.below hbW) h1 h3).mono ?_;rintro e w1 ⟨rfl,n1,rfl⟩;have c0:=(b0.drewN n1).cell 2 _ rfl;have c1:=(b1.drewN n1).cell 2 _ rfl;have hb1:Below w.heap.size w (W.drewN n1):=below_drewN hbW n1;cases hd:decide (ints=Qq) with
 | false=>
  rw [hd] at HE;clear hd;go_wp2;go_ret;exact ⟨qd (by rw [HE.out];rfl),hb1⟩
 | true=>
  rw [hd] at HE;clear hd;go_wp2_with fail;refine (Vb aR bR cR dR refs refs' (W.drewN n1) (Gi.below hb1) (hbR.below hb1) h2 h4).mono ?_;rintro e w2 ⟨rfl,n2,rfl⟩;generalize decide (refs=refs')=D at*
  go_wp2;go_ret;exact ⟨qd (by rw [HE.out];rfl),below_drewN hbW (n1+n2)⟩
theorem ZO (zs:List qC):∀ v∈jD zs,v.oneCell'=true:=by
 intro v hv;obtain ⟨s,_,hs⟩:=List.mem_flatMap.1 hv;simp only [qC.cells,List.mem_cons,List.not_mem_nil,or_false] at hs;rcases hs with rfl | rfl | rfl<;>rfl
theorem Xm {w:World} {ops:Array Oper} {rest:List Oper} {o:Oper} {act:Act} {Q:Exit→Act→World→Prop} (hgd:o.guard=none) (s x:Operand)
  (ho:o.op=.call { callee:=.builtin .append,args:=#[s,x],argTypes:=#[39,39] })
  (lo hi:Nat) (a:Option Addr) (c:Nat) (xs:List qC) (hs:act.eval s=.slice a xs.length c) (hown:OwnL w lo hi a c xs)
  (sa:Option Addr) (sc:Nat) (zs:List qC) (hx:act.eval x=.slice sa zs.length sc) (hr:jW w sa zs) (hc:sa=none→sc=0)
  (hb:xs.length+zs.length≤1099511627776) (hlo:lo≤w.heap.size)
  (h:∀ a' c' ys w',Hid (ys=xs++zs)→OwnL w' lo w'.heap.size a' c' ys→w.grownBy w' (Value.slice a xs.length c).ownBlock→wpList Tryz.prog ops Q rest (act.put o.dst (.slice a' ys.length c')) w'):
  wpList Tryz.prog ops Q (o::rest) act w:=by
 obtain ⟨i0,hi0,hz0,hz1,hz2⟩:=info_parts Tryz.Wd;have fin:∀ v' w',w'.ownsRow lo 118 3 v' (xs.length+zs.length) (jD xs++jD zs)→w.grownBy w' (Value.slice a xs.length c).ownBlock→wpList Tryz.prog ops Q rest (act.put o.dst v') w':=by
  intro v' w' h1 h2;rw [← gD,← List.length_append] at h1;have sh:∃ a' c',v'=.slice a' (xs++zs).length c':=by
   rcases h1.2 with ⟨rfl,h0⟩ | ⟨g,cap,cur,rfl,_⟩
   ·exact ⟨none,0,by rw [h0]⟩
   ·exact ⟨_,_,rfl⟩
  obtain ⟨a',c',rfl⟩:=sh;exact h a' c' (xs++zs) w' rfl ⟨h1,Nat.le_refl _,fun k hk=>(h1.lt k hk).2⟩ h2
 cases sa with
 | none=>
  have hz:zs=[]:=by
   by_cases e:zs=[]
   ·exact e
   ·obtain ⟨b,off,hh,_⟩:=hr e;cases hh
  subst hz;have:=hc rfl;subst this;exact wpList_append_own_none hgd s x 39 ho lo 118 i0 3 Tryz.underlying39 hi0 _ _ _ hs hown.1 hx (fin _ w (by simpa [jD] using hown.1) (World.grownBy.refl _ _))
 | some ad=>
  refine wpList_append_own w hgd s x 39 ho lo 118 i0 (.agg #[.int .i64 0,.int .i64 0,.bool false]) 3 24 Tryz.underlying39 hi0 hz0 hz1 hz2 rfl (by decide) _ _ _ hs hown.1 ad zs.length sc (jD zs) hx (by rw [Js]) ?_ (ZO _) (by simp only [maxLen];omega) (by omega) hlo (fun v' w' h1 h2 _=>fin v' w' h1 h2);intro j u hj;have hjl:j<zs.length*3:=by rw [← Js];exact (List.getElem?_eq_some_iff.1 hj).1
  have hne:zs≠[]:=by intro e;simp [e] at hjl
  obtain ⟨b,off,hh,hcell⟩:=hr hne;cases hh;have hat:=Q5 zs (j / 3) (j % 3) (by omega) (Nat.mod_lt _ (by omega));rw [show j / 3*3+j % 3=j by omega,hj] at hat;obtain ⟨k0,k1,k2⟩:=hcell (j / 3) (by omega);rw [yS];rcases (by omega:j % 3=0∨j % 3=1∨j % 3=2) with h' | h' | h'<;>rw [h'] at hat<;>simp only [qC.cells,List.getElem?_cons_zero,List.getElem?_cons_succ,Option.some.injEq] at hat
  ·rw [show off+j=off+j / 3*3 by omega,k0,hat]
  ·rw [show off+j=off+j / 3*3+1 by omega,k1,hat]
  ·rw [show off+j=off+j / 3*3+2 by omega,k2,hat]
structure qJ where
 tx:Int
 oid:Int
def qJ.cells (l:qJ):List Value:=[.int .i64 l.tx,.int .i64 l.oid]
def qY:qJ:=⟨0,0⟩
def jl (ls:List qJ):List Value:=ls.flatMap qJ.cells
theorem wG (ls:List qJ):(jl ls).length=ls.length*2:=by
 induction ls with
 | nil=>rfl
 | cons s r ih=>simp only [jl,List.flatMap_cons,List.length_append,qJ.cells,List.length_cons,List.length_nil] at *;omega
theorem gF (a b:List qJ):jl (a++b)=jl a++jl b:=by simp [jl]
theorem Q6 (ls:List qJ) (k j:Nat) (hk:k<ls.length) (hj:j<2):(jl ls)[k*2+j]? =(ls.getD k qY).cells[j]? :=by
 induction ls generalizing k with
 | nil=>simp at hk
 | cons s r ih=>
  have e:jl (s::r)=s.cells++jl r:=by simp [jl]
  have l3:s.cells.length=2:=rfl;rw [e];cases k with
  | zero=>rw [List.getElem?_append_left (by rw [l3];omega)];simp
  | succ k=>
   rw [List.getElem?_append_right (by rw [l3];omega),l3];have:=ih k (by simpa using hk);rw [show (k+1)*2+j-2=k*2+j by omega,this];simp
theorem Ff (ls:List qJ) (k:Nat) (hk:k<ls.length) (t:qJ):
  ((jl ls).set (k*2) (.int .i64 t.tx)).set (k*2+1) (.int .i64 t.oid)=jl (ls.set k t):=by
 induction ls generalizing k with
 | nil=>simp at hk
 | cons s r ih=>
  cases k with
  | zero=>simp [jl,qJ.cells]
  | succ k=>
   have:=ih k (by simpa using hk);have e2:∀ x,jl (s::x)=s.cells++jl x:=fun x=>by simp [jl]
   have l3:s.cells.length=2:=rfl;rw [e2,List.set_append_right _ _ (by rw [l3];omega),List.set_append_right _ _ (by rw [l3];omega),l3,show (k+1)*2-2=k*2 by omega,show (k+1)*2+1-2=k*2+1 by omega,this,List.set_cons_succ,e2]
def yt (w:World) (a:Option Addr) (ls:List qJ):Prop:=ls≠[]→∃ b off,a=some ⟨b,off,none⟩∧∀ k,k<ls.length→w.cell? ⟨b,off+k*2,none⟩=some (.int .i64 (ls.getD k qY).tx)∧w.cell? ⟨b,off+k*2+1,none⟩=some (.int .i64 (ls.getD k qY).oid)
theorem yt.nil (w:World) (a:Option Addr):yt w a []:=fun h=>absurd rfl h
theorem yt.below {w w':World} {a:Option Addr} {ls:List qJ} (h:yt w a ls) (hb:Below w.heap.size w w'):yt w' a ls:=by
 intro hne;obtain ⟨b,off,ha,hc⟩:=h hne;refine ⟨b,off,ha,fun k hk=>?_⟩;obtain ⟨h0,h1⟩:=hc k hk;have hlt:=block_lt h0;exact ⟨by rw [hb.cell (p:=⟨b,off+k*2,none⟩) hlt];exact h0,by rw [hb.cell (p:=⟨b,off+k*2+1,none⟩) hlt];exact h1⟩
theorem yt.cases {w:World} {a:Option Addr} {ls:List qJ} (h:yt w a ls):ls=[]∨∃ b off,a=some ⟨b,off,none⟩∧0<ls.length∧∀ k,k<ls.length→w.cell? ⟨b,off+k*2,none⟩=some (.int .i64 (ls.getD k qY).tx)∧w.cell? ⟨b,off+k*2+1,none⟩=some (.int .i64 (ls.getD k qY).oid):=by
 by_cases e:ls=[]
 ·exact .inl e
 ·obtain ⟨b,off,ha,hc⟩:=h e;exact .inr ⟨b,off,ha,List.length_pos_iff.2 e,hc⟩
def OwnH (w:World) (lo hi:Nat) (a:Option Addr) (c:Nat) (ls:List qJ):Prop:=
 w.ownsRow lo 185 2 (.slice a ls.length c) ls.length (jl ls)∧hi≤w.heap.size∧∀ k,(Value.slice a ls.length c).ownBlock=some k→k<hi
theorem OwnH.lt {w:World} {lo hi:Nat} {a:Option Addr} {c:Nat} {ls:List qJ} (h:OwnH w lo hi a c ls):∀ k,(Value.slice a ls.length c).ownBlock=some k→lo≤k∧k<hi:=fun k hk=>⟨(h.1.lt k hk).1,h.2.2 k hk⟩
theorem OwnH.touch {w w':World} {lo hi:Nat} {a:Option Addr} {c:Nat} {ls:List qJ} {bl:List Nat} (h:OwnH w lo hi a c ls) (ht:Touch bl w w') (hd:∀ k,(Value.slice a ls.length c).ownBlock=some k→k∉bl):OwnH w' lo hi a c ls:=
 ⟨jE h.1 (fun k hk=>ht.block k (h.1.lt k hk).2 (hd k hk)),Nat.le_trans h.2.1 ht.size,h.2.2⟩
theorem OwnH.within {w w':World} {lo hi l r:Nat} {a:Option Addr} {c:Nat} {ls:List qJ} (h:OwnH w lo hi a c ls) (hw:Within l r w w') (hd:hi≤l∨r≤lo):OwnH w' lo hi a c ls:=
 ⟨jE h.1 (fun k hk=>hw.block k (by have:=h.2.2 k hk;have:=h.2.1;omega) (by have:=h.lt k hk;omega)),Nat.le_trans h.2.1 hw.size,h.2.2⟩
theorem OwnH.below {w w':World} {lo hi:Nat} {a:Option Addr} {c:Nat} {ls:List qJ} (h:OwnH w lo hi a c ls) (hb:Below w.heap.size w w'):OwnH w' lo hi a c ls:=
 h.within (Within.of_below (lo:=w.heap.size) (hi:=w.heap.size) hb) (.inl h.2.1)
theorem OwnH.widen {w:World} {lo hi lo' hi':Nat} {a:Option Addr} {c:Nat} {ls:List qJ} (h:OwnH w lo hi a c ls) (h1:lo'≤lo) (h2:hi≤hi') (h3:hi'≤w.heap.size):OwnH w lo' hi' a c ls:=
 ⟨kM h.1 (fun k hk=>by have:=h.lt k hk;omega),h3,fun k hk=>by have:=h.lt k hk;omega⟩
theorem U7 (w:World) (lo hi:Nat) (h:hi≤w.heap.size):OwnH w lo hi none 0 []:=⟨⟨by simp [jl],.inl ⟨rfl,rfl⟩⟩,h,fun k hk=>by cases hk⟩
theorem OwnH.XZ {w:World} {lo hi:Nat} {a:Option Addr} {c:Nat} {ls:List qJ} (h:OwnH w lo hi a c ls):a=none→c=0:=by
 intro ha;rcases h.1.2 with ⟨hv,_⟩ | ⟨g,cap,cur,hv,_⟩
 ·simp only [Value.slice.injEq] at hv;exact hv.2.2
 ·simp [ha] at hv
theorem WJ {w:World} {base g n cap:Nat} {ls:List qJ} (h:w.ownsRow base 185 2 (.slice (some ⟨g,0,none⟩) n cap) n (jl ls)) (hn:ls.length=n) (k:Nat) (hk:k<n):
  w.cell? ⟨g,k*2,none⟩=some (.int .i64 (ls.getD k qY).tx)∧w.cell? ⟨g,k*2+1,none⟩=some (.int .i64 (ls.getD k qY).oid)∧(∀ i,w.frozen? ⟨g,i,none⟩=false):=by
 have a0:=Q6 ls k 0 (by omega) (by omega);have a1:=Q6 ls k 1 (by omega) (by omega);simp only [qJ.cells,Nat.add_zero,List.getElem?_cons_zero,List.getElem?_cons_succ] at a0 a1;exact ⟨by rw [h.cellAt (k*2) (by omega)];exact a0,by rw [h.cellAt (k*2+1) (by omega)];exact a1,fun i=>h.frozenAt i⟩
theorem nP {w:World} {base g n cap:Nat} {ls:List qJ} (h:w.ownsRow base 185 2 (.slice (some ⟨g,0,none⟩) n cap) n (jl ls)) (hn:ls.length=n) (k:Nat) (hk:k<n) (t:qJ):
  ∃ W,Hid ((w.setCell ⟨g,k*2,none⟩ (.int .i64 t.tx)).setCell ⟨g,k*2+1,none⟩ (.int .i64 t.oid)=W)∧W.ownsRow base 185 2 (.slice (some ⟨g,0,none⟩) n cap) n (jl (ls.set k t))∧w.grownBy W (some g):=by
 have s1:=h.stored (k*2) (.int .i64 t.tx);have s2:=s1.1.stored (k*2+1) (.int .i64 t.oid);refine ⟨_,rfl,?_,grownBy_trans s1.2 s2.2⟩;have:=s2.1;rw [Ff ls k (by omega) t] at this;exact this
theorem OwnH.reads {w:World} {lo hi:Nat} {a:Option Addr} {c:Nat} {ls:List qJ} (h:OwnH w lo hi a c ls):yt w a ls:=by
 intro hne;rcases h.1.2 with ⟨_,h0⟩ | ⟨g,cap',cur,hv,hb,hg,hr⟩
 ·exact absurd (List.length_eq_zero_iff.1 h0) hne
 ·simp only [Value.slice.injEq] at hv;obtain ⟨rfl,_,rfl⟩:=hv;refine ⟨g,0,rfl,fun k hk=>?_⟩;obtain ⟨a0,a1,_⟩:=WJ h.1 rfl k hk;rw [Nat.zero_add];exact ⟨a0,a1⟩
theorem Tryz.Wh:(Tryz.prog.info? 185).map (fun i=>(i.zero,i.size,i.bytes))=some (some (.agg #[.int .i64 0,.int .i64 0]),2,16):=by kernel_rfl
theorem ZP (zs:List qJ):∀ v∈jl zs,v.oneCell'=true:=by
 intro v hv;obtain ⟨s,_,hs⟩:=List.mem_flatMap.1 hv;simp only [qJ.cells,List.mem_cons,List.not_mem_nil,or_false] at hs;rcases hs with rfl | rfl<;>rfl
theorem Vs {w:World} {ops:Array Oper} {rest:List Oper} {o:Oper} {act:Act} {Q:Exit→Act→World→Prop} (hgd:o.guard=none) (s x:Operand)
  (ho:o.op=.call { callee:=.builtin .append,args:=#[s,x],argTypes:=#[40,40] })
  (lo hi:Nat) (a:Option Addr) (c:Nat) (xs:List qJ) (hs:act.eval s=.slice a xs.length c) (hown:OwnH w lo hi a c xs)
  (sa:Option Addr) (sc:Nat) (zs:List qJ) (hx:act.eval x=.slice sa zs.length sc) (hr:yt w sa zs) (hc:sa=none→sc=0)
  (hb:xs.length+zs.length≤1099511627776) (hlo:lo≤w.heap.size)
  (h:∀ a' c' ys w',Hid (ys=xs++zs)→OwnH w' lo w'.heap.size a' c' ys→w.grownBy w' (Value.slice a xs.length c).ownBlock→wpList Tryz.prog ops Q rest (act.put o.dst (.slice a' ys.length c')) w'):
  wpList Tryz.prog ops Q (o::rest) act w:=by
 obtain ⟨i0,hi0,hz0,hz1,hz2⟩:=info_parts Tryz.Wh;have fin:∀ v' w',w'.ownsRow lo 185 2 v' (xs.length+zs.length) (jl xs++jl zs)→w.grownBy w' (Value.slice a xs.length c).ownBlock→wpList Tryz.prog ops Q rest (act.put o.dst v') w':=by
  intro v' w' h1 h2;rw [← gF,← List.length_append] at h1;have sh:∃ a' c',v'=.slice a' (xs++zs).length c':=by
   rcases h1.2 with ⟨rfl,h0⟩ | ⟨g,cap,cur,rfl,_⟩
   ·exact ⟨none,0,by rw [h0]⟩
   ·exact ⟨_,_,rfl⟩
  obtain ⟨a',c',rfl⟩:=sh;exact h a' c' (xs++zs) w' rfl ⟨h1,Nat.le_refl _,fun k hk=>(h1.lt k hk).2⟩ h2
 cases sa with
 | none=>
  have hz:zs=[]:=by
   by_cases e:zs=[]
   ·exact e
   ·obtain ⟨b,off,hh,_⟩:=hr e;cases hh
  subst hz;have:=hc rfl;subst this;exact wpList_append_own_none hgd s x 40 ho lo 185 i0 2 Tryz.underlying40 hi0 _ _ _ hs hown.1 hx (fin _ w (by simpa [jl] using hown.1) (World.grownBy.refl _ _))
 | some ad=>
  refine wpList_append_own w hgd s x 40 ho lo 185 i0 (.agg #[.int .i64 0,.int .i64 0]) 2 16 Tryz.underlying40 hi0 hz0 hz1 hz2 rfl (by decide) _ _ _ hs hown.1 ad zs.length sc (jl zs) hx (by rw [wG]) ?_ (ZP _) (by simp only [maxLen];omega) (by omega) hlo (fun v' w' h1 h2 _=>fin v' w' h1 h2);intro j u hj;have hjl:j<zs.length*2:=by rw [← wG];exact (List.getElem?_eq_some_iff.1 hj).1
  have hne:zs≠[]:=by intro e;simp [e] at hjl
  obtain ⟨b,off,hh,hcell⟩:=hr hne;cases hh;have hat:=Q6 zs (j / 2) (j % 2) (by omega) (Nat.mod_lt _ (by omega));rw [show j / 2*2+j % 2=j by omega,hj] at hat;obtain ⟨k0,k1⟩:=hcell (j / 2) (by omega);rw [yS];rcases (by omega:j % 2=0∨j % 2=1) with h' | h'<;>rw [h'] at hat<;>simp only [qJ.cells,List.getElem?_cons_zero,List.getElem?_cons_succ,Option.some.injEq] at hat
  ·rw [show off+j=off+j / 2*2 by omega,k0,hat]
  ·rw [show off+j=off+j / 2*2+1 by omega,k1,hat]
theorem BK (w:World) (z:qJ) (t:TypeId):yt (w.alloc (.cells #[.int .i64 z.tx,.int .i64 z.oid] t)) (some ⟨w.heap.size,0,none⟩) [z]:=by
 intro _;refine ⟨w.heap.size,0,rfl,fun k hk=>?_⟩;obtain rfl:k=0:=by simpa using hk
 have b:Box (w.alloc (.cells #[.int .i64 z.tx,.int .i64 z.oid] t)) w.heap.size [.int .i64 z.tx,.int .i64 z.oid] t:=yF _ _ _;exact ⟨b.cell 0 _ rfl,b.cell 1 _ rfl⟩
theorem Fg (l:qJ) (w:World):
  Calls Tryz.prog 218 #[.agg l.cells.toArray] w fun e w'=>e=.returned (.agg l.cells.toArray)∧Below w.heap.size w w':=by
 obtain ⟨x,y⟩:=l;simp only [qJ.cells];obtain ⟨W,hW,b0,b1,b2,hbW,qp⟩:=yn w [.int .i64 x,.int .i64 y] [.int .i64 x,.int .i64 y] [.int .i64 x,.int .i64 y] 244 185 185;have q0:=b1.cell 0 _ rfl;have q1:=b1.cell 1 _ rfl;clear b0 b2 qp;go_enter Tryz.func218,Tryz.ntmps218;go_wp2;rw [hW.out];exact bodyPost_ret (v:=.agg #[.int .i64 x,.int .i64 y]) (by simp [results,Tryz.results218,go_sem,q0,q1]) rfl ⟨rfl,hbW⟩
theorem DZ (n:Nat):(madeCells #[.int .i64 0,.int .i64 0] (n*2)).toList=jl (List.replicate n qY):=by
 apply List.ext_getElem?
 intro i;by_cases h:i<n*2
 ·have e:=Q6 (List.replicate n qY) (i / 2) (i % 2) (by simp;omega) (Nat.mod_lt _ (by omega));rw [show i / 2*2+i % 2=i by omega] at e;rw [e];have hg:(List.replicate n qY).getD (i / 2) qY=qY:=by simp [List.getD,show i / 2<n by omega]
  rw [hg];simp only [madeCells,Array.toList_map,List.getElem?_map,Array.toList_range,List.getElem?_range h,Option.map_some,qJ.cells,qY];have:i % 2<2:=Nat.mod_lt _ (by omega);show some (#[Value.int .i64 0,.int .i64 0][i % 2]!)=_;rcases (by omega:i % 2=0∨i % 2=1) with h' | h'<;>rw [h']<;>rfl
 ·rw [List.getElem?_eq_none (by simp [size_madeCells];omega),List.getElem?_eq_none (by rw [wG];simp;omega)]
theorem GL (n:Nat):(madeCells (Value.agg #[.int .i64 0,.int .i64 0]).cells (n*2)).toList=jl (List.replicate n qY):=DZ n
def uS (ls:List qJ) (k:Nat):List qJ:=ls.take k++List.replicate (ls.length-k) qY
theorem TL (ls:List qJ) (k:Nat) (h:k≤ls.length):(uS ls k).length=ls.length:=by simp [uS];omega
theorem TM (ls:List qJ):uS ls ls.length=ls:=by simp [uS]
theorem Fh (ls:List qJ):uS ls 0=List.replicate ls.length qY:=by simp [uS]
theorem TN (ls:List qJ) (k:Nat) (h:k<ls.length):(uS ls k).set k (ls.getD k qY)=uS ls (k+1):=by
 unfold uS;rw [List.set_append,if_neg (by simp;omega),List.take_succ_eq_append_getElem h];have e:ls.length-k=(ls.length-(k+1))+1:=by omega
 have e2:k-(List.take k ls).length=0:=by simp;omega
 rw [e2,e,List.replicate_succ,List.set_cons_zero];simp only [List.getD,h,List.getElem?_eq_getElem,Option.getD_some,List.append_assoc,List.singleton_append]
theorem Dm (a:Option Addr) (cap:Nat) (ls:List qJ) (w:World) (hr:yt w a ls) (hl:ls.length≤1099511627776):
  Calls Tryz.prog 114 #[.slice a ls.length cap] w fun e w'=>∃ a' c',e=.returned (.slice a' ls.length c')∧OwnH w' w.heap.size w'.heap.size a' c' ls∧Below w.heap.size w w':=by
 obtain ⟨i0,hi,hz0,hz1,hz2⟩:=info_parts Tryz.Wh;rcases hr.cases with rfl | ⟨b,off,rfl,hpos,hcell⟩
 ·go_enter Tryz.func114,Tryz.ntmps114;go_wp2_with (at_make;refine wpList_make_full _ rfl _ _ 40 rfl w.heap.size 185 i0 (.agg #[.int .i64 0,.int .i64 0]) 2 Tryz.underlying40 hi hz0 hz1 _ _ _ _ 0 rfl rfl (by simp) (by simp) (by omega) (by simp [maxLen]) (Nat.le_refl _) ?_);intro w0 hown0 j5;go_wp2;refine wp_loop_rounds 1 ?_;rw [rounds_succ];go_wp2;go_ret;have ho:w0.ownsRow w.heap.size 185 2 (.slice (some ⟨w.heap.size,0,none⟩) 0 0) 0 (jl []):=by
   have e:=GL 0;simp only [List.replicate_zero] at e;rw [← e];exact hown0
  exact ⟨_,_,rfl,⟨ho,Nat.le_refl _,fun k hk=>(ho.lt k hk).2⟩,(Below.refl _ _).grown j5 (Nat.le_refl _) (fun k h=>by cases h)⟩
 ·have JJ:b<w.heap.size:=block_lt (hcell 0 hpos).1;go_enter Tryz.func114,Tryz.ntmps114;go_wp2_with (at_make;refine wpList_make_full _ rfl _ _ 40 rfl w.heap.size 185 i0 (.agg #[.int .i64 0,.int .i64 0]) 2 Tryz.underlying40 hi hz0 hz1 _ _ _ _ ls.length rfl rfl rfl rfl (by rw [hz2];omega) (by simp [maxLen];omega) (Nat.le_refl _) ?_);intro w0 hown0 j5;have hown1:w0.ownsRow w.heap.size 185 2 (.slice (some ⟨w.heap.size,0,none⟩) ls.length ls.length) ls.length (jl (uS ls 0)):=by
   rw [Fh,← GL];exact hown0
  have hb0:Below w.heap.size w w0:=(Below.refl _ _).grown j5 (Nat.le_refl _) (fun k h=>by cases h);clear hown0 j5;go_wp2;go_loopw [4] (fun i wr=>∃ k:Nat,k≤ls.length∧i=.int .i64 k∧wr.ownsRow w.heap.size 185 2 (.slice (some ⟨w.heap.size,0,none⟩) ls.length ls.length) ls.length (jl (uS ls k))∧Below w.heap.size w wr)
   (fun i _=>ls.length-(intOf i).toNat)
  case atStart=>exact ⟨0,Nat.zero_le _,rfl,hown1,hb0⟩
  case round=>
   obtain ⟨k,hk,rfl,hown,hnx⟩:=hrel;by_cases hlt:k<ls.length
   ·obtain ⟨c0,c1⟩:=hcell k hlt;have d0:wr.cell? ⟨b,off+k*2,none⟩=_:=(hnx.cell (by exact JJ)).trans c0;have d1:wr.cell? ⟨b,off+k*2+1,none⟩=_:=(hnx.cell (by exact JJ)).trans c1;have hp:=TL ls k hk;have NV:Hid ((uS ls k).set k (ls.getD k qY)=uS ls (k+1)):=TN ls k hlt;clear c0 c1 hcell hown1 hb0;generalize ls.getD k qY=z at*
    have C:=Fg z wr;simp only [qJ.cells] at C;go_wp2_with fail;refine C.mono ?_;clear C d0 d1;rintro e w1 ⟨rfl,hb1⟩;have ZE:=jE hown (fun j hj=>hb1.block j (hown.lt j hj).2);obtain ⟨x0,x1,hfz⟩:=WJ ZE hp k hlt;have f0:=hfz (k*2);have f1:=hfz (k*2+1);obtain ⟨W2,hW2,ho2,hg2⟩:=nP ZE hp k hlt z;rw [NV.out] at ho2;have hB2:Below w.heap.size w W2:=(hnx.trans (hb1.mono hnx.size)).grown hg2 (by have:=hnx.size;have:=hb1.size;omega) (fun j hj=>by cases hj;omega);have HH:Hid (_∧_):=⟨ho2,hB2⟩;clear ho2 hB2 hg2 hfz ZE hown hb1 hnx NV;generalize (uS ls k).getD k qY=old at*
    go_wp2_with fail;rw [hW2.out];go_roundw
    case rel=>exact ⟨k+1,by omega,by go_num,HH.out.1,HH.out.2⟩
    case measure=>simp [intOf];omega
   ·have HE:Hid (wr.ownsRow w.heap.size 185 2 (.slice (some ⟨w.heap.size,0,none⟩) ls.length ls.length) ls.length (jl ls)):=by
     have e:k=ls.length:=by omega
     rw [e,TM] at hown;exact hown
    go_wp2;go_ret;exact ⟨_,_,rfl,⟨HE.out,Nat.le_refl _,fun k hk=>(HE.out.lt k hk).2⟩,hnx⟩
theorem D6 (l:qJ) (w:World):
  Calls Tryz.prog 223 #[.agg l.cells.toArray,.agg l.cells.toArray] w fun e w'=>e=.returned (.bool true)∧Below w.heap.size w w':=by
 obtain ⟨x,y⟩:=l;simp only [qJ.cells];obtain ⟨W,hW,b0,b1,hbW,qp⟩:=jf w [.int .i64 x,.int .i64 y] [.int .i64 x,.int .i64 y] 185 185;clear b0 b1 qp;go_enter Tryz.func223,Tryz.ntmps223;go_wp2;rw [hW.out];go_ret;exact ⟨rfl,hbW⟩
theorem NH (a b:Option Addr) (ca cb:Nat) (ls:List qJ) (w:World) (ha:yt w a ls) (hb:yt w b ls) (hl:ls.length≤1099511627776):
  Calls Tryz.prog 120 #[.slice a ls.length ca,.slice b ls.length cb] w fun e w'=>e=.returned (.bool true)∧Below w.heap.size w w':=by
 rcases ha.cases with rfl | ⟨b1,o1,rfl,hpos,hc1⟩
 ·go_enter Tryz.func120,Tryz.ntmps120;go_wp2;refine wp_loop_rounds 1 ?_;rw [rounds_succ];go_wp2;go_ret;exact ⟨rfl,Below.refl _ _⟩
 ·rcases hb.cases with rfl | ⟨b2,o2,rfl,_,hc2⟩
  ·simp at hpos
  ·go_enter Tryz.func120,Tryz.ntmps120;go_wp2;go_loopw [5] (fun i wr=>∃ k:Nat,k≤ls.length∧i=.int .i64 k∧Below w.heap.size w wr) (fun i _=>ls.length-(intOf i).toNat)
   case atStart=>exact ⟨0,Nat.zero_le _,rfl,Below.refl _ _⟩
   case round=>
    obtain ⟨k,hk,rfl,hbl⟩:=hrel;by_cases hlt:k<ls.length
    ·have h1:=hc1 k hlt;have h2:=hc2 k hlt;clear hc1 hc2;generalize ls.getD k qY=z at*
     have HS:Hid (∀ w1,Below w.heap.size w w1→(w1.cell? ⟨b1,o1+k*2,none⟩=some (.int .i64 z.tx)∧w1.cell? ⟨b1,o1+k*2+1,none⟩=some (.int .i64 z.oid))∧(w1.cell? ⟨b2,o2+k*2,none⟩=some (.int .i64 z.tx)∧w1.cell? ⟨b2,o2+k*2+1,none⟩=some (.int .i64 z.oid))):=fun w1 hh=>
      ⟨⟨(hh.cell (block_lt h1.1)).trans h1.1,(hh.cell (block_lt h1.2)).trans h1.2⟩,(hh.cell (block_lt h2.1)).trans h2.1,(hh.cell (block_lt h2.2)).trans h2.2⟩
     have hh:=HS.out wr hbl;clear h1 h2;go_wp2_with fail
     go_region_held3 (fun w1=>(w1.cell? ⟨b1,o1+k*2,none⟩=some (.int .i64 z.tx)∧w1.cell? ⟨b1,o1+k*2+1,none⟩=some (.int .i64 z.oid))∧(w1.cell? ⟨b2,o2+k*2,none⟩=some (.int .i64 z.tx)∧w1.cell? ⟨b2,o2+k*2+1,none⟩=some (.int .i64 z.oid)))
      (first | exact HS.out _ hw2 | go_keep | fail)
      ((first | (go_at_call 223;refine (D6 z _).mono ?_;rintro e w2 ⟨rfl,hb2⟩;have hw2:Below w.heap.size w w2:=(hbl.drew).trans (hb2.mono hbl.size)) | fail))
     all_goals
      go_wp2_with fail;go_roundw
      case rel=>exact ⟨k+1,by omega,by go_num,hw2⟩
      case measure=>simp [intOf];omega
    ·go_wp2;go_ret;exact ⟨rfl,hbl⟩
def XQ (k0:Int) (i:Nat):qJ:=⟨k0+2*i,k0+2*i+1⟩
def wX (k0:Int) (n:Nat):List qJ:=(List.range n).map fun i:Nat=>XQ k0 i
theorem vJ (k0:Int) (n:Nat):(wX k0 n).length=n:=by simp [wX]
theorem TQ (k0:Int) (n i:Nat) (h:i<n):(wX k0 n).getD i qY=XQ k0 i:=by simp [wX,List.getD,h]
theorem D7 (k0:Int) (n:Nat):wX k0 (n+1)=wX k0 n++[XQ k0 n]:=by simp [wX,List.range_succ]
def ug (k0:Int) (xs:List qJ) (k:Nat):List qJ:=wX k0 k++xs.drop k
theorem D8 (k0:Int) (xs:List qJ) (k:Nat) (h:k≤xs.length):(ug k0 xs k).length=xs.length:=by simp [ug,vJ];omega
theorem D9 (k0:Int) (xs:List qJ) (k:Nat) (h:k<xs.length):(ug k0 xs k).set k (XQ k0 k)=ug k0 xs (k+1):=by
 unfold ug;rw [List.set_append,if_neg (by rw [vJ];omega),vJ,Nat.sub_self,D7,List.drop_eq_getElem_cons h,List.set_cons_zero];simp
theorem bg (k0:Int) (xs:List qJ):ug k0 xs xs.length=wX k0 xs.length:=by simp [ug]
theorem Mc (base:Nat) (a:Option Addr) (cap:Nat) (k0:Int) (xs:List qJ) (w:World)
  (hown:w.ownsRow base 185 2 (.slice a xs.length cap) xs.length (jl xs)) (h0:0≤k0) (hl:k0+2*xs.length≤4611686018427387904):
  Calls Tryz.prog 125 #[.slice a xs.length cap,.int .i64 k0] w fun e w'=>e=.returned (.int .i64 (k0+2*xs.length))∧
   w'.ownsRow base 185 2 (.slice a xs.length cap) xs.length (jl (wX k0 xs.length))∧w.grownBy w' (Value.slice a xs.length cap).ownBlock:=by
 have hlen:=hown.1;rcases hown.2 with ⟨hv,h00⟩ | ⟨g,cap',cur,hv,hg,hgg,hr⟩
 ·simp only [Value.slice.injEq] at hv;obtain ⟨rfl,EN,rfl⟩:=hv;obtain rfl:=List.length_eq_zero_iff.1 h00;go_enter Tryz.func125,Tryz.ntmps125;go_wp2;refine wp_loop_rounds 1 ?_;rw [rounds_succ];go_wp2;go_ret;exact ⟨by simp,hown,World.grownBy.refl _ _⟩
 ·simp only [Value.slice.injEq] at hv;obtain ⟨rfl,_,rfl⟩:=hv;clear hgg hr hlen;have hM:w.ownsRow base 185 2 (.slice (some ⟨g,0,none⟩) xs.length cap) xs.length (jl (ug k0 xs 0)):=by simpa [ug,wX] using hown
  clear hown;go_enter Tryz.func125,Tryz.ntmps125;go_wp2;go_loopw [1,5] (fun kk i wr=>∃ k:Nat,k≤xs.length∧i=.int .i64 k∧kk=.int .i64 (k0+2*k)∧wr.ownsRow base 185 2 (.slice (some ⟨g,0,none⟩) xs.length cap) xs.length (jl (ug k0 xs k))∧w.grownBy wr (some g))
   (fun _ i _=>xs.length-(intOf i).toNat)
  case atStart=>exact ⟨0,Nat.zero_le _,rfl,by simp,hM,World.grownBy.refl _ _⟩
  case round=>
   obtain ⟨k,hk,rfl,rfl,hown,hgr⟩:=hrel;clear hM;by_cases hlt:k<xs.length
   ·have hp:=D8 k0 xs k hk;obtain ⟨x0,x1,hfz⟩:=WJ hown hp k hlt;have f0:=hfz (k*2);have f1:=hfz (k*2+1);obtain ⟨W2,hW2,ho2,hg2⟩:=nP hown hp k hlt (XQ k0 k);rw [D9 k0 xs k hlt] at ho2;have HH:Hid (_∧_):=⟨ho2,grownBy_trans hgr hg2⟩;clear ho2 hg2 hfz hown hgr;generalize (ug k0 xs k).getD k qY=old at*
    simp only [XQ] at hW2;go_wp2;rw [hW2.out];go_roundw
    case rel=>exact ⟨k+1,by omega,by go_num,by go_num,HH.out.1,HH.out.2⟩
    case measure=>simp [intOf];omega
   ·have HE:Hid (wr.ownsRow base 185 2 (.slice (some ⟨g,0,none⟩) xs.length cap) xs.length (jl (wX k0 xs.length))∧k=xs.length):=by
     have e:k=xs.length:=by omega
     rw [e,bg] at hown;exact ⟨hown,e⟩
    go_wp2;go_ret;exact ⟨ja (by have:=HE.out.2;omega),HE.out.1,hgr⟩
theorem Ho (lo hi:Nat) (a:Option Addr) (cap:Nat) (k0:Int) (xs:List qJ) (w:World) (ho:OwnH w lo hi a cap xs) (h0:0≤k0) (hl:k0+2*xs.length≤4611686018427387904):
  Calls Tryz.prog 125 #[.slice a xs.length cap,.int .i64 k0] w fun e w'=>e=.returned (.int .i64 (k0+2*xs.length))∧
   OwnH w' lo hi a cap (wX k0 xs.length)∧Touch (Value.slice a xs.length cap).ownBlock.toList w w':=by
 refine (Mc lo a cap k0 xs w ho.1 h0 hl).mono ?_;rintro e w' ⟨rfl,h1,h2⟩;refine ⟨rfl,⟨by rw [vJ];exact h1,Nat.le_trans ho.2.1 h2.size,by rw [vJ];exact ho.2.2⟩,Touch.jw h2 (fun j hj=>Option.mem_toList.2 hj)⟩
theorem Hq (a:Option Addr) (cap:Nat) (k0:Int) (n:Nat) (w:World) (hr:yt w a (wX k0 n)) (h0:0≤k0) (hl:k0+2*n≤4611686018427387904):
  Calls Tryz.prog 130 #[.slice a n cap,.int .i64 k0] w fun e w'=>e=.returned (.int .i64 (k0+2*n))∧w'=w:=by
 rcases hr.cases with h | ⟨b,off,rfl,hpos,hcell⟩
 ·have h':=congrArg List.length h;rw [vJ] at h';simp at h';subst h';go_enter Tryz.func130,Tryz.ntmps130;go_wp2;refine wp_loop_rounds 1 ?_;rw [rounds_succ];go_wp2;go_ret;exact ⟨by simp,rfl⟩
 ·rw [vJ] at hpos hcell;go_enter Tryz.func130,Tryz.ntmps130;go_wp2
  go_loop [1,5] (fun kk i=>∃ k:Nat,k≤n∧i=.int .i64 k∧kk=.int .i64 (k0+2*k)) (fun _ i=>n-(intOf i).toNat)
  case atStart=>exact ⟨0,Nat.zero_le _,rfl,by simp⟩
  case round=>
   obtain ⟨k,hk,rfl,rfl⟩:=hrel;by_cases hlt:k<n
   ·obtain ⟨c0,c1⟩:=hcell k hlt;rw [TQ k0 n k hlt] at c0 c1;simp only [XQ] at c0 c1;clear hcell;go_wp2
    go_round
    case rel=>exact ⟨k+1,by omega,by go_num,by go_num⟩
    case measure=>simp [intOf];omega
   ·have HE:Hid (k=n):=by show k=n;omega
    go_wp2;go_ret;exact ⟨ja (by have:=HE.out;omega),rfl⟩
def Ak (w:World) (B:Nat) (zs:List Int):Prop:=
 ∃ (a:Option Addr) (c i:Nat) (h:Int),w.heap[B]? =some (.cells #[.slice a zs.length c,.int .i64 i,.int .i64 h] 172 (0,0))∧i≤zs.length∧Reads w a zs∧(zs≠[]→∀ b off,a=some ⟨b,off,none⟩→b<B)
theorem Ak.lt {w:World} {B:Nat} {zs:List Int} (h:Ak w B zs):B<w.heap.size:=by
 obtain ⟨a,c,i,h,hh,_⟩:=h;exact (Array.getElem?_eq_some_iff.1 hh).1
theorem YA {w:World} (ty:TypeId) (lo hi:Nat) (a:Option Addr) (c:Nat) (xs:List Int) (hown:jG w lo hi a c xs)
  (sa:Option Addr) (sc:Nat) (zs:List Int) (hr:ky w sa zs) (hc:sa=none→sc=0) (hb:xs.length+zs.length≤1099511627776) (hlo:lo≤w.heap.size):
  ∃ a' c' ys w',(Builtin.append_ #[24,24] ty #[.slice a xs.length c,.slice sa zs.length sc]).run Tryz.prog w=.ok (.slice a' ys.length c') w'∧Hid (ys=xs++zs)∧jG w' lo w'.heap.size a' c' ys∧w.grownBy w' (Value.slice a xs.length c).ownBlock∧
   (∀ k,(Value.slice a' ys.length c').ownBlock=some k→(Value.slice a xs.length c).ownBlock=some k∨k=w.heap.size):=by
 obtain ⟨i0,hi0,hz0,hz1,hz2⟩:=info_parts Tryz.pE;cases sa with
 | none=>
  have hz:zs=[]:=by
   by_cases e:zs=[]
   ·exact e
   ·obtain ⟨b,off,hh,_⟩:=hr e;cases hh
  subst hz;have:=hc rfl;subst this;refine ⟨a,c,xs,w,run_append_owned_none (P:=Tryz.prog) (w:=w) lo 24 ty 3 i0 1 Tryz.underlying24 hi0 _ _ _ hown.1,(by simp [Hid]),⟨hown.1,Nat.le_refl _,fun k hk=>(hown.1.lt k hk).2⟩,World.grownBy.refl _ _,fun k hk=>.inl hk⟩
 | some ad=>
  obtain ⟨v',w',h1,h2,h3,_,h5⟩:=run_append_own_at (P:=Tryz.prog) w lo 24 ty 3 i0 (.int .i64 0) 1 8 Tryz.underlying24 hi0 hz0 hz1 hz2 rfl (by decide) _ _ _ hown.1 ad zs.length sc (zs.map (Value.int .i64)) (by simp) (by
   intro j u hj;have hjl:j<zs.length:=by
    by_cases e:j<zs.length
    ·exact e
    ·simp [List.getElem?_eq_none (Nat.le_of_not_lt e)] at hj
   have hne:zs≠[]:=by intro e;simp [e] at hjl
   obtain ⟨b,off,hh,hcell⟩:=hr hne;cases hh;rw [yS,hcell j hjl]
   simpa [hjl] using hj) (ints_oneCell _ _) (by simp only [maxLen];omega) (by omega) hlo
  rw [← List.map_append,← List.length_append] at h2;have sh:∃ a' c',v'=.slice a' (xs++zs).length c':=by
   rcases h2.2 with ⟨rfl,h0⟩ | ⟨g,cap,cur,rfl,_⟩
   ·exact ⟨none,0,by rw [h0]⟩
   ·exact ⟨_,_,rfl⟩
  obtain ⟨a',c',rfl⟩:=sh;refine ⟨a',c',xs++zs,w',h1,rfl,⟨h2,Nat.le_refl _,fun k hk=>(h2.lt k hk).2⟩,h3,fun k hk=>?_⟩;rcases h5 with h5 | h5
  ·exact .inl (by rw [← h5];exact hk)
  ·rw [h5] at hk;exact .inr (Option.some.inj hk).symm
theorem XR {w:World} {ops:Array Oper} {o:Oper} {act:Act} {K:Act→World→Prop} {Q:Exit→Act→World→Prop} {E:Prop} (hgd:o.guard=none) (s x:Operand)
  (ho:o.op=.call { callee:=.builtin .append,args:=#[s,x],argTypes:=#[24,24] })
  (lo hi:Nat) (a:Option Addr) (c:Nat) (xs:List Int) (hs:act.eval s=.slice a xs.length c) (hown:jG w lo hi a c xs)
  (sa:Option Addr) (sc:Nat) (zs:List Int) (hx:act.eval x=.slice sa zs.length sc) (hr:ky w sa zs) (hc:sa=none→sc=0)
  (hb:xs.length+zs.length≤1099511627776) (hlo:lo≤w.heap.size)
  (h:∀ a' c' ys w',Hid (ys=xs++zs)→jG w' lo w'.heap.size a' c' ys→w.grownBy w' (Value.slice a xs.length c).ownBlock→
   (∀ k,(Value.slice a' ys.length c').ownBlock=some k→(Value.slice a xs.length c).ownBlock=some k∨k=w.heap.size)→K (act.put o.dst (.slice a' ys.length c')) w'):
  if Region.wanted o (yielded ops act.tmps)=true then Oper.wp Tryz.prog o act w K Q else E:=by
 have hw:Region.wanted o (yielded ops act.tmps)=true:=by simp [Region.wanted,hgd]
 rw [if_pos hw];obtain ⟨a',c',ys,w',hrun,h1,h2,h3,h4⟩:=YA (w:=w) o.type lo hi a c xs hown sa sc zs hr hc hb hlo;unfold Oper.wp execOp;simp only [ho,resolve,invoke,builtin,Sem.run_bind,Sem.run_pure,Result.andThen_ok,List.map_toArray,List.map_cons,List.map_nil,hs,hx,hrun];exact h a' c' ys w' h1 h2 h3 h4
theorem Box.grown {w w':World} {C B:Nat} {vs:List Value} {t:TypeId} (h:Box w C vs t) (hg:w.grownBy w' (some B)) (hne:C≠B):Box w' C vs t:=h.block (hg.block C h.lt (fun e=>hne (Option.some.inj e)))
theorem zQ {W w':World} (h:Below W.heap.size W w') (o:Obj):Below W.heap.size W (w'.alloc o):=h.alloc h.size o
theorem blG {W w' w2:World} {g:Nat} (h:Below W.heap.size W w') (hg:w'.grownBy w2 (some g)) (hn:W.heap.size≤g):Below W.heap.size W w2:=h.grown hg h.size (fun k e=>by cases e;exact hn)
theorem GM {w:World} {g lo:Nat} (h:Box w g [] 3) (hlo:lo≤g):jG w lo w.heap.size (some ⟨g,0,none⟩) 0 []:=
 ⟨⟨by simp,.inr ⟨g,0,#[],rfl,hlo,h,Nat.le_refl _,by simp [maxLen],rfl,rfl⟩⟩,Nat.le_refl _,fun k hk=>by cases hk;exact h.lt⟩
theorem Fj (o:xk) (aI:Option Addr) (cI:Nat) (aR:Option Addr) (cR:Nat) (w:World) (hr:qQ w aI cI aR cR o) (JM:o.ints.length≤1099511627776) (Q7:o.refs.length≤1099511627776):
  Calls Tryz.prog 232 #[.agg #[.int .i64 o.kind,.slice aI o.ints.length cI,.slice aR o.refs.length cR]] w fun e w'=>∃ F4 F5 F6 cR',e=.returned (.agg #[.int .i64 o.kind,.slice F4 o.ints.length F5,.slice F6 o.refs.length cR'])∧
   OwnO w' w.heap.size w'.heap.size F4 F5 F6 cR' o∧Below w.heap.size w w':=by
 obtain ⟨k,ints,refs⟩:=o;obtain ⟨hI,hR,hni,hnr⟩:=hr;simp only at*
 obtain ⟨W,hW,b0,b1,hbW,qp⟩:=jf w [.int .i64 k,.slice aI ints.length cI,.slice aR refs.length cR] [.int .i64 0,.slice none 0 0,.slice none 0 0] 26 26;have hI':=hI.below hbW;have hR':=hR.below hbW;have Py:w.heap.size+1<W.heap.size:=by omega
 clear qp hI hR;go_enter Tryz.func232,Tryz.ntmps232;go_wp2_with fail;rw [hW.out];clear hW;have hkeep:∀ w'',Below W.heap.size W w''→Box w'' w.heap.size [.int .i64 k,.slice aI ints.length cI,.slice aR refs.length cR] 26∧Box w'' (w.heap.size+1) [.int .i64 0,.slice none 0 0,.slice none 0 0] 26:=
  fun w'' hh=>⟨b0.below hh b0.lt,b1.below hh b1.lt⟩
 have hcells:∀ w'',Below W.heap.size W w''→(w''.cell? ⟨w.heap.size,0,none⟩=some (.int .i64 k)∧w''.cell? ⟨w.heap.size,1,none⟩=some (.slice aI ints.length cI)∧w''.cell? ⟨w.heap.size,2,none⟩=some (.slice aR refs.length cR))∧(w''.cell? ⟨w.heap.size+1,0,none⟩=some (.int .i64 0)∧w''.cell? ⟨w.heap.size+1,1,none⟩=some (.slice none 0 0)∧w''.cell? ⟨w.heap.size+1,2,none⟩=some (.slice none 0 0))∧(w''.frozen? ⟨w.heap.size+1,0,none⟩=false∧w''.frozen? ⟨w.heap.size+1,1,none⟩=false∧w''.frozen? ⟨w.heap.size+1,2,none⟩=false):=by
  intro w'' hh;obtain ⟨ba,bb⟩:=hkeep w'' hh;exact ⟨⟨ba.cell 0 _ rfl,ba.cell 1 _ rfl,ba.cell 2 _ rfl⟩,⟨bb.cell 0 _ rfl,bb.cell 1 _ rfl,bb.cell 2 _ rfl⟩,bb.frozen 0,bb.frozen 1,bb.frozen 2⟩
 have hh:=hcells W (Below.refl _ _);have q1:Box (W.drew.alloc (.cells #[] 3)) W.heap.size [] 3:=yF W.drew [] _;have q2a:Box ((W.drew.alloc (.cells #[] 3)).alloc (.cells #[] 3)) W.heap.size [] 3:=(yF W.drew [] _).alloc _;have q2b:Box ((W.drew.alloc (.cells #[] 3)).alloc (.cells #[] 3)) (W.heap.size+1) [] 3:=by
  have:=yF (W.drew.alloc (.cells #[] 3)) [] 3
  simpa using this
 have Q1:Hid (_∧_∧_):=⟨q1,q2a,q2b⟩;clear q1 q2a q2b;have HK:Hid _:=hkeep;have HC:Hid _:=hcells;have hne:¬ (w.heap.size=w.heap.size+1):=by omega
 have HNI:Hid _:=hni;have HNR:Hid _:=hnr;clear hkeep hcells b0 b1 hni hnr
 go_region_held3 (fun w''=>w''.cell? ⟨w.heap.size,0,none⟩=some (.int .i64 k)∧w''.cell? ⟨w.heap.size,1,none⟩=some (.slice aI ints.length cI)∧w''.cell? ⟨w.heap.size,2,none⟩=some (.slice aR refs.length cR))
  (first | exact (HC.out _ (by first | exact hb2 | exact hb1 | exact zQ hb2 _ | exact zQ hb1 _ | exact (Below.refl _ _).drew | exact zQ (Below.refl _ _).drew _ | exact zQ (zQ (Below.refl _ _).drew _) _ | fail)).1 | exact ⟨((((HK.out _ (by first | exact hb2 | exact hb1 | fail)).1.other hne).other hne).other hne).cell 0 _ rfl,((((HK.out _ (by first | exact hb2 | exact hb1 | fail)).1.other hne).other hne).other hne).cell 1 _ rfl,((((HK.out _ (by first | exact hb2 | exact hb1 | fail)).1.other hne).other hne).other hne).cell 2 _ rfl⟩ | go_keep | fail)
  ((first
   | (refine XR rfl (.tmp 5) (.tmp 7) (by rfl) (w.heap.size+1+1) _ _ _ [] (by rfl) (GM (by first | exact Q1.out.1 | exact Q1.out.2.1 | exact Q1.out.2.2 | assumption | exact (Q1.out.2.2).grown hg1 (by dsimp only;omega) | exact (Q1.out.2.1).grown hg1 (by dsimp only;omega) | exact yF _ [] _ | fail) (by first | omega | (have:=hb1.size;omega))) aI cI ints (by rfl) (hI'.below (by first | exact hb2 | exact hb1 | exact zQ hb2 _ | exact zQ hb1 _ | exact (Below.refl _ _).drew | exact zQ (Below.refl _ _).drew _ | exact zQ (zQ (Below.refl _ _).drew _) _ | fail)) HNI.out (by simp only [List.length_nil];omega) (Nat.le_trans (by omega) (Below.size (B:=W.heap.size) (w:=W) (by first | exact hb2 | exact hb1 | exact zQ hb2 _ | exact zQ hb1 _ | exact (Below.refl _ _).drew | exact zQ (Below.refl _ _).drew _ | exact zQ (zQ (Below.refl _ _).drew _) _ | fail))) ?_;intro a1 c1 y1 u1 hy1 Xk hg1 OY;have HA1:Hid _:=OY;clear OY;have Vr:ints=y1:=(by simpa using hy1.out.symm);subst Vr;have hb1:=blG (W:=W) (by first | exact hb2 | exact hb1 | exact zQ hb2 _ | exact zQ hb1 _ | exact (Below.refl _ _).drew | exact zQ (Below.refl _ _).drew _ | exact zQ (zQ (Below.refl _ _).drew _) _ | fail) hg1 (by dsimp only;omega))
   | (refine XR rfl (.tmp 9) (.tmp 11) (by rfl) (w.heap.size+1+1) _ _ _ [] (by rfl) (GM (by first | exact Q1.out.1 | exact Q1.out.2.1 | exact Q1.out.2.2 | assumption | exact (Q1.out.2.2).grown hg1 (by dsimp only;omega) | exact (Q1.out.2.1).grown hg1 (by dsimp only;omega) | exact yF _ [] _ | fail) (by first | omega | (have:=hb1.size;omega))) aR cR refs (by rfl) (hR'.below (by first | exact hb2 | exact hb1 | exact zQ hb2 _ | exact zQ hb1 _ | exact (Below.refl _ _).drew | exact zQ (Below.refl _ _).drew _ | exact zQ (zQ (Below.refl _ _).drew _) _ | fail)) HNR.out (by simp only [List.length_nil];omega) (Nat.le_trans (by omega) (Below.size (B:=W.heap.size) (w:=W) (by first | exact hb2 | exact hb1 | exact zQ hb2 _ | exact zQ hb1 _ | exact (Below.refl _ _).drew | exact zQ (Below.refl _ _).drew _ | exact zQ (zQ (Below.refl _ _).drew _) _ | fail))) ?_;intro a2 c2 y2 u2 hy2 hO2 hg2 OZ;have HA2:Hid _:=OZ;clear OZ;have Vr:refs=y2:=(by simpa using hy2.out.symm);subst Vr;have hb2:=blG (W:=W) (by first | exact hb2 | exact hb1 | exact zQ hb2 _ | exact zQ hb1 _ | exact (Below.refl _ _).drew | exact zQ (Below.refl _ _).drew _ | exact zQ (zQ (Below.refl _ _).drew _) _ | fail) hg2 (by dsimp only;first | omega | (have:=hb1.size;omega));obtain ⟨⟨m0,m1,m2⟩,⟨n0,n1,n2⟩,e0,e1,e2⟩:=HC.out _ hb2) | fail))
 all_goals
  have qd2:jG u2 (w.heap.size+1+1) u2.heap.size a1 c1 ints:=by
   first
   | exact (Xk.kept hg2 (fun k hk e=>by have h1:=HA1.out k hk;have h2:=(Xk.lt k hk).2;simp [Value.ownBlock] at h1 e;omega)).widen (Nat.le_refl _) hg2.size (Nat.le_refl _)
   | exact ((Xk.below ((Below.refl _ _).alloc (Nat.le_refl _) _)).kept hg2 (fun k hk e=>by have h2:=(Xk.lt k hk).2;simp [Value.ownBlock] at e;omega)).widen (Nat.le_refl _) (Nat.le_trans (by simp) hg2.size) (Nat.le_refl _)
   | fail
  have hap:∀ k,(Value.slice a1 ints.length c1).ownBlock=some k→(Value.slice a2 refs.length c2).ownBlock≠some k:=by
   intro k hk hk';have h1:=HA1.out k hk;have h2:=HA2.out k hk';have h3:=(Xk.lt k hk).2;simp [Value.ownBlock] at h1 h2;omega
  obtain ⟨WF,qF,bF,hwF,qN⟩:=F8 (HK.out _ hb2).2 (.int .i64 k) (.slice a1 ints.length c1) (.slice a2 refs.length c2);clear HA1 HA2 hg1 hg2 Q1 hb1 Xk;rw [qF.out];go_wp2;obtain ⟨q0,q1,q2,_,_,_⟩:=bF.three;have hs2:=hb2.size;have TR:OwnO WF (w.heap.size+1+1) u2.heap.size a1 c1 a2 c2 ⟨k,ints,refs⟩:=(⟨qd2,hO2,hap⟩:OwnO u2 (w.heap.size+1+1) u2.heap.size a1 c1 a2 c2 ⟨k,ints,refs⟩).within hwF (.inr (by omega));exact bodyPost_ret (v:=.agg #[.int .i64 k,.slice a1 ints.length c1,.slice a2 refs.length c2]) (by simp [results,Tryz.results232,go_sem,q0,q1,q2]) rfl ⟨a1,c1,a2,c2,rfl,TR.widen (by omega) (by omega) (Nat.le_refl _),(hbW.trans (hb2.mono (by omega))).trans (hwF.below (by omega) (by omega))⟩
theorem YB (v x:Value) (L:List Value) (i:Nat):(v::L).set (1+i) x=v::L.set i x:=by rw [Nat.add_comm,List.set_cons_succ]
theorem WU {w:World} {B:Nat} {v:Value} {ss:List qf} {ty:TypeId} (b:Box w B (v::cellsS ss) ty) (k:Nat) (hk:k<ss.length) (t:qf):
  ∃ W,Hid ((((w.setCell ⟨B,1+k*4,none⟩ (.bool t.v.has)).setCell ⟨B,1+k*4+1,none⟩ (.int .i64 t.v.o.kind)).setCell ⟨B,1+k*4+2,none⟩ (.slice t.aI t.v.o.ints.length t.cI)).setCell ⟨B,1+k*4+3,none⟩ (.slice t.aR t.v.o.refs.length t.cR)=W)∧Box W B (v::cellsS (ss.set k t)) ty∧Within B (B+1) w W∧W.heap.size=w.heap.size:=by
 refine ⟨_,rfl,?_,?_,?_⟩
 ·have:=(((b.set (1+k*4) (.bool t.v.has)).set (1+k*4+1) (.int .i64 t.v.o.kind)).set (1+k*4+2) (.slice t.aI t.v.o.ints.length t.cI)).set (1+k*4+3) (.slice t.aR t.v.o.refs.length t.cR);rw [Nat.add_assoc,Nat.add_assoc 1 (k*4) 2,Nat.add_assoc 1 (k*4) 3,YB,YB,YB,YB,gK ss k hk t] at this;rw [Nat.add_assoc,Nat.add_assoc 1 (k*4) 2,Nat.add_assoc 1 (k*4) 3];exact this
 ·exact (((jh w B _ _ (by omega)).trans (jh _ B _ _ (by omega))).trans (jh _ B _ _ (by omega))).trans (jh _ B _ _ (by omega))
 ·simp
theorem Qn (s:qf) (w:World) (hr:s.reads w) (JM:s.v.o.ints.length≤1099511627776) (Q7:s.v.o.refs.length≤1099511627776):
  Calls Tryz.prog 132 #[.agg s.cells.toArray] w fun e w'=>∃ t:qf,e=.returned (.agg t.cells.toArray)∧Hid (t.v=s.v)∧t.own w' w.heap.size w'.heap.size∧Below w.heap.size w w':=by
 obtain ⟨⟨h,⟨k,ints,refs⟩⟩,aI,cI,aR,cR⟩:=s;simp only [qf.cells,qf.reads,qf.own] at*
 obtain ⟨W,hW,b0,b1,hbW,qp⟩:=jf w [.bool h,.int .i64 k,.slice aI ints.length cI,.slice aR refs.length cR] [.bool false,.int .i64 0,.slice none 0 0,.slice none 0 0] 28 28;have hr':=hr.below hbW;have Py:w.heap.size+1<W.heap.size:=by omega
 clear qp;have HC:Hid (∀ w'',Below W.heap.size W w''→w''.cell? ⟨w.heap.size,0,none⟩=some (.bool h)∧w''.cell? ⟨w.heap.size,1,none⟩=some (.int .i64 k)∧w''.cell? ⟨w.heap.size,2,none⟩=some (.slice aI ints.length cI)∧w''.cell? ⟨w.heap.size,3,none⟩=some (.slice aR refs.length cR)):=by
  intro w'' hh;have ba:=b0.below hh b0.lt;exact ⟨ba.cell 0 _ rfl,ba.cell 1 _ rfl,ba.cell 2 _ rfl,ba.cell 3 _ rfl⟩
 have HB:Hid (∀ w'',Below W.heap.size W w''→Box w'' w.heap.size [.bool h,.int .i64 k,.slice aI ints.length cI,.slice aR refs.length cR] 28∧Box w'' (w.heap.size+1) [.bool false,.int .i64 0,.slice none 0 0,.slice none 0 0] 28):=fun w'' hh=>⟨b0.below hh b0.lt,b1.below hh b1.lt⟩
 have hh:=HC.out W (Below.refl _ _);have hne:¬ (w.heap.size=w.heap.size+1):=by omega
 clear b0 b1;go_enter Tryz.func132,Tryz.ntmps132;go_wp2_with fail;rw [hW.out];clear hW
 go_region_held3 (fun w''=>w''.cell? ⟨w.heap.size,0,none⟩=some (.bool h)∧w''.cell? ⟨w.heap.size,1,none⟩=some (.int .i64 k)∧w''.cell? ⟨w.heap.size,2,none⟩=some (.slice aI ints.length cI)∧w''.cell? ⟨w.heap.size,3,none⟩=some (.slice aR refs.length cR))
  (first | exact HC.out _ hB1 | exact HC.out _ (Below.refl _ _).drew | exact ⟨(((((HB.out _ (by first | exact hB1 | fail)).1.other hne).other hne).other hne).other hne).cell 0 _ rfl,(((((HB.out _ (by first | exact hB1 | fail)).1.other hne).other hne).other hne).other hne).cell 1 _ rfl,(((((HB.out _ (by first | exact hB1 | fail)).1.other hne).other hne).other hne).other hne).cell 2 _ rfl,(((((HB.out _ (by first | exact hB1 | fail)).1.other hne).other hne).other hne).other hne).cell 3 _ rfl⟩ | go_keep | fail)
  (first
  | (go_at_call 232;refine (Fj ⟨k,ints,refs⟩ aI cI aR cR _ hr'.drew JM Q7).mono ?_;rintro e u1 ⟨a1,c1,a2,c2,rfl,ho1,hb1⟩;have hB1:Below W.heap.size W u1:=((Below.refl _ _).drew).trans hb1;obtain ⟨m0,m1,m2,m3,e0,e1,e2,e3⟩:=(HB.out _ hB1).2.four)
  | fail)
 obtain ⟨WF,qF,bF,hwF,qN⟩:=Ye (HB.out _ hB1).2 (.bool h) (.int .i64 k) (.slice a1 ints.length c1) (.slice a2 refs.length c2);have O0:W.heap.size≤u1.heap.size:=hB1.size;have hO:OwnO u1 W.heap.size u1.heap.size a1 c1 a2 c2 ⟨k,ints,refs⟩:=ho1;have TR:OwnO WF W.heap.size u1.heap.size a1 c1 a2 c2 ⟨k,ints,refs⟩:=hO.within hwF (.inr (by omega));have Mx:Hid (Below w.heap.size w WF):=(hbW.trans (hB1.mono (by omega))).trans (hwF.below (by omega) (by omega));rw [qF.out];clear hwF ho1 hO;go_wp2;obtain ⟨q0,q1,q2,q3,_⟩:=bF.four;exact bodyPost_ret (v:=.agg #[.bool h,.int .i64 k,.slice a1 ints.length c1,.slice a2 refs.length c2]) (by simp [results,Tryz.results132,go_sem,q0,q1,q2,q3]) rfl ⟨⟨⟨h,⟨k,ints,refs⟩⟩,a1,c1,a2,c2⟩,rfl,rfl,TR.widen (by omega) (by omega) (Nat.le_refl _),Mx.out⟩
theorem K6 (p:qw) (h4:p.ss.length=4) (w:World) (hr:jK w p.ss) (hl:Fit p.ss):
  Calls Tryz.prog 154 #[.agg p.cells.toArray] w fun e w'=>∃ ts:List qf,e=.returned (.agg (qw.cells ⟨p.lsn,ts⟩).toArray)∧Hid (ts.map (·.v)=p.ss.map (·.v))∧qG w' w.heap.size w'.heap.size ts∧Below w.heap.size w w':=by
 obtain ⟨n,ss⟩:=p;simp only [qw.cells] at*
 obtain ⟨W,hW,b0,b1,b2,hbW,qp⟩:=yn w (.int .i64 n::cellsS ss) [.int .i64 0,.bool false,.int .i64 0,.slice none 0 0,.slice none 0 0,.bool false,.int .i64 0,.slice none 0 0,.slice none 0 0,.bool false,.int .i64 0,.slice none 0 0,.slice none 0 0,.bool false,.int .i64 0,.slice none 0 0,.slice none 0 0] [.int .i64 n,.bool false,.int .i64 0,.slice none 0 0,.slice none 0 0,.bool false,.int .i64 0,.slice none 0 0,.slice none 0 0,.bool false,.int .i64 0,.slice none 0 0,.slice none 0 0,.bool false,.int .i64 0,.slice none 0 0,.slice none 0 0] 31 31 31;have b1':Box W (w.heap.size+1) ([]++((.int .i64 0::cellsS Ji)++[])) 31:=b1;have b2':Box W (w.heap.size+1+1) (.int .i64 n::cellsS ([]++List.replicate (4-0) qh)) 31:=b2;have sK:w.heap.size+1+1<W.heap.size:=by omega
 have hc0:(((w.alloc (.cells (.int .i64 n::cellsS ss).toArray 31)).alloc (.cells #[.int .i64 0,.bool false,.int .i64 0,.slice none 0 0,.slice none 0 0,.bool false,.int .i64 0,.slice none 0 0,.slice none 0 0,.bool false,.int .i64 0,.slice none 0 0,.slice none 0 0,.bool false,.int .i64 0,.slice none 0 0,.slice none 0 0] 31))).cell? ⟨w.heap.size,0,none⟩=some (.int .i64 n):=((yF w (.int .i64 n::cellsS ss) 31).alloc _).cell 0 _ rfl;have H4:Hid (ss.length=4):=h4;clear b1 b2 qp h4;go_enter Tryz.func154,Tryz.ntmps154;go_wp2_with fail;rw [hW.out];clear hW hc0;go_loopw [4] (fun i wr=>∃ (k:Nat) (ts:List qf),i=.int .i64 k∧k≤4∧Hid (ts.length=k∧ts.map (·.v)=(ss.take k).map (·.v))∧qG wr W.heap.size wr.heap.size ts∧Box wr (w.heap.size+1+1) (.int .i64 n::cellsS (ts++List.replicate (4-k) qh)) 31∧Below (w.heap.size+1+1) W wr)
  (fun i _=>4-(intOf i).toNat)
 case atStart=>exact ⟨0,[],rfl,by omega,⟨rfl,rfl⟩,qG.nil _ _ _,b2',Below.refl _ _⟩
 case round=>
  obtain ⟨k,ts,rfl,hk,hts,hown,wE,hbl⟩:=hrel;clear b2';have ZQ:=b0.below hbl (by omega);have Vl:=b1'.below hbl (by omega);have uX:=hbl.size;have hsz:=wE.lt;by_cases hlt:k<4
  ·have hkl:k<ss.length:=by rw [H4.out];exact hlt
   obtain ⟨c0,c1,c2,c3,_⟩:=ZQ.Me k hkl;have hi0:(0:Int)≤(k:Int):=by omega
   have hi4:(k:Int)<4:=by omega
   have YV:=(hr _ (jV hkl)).below (hbW.trans (hbl.mono (by omega)));have hlk:=hl _ (jV hkl);have HV:Hid ((ss.take (k+1)).map (·.v)=(ss.take k).map (·.v)++[(ss.getD k qh).v]):=by
    rw [Hid,List.take_add_one,List.map_append];simp [List.getD,hkl]
   generalize ss.getD k qh=s at*
   have C:=Qn s wr YV hlk.1 hlk.2;simp only [qf.cells] at C;go_wp2_with fail;refine C.mono ?_;clear C YV hlk c0 c1 c2 c3;rintro e w1 ⟨t,rfl,hv,ho,hb1⟩;have hs1:=hb1.size;have hbx:=wE.below hb1 hsz;have hkt:k<(ts++List.replicate (4-k) qh).length:=by have:=hts.out.1;simp;omega
   obtain ⟨W2,hW2,b2,hw2,hs2⟩:=WU hbx k hkt t;obtain ⟨x0,x1,x2,x3,hfz⟩:=hbx.Me k hkt;have f0:=hfz (1+k*4);have f1:=hfz (1+k*4+1);have f2:=hfz (1+k*4+2);have f3:=hfz (1+k*4+3);generalize (ts++List.replicate (4-k) qh).getD k qh=old at*
   have b2':Box W2 (w.heap.size+1+1) (.int .i64 n::cellsS ((ts++[t])++List.replicate (4-(k+1)) qh)) 31:=by
    rw [show 4-k=(4-(k+1))+1 by omega] at b2;have e:=U4 ts (4-(k+1)) t;rw [hts.out.1] at e;rw [e] at b2;exact b2
   have Xk:qG w1 W.heap.size w1.heap.size (ts++[t]):=(hown.below hb1).snoc ho uX hs1 (Nat.le_refl _);have hO2:qG W2 W.heap.size W2.heap.size (ts++[t]):=(Xk.within hw2 (.inr (by omega))).widen (Nat.le_refl _) (by omega) (Nat.le_refl _);have hB2:Below (w.heap.size+1+1) W W2:=(hbl.trans (hb1.mono (by omega))).trans (hw2.below (Nat.le_refl _) (by omega));have HT:Hid ((ts++[t]).length=k+1∧(ts++[t]).map (·.v)=(ss.take (k+1)).map (·.v)):=by
    refine ⟨by have:=hts.out.1;simp;omega,?_⟩;rw [HV.out,List.map_append,hts.out.2,← hv.out];rfl
   clear hfz hs2 hw2 b2 Xk hown wE hbx hts HV hkt hb1 ho;go_wp2_with fail;rw [hW2.out];go_roundw
   case rel=>exact ⟨k+1,ts++[t],by go_num,by omega,HT,hO2,b2',hB2⟩
   case measure=>simp [intOf];omega
  ·obtain rfl:k=4:=by omega
   have hkk:¬ ((4:Nat):Int)<4:=by omega
   have YW:ts++List.replicate (4-4) qh=ts:=by simp
   rw [YW] at wE;have htl:ts.length=4:=hts.out.1;have Ey:Hid (ts.map (·.v)=ss.map (·.v)):=by rw [Hid,hts.out.2,List.take_of_length_le (by rw [H4.out];omega)]
   obtain ⟨WF,qF,bF,hwF,qN⟩:=jb [] (.int .i64 0::cellsS Ji) (.int .i64 n::cellsS ts) [] Vl (by simp only [List.length_cons,jq,htl];rfl);have zK:Hid (wr.setCells (w.heap.size+1) 0 (.int .i64 n::cellsS ts)=WF):=qF.out;have HR2:Hid (wr.rangeAt (w.heap.size+1+1) 0 (.int .i64 n::cellsS ts)):=Box.range [] (.int .i64 n::cellsS ts) [] (by simpa using wE);have kz:Hid (wr.there (w.heap.size+1) 0 (.int .i64 n::cellsS ts).toArray.size):=Vl.there 0 _ (by simp only [List.size_toArray,jq,htl,List.length_append,List.length_cons,List.length_nil];decide);have YX:WF.rangeAt (w.heap.size+1) 0 (.int .i64 n::cellsS ts):=Box.range [] (.int .i64 n::cellsS ts) [] (by simpa using bF);have HI:Hid ((Tryz.prog.info? 31).map (·.size)=some (.int .i64 n::cellsS ts).length):=by rw [Hid,List.length_cons,jq,htl];kernel_rfl
   have HO:Hid (_):=all_oneCell_toArray (Qx ⟨n,ts⟩);have yG:Hid (_):=run_loadVar_mid (P:=Tryz.prog) _ (w.heap.size+1) 0 31 (.int .i64 n::cellsS ts) _ YX Tryz.underlying31 rfl HI.out;have Ez:Hid (qG WF w.heap.size WF.heap.size ts):=(hown.within hwF (.inr (by omega))).widen (by omega) (by omega) (Nat.le_refl _);have Mx:Hid (Below w.heap.size w WF):=(hbW.trans (hbl.mono (by omega))).trans (hwF.below (by omega) (by omega));simp only [qw.cells] at HO;clear qF bF hwF qN YX YW htl wE hown hts;go_wp2_with (first | (guard_target=wpList _ _ _ (Oper.mk (some 20) _ _ _ _ _::_) _ _;refine wpList_load_mid rfl 31 (.tmp 3) rfl (w.heap.size+1+1) 0 rfl (.int .i64 n::cellsS ts) _ HR2.out Tryz.underlying31 rfl HI.out ?_) | (guard_target=wpList _ _ _ (Oper.mk none (Op.store _ (Operand.tmp 2) _) _ _ _ _::_) _ _;refine wpList_store_mid rfl 31 (.tmp 2) (.tmp 20) rfl (w.heap.size+1) 0 (.int .i64 n::cellsS ts).toArray rfl rfl kz.out (by rw [List.size_toArray];exact HI.out) HO.out ?_) | fail);rw [zK.out];exact bodyPost_ret (v:=.agg (.int .i64 n::cellsS ts).toArray) (jk Tryz.results154 rfl yG.out) rfl ⟨ts,rfl,Ey,Ez.out,Mx.out⟩
theorem Um (a:Option Addr) (cap:Nat) (zs:List Int) (w:World) (hr:ky w a zs) (hl:zs.length≤1099511627776):
  Calls Tryz.prog 156 #[.slice a zs.length cap] w fun e w'=>∃ a' c',e=.returned (.slice a' zs.length c')∧jG w' w.heap.size w'.heap.size a' c' zs∧Below w.heap.size w w':=by
 obtain ⟨i0,hi,hz0,hz1,hz2⟩:=info_parts Tryz.pE;rcases hr.cases with rfl | ⟨b,off,rfl,hpos,hcell⟩
 ·go_enter Tryz.func156,Tryz.ntmps156;go_wp2;go_ret;exact ⟨none,0,rfl,QY _ _ _ (Nat.le_refl _),Below.refl _ _⟩
 ·have hnz:((zs.length:Int) == 0)=false:=by simp;intro e;simp [e] at hpos
  have hsz:(Tryz.prog.info? 3).map (·.size)=some 1:=by kernel_rfl
  go_enter Tryz.func156,Tryz.ntmps156;go_wp2_with (at_make;refine wpList_make_full _ rfl _ _ 24 rfl w.heap.size 3 i0 (.int .i64 0) 1 Tryz.underlying24 hi hz0 hz1 _ _ _ _ zs.length rfl rfl rfl rfl (by rw [hz2];omega) (by simp [maxLen];omega) (Nat.le_refl _) ?_);intro w0 hown0 j5;have hb0:Below w.heap.size w w0:=(Below.refl _ _).grown j5 (Nat.le_refl _) (fun k h=>by cases h);obtain ⟨hlen,hcase⟩:=hown0;rcases hcase with ⟨hv,_⟩ | ⟨g,cap',cur,hv,hg,hgg,hn,hm,hcs,htk⟩
  ·cases hv
  simp only [Value.slice.injEq,Option.some.injEq,Addr.mk.injEq,and_true,true_and] at hv;obtain ⟨rfl,rfl⟩:=hv;have hcl:cur.toList.length=zs.length:=by rw [Array.length_toList,hcs];omega
  have HC:Hid (0<(zs.map (Value.int .i64)).length→some (⟨w.heap.size,0,none⟩:Addr)=some ⟨w.heap.size,0,none⟩∧∃ ad:Addr,some (⟨b,off,none⟩:Addr)=some ad∧∀ j v,(zs.map (Value.int .i64))[j]? =some v→w0.cell? (ad.add j)=some v):=by
   intro _;refine ⟨rfl,_,rfl,fun j v hv=>?_⟩;rw [List.getElem?_map] at hv;cases hzj:zs[j]? with
   | none=>rw [hzj] at hv;cases hv
   | some z=>
    rw [hzj] at hv;simp only [Option.map_some,Option.some.injEq] at hv;have hj:j<zs.length:=(List.getElem?_eq_some_iff.1 hzj).1;have hc:=hcell j hj;have hadd:(⟨b,off,none⟩:Addr).add j=⟨b,off+j,none⟩:=by unfold Addr.add;split<;>simp_all
    rw [hadd,hb0.cell (block_lt hc),hc,← hv];simp [List.getD,hzj]
  have HG:Hid (w0.heap[w.heap.size]? =some (.cells cur.toList.toArray 3 (0,0))):=by rw [Hid,hgg]
  have HN:Hid ((zs.map (Value.int .i64)).length=Nat.min zs.length zs.length):=by rw [Hid,List.length_map];exact (Nat.min_self _).symm
  have HFt:Hid (0+(zs.map (Value.int .i64)).length≤cur.toList.length):=by rw [Hid,List.length_map,hcl];omega
  have H1:Hid (∀ v∈zs.map (Value.int .i64),v.oneCell'=true):=fun v hv=>by obtain ⟨z,_,rfl⟩:=List.mem_map.1 hv;rfl
  have HSP:Hid (splice cur.toList 0 (zs.map (Value.int .i64))=zs.map (Value.int .i64)):=by
   unfold Hid splice;rw [List.take_zero,List.nil_append,Nat.zero_add,List.drop_eq_nil_of_le (by rw [hcl,List.length_map];exact Nat.le_refl _),List.append_nil]
  clear hlen htk hcs hgg j5 hcell hn hm;have key:∀ {ops:Array Oper} {rest:List Oper} {o:Oper} {act:Act} {Q:Exit→Act→World→Prop},o.guard=none→o.op=.call { callee:=.builtin .copy,args:=#[.tmp 10,.tmp 11],argTypes:=#[24,24] }→act.eval (.tmp 10)=.slice (some ⟨w.heap.size,0,none⟩) zs.length zs.length→act.eval (.tmp 11)=.slice (some ⟨b,off,none⟩) zs.length cap→(∀ w1,jG w1 w.heap.size w1.heap.size (some ⟨w.heap.size,0,none⟩) zs.length zs→Below w.heap.size w w1→wpList Tryz.prog ops Q rest (act.put o.dst (goInt (zs.map (Value.int .i64)).length)) w1)→wpList Tryz.prog ops Q (o::rest) act w0:=by
   intro ops rest o act Q h1 h2 h3 h4 h5;refine wpList_copy_splice h1 (.tmp 10) (.tmp 11) 24 24 h2 3 Tryz.underlying24 hsz _ _ zs.length zs.length zs.length cap h3 h4 w.heap.size 0 cur.toList 3 HG.out (zs.map (Value.int .i64)) HN.out HC.out HFt.out H1.out w.heap.size w hb0 (Nat.le_refl _) ?_;intro w1 hrow hb1;refine h5 w1 ?_ hb1;have h:=hrow.out;rw [HSP.out] at h;refine ⟨⟨by simp,.inr ⟨w.heap.size,zs.length,_,rfl,Nat.le_refl _,h,Nat.le_refl _,by simp [maxLen];omega,by simp,by simp;exact List.take_of_length_le (by simp)⟩⟩,Nat.le_refl _,fun k hk=>?_⟩;cases hk;exact (Array.getElem?_eq_some_iff.1 h).1
  have KEY:Hid _:=@key;clear key HG HN HFt H1 HSP HC hcl;go_wp2_with (guard_target=wpList _ _ _ (Oper.mk (some 12) _ _ _ _ _::_) _ _;refine KEY.out rfl rfl rfl rfl ?_;intro w1 HO hb1);go_ret;exact ⟨_,_,rfl,HO,hb1⟩
theorem Jj (s:qf) (w:World) (hr:s.reads w) (JM:s.v.o.ints.length≤1099511627776) (Q7:s.v.o.refs.length≤1099511627776):
  Calls Tryz.prog 58 #[.agg s.cells.toArray] w fun e w'=>∃ t:qf,e=.returned (.agg t.cells.toArray)∧Hid (t.v=s.v)∧t.own w' w.heap.size w'.heap.size∧Below w.heap.size w w':=by
 obtain ⟨⟨h,⟨k,ints,refs⟩⟩,aI,cI,aR,cR⟩:=s;simp only [qf.cells,qf.reads,qf.own] at*
 obtain ⟨hI,hR,_,_⟩:=hr;simp only at hI hR;obtain ⟨W,hW,b0,b1,hbW,qp⟩:=jf w [.bool h,.int .i64 k,.slice aI ints.length cI,.slice aR refs.length cR] [.bool false,.int .i64 0,.slice none 0 0,.slice none 0 0] 28 28;have hI':=hI.below hbW;have hR':=hR.below hbW;have Py:w.heap.size+1<W.heap.size:=by omega
 clear qp hI hR;have HC:Hid (∀ w'',Below W.heap.size W w''→w''.cell? ⟨w.heap.size,0,none⟩=some (.bool h)∧w''.cell? ⟨w.heap.size,1,none⟩=some (.int .i64 k)∧w''.cell? ⟨w.heap.size,2,none⟩=some (.slice aI ints.length cI)∧w''.cell? ⟨w.heap.size,3,none⟩=some (.slice aR refs.length cR)):=by
  intro w'' hh;have ba:=b0.below hh b0.lt;exact ⟨ba.cell 0 _ rfl,ba.cell 1 _ rfl,ba.cell 2 _ rfl,ba.cell 3 _ rfl⟩
 have HB:Hid (∀ w'',Below W.heap.size W w''→Box w'' w.heap.size [.bool h,.int .i64 k,.slice aI ints.length cI,.slice aR refs.length cR] 28∧Box w'' (w.heap.size+1) [.bool false,.int .i64 0,.slice none 0 0,.slice none 0 0] 28):=fun w'' hh=>⟨b0.below hh b0.lt,b1.below hh b1.lt⟩
 have hh:=HC.out W (Below.refl _ _);have hne:¬ (w.heap.size=w.heap.size+1):=by omega
 clear b0 b1;go_enter Tryz.func58,Tryz.ntmps58;go_wp2_with fail;rw [hW.out];clear hW
 go_region_held3 (fun w''=>w''.cell? ⟨w.heap.size,0,none⟩=some (.bool h)∧w''.cell? ⟨w.heap.size,1,none⟩=some (.int .i64 k)∧w''.cell? ⟨w.heap.size,2,none⟩=some (.slice aI ints.length cI)∧w''.cell? ⟨w.heap.size,3,none⟩=some (.slice aR refs.length cR))
  (first | exact HC.out _ hB2 | exact HC.out _ hB1 | exact HC.out _ (Below.refl _ _).drew | exact ⟨(((((HB.out _ (by first | exact hBL | fail)).1.other hne).other hne).other hne).other hne).cell 0 _ rfl,(((((HB.out _ (by first | exact hBL | fail)).1.other hne).other hne).other hne).other hne).cell 1 _ rfl,(((((HB.out _ (by first | exact hBL | fail)).1.other hne).other hne).other hne).other hne).cell 2 _ rfl,(((((HB.out _ (by first | exact hBL | fail)).1.other hne).other hne).other hne).other hne).cell 3 _ rfl⟩ | go_keep | fail)
  (first
  | (go_at_call_of 156 (Value.slice aI ints.length cI);refine (Um aI cI ints _ (hI'.below (by first | exact hB2 | exact (Below.refl _ _).drew | fail)) JM).mono ?_;rintro e u1 ⟨a1,c1,rfl,ho1,hb1⟩;have hB1:Below W.heap.size W u1:=(by first | exact hB2.trans (hb1.mono hB2.size) | exact ((Below.refl _ _).drew).trans hb1 | fail);have hBL:=hB1;obtain ⟨m0,m1,m2,m3,e0,e1,e2,e3⟩:=(HB.out _ hB1).2.four)
  | (go_at_call_of 156 (Value.slice aR refs.length cR);refine (Um aR cR refs _ (hR'.below (by first | exact hB1 | exact (Below.refl _ _).drew | fail)) Q7).mono ?_;rintro e u2 ⟨a2,c2,rfl,ho2,hb2⟩;have hB2:Below W.heap.size W u2:=(by first | exact hB1.trans (hb2.mono hB1.size) | exact ((Below.refl _ _).drew).trans hb2 | fail);have hBL:=hB2;obtain ⟨n0,n1,n2,n3,f0,f1,f2,f3⟩:=(HB.out _ hB2).2.four)
  | fail)
 obtain ⟨WF,qF,bF,hwF,qN⟩:=Ye (HB.out _ hB2).2 (.bool h) (.int .i64 k) (.slice a1 ints.length c1) (.slice a2 refs.length c2);have VA:jG u1 W.heap.size u1.heap.size a1 c1 ints:=ho1;have O0:W.heap.size≤u1.heap.size:=hB1.size;have qd3:=hb2.size;have hO:OwnO u2 W.heap.size u2.heap.size a1 c1 a2 c2 ⟨k,ints,refs⟩:=⟨(VA.below hb2).widen (Nat.le_refl _) qd3 (Nat.le_refl _),ho2.widen O0 (Nat.le_refl _) (Nat.le_refl _),fun j hj hj'=>by have h1:=(VA.lt j hj).2;have h2:=(ho2.lt j hj').1;omega⟩;have TR:OwnO WF W.heap.size u2.heap.size a1 c1 a2 c2 ⟨k,ints,refs⟩:=hO.within hwF (.inr (by omega));have Mx:Hid (Below w.heap.size w WF):=(hbW.trans (hB2.mono (by omega))).trans (hwF.below (by omega) (by omega));rw [qF.out];clear hwF ho1 ho2 VA hO;go_wp2;obtain ⟨q0,q1,q2,q3,_⟩:=bF.four;exact bodyPost_ret (v:=.agg #[.bool h,.int .i64 k,.slice a1 ints.length c1,.slice a2 refs.length c2]) (by simp [results,Tryz.results58,go_sem,q0,q1,q2,q3]) rfl ⟨⟨⟨h,⟨k,ints,refs⟩⟩,a1,c1,a2,c2⟩,rfl,rfl,TR.widen (by omega) (by omega) (Nat.le_refl _),Mx.out⟩
end Go.Proofs.YtjkckhfddgeboaaGreatDoor
namespace Go.Proofs.YtjkckhfddgeboaaGreatDoor
def wpAnyL (P:Program) (md:Region.Mode) (ops:Array Oper) (Q:Exit→Act→World→Prop) (S:World→Prop) (ks:Nat→Bool):Nat→Array Bool→Act→World→Prop
 | 0,listed,a,w=>Region.ready md ops listed=[]∧Q .normal a w
 | fuel+1,listed,a,w=>
  (Region.ready md ops listed=[]→Q .normal a w)∧
  ∀ i∈Region.ready md ops listed,wpOp P ops Q i (fun a' w'=>(ks i=false→S w')∧wpAnyL P md ops Q S ks fuel (listed.setIfInBounds i true) a' w') a w
theorem Vd {P:Program} {ops:Array Oper} {Q:Exit→Act→World→Prop} {md:Region.Mode} {S:World→Prop} {ks:Nat→Bool}:∀ (fuel:Nat) (listed:Array Bool) (a:Act) (w:World),wpAnyL P md ops Q S ks fuel listed a w→wpAny P md ops Q fuel listed a w
 | 0,_,_,_,h=>h
 | fuel+1,_,_,_,h=>⟨h.1,fun i hi=>wpOp_mono (fun a' w' h'=>Vd fuel _ a' w' h'.2) (h.2 i hi)⟩
def dN (md:Region.Mode) (ops:Array Oper) (ks:Nat→Bool) (i:Nat):Bool:=
 (List.range ops.size).all fun j=> !ks j || match ops[j]? with
  | some o=>o.after.any (fun e=>Region.binds md e && e.on == i)
  | none=>true
theorem PG {md:Region.Mode} {ops:Array Oper} {ks:Nat→Bool} {i:Nat} (h:dN md ops ks i=true) (j:Nat) (oj:Oper) (hj:ops[j]? =some oj) (hk:ks j=true):∃ e∈oj.after,Region.binds md e=true∧e.on=i:=by
 unfold dN at h;rw [List.all_eq_true] at h;have hl:j<ops.size:=by
  rcases Nat.lt_or_ge j ops.size with h' | h'
  ·exact h'
  ·rw [Array.getElem?_eq_none h'] at hj;cases hj
 have:=h j (List.mem_range.2 hl);rw [hk,hj] at this;simp only [Bool.not_true,Bool.false_or,Array.any_eq_true'] at this;obtain ⟨e,he,hb⟩:=this;rw [Bool.and_eq_true,beq_iff_eq] at hb;exact ⟨e,he,hb.1,hb.2⟩
theorem wpAnyL_first {P:Program} {ops:Array Oper} {Q:Exit→Act→World→Prop} {md:Region.Mode} {S:World→Prop} {ks:Nat→Bool} {i:Nat} {oi:Oper} {v:Value} (hi:ops[i]? =some oi) (hsel:∀ (j:Nat) (o:Oper) cs b,ops[j]? =some o→o.op≠.select cs b)
  (hQ:∀ c a w,Q (.panic c) (a.put oi.dst v) w→Q (.panic c) a w) (qai:∀ j oj,ops[j]? =some oj→ks j=true→∃ e∈oj.after,Region.binds md e=true∧e.on=i):
  ∀ (fuel:Nat) (listed:Array Bool) (a:Act) (w:World),
   (∀ j oj,ops[j]? =some oj→j≠i→listed.getD j true=false→(∀ e∈oj.after,Region.binds md e=true→e.on≠i)→oi.apart ops oj=true)→
   i∈Region.ready md ops listed→YieldsIf P ops S oi v a→S w→
   wpAnyL P md ops Q S ks fuel (listed.setIfInBounds i true) (a.put oi.dst v) w→wpAnyL P md ops Q S ks (fuel+1) listed a w:=by
 intro fuel
 induction fuel with
 | zero=>
  intro listed a w _ hr hy hS H;refine ⟨fun h=>(by rw [h] at hr;cases hr),fun j hj=>?_⟩;by_cases hji:j=i
  ·subst hji;exact hy.wpOp hi hS ⟨fun _=>hS,H⟩
  ·have:=ready_mono hj hji;rw [H.1] at this;cases this
 | succ fuel ih=>
  intro listed a w hfree hr hy hS H;refine ⟨fun h=>(by rw [h] at hr;cases hr),fun j hj=>?_⟩;by_cases hji:j=i
  ·subst hji;exact hy.wpOp hi hS ⟨fun _=>hS,H⟩
  ·have h1:=H.2 j (ready_mono hj hji);obtain ⟨hjun,oj,hoj,hall⟩:=mem_ready.1 hj;have hnot:∀ e∈oj.after,Region.binds md e=true→e.on≠i:=fun e he hb heq=>by
    have h1:=hall e he hb;have h0:=(mem_ready.1 hr).1;rw [heq] at h1;rcases Nat.lt_or_ge i listed.size with h' | h'
    ·simp [h'] at h0 h1;rw [h0] at h1;cases h1
    ·simp [Array.getElem?_eq_none h'] at h1
   have hkj:ks j=false:=by
    cases hk:ks j with
    | false=>rfl
    | true=>
     obtain ⟨e,he,hb,ho⟩:=qai j oj hoj hk;exact absurd ho (hnot e he hb)
   have h2:=wpOp_putIf hoj (hfree j oj hoj hji hjun hnot) (fun cs b=>hsel i oi cs b hi) (fun cs b=>hsel j oj cs b hoj) hQ hy h1;have hfree':∀ k ok,ops[k]? =some ok→k≠i→(listed.setIfInBounds j true).getD k true=false→
     (∀ e∈ok.after,Region.binds md e=true→e.on≠i)→oi.apart ops ok=true:=fun k ok hk hki hun hno=>by
    refine hfree k ok hk hki ?_ hno;by_cases hjk:j=k
    ·subst hjk;exact hjun
    ·rw [getD_set_ne true hjk] at hun;exact hun
   refine wpOp_mono (fun a' w' h3=>⟨fun _=>h3.2.1 hkj,ih (listed.setIfInBounds j true) a' w' hfree' (ready_mono hr (Ne.symm hji)) h3.1 (h3.2.1 hkj) ?_⟩) h2;rw [Array.setIfInBounds_comm _ _ hji];exact h3.2.2
theorem xh {P:Program} {ops:Array Oper} {Q:Exit→Act→World→Prop} {md:Region.Mode} {S:World→Prop} {ks:Nat→Bool} {i:Nat} {oi:Oper} {v:Value} {fuel:Nat} {listed:Array Bool} {a:Act} {w:World} (hi:ops[i]? =some oi)
  (hs:(Region.noSelect ops && (Region.free md ops listed i && ((Region.ready md ops listed).contains i && dN md ops ks i)))=true)
  (hQ:∀ c a w,Q (.panic c) (a.put oi.dst v) w→Q (.panic c) a w) (hy:YieldsIf P ops S oi v a) (hS:S w)
  (h:wpAnyL P md ops Q S ks fuel (listed.setIfInBounds i true) (a.put oi.dst v) w):wpAnyL P md ops Q S ks (fuel+1) listed a w:=by
 rw [Bool.and_eq_true,Bool.and_eq_true,Bool.and_eq_true] at hs;exact wpAnyL_first hi (Region.noSelect_spec hs.1) hQ (PG hs.2.2.2) fuel listed a w (Region.free_spec hi hs.2.1) (by simpa using hs.2.2.1) hy hS h
def wM (P:Program) (md:Region.Mode) (ops:Array Oper) (Q:Exit→Act→World→Prop) (S:World→Prop) (ks:Nat→Bool) (fuel:Nat) (listed:Array Bool) (a:Act) (w:World) (rs:List Nat):Prop:=
 ∀ i∈rs,wpOp P ops Q i (fun a' w'=>(ks i=false→S w')∧wpAnyL P md ops Q S ks fuel (listed.setIfInBounds i true) a' w') a w
theorem wM.nil {P:Program} {ops:Array Oper} {Q:Exit→Act→World→Prop} {md:Region.Mode} {S:World→Prop} {ks:Nat→Bool} {fuel:Nat} {listed:Array Bool} {a:Act} {w:World}:wM P md ops Q S ks fuel listed a w []:=fun _ h=>by cases h
theorem wM.cons {P:Program} {ops:Array Oper} {Q:Exit→Act→World→Prop} {md:Region.Mode} {S:World→Prop} {ks:Nat→Bool} {fuel:Nat} {listed:Array Bool} {a:Act} {w:World} {i:Nat} {o:Oper} {rs:List Nat} (ho:ops[i]? =some o)
  (h:∀ K':Act→World→Prop,Shut (∀ a w,(ks i=false→S w)→((ks i=false→S w)→wpAnyL P md ops Q S ks fuel (listed.setIfInBounds i true) a w)→K' a w)→if Region.wanted o (yielded ops a.tmps)=true then Oper.wp P o a w K' Q else K' (a.put o.dst undef) w)
  (hs:wM P md ops Q S ks fuel listed a w rs):wM P md ops Q S ks fuel listed a w (i::rs):=fun j hj=>by
 rcases List.mem_cons.1 hj with rfl | hj
 ·exact wpOp_step ho (fun K' hK=>h K' (fun a w hS hW=>hK a w ⟨hS,hW hS⟩))
 ·exact hs j hj
theorem wpAnyL_ready {P:Program} {ops:Array Oper} {Q:Exit→Act→World→Prop} {md:Region.Mode} {S:World→Prop} {ks:Nat→Bool} {rs:List Nat} {fuel:Nat} {listed:Array Bool} {a:Act} {w:World} (hr:Region.ready md ops listed=rs) (hne:rs≠[])
  (h:wM P md ops Q S ks fuel listed a w rs):wpAnyL P md ops Q S ks (fuel+1) listed a w:=⟨fun h0=>absurd (hr▸h0) hne,hr▸h⟩
theorem DN {P:Program} {ops:Array Oper} {Q:Exit→Act→World→Prop} {md:Region.Mode} {S:World→Prop} {ks:Nat→Bool} (i:Nat) {o:Oper} {fuel:Nat} {listed:Array Bool} {a:Act} {w:World} (hr:Region.ready md ops listed=[i]) (ho:ops[i]? =some o)
  (h:∀ K':Act→World→Prop,Shut (∀ a w,S w→(S w→wpAnyL P md ops Q S ks fuel (listed.setIfInBounds i true) a w)→K' a w)→if Region.wanted o (yielded ops a.tmps)=true then Oper.wp P o a w K' Q else K' (a.put o.dst undef) w):wpAnyL P md ops Q S ks (fuel+1) listed a w:=
 wpAnyL_ready hr (by simp) (wM.cons ho (fun K' hK=>h K' (fun a w hS hW=>hK.out a w (fun _=>hS) (fun _=>hW hS))) wM.nil)
theorem DR {P:Program} {ops:Array Oper} {Q:Exit→Act→World→Prop} {md:Region.Mode} {S:World→Prop} {ks:Nat→Bool} (i:Nat) {o:Oper} {fuel:Nat} {listed:Array Bool} {a:Act} {w:World} (hr:Region.ready md ops listed=[i]) (ho:ops[i]? =some o) (hk:ks i=true)
  (h:∀ K':Act→World→Prop,Shut (∀ a w,wpAnyL P md ops Q S ks fuel (listed.setIfInBounds i true) a w→K' a w)→if Region.wanted o (yielded ops a.tmps)=true then Oper.wp P o a w K' Q else K' (a.put o.dst undef) w):wpAnyL P md ops Q S ks (fuel+1) listed a w:=
 wpAnyL_ready hr (by simp) (wM.cons ho (fun K' hK=>h K' (fun a w hW=>hK.out a w (fun h=>by rw [hk] at h;cases h) (fun _=>hW))) wM.nil)
theorem DT {P:Program} {ops:Array Oper} {Q:Exit→Act→World→Prop} {md:Region.Mode} {S:World→Prop} {ks:Nat→Bool} {listed:Array Bool} {a:Act} {w:World} (hr:Region.ready md ops listed=[]) (h:Q .normal a w):
  ∀ fuel,wpAnyL P md ops Q S ks fuel listed a w
 | 0=>⟨hr,h⟩
 | _+1=>⟨fun _=>h,by rw [hr];simp⟩
theorem dM {P:Program} {ops:Array Oper} {Q:Exit→Act→World→Prop} {S:World→Prop} (ks:Nat→Bool) {id:Nat} {a:Act} {w:World} (hm:P.follows .mixedOrders=true) (hS:S w.drew)
  (h:S w.drew→wpAnyL P .any ops Q S ks ops.size (Array.replicate ops.size false) a w.drew):(Code.region id ops true).wp P Q a w:=
 wp_region_any hm (Vd _ _ _ _ (h hS))
end Go.Proofs.YtjkckhfddgeboaaGreatDoor
namespace Go.Proofs.YtjkckhfddgeboaaGreatDoor
open Go.RowKit
def XT (k0:Int) (i:Nat):qC:=⟨k0+3*i,k0+3*i+1,((k0+3*i+1+1) % 3 == 0)⟩
def marksL (k0:Int) (n:Nat):List qC:=(List.range n).map fun i:Nat=>XT k0 i
theorem yz (k0:Int) (n:Nat):(marksL k0 n).length=n:=by simp [marksL]
theorem TS (k0:Int) (n i:Nat) (h:i<n):(marksL k0 n).getD i qA=XT k0 i:=by simp [marksL,List.getD,h]
theorem bn (k0:Int) (n:Nat):marksL k0 (n+1)=marksL k0 n++[XT k0 n]:=by simp [marksL,List.range_succ]
def uh (k0:Int) (xs:List qC) (k:Nat):List qC:=marksL k0 k++xs.drop k
theorem bq (k0:Int) (xs:List qC) (k:Nat) (h:k≤xs.length):(uh k0 xs k).length=xs.length:=by simp [uh,yz];omega
theorem bz (k0:Int) (xs:List qC) (k:Nat) (h:k<xs.length):(uh k0 xs k).set k (XT k0 k)=uh k0 xs (k+1):=by
 unfold uh;rw [List.set_append,if_neg (by rw [yz];omega),yz,Nat.sub_self,bn,List.drop_eq_getElem_cons h,List.set_cons_zero];simp
theorem bD (k0:Int) (xs:List qC):uh k0 xs xs.length=marksL k0 xs.length:=by simp [uh]
theorem Md (base:Nat) (a:Option Addr) (cap:Nat) (k0:Int) (xs:List qC) (w:World)
  (hown:w.ownsRow base 118 3 (.slice a xs.length cap) xs.length (jD xs)) (h0:0≤k0) (hl:k0+3*xs.length≤4611686018427387904):
  Calls Tryz.prog 124 #[.slice a xs.length cap,.int .i64 k0] w fun e w'=>e=.returned (.int .i64 (k0+3*xs.length))∧
   w'.ownsRow base 118 3 (.slice a xs.length cap) xs.length (jD (marksL k0 xs.length))∧w.grownBy w' (Value.slice a xs.length cap).ownBlock:=by
 have hlen:=hown.1;rcases hown.2 with ⟨hv,h00⟩ | ⟨g,cap',cur,hv,hg,hgg,hr⟩
 ·simp only [Value.slice.injEq] at hv;obtain ⟨rfl,EN,rfl⟩:=hv;obtain rfl:=List.length_eq_zero_iff.1 h00;go_enter Tryz.func124,Tryz.ntmps124;go_wp2;refine wp_loop_rounds 1 ?_;rw [rounds_succ];go_wp2;go_ret;exact ⟨by simp,hown,World.grownBy.refl _ _⟩
 ·simp only [Value.slice.injEq] at hv;obtain ⟨rfl,_,rfl⟩:=hv;clear hgg hr hlen;have hM:w.ownsRow base 118 3 (.slice (some ⟨g,0,none⟩) xs.length cap) xs.length (jD (uh k0 xs 0)):=by simpa [uh,marksL] using hown
  clear hown;go_enter Tryz.func124,Tryz.ntmps124;go_wp2;go_loopw [1,5] (fun kk i wr=>∃ k:Nat,k≤xs.length∧i=.int .i64 k∧kk=.int .i64 (k0+3*k)∧wr.ownsRow base 118 3 (.slice (some ⟨g,0,none⟩) xs.length cap) xs.length (jD (uh k0 xs k))∧w.grownBy wr (some g))
   (fun _ i _=>xs.length-(intOf i).toNat)
  case atStart=>exact ⟨0,Nat.zero_le _,rfl,by simp,hM,World.grownBy.refl _ _⟩
  case round=>
   obtain ⟨k,hk,rfl,rfl,hown,hgr⟩:=hrel;clear hM;by_cases hlt:k<xs.length
   ·have hp:=bq k0 xs k hk;obtain ⟨x0,x1,x2,hfz⟩:=Wt hown hp k hlt;have f0:=hfz (k*3);have f1:=hfz (k*3+1);have f2:=hfz (k*3+2);obtain ⟨W2,hW2,ho2,hg2⟩:=GD hown hp k hlt (XT k0 k);rw [bz k0 xs k hlt] at ho2;have HH:Hid (_∧_):=⟨ho2,grownBy_trans hgr hg2⟩;clear ho2 hg2 hfz hown hgr;generalize (uh k0 xs k).getD k qA=old at*
    simp only [XT] at hW2;go_wp2;rw [hW2.out];go_roundw
    case rel=>exact ⟨k+1,by omega,by go_num,by go_num,HH.out.1,HH.out.2⟩
    case measure=>simp [intOf];omega
   ·have HE:Hid (wr.ownsRow base 118 3 (.slice (some ⟨g,0,none⟩) xs.length cap) xs.length (jD (marksL k0 xs.length))∧k=xs.length):=by
     have e:k=xs.length:=by omega
     rw [e,bD] at hown;exact ⟨hown,e⟩
    go_wp2;go_ret;exact ⟨ja (by have:=HE.out.2;omega),HE.out.1,hgr⟩
theorem ZX (lo hi:Nat) (a:Option Addr) (cap:Nat) (k0:Int) (xs:List qC) (w:World) (ho:OwnL w lo hi a cap xs) (h0:0≤k0) (hl:k0+3*xs.length≤4611686018427387904):
  Calls Tryz.prog 124 #[.slice a xs.length cap,.int .i64 k0] w fun e w'=>e=.returned (.int .i64 (k0+3*xs.length))∧
   OwnL w' lo hi a cap (marksL k0 xs.length)∧Touch (Value.slice a xs.length cap).ownBlock.toList w w':=by
 refine (Md lo a cap k0 xs w ho.1 h0 hl).mono ?_;rintro e w' ⟨rfl,h1,h2⟩;refine ⟨rfl,⟨by rw [yz];exact h1,Nat.le_trans ho.2.1 h2.size,by rw [yz];exact ho.2.2⟩,Touch.jw h2 (fun j hj=>Option.mem_toList.2 hj)⟩
theorem ZY (a:Option Addr) (cap:Nat) (k0:Int) (n:Nat) (w:World) (hr:jW w a (marksL k0 n)) (h0:0≤k0) (hl:k0+3*n≤4611686018427387904):
  Calls Tryz.prog 129 #[.slice a n cap,.int .i64 k0] w fun e w'=>e=.returned (.int .i64 (k0+3*n))∧w'=w:=by
 rcases hr.cases with h | ⟨b,off,rfl,hpos,hcell⟩
 ·have h':=congrArg List.length h;rw [yz] at h';simp at h';subst h';go_enter Tryz.func129,Tryz.ntmps129;go_wp2;refine wp_loop_rounds 1 ?_;rw [rounds_succ];go_wp2;go_ret;exact ⟨by simp,rfl⟩
 ·rw [yz] at hpos hcell;go_enter Tryz.func129,Tryz.ntmps129;go_wp2
  go_loop [1,5] (fun kk i=>∃ k:Nat,k≤n∧i=.int .i64 k∧kk=.int .i64 (k0+3*k)) (fun _ i=>n-(intOf i).toNat)
  case atStart=>exact ⟨0,Nat.zero_le _,rfl,by simp⟩
  case round=>
   obtain ⟨k,hk,rfl,rfl⟩:=hrel;by_cases hlt:k<n
   ·obtain ⟨c0,c1,c2⟩:=hcell k hlt;rw [TS k0 n k hlt] at c0 c1 c2;simp only [XT] at c0 c1 c2;clear hcell;go_wp2
    go_round
    case rel=>exact ⟨k+1,by omega,by go_num,by go_num⟩
    case measure=>simp [intOf];omega
   ·have HE:Hid (k=n):=by show k=n;omega
    go_wp2;go_ret;exact ⟨ja (by have:=HE.out;omega),rfl⟩
end Go.Proofs.YtjkckhfddgeboaaGreatDoor
namespace Go.Proofs.YtjkckhfddgeboaaGreatDoor
open Go.RowKit Go.Maps Go.MapKept
structure qW where
 key:Int
 tx:Int
 place:Int
def qW.nQ (m:qW):Value × Value:=(.int .i64 m.key,.agg #[.int .i64 m.tx,.int .i64 m.place])
def MapAt (w:World) (B:Nat) (ms:List qW):Prop:=∃ es clock,w.heap[B]? =some (.map es clock)∧es.toList.map (fun e=>(e.key,e.val))=ms.map qW.nQ
def YC (k:Int):List qW→Nat→Option (Nat × Value)
 | [],_=>none
 | m::r,i=>if k=m.key then some (i,m.nQ.2) else YC k r (i+1)
def Jr (c:qW):List qW→List qW
 | []=>[c]
 | m::r=>if c.key=m.key then c::r else m::Jr c r
def yo (k:Int):List qW→Option qW
 | []=>none
 | m::r=>if k=m.key then some m else yo k r
theorem MapAt.lt {w:World} {B:Nat} {ms:List qW} (h:MapAt w B ms):B<w.heap.size:=by
 obtain ⟨es,clock,hb,_⟩:=h;rcases Nat.lt_or_ge B w.heap.size with h | h
 ·exact h
 ·rw [Array.getElem?_eq_none h] at hb;cases hb
theorem MapAt.below {w w':World} {B:Nat} {ms:List qW} (h:MapAt w B ms) (hb:Below w.heap.size w w'):MapAt w' B ms:=by
 have hl:=h.lt;obtain ⟨es,clock,h1,h2⟩:=h;exact ⟨es,clock,by rw [hb.block B hl];exact h1,h2⟩
theorem MapAt.touch {w w':World} {B:Nat} {ms:List qW} {bl:List Nat} (h:MapAt w B ms) (ht:Touch bl w w') (hn:B∉bl):MapAt w' B ms:=by
 have hl:=h.lt;obtain ⟨es,clock,h1,h2⟩:=h;exact ⟨es,clock,by rw [ht.block B hl hn];exact h1,h2⟩
theorem tQ (w:World):MapAt (w.alloc (.map #[] 0)) w.heap.size []:=⟨#[],0,(heap_alloc w _).1,rfl⟩
theorem GN (k:Int):∀ (ms:List qW) (l:List MapEntry) (i:Nat),l.map (fun e=>(e.key,e.val))=ms.map qW.nQ→Instr.findNow (.int .i64) (.int .i64 k) l i=some (YC k ms i):=by
 intro ms
 induction ms with
 | nil=>intro l i h;cases l with
  | nil=>rfl
  | cons e r=>simp at h
 | cons m r ih=>
  intro l i h;cases l with
  | nil=>simp at h
  | cons e q=>
   simp only [List.map_cons,List.cons.injEq,qW.nQ,Prod.mk.injEq] at h;obtain ⟨⟨h1,h2⟩,h3⟩:=h;have h4:=ih q (i+1) (by simpa [qW.nQ] using h3);rw [Instr.findNow,h1,YC];by_cases hk:k=m.key
   ·subst hk;simp [Instr.sameNow,h2,qW.nQ]
   ·have hkb:(k == m.key)=false:=by simpa using hk
    simp [Instr.sameNow,hk,h4,hkb]
theorem YE (k:Int):∀ (ms:List qW) (i:Nat),(YC k ms i=none∧yo k ms=none∧∀ c:qW,c.key=k→Jr c ms=ms++[c])∨∃ (j:Nat) (m:qW),ms[j]? =some m∧m.key=k∧YC k ms i=some (i+j,m.nQ.2)∧yo k ms=some m∧∀ c:qW,c.key=k→Jr c ms=ms.set j c:=by
 intro ms
 induction ms with
 | nil=>intro i;exact .inl ⟨rfl,rfl,fun c hc=>rfl⟩
 | cons m r ih=>
  intro i;by_cases hk:k=m.key
  ·refine .inr ⟨0,m,rfl,hk.symm,by rw [YC,if_pos hk];rfl,by rw [yo,if_pos hk],fun c hc=>?_⟩;rw [Jr,if_pos (by rw [hc,hk]),List.set_cons_zero]
  ·rcases ih (i+1) with ⟨h1,h2,h3⟩ | ⟨j,n,h1,h2,h3,h4,h5⟩
   ·exact .inl ⟨by rw [YC,if_neg hk];exact h1,by rw [yo,if_neg hk];exact h2,fun c hc=>by rw [Jr,if_neg (by rw [hc];exact hk),h3 c hc];rfl⟩
   ·refine .inr ⟨j+1,n,by simpa using h1,h2,by rw [YC,if_neg hk,h3];congr 2;omega,by rw [yo,if_neg hk];exact h4,fun c hc=>?_⟩;rw [Jr,if_neg (by rw [hc];exact hk),h5 c hc,List.set_cons_succ]
theorem GQ (k:Int):IsKey (.int .i64) (.int .i64 k):=rfl
theorem TU (l:List MapEntry) (j:Nat) (f:MapEntry→MapEntry) (v:Value × Value) (hf:∀ e,((f e).key,(f e).val)=v):(l.modify j f).map (fun e=>(e.key,e.val))=(l.map (fun e=>(e.key,e.val))).set j v:=by
 induction l generalizing j with
 | nil=>simp
 | cons e r ih=>
  cases j with
  | zero=>simp [hf]
  | succ j=>simp [ih j]
theorem MP {w:World} {B:Nat} {ms:List qW} (h:MapAt w B ms) (c:qW):
  ∃ w',(Instr.mapUpdate 138 (.map (some B)) (.int .i64 c.key) (.agg #[.int .i64 c.tx,.int .i64 c.place])).run Tryz.prog w=.ok () w'∧MapAt w' B (Jr c ms)∧w.grownBy w' (some B):=by
 obtain ⟨es,clock,hb,he⟩:=h;have hck:=run_checkKey (P:=Tryz.prog) (w:=w) Tryz.underlying3 (GQ c.key) false 9999;have nU:=run_findKey (P:=Tryz.prog) (w:=w) (kt:=3) Tryz.underlying3 (GN c.key ms es.toList 0 he);have hgo:(getObj B).run Tryz.prog w=.ok (.map es clock) w:=by simp [getObj,Sem.run,hb]
 have hgr:∀ o:Obj,w.grownBy { w with heap:=w.heap.setIfInBounds B o } (some B):=fun o=>⟨rfl,rfl,rfl,by simp,fun i _ hi=>(heap_set hb).2 i (fun e=>hi (by rw [e]))⟩
 rcases YE c.key ms 0 with ⟨h1,_,h3⟩ | ⟨j,m,h1,h2,h3,_,h5⟩
 ·rw [h1] at nU;refine ⟨{ w with heap:=w.heap.setIfInBounds B (.map (es.push { key:=.int .i64 c.key,val:=.agg #[.int .i64 c.tx,.int .i64 c.place],born:=clock }) (clock+1)) },?_,⟨_,_,(heap_set hb).1,?_⟩,hgr _⟩
  ·simp only [Instr.mapUpdate,Sem.run_bind,run_underlying Tryz.underlying138,Result.andThen,hgo,hck,nU,run_setObj_map _ hb]
  ·rw [h3 c rfl,Array.toList_push,List.map_append,List.map_append,he];rfl
 ·rw [h3] at nU;have hold:((es[0+j]?).map (·.key)).getD (.int .i64 c.key)=.int .i64 c.key:=by
   have e:=congrArg (fun l=>l[j]?) he;simp only [List.getElem?_map,h1,Option.map_some,qW.nQ] at e;rw [Nat.zero_add];rw [← Array.getElem?_toList];cases hq:es.toList[j]? with
   | none=>rfl
   | some x=>
    rw [hq] at e;simp only [Option.map_some,Option.some.injEq,Prod.mk.injEq] at e;simp [e.1,h2]
  have hst:(Instr.keyThatStays (.int .i64 c.key) (.int .i64 c.key)).run Tryz.prog w=.ok (.int .i64 c.key) w:=by
   have:Instr.sameBits 10000 (.int .i64 c.key) (.int .i64 c.key)=true:=by simp [Instr.sameBits]
   simp [Instr.keyThatStays,this]
  refine ⟨{ w with heap:=w.heap.setIfInBounds B (.map (es.modify (0+j) fun e=>{ e with key:=.int .i64 c.key,val:=.agg #[.int .i64 c.tx,.int .i64 c.place] }) clock) },?_,⟨_,_,(heap_set hb).1,?_⟩,hgr _⟩
  ·simp only [Instr.mapUpdate,Sem.run_bind,run_underlying Tryz.underlying138,Result.andThen,hgo,hck,nU,hold,hst,run_setObj_map _ hb]
  ·rw [h5 c rfl,Array.toList_modify,TU _ _ _ c.nQ (fun e=>rfl),he,List.map_set,Nat.zero_add]
theorem TV (w:World):(zeroValue 200).run Tryz.prog w=.ok (.agg #[.int .i64 0,.int .i64 0]) w:=by kernel_rfl
def kW (k:Int) (ms:List qW):qW:=(yo k ms).getD ⟨k,0,0⟩
theorem Zv {w:World} {B:Nat} {ms:List qW} (h:MapAt w B ms) (k:Int) (ok:Bool):
  (Instr.lookup 138 (.map (some B)) (.int .i64 k) ok).run Tryz.prog w=.ok (if ok then .tuple #[.agg #[.int .i64 (kW k ms).tx,.int .i64 (kW k ms).place],.bool (yo k ms).isSome] else .agg #[.int .i64 (kW k ms).tx,.int .i64 (kW k ms).place]) w:=by
 obtain ⟨es,clock,hb,he⟩:=h;have hck:=run_checkKey (P:=Tryz.prog) (w:=w) Tryz.underlying3 (GQ k) es.isEmpty 9999;have nU:=run_findKey (P:=Tryz.prog) (w:=w) (kt:=3) Tryz.underlying3 (GN k ms es.toList 0 he);have hgo:(getObj B).run Tryz.prog w=.ok (.map es clock) w:=by simp [getObj,Sem.run,hb]
 rcases YE k ms 0 with ⟨h1,h2,_⟩ | ⟨j,m,h1,h2,h3,h4,_⟩
 ·rw [h1] at nU;simp only [Instr.lookup,Sem.run_bind,run_underlying Tryz.underlying138,Result.andThen,hgo,hck,nU,TV,Sem.run_pure,kW,h2];cases ok<;>rfl
 ·rw [h3] at nU;simp only [Instr.lookup,Sem.run_bind,run_underlying Tryz.underlying138,Result.andThen,hgo,hck,nU,Sem.run_pure,kW,h4];cases ok<;>rfl
theorem Tq {w:World} {B:Nat} {ms:List qW} (h:MapAt w B ms) (ty:TypeId):(Builtin.len_ #[138] ty #[.map (some B)]).run Tryz.prog w=.ok (.int .i64 (ms.length:Int)) w:=by
 obtain ⟨es,clock,hb,he⟩:=h;have hgo:(getObj B).run Tryz.prog w=.ok (.map es clock) w:=by simp [getObj,Sem.run,hb]
 have hl:es.size=ms.length:=by have:=congrArg List.length he;simpa using this
 simp [Builtin.len_,run_underlying Tryz.underlying138,Result.andThen,hgo,hl];rfl
end Go.Proofs.YtjkckhfddgeboaaGreatDoor