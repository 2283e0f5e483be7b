/- Texts. -/
import Derived.Test.YtnfdccldabbobaaGreatDoorP18
import Derived.Test.YtnfdccldabbobaaGreatDoorP20
import Derived.Test.YtnfdccldabbobaaGreatDoorP19
set_option maxHeartbeats 8000000
set_option maxRecDepth 100000
namespace Go.Proofs.YtnfdccldabbobaaGreatDoor
open Go.RowKit Go.Proofs.Tryz
theorem Within.QG {B:Nat} {w w':World} (h:Within B (B+1) w w'):Touch [B] w w':=⟨h.os,h.tape,h.output,h.size,fun k hk hn=>h.block k hk (fun hh=>hn (qac.2 (by omega)))⟩
def ql.at (r:ql) (n:Int):ql:={ r with lsn:=n }
theorem qmi (r:ql) (n:Int):(r.at n).v=vW r.v n:=rfl
theorem short_at {r:ql} {m:Nat} (h:r.short m) (n:Int):(r.at n).short m:=⟨h.bf,h.af,h.txs⟩
theorem qeh {w:World} {B:Nat} {q:ql} (b:Box w B q.cells 124) (n:Int):∃ W,Hid (w.setCell ⟨B,0,none⟩ (.int .i64 n)=W)∧Box W B (q.at n).cells 124∧Within B (B+1) w W∧W.heap.size=w.heap.size:=by
 obtain ⟨W,hW,bW,hw,hs⟩:=jZ b 0 (.int .i64 n);exact ⟨W,hW,bW,hw,hs⟩
theorem NA {w:World} (ty:TypeId) (lo hi:Nat) (a:Option Addr) (c:Nat) (rs:List ql) (hown:je w lo hi a c rs)
  (b off:Nat) (sc:Nat) (q:ql) (hr:w.rangeAt b off q.cells) (l u:Nat) (hq:q.own w l u) (hl:lo≤l) (hd:∀ k∈q.blocks,k∉jw a c rs) (hu:u≤w.heap.size)
  (hb:rs.length+1≤68719476736) (hlo:lo≤hi):
  ∃ a' c' w',(Builtin.append_ #[53,53] ty #[.slice a rs.length c,.slice (some ⟨b,off,none⟩) 1 sc]).run prog w=.ok (.slice a' (rs++[q]).length c') w'∧je w' lo w'.heap.size a' c' (rs++[q])∧w.grownBy w' (Value.slice a rs.length c).ownBlock∧
   (∀ k,(Value.slice a' (rs++[q]).length c').ownBlock=some k→(Value.slice a rs.length c).ownBlock=some k∨k=w.heap.size):=by
 obtain ⟨i0,hi0,hz0,hz1,hz2⟩:=qft Tryz.gV;have htop:=hown.top;obtain ⟨v',w',hrun,h1,h2,_,h5⟩:=run_append_own_at (P:=prog) w lo 53 ty 124 i0 (.agg qE.cells.toArray) 15 200 underlying53 hi0 hz0 hz1 hz2 rfl (by decide) _ _ _ hown.row ⟨b,off,none⟩ 1 sc q.cells (by rfl) (by
  intro j v hj;rw [zI];exact hr j v hj) (ZL q) (by simp only [maxLen];omega) (by omega) (by omega)
 have e:ku rs++q.cells=ku (rs++[q]):=by rw [QS,uG];simp [ku]
 have e2:rs.length+1=(rs++[q]).length:=by simp
 rw [e,e2] at h1;have sh:∃ a' c',v'=.slice a' (rs++[q]).length c':=by
  rcases h1.2 with ⟨rfl,h0⟩ | ⟨g,cap,cur,rfl,_⟩
  ·simp at h0
  ·exact ⟨_,_,rfl⟩
 obtain ⟨a',c',rfl⟩:=sh;have hsz:=h2.size;have ht:Touch (Value.slice a rs.length c).ownBlock.toList w w':=Touch.jO h2 (fun k hk=>qad.2 hk);have hrow:=h1.lt;have hold:∀ r∈rs,r.own w' lo w'.heap.size:=fun r hr=>((hown.each r hr).touch ht (fun k hk hk'=>(qav.1 hown.apart).2.2 k hk' k (qag.2 ⟨r,hr,hk⟩) rfl)).widen qg (by omega) qg
 have hnew:q.own w' lo w'.heap.size:=(hq.touch ht (fun k hk hk'=>hd k hk (qaa.2 (.inl hk')))).widen (by omega) (by omega) qg;refine ⟨a',c',w',hrun,⟨h1,qcN _,fun k hk=>(hrow k hk).2,fun r hr=>?_,?_⟩,h2,fun k hk=>h5.elim (fun h5=>.inl (by rw [← h5];exact hk)) (fun h5=>by rw [h5] at hk;exact .inr (qfb hk).symm)⟩
 ·rcases qaa.1 hr with hr | hr
  ·exact hold r hr
  ·obtain rfl:=qac.1 hr;exact hnew
 ·rw [qcy,qav,qav];have hap:=(qav.1 hown.apart).2.1;refine ⟨by cases (Value.slice a' (rs++[q]).length c').ownBlock<;>simp,⟨hap,by simpa using hq.apart,fun x hx y hy e=>?_⟩,fun x hx y hy e=>?_⟩
  ·simp only [qaY,qdH,qcZ] at hy;subst e;exact hd x hy (qaa.2 (.inr hx))
  ·have hx':=qad.1 hx;subst e;rcases qaa.1 hy with hy | hy
   ·obtain ⟨r,hr,hy⟩:=qag.1 hy;exact XG h1 (hold r hr) x hx' hy
   ·simp only [qaY,qdH,qcZ] at hy;exact XG h1 hnew x hx' hy
theorem YX {w:World} {ops:Array Oper} {o:Oper} {act:Act} {K:Act→World→Prop} {Q:Exit→Act→World→Prop} {E:Prop} (hgd:o.guard=none) (s x:Operand)
  (ho:o.op=.call { callee:=.builtin .append,args:=#[s,x],argTypes:=#[53,53] })
  (lo hi:Nat) (a:Option Addr) (c:Nat) (rs:List ql) (hs:act.eval s=.slice a rs.length c) (hown:je w lo hi a c rs)
  (b off:Nat) (sc:Nat) (q:ql) (hx:act.eval x=.slice (some ⟨b,off,none⟩) 1 sc) (hr:w.rangeAt b off q.cells) (l u:Nat) (hq:q.own w l u) (hl:lo≤l) (hd:∀ k∈q.blocks,k∉jw a c rs) (hu:u≤w.heap.size)
  (hb:rs.length+1≤68719476736) (hlo:lo≤hi)
  (h:∀ a' c' w',je w' lo w'.heap.size a' c' (rs++[q])→w.grownBy w' (Value.slice a rs.length c).ownBlock→(∀ k,(Value.slice a' (rs++[q]).length c').ownBlock=some k→(Value.slice a rs.length c).ownBlock=some k∨k=w.heap.size)→K (act.put o.dst (.slice a' (rs++[q]).length c')) w'):
  if Region.wanted o (yielded ops act.tmps)=true then Oper.wp prog o act w K Q else E:=by
 have hw:Region.wanted o (yielded ops act.tmps)=true:=by simp [Region.wanted,hgd]
 rw [qan hw];obtain ⟨a',c',w',hrun,h2,h3,h4⟩:=NA (w:=w) o.type lo hi a c rs hown b off sc q hr l u hq hl hd hu hb hlo;unfold Oper.wp;simp [execOp,ho,resolve,invoke,builtin,hs,hx,hrun,Result.andThen];have:=h a' c' w' h2 h3 h4;rw [qai,qfD] at this;exact this
end Go.Proofs.YtnfdccldabbobaaGreatDoor
