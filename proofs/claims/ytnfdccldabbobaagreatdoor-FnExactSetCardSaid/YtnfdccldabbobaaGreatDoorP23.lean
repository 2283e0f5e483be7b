/- Texts. -/
import Derived.Test.YtnfdccldabbobaaGreatDoorP19
set_option maxHeartbeats 8000000
set_option maxRecDepth 100000
namespace Go.Proofs.YtnfdccldabbobaaGreatDoor
open Go.RowKit Go.Proofs.Tryz
theorem dw {P:Prop} (h:P:=by
 obtain ⟨r,hr,hx⟩:=qag.1 hx;exact (h.each r (by simp [hr])).qC x hx):P:=h
theorem OwnSts.qdQ {w:World} {lo hi g c:Nat} {A B:List qh} {z:qh} (h:OwnSts w lo hi (some ⟨g,0,none⟩) c (A++z::B)) (q:qh) {l u:Nat} (hq:q.own w l u) (hl:u≤lo) (hlo:lo≤hi) (hlu:l≤u):
  ∃ W,Hid (w.setCells g (A.length*20) q.cells=W)∧OwnSts W l hi (some ⟨g,0,none⟩) c (A++q::B)∧Touch [g] w W∧W.heap.size=w.heap.size:=by
 have En:=h.row;have hrow:=xM (base':=l) En (fun k hk=>by have:=(En.lt k hk).1;omega);rw [yX,yf,qai,qcS] at hrow;have hg:lo≤g∧g<hi:=⟨(En.lt g rfl).1,h.blk g rfl⟩;obtain ⟨h1,h2⟩:=KN q.cells (jH A) z.cells (jH B) w hrow rfl;rw [uH] at h1 h2;have ht:Touch [g] w (w.setCells g (A.length*20) q.cells):=Touch.jO h2 (fun k hk=>by cases hk;simp);have hap:=h.apart;simp only [qcy,qaY,Value.ownBlock,Option.toList,qdr,qf6,qav,qaa,not_or] at hap;obtain ⟨⟨n1,n2,n3⟩,a1,⟨a2,a3,a4⟩,a5⟩:=hap;have yJ:=hq.qC;have hA:∀ x∈A.flatMap qh.blocks,lo≤x∧x<hi:=fun x hx=>by
  exact dw
 have hB:∀ x∈B.flatMap qh.blocks,lo≤x∧x<hi:=fun x hx=>by
  exact dw
 have hsz:=JZ g q.cells (A.length*20) w;refine ⟨_,rfl,⟨?_,?_,fun k hk=>?_,fun r hr=>?_,?_⟩,ht,hsz⟩
 ·rw [yX,yf,qai,qcS];exact h1
 ·rw [hsz];have:=h.top;omega
 ·cases hk;exact hg.2
 ·rcases qaa.1 hr with hr | hr
  ·exact ((h.each r (by simp [hr])).touch ht (fun k hk hk'=>n1 (by rw [← qac.1 hk'];exact qag.2 ⟨r,hr,hk⟩))).widen (by omega) qg (by rw [hsz];have:=h.top;omega)
  ·rcases qcv.1 hr with rfl | hr
   ·exact (hq.touch ht (fun k hk hk'=>by have:=yJ k hk;have:=qac.1 hk';omega)).widen qg (by omega) (by rw [hsz];have:=h.top;omega)
   ·exact ((h.each r (by simp [hr])).touch ht (fun k hk hk'=>n3 (by rw [← qac.1 hk'];exact qag.2 ⟨r,hr,hk⟩))).widen (by omega) qg (by rw [hsz];have:=h.top;omega)
 ·simp only [qcy,qaY,Value.ownBlock,Option.toList,qdr,qf6,qav,qaa,not_or];refine ⟨⟨n1,fun hk=>by have:=yJ g hk;omega,n3⟩,a1,⟨hq.apart,a3,fun x hx y hy e=>by have:=yJ x hx;have:=hB y hy;omega⟩,fun x hx y hy e=>?_⟩;rcases hy with hy | hy
  ·have:=yJ y hy;have:=hA x hx;omega
  ·exact a5 x hx y (.inr hy) e
theorem NR {w:World} {ops:Array Oper} {rest:List Oper} {o:Oper} {act:Act} {Q:Exit→Act→World→Prop} (hgd:o.guard=none) (s x:Operand)
  (ho:o.op=.call { callee:=.builtin .append,args:=#[s,x],argTypes:=#[50,50] })
  (lo hi:Nat) (a:Option Addr) (c:Nat) (rs:List qh) (hs:act.eval s=.slice a rs.length c) (hown:OwnSts w lo hi a c rs)
  (b off:Nat) (sc:Nat) (q:qh) (hx:act.eval x=.slice (some ⟨b,off,none⟩) 1 sc) (hr:w.rangeAt b off q.cells) (l u:Nat) (hq:q.own w l u) (hl:u≤lo) (hlu:l≤u)
  (hb:rs.length+1≤68719476736) (hlo:lo≤hi)
  (h:∀ a' c' w',OwnSts w' l w'.heap.size a' c' (rs++[q])→w.grownBy w' (Value.slice a rs.length c).ownBlock→wpList prog ops Q rest (act.put o.dst (.slice a' (rs++[q]).length c')) w'):
  wpList prog ops Q (o::rest) act w:=by
 obtain ⟨i0,hi0,hz0,hz1,hz2⟩:=qft Tryz.VT;have yJ:=hq.qC;have htop:=hown.top;refine wpList_append_own w hgd s x 50 ho lo 121 i0 (.agg qi.cells.toArray) 20 280 underlying50 hi0 hz0 hz1 hz2 rfl (by decide) _ _ _ hs hown.row ⟨b,off,none⟩ 1 sc q.cells hx (by rfl) ?_ (Mw q) (by simp only [maxLen];omega) (by omega) (by omega) (fun v' w' h1 h2 _=>?_)
 ·intro j v hj;rw [zI];exact hr j v hj
 ·have e:jH rs++q.cells=jH (rs++[q]):=by rw [yX,yf];simp [jH]
  have e2:rs.length+1=(rs++[q]).length:=by simp
  rw [e,e2] at h1;have sh:∃ a' c',v'=.slice a' (rs++[q]).length c':=by
   rcases h1.2 with ⟨rfl,h0⟩ | ⟨g,cap,cur,rfl,_⟩
   ·simp at h0
   ·exact ⟨_,_,rfl⟩
  obtain ⟨a',c',rfl⟩:=sh;have hsz:=h2.size;have ht:Touch (Value.slice a rs.length c).ownBlock.toList w w':=Touch.jO h2 (fun k hk=>qad.2 hk);have hrow:=h1.lt;have hold:∀ r∈rs,r.own w' l w'.heap.size:=fun r hr=>((hown.each r hr).touch ht (fun k hk hk'=>(qav.1 hown.apart).2.2 k hk' k (qag.2 ⟨r,hr,hk⟩) rfl)).widen (by omega) (by omega) qg
  have hnew:q.own w' l w'.heap.size:=(hq.touch ht (fun k hk hk'=>by have:=yJ k hk;have:=(hown.row.lt k (qad.1 hk')).1;omega)).widen qg (by omega) qg;refine h a' c' w' ⟨xM h1 (fun k hk=>by have:=(h1.lt k hk).1;omega),qcN _,fun k hk=>(hrow k hk).2,fun r hr=>?_,?_⟩ h2
  ·rcases qaa.1 hr with hr | hr
   ·exact hold r hr
   ·obtain rfl:=qac.1 hr;exact hnew
  ·rw [qcy,qav,qav];have hap:=(qav.1 hown.apart).2.1;have hin:∀ x∈rs.flatMap qh.blocks,lo≤x∧x<hi:=fun x hx=>by
    obtain ⟨r,hr,hx⟩:=qag.1 hx;exact (hown.each r hr).qC x hx
   refine ⟨by cases (Value.slice a' (rs++[q]).length c').ownBlock<;>simp,⟨hap,by simpa using hq.apart,fun x hx y hy e=>?_⟩,fun x hx y hy e=>?_⟩
   ·have:=hin x hx;simp only [qaY,qdH,qcZ] at hy;have:=yJ y hy;omega
   ·have hx':=qad.1 hx;subst e;rcases qaa.1 hy with hy | hy
    ·obtain ⟨r,hr,hy⟩:=qag.1 hy;exact uw h1 (hold r hr) x hx' hy
    ·simp only [qaY,qdH,qcZ] at hy;exact uw h1 hnew x hx' hy
end Go.Proofs.YtnfdccldabbobaaGreatDoor
