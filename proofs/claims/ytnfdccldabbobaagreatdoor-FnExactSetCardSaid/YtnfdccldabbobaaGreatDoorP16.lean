/- Texts. -/
import Derived.Test.YtnfdccldabbobaaGreatDoorP13
import Derived.Test.YtnfdccldabbobaaGreatDoorP11
import Derived.Test.YtnfdccldabbobaaGreatDoorP14
import Derived.Test.YtnfdccldabbobaaGreatDoorShelf
set_option maxHeartbeats 8000000
set_option maxRecDepth 100000
namespace Go.Proofs.YtnfdccldabbobaaGreatDoor
open Go.RowKit Go.Proofs.Tryz
def ku (rs:List ql):List Value:=rs.flatMap ql.cells
theorem ze (r:ql):r.cells.length=15:=rfl
theorem ZW (rs:List ql):(ku rs).length=rs.length*15:=by
 induction rs with
 | nil=>rfl
 | cons s r ih=>simp only [ku,qaY,qai,ze,qcS] at *;omega
theorem QS (a b:List ql):ku (a++b)=ku a++ku b:=by simp [ku]
theorem uG (r:ql) (b:List ql):ku (r::b)=r.cells++ku b:=by simp [ku]
theorem Uc (rs:List ql) (k j:Nat) (hk:k<rs.length) (hj:j<15):(ku rs)[k*15+j]? =(rs.getD k qE).cells[j]? :=by
 induction rs generalizing k with
 | nil=>simp at hk
 | cons s r ih=>
  rw [uG];cases k with
  | zero=>rw [qdx (by rw [ze];omega)];simp
  | succ k=>
   rw [qcQ (by rw [ze];omega),ze];have:=ih k (by simpa using hk);rw [show (k+1)*15+j-15=k*15+j by omega,this];simp
theorem vX (rs:List ql) (k:Nat) (hk:k<rs.length):rs.getD k qE∈rs:=by
 have e:rs.getD k qE=rs[k]:=by simp [List.getD,hk]
 rw [e];exact qdw hk
theorem yY {w w':World} {b o n:Nat} {cs:List Value} (h:w.rangeAt b o cs) (hb:Below n w w') (hn:b<n):w'.rangeAt b o cs:=fun j v hv=>(hb.cell (p:=⟨b,o+j,none⟩) hn).trans (h j v hv)
theorem JW {w w':World} {b o:Nat} {cs:List Value} (h:w.rangeAt b o cs) (hb:w'.heap[b]? =w.heap[b]?):w'.rangeAt b o cs:=fun j v hv=>by
 have:=h j v hv;simp only [World.cell?,hb] at this ⊢;exact this
theorem XF {w:World} {b o:Nat} {r:ql} (h:w.rangeAt b o r.cells):b<w.heap.size:=block_lt (h 0 _ rfl)
def yl (w:World) (a:Option Addr) (rs:List ql):Prop:=rs≠[]→∃ b off,a=some ⟨b,off,none⟩∧∀ k,k<rs.length→w.rangeAt b (off+k*15) (rs.getD k qE).cells∧(rs.getD k qE).reads w
theorem yl.nil (w:World) (a:Option Addr):yl w a []:=fun h=>absurd rfl h
theorem yl.below {w w':World} {a:Option Addr} {rs:List ql} (h:yl w a rs) (hb:qa w w'):yl w' a rs:=by
 intro hne;obtain ⟨b,off,ha,hc⟩:=h hne;refine ⟨b,off,ha,fun k hk=>?_⟩;obtain ⟨h0,h1⟩:=hc k hk;exact ⟨yY h0 hb (XF h0),h1.below hb⟩
theorem yl.cases {w:World} {a:Option Addr} {rs:List ql} (h:yl w a rs):rs=[]∨∃ b off,a=some ⟨b,off,none⟩∧0<rs.length∧∀ k,k<rs.length→w.rangeAt b (off+k*15) (rs.getD k qE).cells∧(rs.getD k qE).reads w:=by
 by_cases e:rs=[]
 ·exact .inl e
 ·obtain ⟨b,off,ha,hc⟩:=h e;exact .inr ⟨b,off,ha,qe9.2 e,hc⟩
structure je (w:World) (lo hi:Nat) (a:Option Addr) (c:Nat) (rs:List ql):Prop where
 row:w.ownsRow lo 124 15 (.slice a rs.length c) rs.length (ku rs)
 top:hi≤w.heap.size
 blk:∀ k,(Value.slice a rs.length c).ownBlock=some k→k<hi
 each:∀ r∈rs,r.own w lo hi
 apart:((Value.slice a rs.length c).ownBlock.toList++rs.flatMap ql.blocks).Nodup
def jw (a:Option Addr) (c:Nat) (rs:List ql):List Nat:=(Value.slice a rs.length c).ownBlock.toList++rs.flatMap ql.blocks
theorem je.qC {w:World} {lo hi:Nat} {a:Option Addr} {c:Nat} {rs:List ql} (h:je w lo hi a c rs):∀ k∈jw a c rs,lo≤k∧k<hi:=by
 intro k hk;simp only [jw,qaa,qag,qad] at hk;rcases hk with h1 | ⟨r,hr,h1⟩
 ·exact ⟨(h.row.lt k h1).1,h.blk k h1⟩
 ·exact (h.each r hr).qC k h1
theorem ql.own.touch {w w':World} {lo hi:Nat} {r:ql} {bl:List Nat} (h:r.own w lo hi) (ht:Touch bl w w') (hd:∀ k∈r.blocks,k∉bl):r.own w' lo hi:=
 ⟨qj.touch h.bf ht (fun k hk=>hd k (qaa.2 (.inl hk))),qj.touch h.af ht (fun k hk=>hd k (qaa.2 (.inr (qaa.2 (.inl hk))))),h.txs.touch ht (fun k hk=>hd k (qaa.2 (.inr (qaa.2 (.inr (qad.2 hk)))))),h.apart⟩
theorem je.touch {w w':World} {lo hi:Nat} {a:Option Addr} {c:Nat} {rs:List ql} {bl:List Nat} (h:je w lo hi a c rs) (ht:Touch bl w w') (hd:∀ k∈jw a c rs,k∉bl):je w' lo hi a c rs:=
 ⟨xk h.row (fun k hk=>ht.block k (h.row.lt k hk).2 (hd k (qaa.2 (.inl (qad.2 hk))))),qcx h.top ht.size,h.blk,fun r hr=>(h.each r hr).touch ht (fun k hk=>hd k (qaa.2 (.inr (qag.2 ⟨r,hr,hk⟩)))),h.apart⟩
theorem je.within {w w':World} {lo hi l r:Nat} {a:Option Addr} {c:Nat} {rs:List ql} (h:je w lo hi a c rs) (hw:Within l r w w') (hd:hi≤l∨r≤lo):je w' lo hi a c rs:=
 ⟨xk h.row (fun k hk=>hw.block k (by have:=h.blk k hk;have:=h.top;omega) (by have:=h.blk k hk;have:=(h.row.lt k hk).1;omega)),qcx h.top hw.size,h.blk,fun x hx=>(h.each x hx).within hw hd,h.apart⟩
theorem je.below {w w':World} {lo hi:Nat} {a:Option Addr} {c:Nat} {rs:List ql} (h:je w lo hi a c rs) (hb:qa w w'):je w' lo hi a c rs:=
 h.within (Within.of_below (lo:=w.heap.size) (hi:=w.heap.size) hb) (.inl h.top)
theorem je.widen {w:World} {lo hi lo' hi':Nat} {a:Option Addr} {c:Nat} {rs:List ql} (h:je w lo hi a c rs) (h1:lo'≤lo) (h2:hi≤hi') (h3:hi'≤w.heap.size):je w lo' hi' a c rs:=
 ⟨xM h.row (fun k hk=>by have:=(h.row.lt k hk).1;omega),h3,fun k hk=>by have:=h.blk k hk;omega,fun x hx=>(h.each x hx).widen h1 h2 h3,h.apart⟩
theorem Dn (w:World) (lo hi:Nat) (h:hi≤w.heap.size):je w lo hi none 0 []:=⟨⟨by simp [ku],.inl ⟨rfl,rfl⟩⟩,h,(fun k hk=>by cases hk),(fun r hr=>by simp at hr),by simp [Value.ownBlock]⟩
theorem NZ {w:World} {base g n cap:Nat} {rs:List ql} (h:w.ownsRow base 124 15 (.slice (some ⟨g,0,none⟩) n cap) n (ku rs)) (hn:rs.length=n) (k:Nat) (hk:k<n):
  w.rangeAt g (k*15) (rs.getD k qE).cells∧w.there g (k*15) 15:=by
 refine ⟨fun j v hv=>?_,fun j hj=>?_⟩
 ·have hj:j<15:=by have:=(qcL.1 hv).1;rwa [ze] at this
  rw [h.cellAt (k*15+j) (by omega),Uc rs k j (by omega) hj,hv]
 ·refine ⟨?_,h.frozenAt _⟩;rw [h.cellAt (k*15+j) (by omega),Uc rs k j (by omega) hj,qcG (by rw [ze];omega)];rfl
theorem je.reads {w:World} {lo hi:Nat} {a:Option Addr} {c:Nat} {rs:List ql} (h:je w lo hi a c rs):yl w a rs:=by
 intro hne;rcases h.row.2 with ⟨_,h0⟩ | ⟨g,cap',cur,hv,hb,hg,hr⟩
 ·exact absurd (qcI.1 h0) hne
 ·simp only [qcK] at hv;obtain ⟨rfl,_,rfl⟩:=hv;refine ⟨g,0,rfl,fun k hk=>?_⟩;rw [qeK];exact ⟨(NZ h.row rfl k hk).1,(h.each _ (vX rs k hk)).reads⟩
theorem KN {base g n cap sz:Nat} {e:TypeId} (cs:List Value):∀ (pre old post:List Value) (w:World),w.ownsRow base e sz (.slice (some ⟨g,0,none⟩) n cap) n (pre++(old++post))→old.length=cs.length→
  (w.setCells g pre.length cs).ownsRow base e sz (.slice (some ⟨g,0,none⟩) n cap) n (pre++(cs++post))∧w.grownBy (w.setCells g pre.length cs) (some g):=by
 induction cs with
 | nil=>intro pre old post w h hl;obtain rfl:=qcI.1 hl;exact ⟨h,qeR _ _⟩
 | cons c cr ih=>
  intro pre old post w h hl;obtain ⟨x,r,rfl⟩:∃ x r,old=x::r:=by
   cases old with
   | nil=>simp at hl
   | cons x r=>exact ⟨x,r,rfl⟩
  have hs:=h.stored pre.length c;rw [qdh _ _ qg,qfV] at hs;simp only [qfk,qdL] at hs;have:=ih (pre++[c]) r post (w.setCell ⟨g,pre.length,none⟩ c) (by simpa using hs.1) (by simpa using hl);simp only [qai,qfD] at this;rw [World.setCells];exact ⟨by simpa using this.1,grownBy_trans hs.2 this.2⟩
theorem JZ (B:Nat):∀ (vs:List Value) (o:Nat) (w:World),(w.setCells B o vs).heap.size=w.heap.size:=by
 intro vs
 induction vs with
 | nil=>intro o w;rfl
 | cons v r ih=>intro o w;rw [World.setCells,ih];simp
theorem eH {P:Prop} (h:P:=by
 obtain ⟨r,hr,hx⟩:=qag.1 hx;exact (h.each r (by simp [hr])).qC x hx):P:=h
theorem je.fill {w:World} {lo hi g c:Nat} {A B:List ql} {z:ql} (h:je w lo hi (some ⟨g,0,none⟩) c (A++z::B)) (q:ql) {l u:Nat} (hq:q.own w l u) (hl:hi≤l) (hlo:lo≤hi) (hu:u≤w.heap.size):
  ∃ W,Hid (w.setCells g (A.length*15) q.cells=W)∧je W lo (max hi u) (some ⟨g,0,none⟩) c (A++q::B)∧Touch [g] w W∧W.heap.size=w.heap.size:=by
 have hrow:=h.row;rw [QS,uG,qai,qcS] at hrow;have hg:lo≤g∧g<hi:=⟨(hrow.lt g rfl).1,h.blk g rfl⟩;obtain ⟨h1,h2⟩:=KN q.cells (ku A) z.cells (ku B) w hrow rfl;rw [ZW] at h1 h2;have ht:Touch [g] w (w.setCells g (A.length*15) q.cells):=Touch.jO h2 (fun k hk=>by cases hk;simp);have hap:=h.apart;simp only [qcy,qaY,Value.ownBlock,Option.toList,qdr,qf6,qav,qaa,not_or] at hap;obtain ⟨⟨n1,n2,n3⟩,a1,⟨a2,a3,a4⟩,a5⟩:=hap;have yJ:=hq.qC;have hA:∀ x∈A.flatMap ql.blocks,lo≤x∧x<hi:=fun x hx=>by
  exact eH
 have hB:∀ x∈B.flatMap ql.blocks,lo≤x∧x<hi:=fun x hx=>by
  exact eH
 have hsz:=JZ g q.cells (A.length*15) w;refine ⟨_,rfl,⟨?_,?_,fun k hk=>?_,fun r hr=>?_,?_⟩,ht,hsz⟩
 ·rw [QS,uG,qai,qcS];exact h1
 ·rw [hsz];have:=h.top;omega
 ·cases hk;show g<max hi u;omega
 ·rcases qaa.1 hr with hr | hr
  ·exact ((h.each r (by simp [hr])).touch ht (fun k hk hk'=>n1 (by rw [← qac.1 hk'];exact qag.2 ⟨r,hr,hk⟩))).widen qg (by omega) (by rw [hsz];have:=h.top;omega)
  ·rcases qcv.1 hr with rfl | hr
   ·exact (hq.touch ht (fun k hk hk'=>by have:=yJ k hk;have:=qac.1 hk';omega)).widen (by omega) (by omega) (by rw [hsz];have:=h.top;omega)
   ·exact ((h.each r (by simp [hr])).touch ht (fun k hk hk'=>n3 (by rw [← qac.1 hk'];exact qag.2 ⟨r,hr,hk⟩))).widen qg (by omega) (by rw [hsz];have:=h.top;omega)
 ·simp only [qcy,qaY,Value.ownBlock,Option.toList,qdr,qf6,qav,qaa,not_or];refine ⟨⟨n1,fun hk=>by have:=yJ g hk;omega,n3⟩,a1,⟨hq.apart,a3,fun x hx y hy e=>by have:=yJ x hx;have:=hB y hy;omega⟩,fun x hx y hy e=>?_⟩;rcases hy with hy | hy
  ·have:=yJ y hy;have:=hA x hx;omega
  ·exact a5 x hx y (.inr hy) e
structure qh where
 no:Int
 lsn:Int
 s0:qj
 s1:qj
 s2:qj
 s3:qj
 dirty:Bool
 hot:Bool
def qh.ss (s:qh):List qj:=[s.s0,s.s1,s.s2,s.s3]
def qh.page (s:qh):qA:=⟨s.lsn,s.ss⟩
structure q9 where
 no:Int
 lsn:Int
 ss:List qO
 dirty:Bool
 hot:Bool
def qh.v (s:qh):q9:=⟨s.no,s.lsn,s.ss.map (·.v),s.dirty,s.hot⟩
def qh.cells (s:qh):List Value:=.int .i64 s.no::.int .i64 s.lsn::(s.s0.cells++(s.s1.cells++(s.s2.cells++(s.s3.cells++[.bool s.dirty,.bool s.hot]))))
theorem qh.ui (s:qh):s.cells=.int .i64 s.no::(s.page.cells++[.bool s.dirty,.bool s.hot]):=by
 simp [qh.cells,qh.page,qh.ss,qA.cells,cellsS]
def qi:qh:=⟨0,0,qw,qw,qw,qw,false,false⟩
def qh.reads (w:World) (s:qh):Prop:=jS w s.ss
theorem qh.reads.below {w w':World} {s:qh} (h:s.reads w) (hb:qa w w'):s.reads w':=jS.below h hb
def qh.blocks (s:qh):List Nat:=s.ss.flatMap qj.blocks
def qh.own (w:World) (lo hi:Nat) (s:qh):Prop:=qP w lo hi s.ss
theorem qh.own.apart {w:World} {lo hi:Nat} {s:qh} (h:s.own w lo hi):s.blocks.Nodup:=qP.apart h
theorem qh.own.reads {w:World} {lo hi:Nat} {s:qh} (h:s.own w lo hi):s.reads w:=qP.reads h
theorem qh.own.below {w w':World} {lo hi:Nat} {s:qh} (h:s.own w lo hi) (hb:qa w w'):s.own w' lo hi:=qP.below h hb
theorem qh.own.within {w w':World} {lo hi l u:Nat} {s:qh} (h:s.own w lo hi) (hw:Within l u w w') (hd:hi≤l∨u≤lo):s.own w' lo hi:=qP.within h hw hd
theorem qh.own.widen {w:World} {lo hi lo' hi':Nat} {s:qh} (h:s.own w lo hi) (h1:lo'≤lo) (h2:hi≤hi') (h3:hi'≤w.heap.size):s.own w lo' hi':=qP.widen h h1 h2 h3
theorem qh.own.qC {w:World} {lo hi:Nat} {s:qh} (h:s.own w lo hi):∀ k∈s.blocks,lo≤k∧k<hi:=qP.qC h
theorem Mw (s:qh):∀ v∈s.cells,v.oneCell'=true:=by
 intro v hv;rw [qh.ui] at hv;rcases qcv.1 hv with rfl | h
 ·rfl
 ·rcases qaa.1 h with h | h
  ·exact uM _ v h
  ·simp only [qcv,qdu,qfL] at h;rcases h with rfl | rfl<;>rfl
def jH (rs:List qh):List Value:=rs.flatMap qh.cells
theorem yn (r:qh):r.cells.length=20:=rfl
theorem uH (rs:List qh):(jH rs).length=rs.length*20:=by
 induction rs with
 | nil=>rfl
 | cons s r ih=>simp only [jH,qaY,qai,yn,qcS] at *;omega
theorem yX (a b:List qh):jH (a++b)=jH a++jH b:=by simp [jH]
theorem yf (r:qh) (b:List qh):jH (r::b)=r.cells++jH b:=by simp [jH]
theorem ZY (rs:List qh) (k j:Nat) (hk:k<rs.length) (hj:j<20):(jH rs)[k*20+j]? =(rs.getD k qi).cells[j]? :=by
 induction rs generalizing k with
 | nil=>simp at hk
 | cons s r ih=>
  rw [yf];cases k with
  | zero=>rw [qdx (by rw [yn];omega)];simp
  | succ k=>
   rw [qcQ (by rw [yn];omega),yn];have:=ih k (by simpa using hk);rw [show (k+1)*20+j-20=k*20+j by omega,this];simp
theorem zu (rs:List qh) (k:Nat) (hk:k<rs.length):rs=rs.take k++rs.getD k qi::rs.drop (k+1):=by
 have e:rs.getD k qi=rs[k]:=by simp [List.getD,hk]
 rw [e];conv=>lhs;rw [← qdJ k rs,qcX hk]
theorem xE (rs:List qh) (k:Nat) (hk:k<rs.length):rs.getD k qi∈rs:=by
 have e:rs.getD k qi=rs[k]:=by simp [List.getD,hk]
 rw [e];exact qdw hk
theorem Kz {w:World} {b o:Nat} {r:qh} (h:w.rangeAt b o r.cells):b<w.heap.size:=block_lt (h 0 _ rfl)
def xw (w:World) (a:Option Addr) (rs:List qh):Prop:=rs≠[]→∃ b off,a=some ⟨b,off,none⟩∧∀ k,k<rs.length→w.rangeAt b (off+k*20) (rs.getD k qi).cells∧(rs.getD k qi).reads w
theorem xw.nil (w:World) (a:Option Addr):xw w a []:=fun h=>absurd rfl h
theorem xw.below {w w':World} {a:Option Addr} {rs:List qh} (h:xw w a rs) (hb:qa w w'):xw w' a rs:=by
 intro hne;obtain ⟨b,off,ha,hc⟩:=h hne;refine ⟨b,off,ha,fun k hk=>?_⟩;obtain ⟨h0,h1⟩:=hc k hk;exact ⟨yY h0 hb (Kz h0),h1.below hb⟩
theorem xw.cases {w:World} {a:Option Addr} {rs:List qh} (h:xw w a rs):rs=[]∨∃ b off,a=some ⟨b,off,none⟩∧0<rs.length∧∀ k,k<rs.length→w.rangeAt b (off+k*20) (rs.getD k qi).cells∧(rs.getD k qi).reads w:=by
 by_cases e:rs=[]
 ·exact .inl e
 ·obtain ⟨b,off,ha,hc⟩:=h e;exact .inr ⟨b,off,ha,qe9.2 e,hc⟩
structure OwnSts (w:World) (lo hi:Nat) (a:Option Addr) (c:Nat) (rs:List qh):Prop where
 row:w.ownsRow lo 121 20 (.slice a rs.length c) rs.length (jH rs)
 top:hi≤w.heap.size
 blk:∀ k,(Value.slice a rs.length c).ownBlock=some k→k<hi
 each:∀ r∈rs,r.own w lo hi
 apart:((Value.slice a rs.length c).ownBlock.toList++rs.flatMap qh.blocks).Nodup
def qF (a:Option Addr) (c:Nat) (rs:List qh):List Nat:=(Value.slice a rs.length c).ownBlock.toList++rs.flatMap qh.blocks
theorem OwnSts.qC {w:World} {lo hi:Nat} {a:Option Addr} {c:Nat} {rs:List qh} (h:OwnSts w lo hi a c rs):∀ k∈qF a c rs,lo≤k∧k<hi:=by
 intro k hk;simp only [qF,qaa,qag,qad] at hk;rcases hk with h1 | ⟨r,hr,h1⟩
 ·exact ⟨(h.row.lt k h1).1,h.blk k h1⟩
 ·exact (h.each r hr).qC k h1
theorem qh.own.touch {w w':World} {lo hi:Nat} {s:qh} {bl:List Nat} (h:s.own w lo hi) (ht:Touch bl w w') (hd:∀ k∈s.blocks,k∉bl):s.own w' lo hi:=
 ⟨fun x hx=>qj.touch (h.each x hx) ht (fun k hk=>hd k (qag.2 ⟨x,hx,hk⟩)),qP.apart h⟩
theorem OwnSts.touch {w w':World} {lo hi:Nat} {a:Option Addr} {c:Nat} {rs:List qh} {bl:List Nat} (h:OwnSts w lo hi a c rs) (ht:Touch bl w w') (hd:∀ k∈qF a c rs,k∉bl):OwnSts w' lo hi a c rs:=
 ⟨xk h.row (fun k hk=>ht.block k (h.row.lt k hk).2 (hd k (qaa.2 (.inl (qad.2 hk))))),qcx h.top ht.size,h.blk,fun r hr=>(h.each r hr).touch ht (fun k hk=>hd k (qaa.2 (.inr (qag.2 ⟨r,hr,hk⟩)))),h.apart⟩
theorem OwnSts.within {w w':World} {lo hi l r:Nat} {a:Option Addr} {c:Nat} {rs:List qh} (h:OwnSts w lo hi a c rs) (hw:Within l r w w') (hd:hi≤l∨r≤lo):OwnSts w' lo hi a c rs:=
 ⟨xk h.row (fun k hk=>hw.block k (by have:=h.blk k hk;have:=h.top;omega) (by have:=h.blk k hk;have:=(h.row.lt k hk).1;omega)),qcx h.top hw.size,h.blk,fun x hx=>(h.each x hx).within hw hd,h.apart⟩
theorem OwnSts.below {w w':World} {lo hi:Nat} {a:Option Addr} {c:Nat} {rs:List qh} (h:OwnSts w lo hi a c rs) (hb:qa w w'):OwnSts w' lo hi a c rs:=
 h.within (Within.of_below (lo:=w.heap.size) (hi:=w.heap.size) hb) (.inl h.top)
theorem OwnSts.widen {w:World} {lo hi lo' hi':Nat} {a:Option Addr} {c:Nat} {rs:List qh} (h:OwnSts w lo hi a c rs) (h1:lo'≤lo) (h2:hi≤hi') (h3:hi'≤w.heap.size):OwnSts w lo' hi' a c rs:=
 ⟨xM h.row (fun k hk=>by have:=(h.row.lt k hk).1;omega),h3,fun k hk=>by have:=h.blk k hk;omega,fun x hx=>(h.each x hx).widen h1 h2 h3,h.apart⟩
theorem MK (w:World) (lo hi:Nat) (h:hi≤w.heap.size):OwnSts w lo hi none 0 []:=⟨⟨by simp [jH],.inl ⟨rfl,rfl⟩⟩,h,(fun k hk=>by cases hk),(fun r hr=>by simp at hr),by simp [Value.ownBlock]⟩
theorem zm {w:World} {base g n cap:Nat} {rs:List qh} (h:w.ownsRow base 121 20 (.slice (some ⟨g,0,none⟩) n cap) n (jH rs)) (hn:rs.length=n) (k:Nat) (hk:k<n):
  w.rangeAt g (k*20) (rs.getD k qi).cells∧w.there g (k*20) 20:=by
 refine ⟨fun j v hv=>?_,fun j hj=>?_⟩
 ·have hj:j<20:=by have:=(qcL.1 hv).1;rwa [yn] at this
  rw [h.cellAt (k*20+j) (by omega),ZY rs k j (by omega) hj,hv]
 ·refine ⟨?_,h.frozenAt _⟩;rw [h.cellAt (k*20+j) (by omega),ZY rs k j (by omega) hj,qcG (by rw [yn];omega)];rfl
theorem OwnSts.reads {w:World} {lo hi:Nat} {a:Option Addr} {c:Nat} {rs:List qh} (h:OwnSts w lo hi a c rs):xw w a rs:=by
 intro hne;rcases h.row.2 with ⟨_,h0⟩ | ⟨g,cap',cur,hv,hb,hg,hr⟩
 ·exact absurd (qcI.1 h0) hne
 ·simp only [qcK] at hv;obtain ⟨rfl,_,rfl⟩:=hv;refine ⟨g,0,rfl,fun k hk=>?_⟩;rw [qeK];exact ⟨(zm h.row rfl k hk).1,(h.each _ (xE rs k hk)).reads⟩
theorem FY {P:Prop} (h:P:=by
 obtain ⟨r,hr,hx⟩:=qag.1 hx;exact (h.each r (by simp [hr])).qC x hx):P:=h
theorem OwnSts.fill {w:World} {lo hi g c:Nat} {A B:List qh} {z:qh} (h:OwnSts w lo hi (some ⟨g,0,none⟩) c (A++z::B)) (q:qh) {l u:Nat} (hq:q.own w l u) (hl:hi≤l) (hlo:lo≤hi) (hu:u≤w.heap.size):
  ∃ W,Hid (w.setCells g (A.length*20) q.cells=W)∧OwnSts W lo (max hi u) (some ⟨g,0,none⟩) c (A++q::B)∧Touch [g] w W∧W.heap.size=w.heap.size:=by
 have hrow:=h.row;rw [yX,yf,qai,qcS] at hrow;have hg:lo≤g∧g<hi:=⟨(hrow.lt g rfl).1,h.blk g rfl⟩;obtain ⟨h1,h2⟩:=KN q.cells (jH A) z.cells (jH B) w hrow rfl;rw [uH] at h1 h2;have ht:Touch [g] w (w.setCells g (A.length*20) q.cells):=Touch.jO h2 (fun k hk=>by cases hk;simp);have hap:=h.apart;simp only [qcy,qaY,Value.ownBlock,Option.toList,qdr,qf6,qav,qaa,not_or] at hap;obtain ⟨⟨n1,n2,n3⟩,a1,⟨a2,a3,a4⟩,a5⟩:=hap;have yJ:=hq.qC;have hA:∀ x∈A.flatMap qh.blocks,lo≤x∧x<hi:=fun x hx=>by
  exact FY
 have hB:∀ x∈B.flatMap qh.blocks,lo≤x∧x<hi:=fun x hx=>by
  exact FY
 have hsz:=JZ g q.cells (A.length*20) w;refine ⟨_,rfl,⟨?_,?_,fun k hk=>?_,fun r hr=>?_,?_⟩,ht,hsz⟩
 ·rw [yX,yf,qai,qcS];exact h1
 ·rw [hsz];have:=h.top;omega
 ·cases hk;show g<max hi u;omega
 ·rcases qaa.1 hr with hr | hr
  ·exact ((h.each r (by simp [hr])).touch ht (fun k hk hk'=>n1 (by rw [← qac.1 hk'];exact qag.2 ⟨r,hr,hk⟩))).widen qg (by omega) (by rw [hsz];have:=h.top;omega)
  ·rcases qcv.1 hr with rfl | hr
   ·exact (hq.touch ht (fun k hk hk'=>by have:=yJ k hk;have:=qac.1 hk';omega)).widen (by omega) (by omega) (by rw [hsz];have:=h.top;omega)
   ·exact ((h.each r (by simp [hr])).touch ht (fun k hk hk'=>n3 (by rw [← qac.1 hk'];exact qag.2 ⟨r,hr,hk⟩))).widen qg (by omega) (by rw [hsz];have:=h.top;omega)
 ·simp only [qcy,qaY,Value.ownBlock,Option.toList,qdr,qf6,qav,qaa,not_or];refine ⟨⟨n1,fun hk=>by have:=yJ g hk;omega,n3⟩,a1,⟨hq.apart,a3,fun x hx y hy e=>by have:=yJ x hx;have:=hB y hy;omega⟩,fun x hx y hy e=>?_⟩;rcases hy with hy | hy
  ·have:=yJ y hy;have:=hA x hx;omega
  ·exact a5 x hx y (.inr hy) e
theorem Gw (w:World) (lo hi:Nat) (h:hi≤w.heap.size):qw.own w lo hi:=⟨J3 _ _ _ h,J3 _ _ _ h,fun k hk=>by cases hk⟩
theorem qaz (w:World) (lo hi:Nat) (h:hi≤w.heap.size):qE.own w lo hi:=⟨Gw w lo hi h,Gw w lo hi h,K7 w lo hi h,by decide⟩
theorem K4 {w:World} {C:Nat} (q:ql) (old:List Value) (ho:old.length=15) (bC:Box w C old 124):
  ∃ WF,Hid (w.setCells C 0 q.cells=WF)∧Within C (C+1) w WF∧WF.heap.size=w.heap.size∧Hid (w.there C 0 q.cells.toArray.size)∧Hid ((loadVar 124 ⟨C,0,none⟩).run prog WF=.ok (.agg q.cells.toArray) WF)∧Box WF C q.cells 124:=by
 obtain ⟨WF,qK,bF,hwF,q8⟩:=jE [] old q.cells [] (by simpa using bC) (by rw [ho];rfl);have Jz:Box WF C q.cells 124:=by simpa using bF
 exact ⟨WF,qK,hwF,q8,bC.there 0 _ (by rw [ho];show 0+15≤15;decide),QA q Jz,Jz⟩
theorem uE (q:ql):(prog.info? 124).map (·.size)=some q.cells.length:=by show _=some 15;kernel_rfl
theorem Jq (q:ql):q.cells.toArray.all (·.oneCell')=true:=qaf (ZL q)
theorem Tryz.gV:(prog.info? 124).map (fun i=>(i.zero,i.size,i.bytes))=some (some (.agg qE.cells.toArray),15,200):=by kernel_rfl
theorem Jo {w:World} {base:Nat} {e:TypeId} {size n:Nat} {v:Value} {xs:List Value} (h:w.ownsRow base e size v n xs) {k:Nat} (hk:v.ownBlock=some k):∃ cur,w.heap[k]? =some (.cells cur e (0,0)):=by
 rcases h.2 with ⟨rfl,_⟩ | ⟨g,cap,cur,rfl,_,hg,_⟩
 ·cases hk
 ·cases hk;exact ⟨cur,hg⟩
theorem XG {w:World} {base lo hi n:Nat} {v:Value} {xs:List Value} {r:ql} (h:w.ownsRow base 124 15 v n xs) (hr:r.own w lo hi):∀ k,v.ownBlock=some k→k∉r.blocks:=by
 intro k hk hm;obtain ⟨cur,hc⟩:=Jo h hk;simp only [ql.blocks,qj.blocks,qaa,qad] at hm;have no:∀ {b2 s2 n2:Nat} {e2:TypeId} {v2:Value} {x2:List Value},w.ownsRow b2 e2 s2 v2 n2 x2→v2.ownBlock=some k→e2=124:=by
  intro b2 s2 n2 e2 v2 x2 h2 hk2;obtain ⟨qeD,hc2⟩:=Jo h2 hk2;rw [hc] at hc2;simp only [qeL,Obj.cells.injEq] at hc2;exact hc2.2.1.symm
 rcases hm with (h1 | h1) | (h1 | h1) | h1
 ·have:=no hr.bf.ints.1 h1;cases this
 ·have:=no hr.bf.refs.1 h1;cases this
 ·have:=no hr.af.ints.1 h1;cases this
 ·have:=no hr.af.refs.1 h1;cases this
 ·have:=no hr.txs.1 h1;cases this
structure Xd where
 recs:List xS
 sure:Int
structure qI where
 recs:List ql
 sure:Int
 a:Option Addr
 c:Nat
def qI.v (l:qI):Xd:=⟨l.recs.map ql.v,l.sure⟩
def qI.cells (l:qI):List Value:=[.slice l.a l.recs.length l.c,.int .i64 l.sure]
def qI.reads (w:World) (l:qI):Prop:=yl w l.a l.recs
def qI.own (w:World) (lo hi:Nat) (l:qI):Prop:=je w lo hi l.a l.c l.recs
structure qI.short (l:qI) (m:Nat):Prop where
 len:l.recs.length≤m
 each:∀ r∈l.recs,r.short m
theorem qI.short.at {l:qI} {m:Nat} (h:l.short m) (k:Nat) (hk:k<l.recs.length):(l.recs.getD k qE).short m:=h.each _ (vX _ k hk)
theorem YT {rs ts:List ql} (h:ts.map ql.v=rs.map ql.v):ts.length=rs.length:=by simpa using qcz List.length h
theorem eO {rs ts:List ql} (h:ts.map ql.v=rs.map ql.v) (k:Nat) (hk:k<rs.length):(ts.getD k qE).v=(rs.getD k qE).v:=by
 have hk':k<ts.length:=by rw [YT h];exact hk
 have:=qcz (fun x=>x[k]?) h
 simpa [List.getD,hk,hk'] using this
theorem Fg {rs ts:List ql} (h:ts.map ql.v=rs.map ql.v) (P:ql→Prop) (hP:∀ a b:ql,a.v=b.v→P b→P a) (hall:∀ r∈rs,P r):∀ r∈ts,P r:=by
 intro r hr;obtain ⟨k,hk,rfl⟩:=qfa hr;have hk':k<rs.length:=by rw [← YT h];exact hk
 have e:=eO h k hk';refine hP _ (rs.getD k qE) ?_ (hall _ (vX rs k hk'));rw [← e];simp [List.getD,hk]
theorem qI.xq {l t:qI} {m:Nat} (h:t.v=l.v) (hl:l.short m):t.short m:=by
 simp only [qI.v,Xd.mk.injEq] at h;exact ⟨by rw [YT h.1];exact hl.len,Fg h.1 (fun r=>r.short m) (fun a b e hb=>Go.Proofs.YtnfdccldabbobaaGreatDoor.xq e hb) hl.each⟩
theorem qI.jB {l:qI} (hl:l.short 1048576):l.short 1099511627776:=⟨by have:=hl.len;omega,fun r hr=>Go.Proofs.YtnfdccldabbobaaGreatDoor.jB (hl.each r hr)⟩
def ql.with (r:ql) (t1 t2:qj) (aL:Option Addr) (cL:Nat):ql:=⟨r.lsn,r.tx,r.prev,r.kind,r.oid,t1,t2,r.next,r.txs,aL,cL⟩
theorem LC {r:ql} {t1 t2:qj} {aL:Option Addr} {cL:Nat} (h1:t1.v=r.bf.v) (h2:t2.v=r.af.v):(r.with t1 t2 aL cL).v=r.v:=by simp only [ql.with,ql.v,h1,h2]
theorem qcm {w W:World} (h:w.alloc (.cells #[] 115)=W):OwnL W w.heap.size W.heap.size (some ⟨w.heap.size,0,none⟩) 0 []:=by
 subst h;refine ⟨World.ownsRow_lit (size:=3) w #[] 0 qg (by simp [maxLen]) rfl,qcN _,fun k hk=>?_⟩;simp [Value.ownBlock] at hk;rw [World.size_alloc];omega
theorem fM (r:ql) (w:World) (hr:r.reads w) (hl:r.short 1099511627776) (hc:r.aL=none→r.cL=0):
  Calls prog 107 #[.agg r.cells.toArray] w fun e w'=>∃ t:ql,e=.returned (.agg t.cells.toArray)∧Hid (t.v=r.v)∧t.own w' w.heap.size w'.heap.size∧qa w w':=by
 obtain ⟨W,hW,b0,b1,hbW,qD⟩:=jK w r.cells [.int .i64 0,.int .i64 0,.int .i64 0,.int .i64 0,.int .i64 0,.bool false,.int .i64 0,.slice none 0 0,.slice none 0 0,.bool false,.int .i64 0,.slice none 0 0,.slice none 0 0,.int .i64 0,.slice none 0 0] 124 124;have hs0:w.heap.size+1<W.heap.size:=by omega
 clear qD;have C1:=uB r.bf W (jd.below hr.bf hbW) hl.bf.1 hl.bf.2;have HC:Hid (r.aL=none→r.cL=0):=hc;have LB:Hid (∀ (t1 t2:qj) (aL:Option Addr) (cL:Nat),t1.v=r.bf.v→t2.v=r.af.v→(r.with t1 t2 aL cL).v=r.v):=fun t1 t2 aL cL h1 h2=>LC h1 h2
 have LD:Hid (∀ (t1 t2:qj) (aL:Option Addr) (cL:Nat),(r.with t1 t2 aL cL).cells=[.int .i64 r.lsn,.int .i64 r.tx,.int .i64 r.prev,.int .i64 r.kind,.int .i64 r.oid,.bool t1.v.has,.int .i64 t1.v.o.kind,.slice t1.aI t1.v.o.ints.length t1.cI,.slice t1.aR t1.v.o.refs.length t1.cR,.bool t2.v.has,.int .i64 t2.v.o.kind,.slice t2.aI t2.v.o.ints.length t2.cI,.slice t2.aR t2.v.o.refs.length t2.cR,.int .i64 r.next,.slice aL r.txs.length cL]):=fun _ _ _ _=>rfl
 simp only [ql.cells] at b0 hW ⊢;simp only [qj.cells] at C1;clear hc;go_enter func107,ntmps107;go_wp2_with fail;rw [hW.out];clear hW;refine C1.mono ?_;clear C1;rintro e w1 ⟨t1,rfl,hv1,ho1,hb1⟩;have b01:=b0.below hb1 b0.lt;have b11:=b1.below hb1 b1.lt;have hs1:=hb1.size;clear b0 b1;have x5:=b01.cell 5 _ rfl;have xf5:=b01.frozen 5;have x6:=b01.cell 6 _ rfl;have xf6:=b01.frozen 6;have x7:=b01.cell 7 _ rfl;have xf7:=b01.frozen 7;have x8:=b01.cell 8 _ rfl;have xf8:=b01.frozen 8;obtain ⟨W2,hW2,b02,hw2,hs2⟩:=K9 b01 5 6 7 8 (.bool t1.v.has) (.int .i64 t1.v.o.kind) (.slice t1.aI t1.v.o.ints.length t1.cI) (.slice t1.aR t1.v.o.refs.length t1.cR);have qp4:=qcF hs2;have qp5:=qcF hs2.symm;clear hs2;simp only [List.set] at b02;have b12:=b11.within hw2 (by omega);have hB2:qa w W2:=(hbW.trans (hb1.mono (by omega))).trans (hw2.below (by omega) (by omega));have ho2:=OwnO.within ho1 hw2 (.inr (by omega));have C2:=uB r.af W2 (jd.below hr.af hB2) hl.af.1 hl.af.2;simp only [qj.cells] at C2;clear b01 b11 hw2 ho1;go_upto_region 2 with fail;rw [hW2.out];clear x5 x6 x7 x8 xf5 xf6 xf7 xf8 hW2;have y9:=b02.cell 9 _ rfl;have We:=b02.cell 10 _ rfl;have Vj:=b02.cell 11 _ rfl;have Vk:=b02.cell 12 _ rfl;go_wp2_with fail;refine C2.mono ?_;clear C2 y9 We Vj Vk;rintro e w3 ⟨t2,rfl,hv2,ho3,hb3⟩;have K3:=b02.below hb3 b02.lt;have b13:=b12.below hb3 b12.lt;have hs3:=hb3.size;have BQ:=OwnO.below ho2 hb3;clear b02 b12 ho2;have x9:=K3.cell 9 _ rfl;have xf9:=K3.frozen 9;have xO:=K3.cell 10 _ rfl;have qbw:=K3.frozen 10;have yA:=K3.cell 11 _ rfl;have qbx:=K3.frozen 11;have yE:=K3.cell 12 _ rfl;have qby:=K3.frozen 12;obtain ⟨W4,wL,b04,hw4,hs4⟩:=K9 K3 9 10 11 12 (.bool t2.v.has) (.int .i64 t2.v.o.kind) (.slice t2.aI t2.v.o.ints.length t2.cI) (.slice t2.aR t2.v.o.refs.length t2.cR);have qfW:=qcF hs4;have qfX:=qcF hs4.symm;clear hs4;simp only [List.set] at b04;have b14:=b13.within hw4 (by omega);have hB4:qa w W4:=(hB2.trans (hb3.mono (by omega))).trans (hw4.below (by omega) (by omega));have qhh:=OwnO.within BQ hw4 (.inr (by omega));have qhi:=OwnO.within ho3 hw4 (.inr (by omega));clear K3 b13 hw4 ho3 BQ hb3;go_upto_region 3 with fail;rw [wL.out];clear x9 xO yA yE xf9 qbw qbx qby wL;obtain ⟨W5,zS,bE,hb5,hs5⟩:=qB W4 [] 115;have qp6:=qcF hs5;have qp7:=qcF hs5.symm;clear hs5;have V8:W4.alloc (.cells #[] 115)=W5:=zS.out;have eP:Hid (W4.alloc (.cells #[] 115)=W5):=V8;have oE:=qcm V8;clear bE zS V8;have b05:=b04.below hb5 b04.lt;have b15:=b14.below hb5 b14.lt;have BR:=OwnO.below qhh hb5;have BS:=OwnO.below qhi hb5;have Ut:qa w W5:=hB4.trans (hb5.mono (by omega));have k14:=b05.cell 14 _ rfl;have qms:(W4.alloc (.cells #[] 115)).cell? ⟨w.heap.size,14,none⟩=some (.slice r.aL r.txs.length r.cL):=by rw [eP.out];exact k14
 have hA1:([]:List qM).length+r.txs.length≤1099511627776:=by have:=hl.txs;simp only [qdo];omega
 have hrt:kQ W5 r.aL r.txs:=hr.txs.below Ut;have ql3:=hb5.size;clear b04 b14 qhh qhi;have HNC:Hid (r.aL=none→r.cL=0):=HC.out;go_wp2_with (at_builtin;refine YJ rfl _ _ rfl W4.heap.size _ (some ⟨W4.heap.size,0,none⟩) 0 [] rfl (by rw [eP.out];exact oE) r.aL r.cL r.txs rfl (by rw [eP.out];exact hrt) HNC.out hA1 (by rw [eP.out];omega) ?_);intro aL cL ys w6 hys o6 g6;rw [eP.out] at g6;have Jg:Within W4.heap.size W5.heap.size W5 w6:=Within.jO g6 (fun j hj=>oE.lt j hj);have hs6:=Jg.size;have Mf:=b05.within Jg (by omega);have b16:=b15.within Jg (by omega);have YG:=OwnO.within BR Jg (.inl (by omega));have YH:=OwnO.within BS Jg (.inl (by omega));have hB6:qa w w6:=Ut.trans (Jg.below (by omega) (by omega));obtain rfl:ys=r.txs:=hys.out.trans (qfU _);clear hys g6 Jg oE b05 b15 BR BS k14 qms hrt eP;have vU:Hid ((t1.blocks++(t2.blocks++(Value.slice aL r.txs.length cL).ownBlock.toList)).Nodup):=XE (c:=W4.heap.size) (OwnO.widen YG qg (show _≤W2.heap.size by omega) (by omega)) (OwnO.widen YH qg (show _≤W4.heap.size by omega) (by omega)) o6 (by omega);have yC:=Mf.cell 14 _ rfl;have f14:=Mf.frozen 14;obtain ⟨W7,J9,Ce,hw7,hs7⟩:=jZ Mf 14 (.slice aL r.txs.length cL);have qlM:=qcF hs7;have qlN:=qcF hs7.symm;clear hs7;simp only [List.set] at Ce;have b17:=b16.within hw7 (by omega);have Cf:Box W7 w.heap.size (r.with t1 t2 aL cL).cells 124:=by rw [LD.out];exact Ce
 have Cg:=OwnO.within YG hw7 (.inr (by omega));have Ch:=OwnO.within YH hw7 (.inr (by omega));have o7:=o6.within hw7 (.inr (by omega));have hB7:qa w W7:=hB6.trans (hw7.below (by omega) (by omega));clear hw7 Mf b16 YG YH o6;go_upto_region 4 with fail;rw [J9.out];clear yC f14 J9;obtain ⟨WF,qK,hwF,q8,jI,xA,bF⟩:=K4 (r.with t1 t2 aL cL) _ rfl b17;have Gb:=qcF q8;have ZU:=qcF q8.symm;clear q8;have wh:(r.with t1 t2 aL cL).own WF w.heap.size WF.heap.size:=⟨OwnO.widen (OwnO.within Cg hwF (.inr (by omega))) (by omega) (by omega) qg,OwnO.widen (OwnO.within Ch hwF (.inr (by omega))) (by omega) (by omega) qg,(o7.within hwF (.inr (by omega))).widen (by omega) (by omega) qg,vU.out⟩;have zN:qa w WF:=hB7.trans (hwF.below (by omega) (by omega));have HF:Hid (_∧_∧_):=⟨LB.out t1 t2 aL cL hv1.out hv2.out,wh,zN⟩;have rT:W7.rangeAt w.heap.size 0 (r.with t1 t2 aL cL).cells:=qN Cf;clear wh zN bF hwF Ce Cf b17 Cg Ch o7 vU LD LB;generalize r.with t1 t2 aL cL=TT at*
 go_wp2_with (first | (guard_target=qp 16;refine qH 124 1 w.heap.size 0 TT.cells rT underlying124 (uE _) ?_) | (guard_target=ja 2;refine jb 124 2 16 (w.heap.size+1) 0 TT.cells.toArray jI.out (uE _) (Jq _) ?_) | fail);rw [qK.out];exact qa3 (v:=.agg TT.cells.toArray) (jQ results107 rfl xA.out) rfl ⟨TT,rfl,HF.out.1,HF.out.2.1,HF.out.2.2⟩
theorem qeo (n:Nat) (r:ql):(List.replicate n r).length=n:=by simp
theorem YK (n:Nat):(madeCells (Value.agg qE.cells.toArray).cells (n*15)).toList=ku (List.replicate n qE):=by
 apply qgc;intro i;by_cases h:i<n*15
 ·have e:=Uc (List.replicate n qE) (i / 15) (i % 15) (by simp;omega) (qfc _ (by omega));rw [show i / 15*15+i % 15=i by omega] at e;rw [e];have hg:(List.replicate n qE).getD (i / 15) qE=qE:=by simp [List.getD,show i / 15<n by omega]
  rw [hg];simp only [madeCells,Array.toList_map,qdy,Array.toList_range,List.getElem?_range h,qfS];have hm:i % 15<15:=qfc _ (by omega);have hz:∀ j,j<15→some ((Value.agg qE.cells.toArray).cells[j]!)=qE.cells[j]? :=by
   intro j hj;rcases (by omega:j=0∨j=1∨j=2∨j=3∨j=4∨j=5∨j=6∨j=7∨j=8∨j=9∨j=10∨j=11∨j=12∨j=13∨j=14) with rfl | rfl | rfl | rfl | rfl | rfl | rfl | rfl | rfl | rfl | rfl | rfl | rfl | rfl | rfl<;>rfl
  exact hz _ hm
 ·rw [qeE (by simp [size_madeCells];omega),qeE (by rw [ZW];simp;omega)]
theorem VR {w:World} {lo hi g c:Nat} (n:Nat) (h:w.ownsRow lo 124 15 (.slice (some ⟨g,0,none⟩) n c) n (ku (List.replicate n qE))) (ht:hi≤w.heap.size) (hg:g<hi):je w lo hi (some ⟨g,0,none⟩) c (List.replicate n qE):=by
 refine ⟨by rw [qeo];exact h,ht,fun k hk=>by cases hk;exact hg,fun r hr=>?_,?_⟩
 ·rw [(List.mem_replicate.1 hr).2];exact qaz w lo hi ht
 ·have e:(List.replicate n qE).flatMap ql.blocks=[]:=by
   rw [List.flatMap_eq_nil_iff];intro r hr;rw [(List.mem_replicate.1 hr).2];rfl
  rw [e];simp [Value.ownBlock]
def Came (rs ts:List ql) (k:Nat):Prop:=ts.length=k∧ts.map ql.v=(rs.take k).map ql.v
theorem Wt (rs:List ql):Came rs [] 0:=⟨rfl,by simp⟩
theorem Came.snoc {rs ts:List ql} {k:Nat} (h:Came rs ts k) (hk:k<rs.length) {q:ql} (hq:q.v=(rs.getD k qE).v):Came rs (ts++[q]) (k+1):=by
 refine ⟨by simp [h.1],?_⟩;have e:rs.getD k qE=rs[k]:=by simp [List.getD,hk]
 rw [qdd,h.2,qdb hk,qdd,qgp,qgp,hq,e]
theorem Came.all {rs ts:List ql} (h:Came rs ts rs.length):ts.map ql.v=rs.map ql.v:=by
 have:=h.2
 rwa [qfE] at this
theorem JJ {w w':World} {b o:Nat} {r:ql} (h:w.rangeAt b o r.cells) (hb:qa w w'):w'.rangeAt b o r.cells:=yY h hb (XF h)
theorem Eg (a:Option Addr) (cap:Nat) (rs:List ql) (w:World) (hr:yl w a rs) (hl:rs.length≤1048576) (hs:∀ r∈rs,r.short 1048576):
  Calls prog 73 #[.slice a rs.length cap] w fun e w'=>∃ a' c' ts,e=.returned (.slice a' ts.length c')∧Hid (ts.map ql.v=rs.map ql.v)∧je w' w.heap.size w'.heap.size a' c' ts∧qa w w':=by
 obtain ⟨i0,hi,hz0,hz1,hz2⟩:=qft Tryz.gV;have HI:Hid ((prog.info? 163).map (·.size)=some 15):=by rw [Hid];kernel_rfl
 have HJ:Hid ((prog.info? 124).map (·.size)=some 15):=by rw [Hid];kernel_rfl
 rcases hr.cases with rfl | ⟨b,off,rfl,hpos,hcell⟩
 ·go_enter func73,ntmps73;go_wp2_with (at_make;refine qe6 _ rfl _ _ 53 rfl w.heap.size 124 i0 (.agg qE.cells.toArray) 15 underlying53 hi hz0 hz1 _ _ _ _ 0 rfl rfl (by simp) (by simp) (by omega) (by simp [maxLen]) qg ?_);intro w0 hown0 xy;have hB:qa w w0:=(qab _ _).grown xy qg (fun k h=>by cases h);have ho:w0.ownsRow w.heap.size 124 15 (.slice (some ⟨w.heap.size,0,none⟩) 0 0) 0 (ku (List.replicate 0 qE)):=by
   rw [← YK];exact hown0
  have HO:Hid (je w0 w.heap.size w0.heap.size (some ⟨w.heap.size,0,none⟩) 0 []):=VR 0 ho qg (ho.lt _ rfl).2;clear hown0 xy ho;go_wp2;refine qdp 1 ?_;rw [qdC];go_wp2;go_ret;exact ⟨_,_,[],rfl,rfl,HO.out,hB⟩
 ·have KZ:b<w.heap.size:=XF (hcell 0 hpos).1;go_enter func73,ntmps73;go_wp2_with (at_make;refine qe6 _ rfl _ _ 53 rfl w.heap.size 124 i0 (.agg qE.cells.toArray) 15 underlying53 hi hz0 hz1 _ _ _ _ rs.length rfl rfl rfl rfl (by rw [hz2];omega) (by simp [maxLen];omega) qg ?_);intro w0 hown0 xy;have hb0:qa w w0:=(qab _ _).grown xy qg (fun k h=>by cases h);have ho:w0.ownsRow w.heap.size 124 15 (.slice (some ⟨w.heap.size,0,none⟩) rs.length rs.length) rs.length (ku (List.replicate rs.length qE)):=by
   rw [← YK];exact hown0
  have HO:Hid (je w0 w.heap.size w0.heap.size (some ⟨w.heap.size,0,none⟩) rs.length (List.replicate rs.length qE)):=VR _ ho qg (ho.lt _ rfl).2;clear hown0 xy ho;go_wp2;go_loopw [4] (fun i wr=>∃ (k:Nat) (ts:List ql),k≤rs.length∧i=.int .i64 k∧Hid (Came rs ts k)∧Hid (je wr w.heap.size wr.heap.size (some ⟨w.heap.size,0,none⟩) rs.length (ts++List.replicate (rs.length-k) qE))∧qa w wr)
   (fun i _=>rs.length-(intOf i).toNat)
  case atStart=>exact ⟨0,[],qaw _,rfl,Wt rs,HO,hb0⟩
  case round=>
   obtain ⟨k,ts,hk,rfl,hc,hown,hnx⟩:=hrel;by_cases hlt:k<rs.length
   ·obtain ⟨c0,c1⟩:=hcell k hlt;have HR:Hid (wr.rangeAt b (off+k*15) (rs.getD k qE).cells):=yY c0 hnx KZ;have hrd:(rs.getD k qE).reads wr:=c1.below hnx;have hsh:(rs.getD k qE).short 1048576:=hs _ (vX rs k hlt);have C:=E5 (rs.getD k qE) wr hrd hsh;have HS:Hid (∀ q:ql,q.v=(rs.getD k qE).v→Came rs (ts++[q]) (k+1)):=fun q hq=>hc.out.snoc hlt hq
    have HP:Hid (ts++List.replicate (rs.length-k) qE=ts++qE::List.replicate (rs.length-(k+1)) qE∧(ts++qE::List.replicate (rs.length-(k+1)) qE).length=rs.length∧ts.length=k):=by
     have e:rs.length-k=(rs.length-(k+1))+1:=by omega
     refine ⟨by rw [e,qfl],?_,hc.out.1⟩;have:=hc.out.1;simp;omega
    clear c0 c1 hcell hb0 HO hs hrd hsh;generalize rs.getD k qE=z at*
    go_wp2_with (first | (guard_target=qp 19;refine qH 163 18 b (off+k*15) z.cells HR.out underlying163 HI.out ?_) | fail);refine C.mono ?_;clear C HR;rintro e w1 ⟨q,rfl,hq,hqo,hb1⟩;have hs1:=hb1.size;have ho1:=hown.out.below hb1;rw [HP.out.1] at ho1;obtain ⟨W2,hW2,ho2,ht2,hs2⟩:=ho1.fill q hqo qg (by have:=hnx.size;omega) qg;rw [HP.out.2.2] at hW2;have HT:Hid (w1.there w.heap.size (k*15) 15):=(NZ ho1.row rfl k (by rw [HP.out.2.1];exact hlt)).2;have hB2:qa w W2:=(qf hnx hb1).trans ((ht2.within (lo:=w.heap.size) (hi:=w.heap.size+1) (fun j hj=>by obtain rfl:=qac.1 hj;omega)).below qg (by have:=hnx.size;omega));have HH:Hid (je W2 w.heap.size W2.heap.size (some ⟨w.heap.size,0,none⟩) rs.length ((ts++[q])++List.replicate (rs.length-(k+1)) qE)):=by
     have:=ho2.widen qg (show max wr.heap.size w1.heap.size≤W2.heap.size by omega) qg;rw [qcJ,qdr];exact this
    have HB:Hid _:=hB2;have HC:=HS.out q hq.out;have Vo:=Jq q;clear ho1 ho2 ht2 hs2 hB2 hqo hb1 hnx hown hq HS hs1;go_wp2_with (first | (guard_target=ja 21;refine jb 124 21 20 w.heap.size (k*15) q.cells.toArray HT.out HJ.out Vo ?_) | fail);rw [hW2.out];go_roundw
    case rel=>exact ⟨k+1,ts++[q],by omega,by go_num,HC,HH,HB.out⟩
    case measure=>simp [intOf];omega
   ·have HE:Hid (ts.map ql.v=rs.map ql.v∧je wr w.heap.size wr.heap.size (some ⟨w.heap.size,0,none⟩) rs.length ts∧ts.length=rs.length):=by
     have e:k=rs.length:=by omega
     rw [e] at hown hc;rw [qfV,qgm,qcZ] at hown;exact ⟨hc.out.all,hown.out,hc.out.1⟩
    go_wp2;go_ret;exact ⟨some ⟨w.heap.size,0,none⟩,rs.length,ts,by rw [HE.out.2.2];rfl,HE.out.1,HE.out.2.1,hnx⟩
theorem qcn {ts:List ql} (h:ts.map ql.v=([]:List ql).map ql.v):ts=[]:=by simpa using h
theorem qaA (l:qI) (w:World) (hr:l.reads w) (hl:l.short 1048576):
  Calls prog 30 #[.agg l.cells.toArray] w fun e w'=>∃ t:qI,e=.returned (.agg t.cells.toArray)∧Hid (t.v=l.v)∧t.own w' w.heap.size w'.heap.size∧qa w w':=by
 obtain ⟨rs,s,a,c⟩:=l;obtain ⟨hl1,hl2⟩:=hl;simp only [qI.reads,qI.cells,qI.own] at*
 obtain ⟨W,hW,b0,b1,b2,hbW,qD⟩:=yK w [.slice a rs.length c,.int .i64 s] [.slice none 0 0,.int .i64 0] [.slice none 0 0,.int .i64 0] 36 55 55;have C:=Eg a c rs W (hr.below hbW) hl1 hl2;go_enter func30,ntmps30;go_wp2_with fail;rw [hW.out];clear hW;have hs0:w.heap.size+1+1<W.heap.size:=by omega
 clear qD;refine C.mono ?_;clear C;rintro e w1 ⟨a',c',ts,rfl,hv,ho1,hb1⟩;have hs1:=hb1.size;have b01:=b0.below hb1 b0.lt;have b11:=b1.below hb1 b1.lt;have wP:=b2.below hb1 b2.lt;have x1:=b01.cell 1 _ rfl;have y0:=wP.cell 0 _ rfl;have y1:=wP.cell 1 _ rfl;have f0:=wP.frozen 0;have f1:=wP.frozen 1;have z0:=b11.cell 0 _ rfl;have z1:=b11.cell 1 _ rfl;have g0:=b11.frozen 0;have g1:=b11.frozen 1;obtain ⟨W2,hW2,JG,hw2,hs2⟩:=jZ wP 0 (.slice a' ts.length c');obtain ⟨W3,hW3,vS,hw3,hs3⟩:=jZ JG 1 (.int .i64 s);have b13:=(b11.within hw2 (by omega)).within hw3 (by omega);obtain ⟨W4,wL,b14,hw4,hs4⟩:=jZ b13 0 (.slice a' ts.length c');obtain ⟨W5,zS,b15,Ya,hs5⟩:=jZ b14 1 (.int .i64 s);simp only [List.set] at b15;have q0:=b15.cell 0 _ rfl;have q1:=b15.cell 1 _ rfl;have Ut:qa w W5:=((((hbW.trans (hb1.mono (by omega))).trans (hw2.below (by omega) (by omega))).trans (hw3.below (by omega) (by omega))).trans (hw4.below (by omega) (by omega))).trans (Ya.below (by omega) (by omega));have GJ:=((((ho1.within hw2 (.inr (by omega))).within hw3 (.inr (by omega))).within hw4 (.inr (by omega))).within Ya (.inr (by omega))).widen (show w.heap.size≤W.heap.size by omega) (show w1.heap.size≤W5.heap.size by omega) qg;have HH:Hid (_∧_∧_):=⟨GJ,Ut,hv.out⟩;clear GJ Ut hv ho1 hb1 hw2 hw3 hw4 Ya hs2 hs3 hs4 hs5 b01 b11 wP JG vS b13 b14 b15 b0 b1 b2 hbW;have av:Hid (((((w1.setCell ⟨w.heap.size+1+1,0,none⟩ (.slice a' ts.length c')).setCell ⟨w.heap.size+1+1,1,none⟩ (.int .i64 s)).setCell ⟨w.heap.size+1,0,none⟩ (.slice a' ts.length c')).setCell ⟨w.heap.size+1,1,none⟩ (.int .i64 s))=W5):=by rw [Hid,hW2.out,hW3.out,wL.out,zS.out]
 clear hW2 hW3 wL zS;go_wp2;rw [av.out];exact qa3 (v:=.agg #[.slice a' ts.length c',.int .i64 s]) (by simp [results,results30,go_sem,q0,q1]) rfl ⟨⟨ts,s,a',c'⟩,rfl,by simp only [Hid,qI.v];rw [HH.out.2.2],HH.out.1,HH.out.2.1⟩
theorem SV (a b:Option Addr) (ca cb:Nat) (rs ts:List ql) (he:ts.map ql.v=rs.map ql.v) (w:World) (ha:yl w a rs) (hb:yl w b ts) (hl:rs.length≤1099511627776) (hs:∀ r∈rs,r.short 1099511627776):
  Calls prog 92 #[.slice a rs.length ca,.slice b ts.length cb] w fun e w'=>e=.returned (.bool true)∧qa w w':=by
 rcases ha.cases with rfl | ⟨b1,o1,rfl,hpos,hc1⟩
 ·obtain rfl:=qcn he;go_enter func92,ntmps92;go_wp2;refine qdp 1 ?_;rw [qdC];go_wp2;go_ret;exact ⟨rfl,qab _ _⟩
 ·have hlen:=YT he;rcases hb.cases with rfl | ⟨b2,o2,rfl,_,hc2⟩
  ·simp at hlen;omega
  ·have HV:Hid (∀ k,k<rs.length→(ts.getD k qE).v=(rs.getD k qE).v):=fun k hk=>eO he k hk
   have HS:Hid (∀ k,k<rs.length→(rs.getD k qE).short 1099511627776):=fun k hk=>hs _ (vX rs k hk)
   have HI:Hid ((prog.info? 124).map (·.size)=some 15):=by rw [Hid];kernel_rfl
   have hu:=underlying124;rw [hlen] at hc2 ⊢;clear he hs hlen;go_enter func92,ntmps92;go_wp2;go_loopw [5] (fun i wr=>∃ k:Nat,k≤rs.length∧i=.int .i64 k∧qa w wr) (fun i _=>rs.length-(intOf i).toNat)
   case atStart=>exact ⟨0,qaw _,rfl,qab _ _⟩
   case round=>
    obtain ⟨k,hk,rfl,hbl⟩:=hrel;by_cases hlt:k<rs.length
    ·obtain ⟨h1,r1⟩:=hc1 k hlt;obtain ⟨h2,r2⟩:=hc2 k hlt;have hv:=HV.out k hlt;have hsh:=HS.out k hlt;clear hc1 hc2;generalize rs.getD k qE=z at*
     generalize ts.getD k qE=y at*
     have HR:Hid (∀ w1,qa w w1→w1.rangeAt b1 (o1+k*15) z.cells∧w1.rangeAt b2 (o2+k*15) y.cells):=fun w1 hh=>⟨JJ h1 hh,JJ h2 hh⟩
     have HD:Hid (∀ w1,qa w w1→z.reads w1∧y.reads w1):=fun w1 hh=>⟨r1.below hh,r2.below hh⟩
     clear h1 h2 r1 r2;go_wp2_with fail;refine qaZ (S:=fun w'=>w'.rangeAt b1 (o1+k*15) z.cells∧w'.rangeAt b2 (o2+k*15) y.cells) (by kernel_rfl) ?_ (fun qc=>?_)
     ·exact HR.out _ hbl.drew
     iterate 3 refine jv ?_
     refine xB 3 z.cells (fun _ h=>h.1) underlying124 HI.out ?_
     iterate 3 refine jv ?_
     refine xB 7 y.cells (fun _ h=>h.2) underlying124 HI.out ?_;refine jc 8 (fun K hK=>?_);go_simp;refine (lF z y hv _ (HD.out _ hbl.drew).1 (HD.out _ hbl.drew).2 hsh).mono ?_;rintro e w2 ⟨rfl,hb2⟩;have hw2:qa w w2:=(hbl.drew).trans (hb2.mono hbl.size);refine qX hK (HR.out _ hw2) fun qc=>?_
     clear hK K;try simp only [zz]
     refine jg 9 ?_;refine qau (by kernel_rfl) ?_ _;go_wp2_with fail;go_roundw
     case rel=>exact ⟨k+1,by omega,by go_num,hw2⟩
     case measure=>simp [intOf];omega
    ·go_wp2;go_ret;exact ⟨rfl,hbl⟩
theorem oL (l t:qI) (he:t.v=l.v) (w:World) (hr:l.reads w) (ht:t.reads w) (hl:l.short 1099511627776):
  Calls prog 43 #[.agg l.cells.toArray,.agg t.cells.toArray] w fun e w'=>e=.returned (.bool true)∧qa w w':=by
 obtain ⟨rs,s,a,c⟩:=l;obtain ⟨ts,s',a',c'⟩:=t;obtain ⟨hl1,hl2⟩:=hl;simp only [qI.v,Xd.mk.injEq] at he;obtain ⟨he,rfl⟩:=he;simp only [qI.reads,qI.cells] at*
 obtain ⟨W,hW,b0,b1,hbW,qD⟩:=jK w [.slice a rs.length c,.int .i64 s'] [.slice a' ts.length c',.int .i64 s'] 55 55;have C:=SV a a' c c' rs ts he W (hr.below hbW) (ht.below hbW) hl1 hl2;clear qD he hl1 hl2 hr ht;go_enter func43,ntmps43;go_wp2_with fail;rw [hW.out];clear hW;refine C.mono ?_;clear C;rintro e w1 ⟨rfl,hb1⟩;have x1:=(b0.below hb1 b0.lt).cell 1 _ rfl;have y1:=(b1.below hb1 b1.lt).cell 1 _ rfl;clear b0 b1;go_wp2;go_ret;exact ⟨rfl,qf hbW hb1⟩
theorem Eh (a:Option Addr) (cap:Nat) (rs:List ql) (left:Int) (w:World) (hr:yl w a rs) (hn:rs.length≤9223372036854775807) (hs:∀ r∈rs,r.short 9223372036854775807) (hl:0≤left∧left≤1048576):
  Calls prog 60 #[.slice a rs.length cap,.int .i64 left] w fun e w'=>∃ z:Int,e=.returned (.int .i64 z)∧(z<0∨(0≤z∧z≤left∧rs.length≤1048576∧∀ r∈rs,r.short 1048576))∧qa w w':=by
 have HI:Hid ((prog.info? 163).map (·.size)=some 15):=by rw [Hid];kernel_rfl
 by_cases hle:left-rs.length<0
 ·go_enter func60,ntmps60;go_wp2;go_ret;exact ⟨-1,rfl,.inl (by omega),qab _ _⟩
 have HS:Hid (∀ k,k<rs.length→(rs.getD k qE).short 9223372036854775807):=fun k hk=>hs _ (vX rs k hk)
 have hlen:rs.length≤1048576:=by omega
 have HC:Hid (∀ k,k<rs.length→∃ b off,a=some ⟨b,off,none⟩∧w.rangeAt b (off+k*15) (rs.getD k qE).cells):=fun k hk=>by
  obtain ⟨b,off,ha,hc⟩:=hr (by intro e;rw [e] at hk;simp at hk);exact ⟨b,off,ha,(hc k hk).1⟩
 have HA:Hid ((∀ k,k<rs.length→(rs.getD k qE).short 1048576)→∀ r∈rs,r.short 1048576):=by
  intro h r hr;obtain ⟨k,hk,rfl⟩:=qfa hr;have:=h k hk
  simpa [List.getD,hk] using this
 clear hr hs;go_enter func60,ntmps60;go_wp2;go_loopw [1,5] (fun v i wr=>∃ (k:Nat) (z:Int),k≤rs.length∧i=.int .i64 k∧v=.int .i64 z∧0≤z∧z≤left∧Hid (∀ j,j<k→(rs.getD j qE).short 1048576)∧qa w wr) (fun _ i _=>rs.length-(intOf i).toNat)
 case atStart=>exact ⟨0,left-rs.length,qaw _,rfl,by go_num,by omega,by omega,fun j hj=>by omega,qab _ _⟩
 case round=>
  obtain ⟨k,z,hk,rfl,rfl,hz0,hz1,hsh,hbl⟩:=hrel;by_cases hlt:k<rs.length
  ·obtain ⟨b,off,rfl,hcell⟩:=HC.out k hlt;have HR:Hid (wr.rangeAt b (off+k*15) (rs.getD k qE).cells):=JJ hcell hbl;have C:=Lu (rs.getD k qE) z wr (HS.out k hlt) (by omega);clear hcell HC;have HN:Hid ((rs.getD k qE).short 1048576→∀ j,j<k+1→(rs.getD j qE).short 1048576):=fun h j hj=>by
    by_cases e:j=k
    ·rw [e];exact h
    ·exact hsh.out j (by omega)
   generalize rs.getD k qE=y at*
   go_wp2_with (first | (guard_target=qp 21;refine qH 163 20 b (off+k*15) y.cells HR.out underlying163 HI.out ?_) | fail);refine C.mono ?_;clear C HR;rintro e w1 ⟨z1,rfl,hz,hb1⟩;have hB1:=qf hbl hb1;rcases hz with hneg | ⟨g0,g1,g2⟩
   ·go_wp2;go_ret;exact ⟨-1,rfl,.inl (by omega),hB1⟩
   ·have hzn:¬ z1<0:=by omega
    have HH:=HN.out g2;go_wp2;go_roundw
    case rel=>exact ⟨k+1,z1,by omega,by go_num,rfl,g0,by omega,HH,hB1⟩
    case measure=>simp [intOf];omega
  ·have HE:Hid (∀ r∈rs,r.short 1048576):=HA.out (fun j hj=>hsh.out j (by omega));go_wp2;go_ret;exact ⟨z,rfl,.inr ⟨hz0,hz1,hlen,HE.out⟩,hbl⟩
theorem qaB (l:qI) (left:Int) (w:World) (hr:l.reads w) (hs:l.short 9223372036854775807) (hl:0≤left∧left≤1048576):
  Calls prog 17 #[.agg l.cells.toArray,.int .i64 left] w fun e w'=>∃ z:Int,e=.returned (.int .i64 z)∧(z<0∨(0≤z∧z≤left∧l.short 1048576))∧qa w w':=by
 obtain ⟨rs,s,a,c⟩:=l;obtain ⟨hl1,hl2⟩:=hs;simp only [qI.reads,qI.cells] at*
 obtain ⟨W,hW,b0,hbW,qD⟩:=qB w [.slice a rs.length c,.int .i64 s] 36;have C:=Eh a c rs left W (hr.below hbW) hl1 hl2 hl;clear qD hr hl1 hl2;go_enter func17,ntmps17;go_wp2_with fail;rw [hW.out];clear hW;refine C.mono ?_;clear C;rintro e w1 ⟨z,rfl,hz,hb1⟩;have hB:=qf hbW hb1;rcases hz with hneg | ⟨h0,h1,h2,h3⟩
 ·go_wp2;go_ret;exact ⟨-1,rfl,.inl (by omega),hB⟩
 ·have hzn:¬ z<0:=by omega
  go_wp2;go_ret;exact ⟨z,rfl,.inr ⟨h0,h1,h2,h3⟩,hB⟩
def Z7 (x:Int × Int):List Value:=[.int .i64 x.1,.int .i64 x.2]
def ZE (h:qU):Int × Int:=(h.tx,h.oid)
def Xv (x:Int × Int):qU:=⟨x.1,x.2⟩
theorem Ei (hs:List qU):(hs.map ZE).map Xv=hs:=by rw [List.map_map];exact List.map_id'' (fun _=>rfl) hs
def Y0 (ms:List jl) (x:Int × Int):Int:=(kg x.2 ms).place
def cfH (ms:List jl) (x y:Int × Int):Int:=Y0 ms x-Y0 ms y
theorem ltH (ms:List jl) (x y:Int × Int):ltOf (cfH ms) x y=decide (Y0 ms x<Y0 ms y):=by
 unfold ltOf cfH;by_cases h:Y0 ms x<Y0 ms y
 ·rw [qaC h,qaC (by omega)]
 ·rw [qa0 h,qa0 (by omega)]
theorem qmt (ms:List jl):Go.Sort.SWO (ltOf (cfH ms)):=
 ⟨fun x=>by rw [ltH];simp,fun x y z h1 h2=>by rw [ltH] at *;simp at *;omega,fun x y z h1 h2=>by rw [ltH] at *;simp at *;omega⟩
theorem dm (hs:List qU):Go.Sort.flatK Z7 2 (hs.map ZE).toArray=(jU hs).toArray:=by
 apply Array.ext_getElem?
 intro j;by_cases hj:j<hs.length*2
 ·have hat:=Kc hs (j / 2) (j % 2) (by omega) (qfc _ (by omega));rw [show j / 2*2+j % 2=j by omega] at hat;have hr:(jU hs).toArray[j]? =(hs.getD (j / 2) jy).cells[j % 2]? :=by rw [← hat];simp
  have hs1:j<(Go.Sort.flatK Z7 2 (hs.map ZE).toArray).size:=by simpa using hj
  rw [hr,Array.getElem?_eq_getElem hs1,← getElem!_pos _ j hs1,Go.Sort.get_flatK _ _ _ _ (by simpa using hj)];have h2:j / 2<hs.length:=by omega
  have e1:(hs.map ZE).toArray[j / 2]! =ZE (hs.getD (j / 2) jy):=by simp [h2,List.getD]
  rw [e1];rcases (by omega:j % 2=0∨j % 2=1) with h | h<;>rw [h]<;>rfl
 ·rw [qeO (by simp;omega),qeO (by simp [uk];omega)]
theorem Xw {w:World} {g n:Nat} {os:Array Obj} (d:Array (Int × Int)) (k:Nat) (hk:k<w.heap.size) (hne:k≠g):(sortWorldK Z7 2 w g 0 n d os).heap[k]? =w.heap[k]? :=by
 unfold sortWorldK Go.Sort.putRowK;rw [Go.Sort.heap_grow_old _ _ (by simpa using hk)];have:g≠k:=fun e=>hne e.symm
 simp [Go.Sort.putRow,Go.Sort.mapBlock,Go.Sort.ahead,Array.getElem?_modify,this]
theorem qaD {w:World} {g n:Nat} {os:Array Obj} {cur:Array Value} {e:TypeId} {fr:Nat × Nat} (d:Array (Int × Int)) (hb:w.heap[g]? =some (.cells cur e fr)):
  (sortWorldK Z7 2 w g 0 n d os).heap[g]? =some (.cells (Go.Sort.putCells id 0 (Go.Sort.flatK Z7 2 d) cur) e fr):=by
 unfold sortWorldK Go.Sort.putRowK;have hg:g<w.heap.size:=(qc0.1 hb).1;rw [Go.Sort.heap_grow_old _ _ (by simpa using hg)];simp [Go.Sort.putRow,Go.Sort.mapBlock,Go.Sort.ahead,Array.getElem?_modify,hb,Go.Sort.onCells]
theorem SX {w:World} {g n:Nat} {os:Array Obj} (d:Array (Int × Int)):w.grownBy (sortWorldK Z7 2 w g 0 n d os) (some g):=
 ⟨rfl,rfl,rfl,by unfold sortWorldK Go.Sort.putRowK;simp,fun k hk hne=>Xw d k hk (fun e=>hne (by rw [e]))⟩
theorem qco (cur F:Array Value) (h:F.size≤cur.size):(Go.Sort.putCells id 0 F cur).toList.take F.size=F.toList:=by
 apply qgc;intro j;by_cases hj:j<F.size
 ·rw [List.getElem?_take_of_lt hj,Array.getElem?_toList];simp [Go.Sort.putCells,hj,show j<cur.size by omega]
 ·rw [List.getElem?_take_eq_none (by omega),qeE (by simp;omega)]
theorem qaE (w:World):(isAgg 117).run prog w=.ok true w:=by kernel_rfl
theorem Ej (w:World):(Go.sizeOf 117).run prog w=.ok 2 w:=by kernel_rfl
theorem EU (PB R M g cap lo:Nat) (ms:List jl) (hs:List qU) (w:World) (hp:w.cell? ⟨PB,0,none⟩=some (.pointer (some ⟨R,0,none⟩))) (hr:w.cell? ⟨R,144,none⟩=some (.map (some M))) (hm:MapAt w M ms) (h1:PB≠g) (h2:R≠g) (h3:M≠g)
  (hb:∀ k,0≤(kg k ms).place∧(kg k ms).place≤1099511627776) (own:OwnH w lo w.heap.size (some ⟨g,0,none⟩) cap hs) (hl:hs.length≤1099511627776):
  Calls prog 137 #[.slice (some ⟨g,0,none⟩) hs.length cap,.func (.func 138) #[] #[.pointer (some ⟨PB,0,none⟩)]] w fun r w'=>r=.returned (.tuple #[])∧∃ ts:List qU,Hid (ts.Perm hs∧ts.Pairwise (fun a b=>¬ (kg b.oid ms).place<(kg a.oid ms).place))∧OwnH w' lo w'.heap.size (some ⟨g,0,none⟩) cap ts∧w.grownBy w' (some g):=by
 rcases own.1.2 with ⟨hv,_⟩ | ⟨g',cap',cur,hv,hbase,hgt,hn,hcm,hcs,htk⟩
 ·cases hv
 cases hv;have hg:g<w.heap.size:=(qc0.1 hgt).1;obtain ⟨d,hd⟩:∃ d:Array (Int × Int),(hs.map ZE).toArray=d:=⟨_,rfl⟩;have hds:d.size=hs.length:=by rw [← hd];simp
 have hH:Go.Sort.HoldsK Z7 2 w g 0 d:=by
  rw [← hd];intro j hj;rw [dm] at hj ⊢;have hj':j<(jU hs).length:=by simpa using hj
  have e1:(jU hs).toArray[j]! =(jU hs)[j]:=by rw [getElem!_pos _ j (by simpa using hj')];simp
  rw [e1,qeK];refine ⟨?_,own.1.frozenAt j⟩;rw [own.1.cellAt j (by rw [uk] at hj';exact hj'),qcG hj'];rfl
 have hcmp:CmpLays prog 138 #[.pointer (some ⟨PB,0,none⟩)] Z7 2 (cfH ms) g 0 d.size w:=fun m os dk _ x y=>by
  have bP:=Xw (n:=m) (os:=os) dk PB (World.block_lt_of_cell? w _ hp) h1;have bR:=Xw (n:=m) (os:=os) dk R (World.block_lt_of_cell? w _ hr) h2;have bM:=Xw (n:=m) (os:=os) dk M hm.lt h3;refine Si x y PB R M ms _ ?_ ?_ ?_ hb
  ·rw [World.cell?_of_block (a:=⟨PB,0,none⟩) bP];exact hp
  ·rw [World.cell?_of_block (a:=⟨R,144,none⟩) bR];exact hr
  ·obtain ⟨es,clock,q1,q2⟩:=hm;exact ⟨es,clock,by rw [bM];exact q1,q2⟩
 have eg:∀ args w,(callFunc 138 args).run prog w=.ok (.enter 138 args) w:=enters_of func138 (by kernel_rfl) rfl;have hcon:=AnyQ.slices_SortFunc Tryz.sortHold 2 qaE Ej Z7 (fun _=>rfl) (fun x v hv=>by simp [Z7] at hv;rcases hv with rfl | rfl<;>rfl) (cfH ms) (qmt ms) 138 #[.pointer (some ⟨PB,0,none⟩)] g 0 cap d w eg hcmp hH hg (by omega)
 change Calls prog 137 _ _ _ at hcon
 rw [hds] at hcon;refine hcon.mono ?_;rintro r w' ⟨rfl,d',n,os,⟨p1,_,p3⟩,hso,rfl⟩;refine ⟨rfl,d'.toList.map Xv,⟨?_,?_⟩,?_,SX d'⟩
 ·have e1:d'.extract 0 hs.length=d':=by rw [← hds,← p1];simp
  have e2:d.extract 0 hs.length=d:=by rw [← hds];simp
  rw [e1,e2] at p3;have:=p3.map Xv
  rwa [← hd,List.toList_toArray,Ei] at this
 ·rw [List.pairwise_map,qfY];intro i j hi hj hij;have hj':j<hs.length:=by rw [← hds,← p1];simpa using hj
  have:=hso i j (qaw _) hij hj';rw [ltH] at this;have hi':i<d'.size:=by simpa using hi
  have hj2:j<d'.size:=by simpa using hj
  simp only [Y0,getElem!_pos d' i hi',getElem!_pos d' j hj2,decide_eq_false_iff_not] at this
  simpa [Xv] using this
 ·have hdd:((d'.toList.map Xv).map ZE).toArray=d':=by
   rw [List.map_map,List.map_id'' (f:=ZE ∘ Xv) (fun _=>rfl)]
  have hlen:(d'.toList.map Xv).length=hs.length:=by rw [qa4,Array.length_toList,p1,hds]
  have hf:=dm (d'.toList.map Xv);rw [hdd] at hf;have hrow:=qaD (n:=n) (os:=os) d' hgt;rw [hf] at hrow;have hcl:(jU (d'.toList.map Xv)).toArray.size=hs.length*2:=by simp [uk,p1,hds]
  refine ⟨⟨uk _,.inr ⟨g,cap,_,by rw [hlen],hbase,hrow,by rw [hlen];exact hn,hcm,by simp [Go.Sort.putCells,hcs],?_⟩⟩,qcN _,fun k hk=>?_⟩
  ·have:=qco cur (jU (d'.toList.map Xv)).toArray (by rw [hcl,hcs];exact Nat.mul_le_mul_right _ hn);rw [hcl] at this;rw [hlen,this]
  ·cases hk;unfold sortWorldK Go.Sort.putRowK;simp;omega
theorem eY (fv:Value) (w:World):Calls prog 137 #[.slice none 0 0,fv] w fun r w'=>r=.returned (.tuple #[])∧w'=w:=by
 have h:=AnyF.slices_SortFunc_none Tryz.sortHold none 0 fv w
 change Calls prog 137 _ _ _ at h
 exact h
end Go.Proofs.YtnfdccldabbobaaGreatDoor
