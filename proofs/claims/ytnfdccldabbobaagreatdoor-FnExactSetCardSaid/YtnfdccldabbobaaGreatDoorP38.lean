/- Texts. -/
import Derived.Test.YtnfdccldabbobaaGreatDoorP36
import Derived.Test.YtnfdccldabbobaaGreatDoorP32
set_option maxHeartbeats 8000000
set_option maxRecDepth 100000
namespace Go.Proofs.YtnfdccldabbobaaGreatDoor
open Go.RowKit Go.Proofs.Tryz
theorem qey (a b c:q9) (h:Nat) (hh:h<3):(qW 4 [a,b,c] h).2.2<3∧(qW 4 [a,b,c] h).2.1=((qW 4 [a,b,c] h).2.2+1) % 3∧(qW 4 [a,b,c] h).1.map (·.no)=[a.no,b.no,c.no]∧(qW 4 [a,b,c] h).1.map (fun s=>yM s)=[yM a,yM b,yM c]∧(qW 4 [a,b,c] h).1.length=3∧
  ((a.hot=true∧b.hot=true∧c.hot=true)∨(([a,b,c]:List q9).getD (qW 4 [a,b,c] h).2.2 qy).hot=false):=by
 obtain ⟨an,al,az,ad,ah⟩:=a;obtain ⟨bn,bl,bs,bd,bh⟩:=b;obtain ⟨cn,cl,cs,cd,ch⟩:=c
 match h,hh with
 | 0,_=>cases ah<;>cases bh<;>cases ch<;>simp [qW,Xn,yM]
 | 1,_=>cases ah<;>cases bh<;>cases ch<;>simp [qW,Xn,yM]
 | 2,_=>cases ah<;>cases bh<;>cases ch<;>simp [qW,Xn,yM]
theorem qaO {ss:List q9} (h:ss.length=3):∃ a b c,ss=[a,b,c]:=by
 match ss,h with
 | [a,b,c],_=>exact ⟨a,b,c,rfl⟩
theorem Pv {x l h:Int}:inB x l h=true ↔ l≤x∧x≤h:=by simp [inB]
theorem JM {ss:List q9} {i:Nat} (hi:i<ss.length) (h:yH ss i=true):yM (ss.getD i qy)=true∧∀ k,k<i→(ss.getD k qy).no≠(ss.getD i qy).no:=by
 simp only [yH,qam,qcB] at h;refine ⟨h.1,fun k hk e=>?_⟩;have:=Dx hk hi e;rw [yH,h.1,qaC h.2] at this;cases this
theorem qh9 {ss:List q9} {l:List Int} (h:ss.map (·.no)=l) (k:Nat) (hk:k<ss.length):(ss.getD k qy).no=l.getD k 0:=by
 rw [← h];simp [List.getD,hk]
theorem rO {p:jM} {no lsn:Int} {ss:List qO} {n:jM} {old:q9} (h:zb p no lsn ss=(n,old,true)):
  okPool p=true∧p.seats.length=3∧∃ (k:Nat) (v:jM),k<3∧wB p=(v,(k:Int))∧qG n.seats no=k∧n.seats.getD k qy=⟨no,lsn,ss,false,true⟩∧qG n.seats old.no= -1∧okPool n=true∧n.seats.length=3∧(p.seats.getD k qy).no=old.no∧v.hand=(((k+1) % 3:Nat):Int)∧((∀ j,j<3→(p.seats.getD j qy).hot=true)∨(p.seats.getD k qy).hot=false):=by
 have hm:xC p no lsn ss=true:=by
  cases hm:xC p no lsn ss with
  | true=>rfl
  | false=>rw [zb,qa2 (by rw [hm];decide)] at h;cases h
 rw [zb,qan hm] at h;simp only [xC,qam,qcB] at hm;obtain ⟨hp,hno,hok,hse⟩:=hm;obtain ⟨hl,qia,hfr⟩:=uj hp;have h3:p.seats.length=3:=by
  rw [kY] at h;split at h
  ·simp at h
  ·omega
 obtain ⟨a,b,c,Ev⟩:=qaO h3;have hh:p.hand.toNat<3:=by rw [Pv] at qia;omega
 obtain ⟨v1,v2,v3,v4,v5,v6⟩:=qey a b c p.hand.toNat hh;rw [← Ev] at v1 v2 v3 v4 v5 v6;obtain ⟨us,k,hd,hv⟩:∃ us k hd,qW 4 p.seats p.hand.toNat=(us,hd,k):=⟨_,_,_,rfl⟩;rw [kY,qa2 (by omega),hv] at h;rw [hv] at v1 v2 v3 v4 v5 v6;simp only at h v1 v2 v3 v4 v5 v6;have hn:n=⟨us.set k ⟨no,lsn,ss,false,true⟩,hd⟩:=(Prod.mk.inj h).1.symm;have hold:old=us.getD k qy:=(Prod.mk.inj (Prod.mk.inj h).2).1.symm;have hpn:∀ j,j<3→(us.getD j qy).no=(p.seats.getD j qy).no:=fun j hj=>by
  rw [qh9 v3 j (by omega),Ev]
  match j,hj with
  | 0,_=>rfl
  | 1,_=>rfl
  | 2,_=>rfl
 have hpb:∀ j,j<3→yM (us.getD j qy)=yM (p.seats.getD j qy):=fun j hj=>by
  have e:=qcz (fun l=>l[j]?) v4;simp only [qdy] at e;rw [qcG (by omega)] at e;rw [Ev];simp only [List.getD,qcG (show j<us.length by omega),qe7]
  match j,hj,e with
  | 0,_,e=>simpa using e
  | 1,_,e=>simpa using e
  | 2,_,e=>simpa using e
 have hnot:∀ j,j<3→(p.seats.getD j qy).no≠no:=fun j hj e=>by
  rcases Qp p.seats no with ⟨i,_,_,_,h4⟩ | ⟨h1,_⟩
  ·omega
  ·exact h1 j (by omega) e
 have qdz:∀ i j,i<3→j<3→(p.seats.getD i qy).no=(p.seats.getD j qy).no→i=j:=fun i j hi hj e=>by
  rcases Nat.lt_trichotomy i j with h | h | h
  ·exact absurd e ((JM (by omega) (hfr j (by omega))).2 i h)
  ·exact h
  ·exact absurd e.symm ((JM (by omega) (hfr i (by omega))).2 j h)
 have hget:∀ j,(us.set k ⟨no,lsn,ss,false,true⟩).getD j qy=if j=k then ⟨no,lsn,ss,false,true⟩ else us.getD j qy:=fun j=>Zx us k j _ (by omega)
 have hnl:n.seats.length=3:=by rw [hn];simp [v5]
 have hgn:∀ j,n.seats.getD j qy=if j=k then ⟨no,lsn,ss,false,true⟩ else us.getD j qy:=fun j=>by rw [hn];exact hget j
 have hnd:∀ i j,i<3→j<3→(n.seats.getD i qy).no=(n.seats.getD j qy).no→i=j:=fun i j hi hj e=>by
  rw [hgn i,hgn j] at e;by_cases h1:i=k<;>by_cases h2:j=k
  ·omega
  ·rw [qan h1,qa2 h2,hpn j hj] at e;exact absurd e.symm (hnot j hj)
  ·rw [qa2 h1,qan h2,hpn i hi] at e;exact absurd e (hnot i hi)
  ·rw [qa2 h1,qa2 h2,hpn i hi,hpn j hj] at e;exact qdz i j hi hj e
 refine ⟨hp,h3,k,⟨us,hd⟩,v1,?_,?_,?_,?_,?_,hnl,?_,?_,?_⟩
 ·rw [wB,qan ⟨hp,h3⟩,hv]
 ·refine Zu (by omega) (by rw [hgn,qan rfl]) (fun j hj e=>?_);rw [hgn,qa2 (by omega),hpn j (by omega)] at e;exact hnot j (by omega) e
 ·rw [hgn,qan rfl]
 ·refine pF (fun j hj e=>?_);rw [hnl] at hj;rw [hold,hpn k v1] at e;rw [hgn] at e;by_cases h1:j=k
  ·rw [qan h1] at e;exact hnot k v1 e.symm
  ·rw [qa2 h1,hpn j hj] at e;exact h1 (qdz j k hj v1 e)
 ·refine KC (by omega) (by rw [hn];rw [Pv];simp only;omega) (fun j hj=>?_);rw [hnl] at hj;refine Zv (by omega) ?_ (fun i hi e=>?_)
  ·rw [hgn];by_cases h1:j=k
   ·rw [qan h1];simp [yM,hno,hok]
   ·rw [qa2 h1,hpb j hj];exact (JM (by omega) (hfr j (by omega))).1
  ·have:=hnd i j (by omega) hj e;omega
 ·rw [hold,hpn k v1]
 ·show ((hd:Nat):Int)=_;rw [v2]
 ·rcases v6 with ⟨h1,h2,h3⟩ | h1
  ·refine .inl (fun j hj=>?_);rw [Ev]
   match j,hj with
   | 0,_=>exact h1
   | 1,_=>exact h2
   | 2,_=>exact h3
  ·exact .inr h1
theorem PK (o:Int) (hs:List qU):((∀ h∈hs,h.oid≠o)∧jo o hs=0)∨∃ h∈hs,h.oid=o∧jo o hs=h.tx:=by
 induction hs with
 | nil=>exact .inl ⟨fun _ h=>by simp at h,rfl⟩
 | cons l r ih=>
  by_cases q:l.oid=o
  ·exact .inr ⟨l,qfd,q,by rw [jo,qan q]⟩
  ·rw [jo,qa2 q];rcases ih with ⟨h1,h2⟩ | ⟨h,h1,h2,h3⟩
   ·exact .inl ⟨fun h hh=>(qcv.1 hh).elim (fun e=>by rw [e];exact q) (fun e=>h1 h e),h2⟩
   ·exact .inr ⟨h,qcO _ h1,h2,h3⟩
theorem XU (tx:Int) (ls:List qM):∀ (i k:Nat),k<ls.length→xW tx ls i=((i+k:Nat):Int)→(ls.getD k qz).tx=tx:=by
 induction ls with
 | nil=>intro i k hk;simp at hk
 | cons l r ih=>
  intro i k hk h;by_cases q:l.tx=tx
  ·rw [xW,qan q] at h;obtain rfl:k=0:=by omega
   exact q
  ·rw [xW,qa2 q] at h;cases k with
   | zero=>
    rcases pY tx r (i+1) with h1 | ⟨j,h1,_⟩
    ·rw [h1] at h;omega
    ·rw [h1] at h;omega
   | succ k=>
    have:=ih (i+1) k (by simpa using hk) (by rw [h];congr 1;omega)
    simpa using this
theorem F8 {e:qR} (h:jF e=true):∀ x∈e.holds,1≤x.tx:=fun x hx=>by
 have hall:=h;unfold jF zQ at hall;simp only [qam] at hall;obtain ⟨i,hi,rfl⟩:=qfa hx;have h1:=Xx hall.2.2.2.1.2.1 i hi;unfold zY at h1;simp only [qam,qcB] at h1;have e1:e.holds.getD i jy=e.holds[i]:=by simp [List.getD,hi]
 rw [e1] at h1;rcases KL e.txs e.holds[i].tx with q | ⟨j,q,hj⟩
 ·have:=h1.2.1;omega
 ·have ht:(e.txs.getD j qz).tx=e.holds[i].tx:=XU e.holds[i].tx e.txs 0 j hj (by rw [qeK];exact q);have hm:e.txs.getD j qz∈e.txs:=by
   have:e.txs.getD j qz=e.txs[j]:=by simp [List.getD,hj]
   rw [this];exact qdw hj
  have:=(GZ h _ hm).1;omega
theorem Fq {e:qR} (h:jF e=true) {o:Nat} (h1:1≤o) (h32:o<32):
  ((xV o (jf e.holds e.holds.length)).isSome=false∧jo o e.holds=0∧∀ x∈e.holds,x.oid≠o)∨((xV o (jf e.holds e.holds.length)).isSome=true∧jo o e.holds=(kg o (jf e.holds e.holds.length)).tx∧1≤jo o e.holds):=by
 have hc:=ZM h;rcases PK o e.holds with ⟨q1,q2⟩ | ⟨x,hx,hxo,hxt⟩
 ·refine .inl ⟨?_,q2,q1⟩;cases hg:xV o (jf e.holds e.holds.length) with
  | none=>rfl
  | some c=>
   have:=hc.only o c (by omega) (by omega) hg;exact absurd rfl (q1 _ this)
 ·obtain ⟨c,hg,ht⟩:=hc.got x hx;rw [hxo] at hg;refine .inr ⟨by rw [hg];rfl,?_,by rw [hxt];exact F8 h x hx⟩;rw [hxt,kg,hg];exact ht.symm
theorem mh {c:jl} {ms:List jl} {k:Int} (h:k≠c.key):kg k (vZ c ms)=kg k ms:=by
 unfold kg;rw [uD,qa2 h]
theorem ve.put {ms:List jl} {hs:List qU} (h:ve ms hs) {tx:Int} {o:Nat} {m:Int} (h1:1≤o) (h32:o<32) (hn:∀ x∈hs,x.oid≠o) (hm:∀ k,(kg k ms).place<m∨xV k ms=none):ve (vZ ⟨o,tx,m⟩ ms) (hs++[⟨tx,o⟩]):=by
 refine ⟨fun x hx=>?_,fun k c k1 k2 hk=>?_,fun x hx=>?_,?_⟩
 ·rcases qaa.1 hx with q | q
  ·obtain ⟨c,g1,g2⟩:=h.got x q;exact ⟨c,by rw [uD,qa2 (hn x q)];exact g1,g2⟩
  ·rw [qac.1 q];exact ⟨⟨o,tx,m⟩,by rw [uD,qan rfl],rfl⟩
 ·rw [uD] at hk;by_cases q:k=(o:Int)
  ·rw [qan q] at hk;cases hk;rw [q];exact qaa.2 (.inr (qac.2 rfl))
  ·rw [qa2 q] at hk;exact qaa.2 (.inl (h.only k c k1 k2 hk))
 ·rcases qaa.1 hx with q | q
  ·exact h.oids x q
  ·rw [qac.1 q];exact ⟨by show (1:Int)≤o;omega,by show (o:Int)≤31;omega⟩
 ·refine List.pairwise_append.2 ⟨?_,List.pairwise_singleton _ _,fun a ha b hb=>?_⟩
  ·refine List.Pairwise.imp_of_mem ?_ h.up;intro a b ha hb q;rw [mh (hn a ha),mh (hn b hb)];exact q
  ·rw [qac.1 hb,mh (hn a ha)];show _<(kg (o:Int) (vZ ⟨o,tx,m⟩ ms)).place;have e1:kg (o:Int) (vZ ⟨o,tx,m⟩ ms)=⟨o,tx,m⟩:=by unfold kg;rw [uD,qan rfl];rfl
   rw [e1];rcases hm a.oid with q | q
   ·exact q
   ·obtain ⟨c,g1,_⟩:=h.got a ha;rw [q] at g1;cases g1
theorem OB {ms:List jl} {c:jl} {B:Int} (h:∀ k,0≤(kg k ms).place∧(kg k ms).place≤B) (hc:0≤c.place∧c.place≤B):∀ k,0≤(kg k (vZ c ms)).place∧(kg k (vZ c ms)).place≤B:=fun k=>by
 by_cases q:k=c.key
 ·have e1:kg k (vZ c ms)=c:=by unfold kg;rw [uD,qan q];rfl
  rw [e1];exact hc
 ·rw [mh q];exact h k
section
def Out (k a b:Nat):Prop:=k<a∨b≤k
structure CopI (e:qb) (lo:Nat) (w:World) (c2 c5 c6 c9 c10 c13:Bool) (X2 X5 X6 X9 vN vQ:Value) (q:qo) (l:qI) (p0 p1 l0 l1 A6 xg:Nat) (aT:Option Addr) (cT:Nat) (aH:Option Addr) (cH:Nat):Prop where
 val:(c5=true→c2=true)∧(c9=true→c5=true∧c6=true)∧(c13=true→c9=true∧c10=true)
 low:lo≤w.heap.size
 top:p1≤w.heap.size∧l1≤w.heap.size
 no:(c2=false→p0=0∧p1=0)∧(c5=false→l0=0∧l1=0)
 pool:c2=true→X2=.agg q.cells.toArray∧Hid (q.v=e.qQ.v)∧q.own w p0 p1∧lo≤p0∧p0≤p1
 log:c5=true→X5=.agg l.cells.toArray∧Hid (l.v=e.log.v)∧l.own w l0 l1∧p1≤l0∧lo≤l0∧l0≤l1
 six:c6=true→X6=.slice (some ⟨A6,0,none⟩) 0 0∧(c9=false→OwnL w A6 (A6+1) (some ⟨A6,0,none⟩) 0 [])∧lo≤A6∧A6<w.heap.size∧Out A6 p0 p1∧Out A6 l0 l1
 ten:c10=true→vN=.slice (some ⟨xg,0,none⟩) 0 0∧(c13=false→OwnH w xg (xg+1) (some ⟨xg,0,none⟩) 0 [])∧lo≤xg∧xg<w.heap.size∧Out xg p0 p1∧Out xg l0 l1
 both:c6=true→c10=true→A6≠xg
 txs:c9=true→X9=.slice aT e.txs.length cT∧OwnL w lo w.heap.size aT cT e.txs∧∀ k,(Value.slice aT e.txs.length cT).ownBlock=some k→Out k p0 p1∧Out k l0 l1∧(c10=true→k≠xg)
 holds:c13=true→vQ=.slice aH e.holds.length cH∧OwnH w lo w.heap.size aH cH e.holds∧∀ k,(Value.slice aH e.holds.length cH).ownBlock=some k→Out k p0 p1∧Out k l0 l1∧∀ j,(Value.slice aT e.txs.length cT).ownBlock=some j→j≠k
theorem CopI.start (e:qb) (lo:Nat) (w:World) (X2 X5 X6 X9 vN vQ:Value) (h:lo≤w.heap.size):CopI e lo w false false false false false false X2 X5 X6 X9 vN vQ e.qQ e.log 0 0 0 0 0 0 none 0 none 0:=
 ⟨⟨nofun,nofun,nofun⟩,h,⟨qaw _,qaw _⟩,⟨fun _=>⟨rfl,rfl⟩,fun _=>⟨rfl,rfl⟩⟩,nofun,nofun,nofun,nofun,nofun,nofun,nofun⟩
section
variable {e:qb} {lo:Nat} {w w':World} {c2 c5 c6 c9 c10 c13:Bool} {X2 X5 X6 X9 vN vQ:Value} {q:qo} {l:qI} {p0 p1 l0 l1 A6 xg:Nat} {aT:Option Addr} {cT:Nat} {aH:Option Addr} {cH:Nat}
theorem CopI.below (h:CopI e lo w c2 c5 c6 c9 c10 c13 X2 X5 X6 X9 vN vQ q l p0 p1 l0 l1 A6 xg aT cT aH cH) (hb:qa w w'):CopI e lo w' c2 c5 c6 c9 c10 c13 X2 X5 X6 X9 vN vQ q l p0 p1 l0 l1 A6 xg aT cT aH cH:=by
 have hs:=hb.size;refine ⟨h.val,by have:=h.low;omega,by have:=h.top;omega,h.no,fun c=>?_,fun c=>?_,fun c=>?_,fun c=>?_,h.both,fun c=>?_,fun c=>?_⟩
 ·obtain ⟨a,b,d,f⟩:=h.pool c;exact ⟨a,b,OwnSts.below d hb,f⟩
 ·obtain ⟨a,b,d,f⟩:=h.log c;exact ⟨a,b,je.below d hb,f⟩
 ·obtain ⟨a,b,d,f,g⟩:=h.six c;exact ⟨a,fun x=>(b x).below hb,d,by omega,g⟩
 ·obtain ⟨a,b,d,f,g⟩:=h.ten c;exact ⟨a,fun x=>(b x).below hb,d,by omega,g⟩
 ·obtain ⟨a,b,d⟩:=h.txs c;exact ⟨a,(b.below hb).widen qg hs qg,d⟩
 ·obtain ⟨a,b,d⟩:=h.holds c;exact ⟨a,(b.below hb).widen qg hs qg,d⟩
theorem CopI.step2 {X:Value} {q':qo} (h:CopI e lo w false c5 c6 c9 c10 c13 X2 X5 X6 X9 vN vQ q l p0 p1 l0 l1 A6 xg aT cT aH cH) (hX:X=.agg q'.cells.toArray) (hv:Hid (q'.v=e.qQ.v)) (ho:q'.own w' w.heap.size w'.heap.size) (hb:qa w w'):
  CopI e lo w' true c5 c6 c9 c10 c13 X X5 X6 X9 vN vQ q' l w.heap.size w'.heap.size l0 l1 A6 xg aT cT aH cH:=by
 have hs:=hb.size;have h5:c5=false:=by cases hc:c5 with | false=>rfl | true=>exact absurd (h.val.1 hc) (by simp)
 have h9:c9=false:=by cases hc:c9 with | false=>rfl | true=>have:=(h.val.2.1 hc).1;rw [h5] at this;cases this
 have QW:c13=false:=by cases hc:c13 with | false=>rfl | true=>have:=(h.val.2.2 hc).1;rw [h9] at this;cases this
 subst h5 h9 QW;have g:=h.below hb;refine ⟨⟨nofun,nofun,nofun⟩,g.low,⟨qcN _,g.top.2⟩,⟨nofun,g.no.2⟩,fun _=>⟨hX,hv,ho,h.low,hs⟩,nofun,fun c=>?_,fun c=>?_,g.both,nofun,nofun⟩
 ·obtain ⟨a,b,d,f,_,k⟩:=g.six c;have:=(h.six c).2.2.2.1;exact ⟨a,b,d,f,.inl (by omega),k⟩
 ·obtain ⟨a,b,d,f,_,k⟩:=g.ten c;have:=(h.ten c).2.2.2.1;exact ⟨a,b,d,f,.inl (by omega),k⟩
theorem CopI.Ew {X:Value} {l':qI} (h:CopI e lo w c2 false c6 c9 c10 c13 X2 X5 X6 X9 vN vQ q l p0 p1 l0 l1 A6 xg aT cT aH cH) (hc2:c2=true) (hX:X=.agg l'.cells.toArray) (hv:Hid (l'.v=e.log.v)) (ho:l'.own w' w.heap.size w'.heap.size) (hb:qa w w'):
  CopI e lo w' c2 true c6 c9 c10 c13 X2 X X6 X9 vN vQ q l' p0 p1 w.heap.size w'.heap.size A6 xg aT cT aH cH:=by
 have hs:=hb.size;have h9:c9=false:=by cases hc:c9 with | false=>rfl | true=>have:=(h.val.2.1 hc).1;cases this
 have QW:c13=false:=by cases hc:c13 with | false=>rfl | true=>have:=(h.val.2.2 hc).1;rw [h9] at this;cases this
 subst h9 QW;have g:=h.below hb;refine ⟨⟨fun _=>hc2,nofun,nofun⟩,g.low,⟨g.top.1,qcN _⟩,⟨g.no.1,nofun⟩,g.pool,fun _=>⟨hX,hv,ho,h.top.1,h.low,hs⟩,fun c=>?_,fun c=>?_,g.both,nofun,nofun⟩
 ·obtain ⟨a,b,d,f,k,_⟩:=g.six c;have:=(h.six c).2.2.2.1;exact ⟨a,b,d,f,k,.inl (by omega)⟩
 ·obtain ⟨a,b,d,f,k,_⟩:=g.ten c;have:=(h.ten c).2.2.2.1;exact ⟨a,b,d,f,k,.inl (by omega)⟩
theorem CopI.Ex {X:Value} (h:CopI e lo w c2 c5 false c9 c10 c13 X2 X5 X6 X9 vN vQ q l p0 p1 l0 l1 A6 xg aT cT aH cH) (hX:X=.slice (some ⟨w.heap.size,0,none⟩) 0 0) (hw:w.alloc (.cells #[] 115)=w'):
  CopI e lo w' c2 c5 true c9 c10 c13 X2 X5 X X9 vN vQ q l p0 p1 l0 l1 w.heap.size xg aT cT aH cH:=by
 subst hw;have hb:qa w (w.alloc (.cells #[] 115)):=(qab _ _).alloc qg _;have h9:c9=false:=by cases hc:c9 with | false=>rfl | true=>have:=(h.val.2.1 hc).2;cases this
 have QW:c13=false:=by cases hc:c13 with | false=>rfl | true=>have:=(h.val.2.2 hc).1;rw [h9] at this;cases this
 subst h9 QW;have g:=h.below hb;refine ⟨⟨h.val.1,nofun,nofun⟩,g.low,g.top,g.no,g.pool,g.log,fun _=>⟨hX,fun _=>qaj w,h.low,by simp,.inr h.top.1,.inr h.top.2⟩,g.ten,fun _ c=>?_,nofun,nofun⟩;have:=(h.ten c).2.2.2.1;omega
theorem CopI.F9 {X:Value} (h:CopI e lo w c2 c5 c6 c9 false c13 X2 X5 X6 X9 vN vQ q l p0 p1 l0 l1 A6 xg aT cT aH cH) (hX:X=.slice (some ⟨w.heap.size,0,none⟩) 0 0) (hw:w.alloc (.cells #[] 117)=w'):
  CopI e lo w' c2 c5 c6 c9 true c13 X2 X5 X6 X9 X vQ q l p0 p1 l0 l1 A6 w.heap.size aT cT aH cH:=by
 subst hw;have hb:qa w (w.alloc (.cells #[] 117)):=(qab _ _).alloc qg _;have QW:c13=false:=by cases hc:c13 with | false=>rfl | true=>have:=(h.val.2.2 hc).2;cases this
 subst QW;have g:=h.below hb;refine ⟨⟨h.val.1,h.val.2.1,nofun⟩,g.low,g.top,g.no,g.pool,g.log,g.six,fun _=>⟨hX,fun _=>qak w,h.low,by simp,.inr h.top.1,.inr h.top.2⟩,fun c _=>?_,fun c=>?_,nofun⟩
 ·have:=(h.six c).2.2.2.1;omega
 ·obtain ⟨a,b,d⟩:=g.txs c;refine ⟨a,b,fun k hk=>⟨(d k hk).1,(d k hk).2.1,fun _=>?_⟩⟩;have:=((h.txs c).2.1.lt k hk).2;omega
theorem UG {P:Prop} (h:P:=by
 obtain ⟨a,b,d,f⟩:=h.pool c;exact ⟨a,b,OwnSts.touch d t (fun k hk hm=>by have:=OwnSts.qC d k hk;rw [qac.1 hm] at this;rcases x5 with y | y<;>omega),f⟩):P:=h
theorem UH {P:Prop} (h:P:=by
 obtain ⟨a,b,d,f⟩:=h.log c;exact ⟨a,b,je.touch d t (fun k hk hm=>by have:=je.qC d k hk;rw [qac.1 hm] at this;rcases x6 with y | y<;>omega),f⟩):P:=h
theorem CopI.Ey {X:Value} {a':Option Addr} {c':Nat} (h:CopI e lo w c2 c5 c6 false c10 c13 X2 X5 X6 X9 vN vQ q l p0 p1 l0 l1 A6 xg aT cT aH cH) (hc5:c5=true) (hc6:c6=true) (hX:X=.slice a' e.txs.length c') (ho:OwnL w' A6 w'.heap.size a' c' e.txs) (hg:w.grownBy w' (some A6))
  (hk:∀ k,(Value.slice a' e.txs.length c').ownBlock=some k→some A6=some k∨k=w.heap.size):
  CopI e lo w' c2 c5 c6 true c10 c13 X2 X5 X6 X vN vQ q l p0 p1 l0 l1 A6 xg a' c' aH cH:=by
 have QW:c13=false:=by cases hc:c13 with | false=>rfl | true=>have:=(h.val.2.2 hc).1;cases this
 subst QW;have t:Touch [A6] w w':=Touch.jO hg (fun k hk=>by cases hk;exact qac.2 rfl);have hs:=t.size;obtain ⟨x1,x2,x3,x4,x5,x6⟩:=h.six hc6;have hlo:=h.low;have htop:=h.top;refine ⟨⟨h.val.1,fun _=>⟨hc5,hc6⟩,nofun⟩,by omega,by omega,h.no,fun c=>?_,fun c=>?_,fun c=>⟨x1,nofun,x3,by omega,x5,x6⟩,fun c=>?_,h.both,fun _=>⟨hX,ho.widen x3 qg qg,fun k hk'=>?_⟩,nofun⟩
 ·exact UG
 ·exact UH
 ·obtain ⟨a,b,d,f,g⟩:=h.ten c;have hne:=h.both hc6 c;exact ⟨a,fun x=>(b x).touch t (fun k hk hm=>by cases hk;exact hne (qac.1 hm).symm),d,by omega,g⟩
 ·rcases hk k hk' with y | y
  ·cases y;exact ⟨x5,x6,fun c=>h.both hc6 c⟩
  ·subst y;exact ⟨.inr htop.1,.inr htop.2,fun c=>by have:=(h.ten c).2.2.2.1;omega⟩
theorem CopI.Ra {X:Value} {a':Option Addr} {c':Nat} (h:CopI e lo w c2 c5 c6 c9 c10 false X2 X5 X6 X9 vN vQ q l p0 p1 l0 l1 A6 xg aT cT aH cH) (hc9:c9=true) (Gy:c10=true) (hX:X=.slice a' e.holds.length c') (ho:OwnH w' xg w'.heap.size a' c' e.holds) (hg:w.grownBy w' (some xg))
  (hk:∀ k,(Value.slice a' e.holds.length c').ownBlock=some k→some xg=some k∨k=w.heap.size):
  CopI e lo w' c2 c5 c6 c9 c10 true X2 X5 X6 X9 vN X q l p0 p1 l0 l1 A6 xg aT cT a' c':=by
 have t:Touch [xg] w w':=Touch.jO hg (fun k hk=>by cases hk;exact qac.2 rfl);have hs:=t.size;obtain ⟨x1,x2,x3,x4,x5,x6⟩:=h.ten Gy;have hlo:=h.low;have htop:=h.top;refine ⟨⟨h.val.1,h.val.2.1,fun _=>⟨hc9,Gy⟩⟩,by omega,by omega,h.no,fun c=>?_,fun c=>?_,fun c=>?_,fun c=>⟨x1,nofun,x3,by omega,x5,x6⟩,h.both,fun c=>?_,fun _=>⟨hX,ho.widen x3 qg qg,fun k hk'=>?_⟩⟩
 ·exact UG
 ·exact UH
 ·obtain ⟨a,b,d,f,g⟩:=h.six c;exact ⟨a,fun x=>(by rw [hc9] at x;cases x),d,by omega,g⟩
 ·obtain ⟨a,b,d⟩:=h.txs c;exact ⟨a,(b.touch t (fun k hk hm=>(d k hk).2.2 Gy (qac.1 hm))).widen qg hs qg,d⟩
 ·obtain ⟨_,b,d⟩:=h.txs hc9;rcases hk k hk' with y | y
  ·cases y;exact ⟨x5,x6,fun j hj=>(d j hj).2.2 Gy⟩
  ·subst y;exact ⟨.inr htop.1,.inr htop.2,fun j hj=>by have:=(b.lt j hj).2;omega⟩
end
end
section
structure CopB (Z:qb) (nT nH:Nat) (lo:Nat) (w:World) (c3 c6 c9 c10 c13:Bool) (X3:Value) (BO p0 p1 l0 l1 A6 xg:Nat) (aT:Option Addr) (cT:Nat) (aH:Option Addr) (cH:Nat):Prop where
 box:c3=true→X3=.pointer (some ⟨BO,0,none⟩)∧Box w BO Z.cells TE∧lo≤BO∧Out BO p0 p1∧Out BO l0 l1
 six:c3=true→c6=true→BO≠A6
 ten:c3=true→c10=true→BO≠xg
 txs:c3=true→c9=true→∀ k,(Value.slice aT nT cT).ownBlock=some k→k≠BO
 holds:c3=true→c13=true→∀ k,(Value.slice aH nH cH).ownBlock=some k→k≠BO
section
variable {Z e:qb} {nT nH lo:Nat} {w w':World} {c2 c3 c5 c6 c9 c10 c13:Bool} {X2 X3 X5 X6 X9 vN vQ:Value} {q:qo} {l:qI} {BO p0 p1 l0 l1 A6 xg:Nat} {aT:Option Addr} {cT:Nat} {aH:Option Addr} {cH:Nat}
theorem CopB.start (X3:Value) (w:World):CopB Z nT nH lo w false c6 c9 c10 c13 X3 0 p0 p1 l0 l1 A6 xg aT cT aH cH:=⟨nofun,nofun,nofun,nofun,nofun⟩
theorem CopB.below (h:CopB Z nT nH lo w c3 c6 c9 c10 c13 X3 BO p0 p1 l0 l1 A6 xg aT cT aH cH) (hb:qa w w'):CopB Z nT nH lo w' c3 c6 c9 c10 c13 X3 BO p0 p1 l0 l1 A6 xg aT cT aH cH:=
 ⟨fun c=>by obtain ⟨a,b,d⟩:=h.box c;exact ⟨a,b.below hb b.lt,d⟩,h.six,h.ten,h.txs,h.holds⟩
theorem CopB.step2 (h:CopB Z nT nH lo w c3 c6 c9 c10 c13 X3 BO p0 p1 l0 l1 A6 xg aT cT aH cH) (hb:qa w w'):CopB Z nT nH lo w' c3 c6 c9 c10 c13 X3 BO w.heap.size w'.heap.size l0 l1 A6 xg aT cT aH cH:=
 ⟨fun c=>by obtain ⟨a,b,d,f,g⟩:=h.box c;exact ⟨a,b.below hb b.lt,d,.inl b.lt,g⟩,h.six,h.ten,h.txs,h.holds⟩
theorem CopB.Ew (h:CopB Z nT nH lo w c3 c6 c9 c10 c13 X3 BO p0 p1 l0 l1 A6 xg aT cT aH cH) (hb:qa w w'):CopB Z nT nH lo w' c3 c6 c9 c10 c13 X3 BO p0 p1 w.heap.size w'.heap.size A6 xg aT cT aH cH:=
 ⟨fun c=>by obtain ⟨a,b,d,f,g⟩:=h.box c;exact ⟨a,b.below hb b.lt,d,f,.inl b.lt⟩,h.six,h.ten,h.txs,h.holds⟩
theorem CopB.Ex (h:CopB Z nT nH lo w c3 c6 c9 c10 c13 X3 BO p0 p1 l0 l1 A6 xg aT cT aH cH) (hb:qa w w'):CopB Z nT nH lo w' c3 true c9 c10 c13 X3 BO p0 p1 l0 l1 w.heap.size xg aT cT aH cH:=
 ⟨(h.below hb).box,fun c _=>by have:=(h.box c).2.1.lt;omega,h.ten,h.txs,h.holds⟩
theorem CopB.F9 (h:CopB Z nT nH lo w c3 c6 c9 c10 c13 X3 BO p0 p1 l0 l1 A6 xg aT cT aH cH) (hb:qa w w'):CopB Z nT nH lo w' c3 c6 c9 true c13 X3 BO p0 p1 l0 l1 A6 w.heap.size aT cT aH cH:=
 ⟨(h.below hb).box,h.six,fun c _=>by have:=(h.box c).2.1.lt;omega,h.txs,h.holds⟩
theorem CopB.Ey {a':Option Addr} {c':Nat} (h:CopB Z nT nH lo w c3 c6 c9 c10 c13 X3 BO p0 p1 l0 l1 A6 xg aT cT aH cH) (hc6:c6=true) (hg:w.grownBy w' (some A6)) (hk:∀ k,(Value.slice a' nT c').ownBlock=some k→some A6=some k∨k=w.heap.size):
  CopB Z nT nH lo w' c3 c6 true c10 c13 X3 BO p0 p1 l0 l1 A6 xg a' c' aH cH:=
 ⟨fun c=>by obtain ⟨a,b,d⟩:=h.box c;exact ⟨a,b.block (hg.block BO b.lt (fun x=>h.six c hc6 (qfb x))),d⟩,h.six,h.ten,fun c _ k hk'=>by
  rcases hk k hk' with y | y
  ·cases y;exact Ne.symm (h.six c hc6)
  ·have:=(h.box c).2.1.lt;omega,h.holds⟩
theorem CopB.Ra {a':Option Addr} {c':Nat} (h:CopB Z nT nH lo w c3 c6 c9 c10 c13 X3 BO p0 p1 l0 l1 A6 xg aT cT aH cH) (Gy:c10=true) (hg:w.grownBy w' (some xg)) (hk:∀ k,(Value.slice a' nH c').ownBlock=some k→some xg=some k∨k=w.heap.size):
  CopB Z nT nH lo w' c3 c6 c9 c10 true X3 BO p0 p1 l0 l1 A6 xg aT cT a' c':=
 ⟨fun c=>by obtain ⟨a,b,d⟩:=h.box c;exact ⟨a,b.block (hg.block BO b.lt (fun x=>h.ten c Gy (qfb x))),d⟩,h.six,h.ten,h.txs,fun c _ k hk'=>by
  rcases hk k hk' with y | y
  ·cases y;exact Ne.symm (h.ten c Gy)
  ·have:=(h.box c).2.1.lt;omega⟩
theorem CopB.laid {X:Value} (i:CopI e lo w c2 c5 c6 c9 c10 c13 X2 X5 X6 X9 vN vQ q l p0 p1 l0 l1 A6 xg aT cT aH cH) (hX:X=.pointer (some ⟨w.heap.size,0,none⟩)) (hb:Box w' w.heap.size Z.cells TE):
  CopB Z e.txs.length e.holds.length lo w' true c6 c9 c10 c13 X w.heap.size p0 p1 l0 l1 A6 xg aT cT aH cH:=
 ⟨fun _=>⟨hX,hb,i.low,.inr i.top.1,.inr i.top.2⟩,fun _ c=>by have:=(i.six c).2.2.2.1;omega,fun _ c=>by have:=(i.ten c).2.2.2.1;omega,
  fun _ c k hk=>by have:=((i.txs c).2.1.lt k hk).2;omega,fun _ c k hk=>by have:=((i.holds c).2.1.lt k hk).2;omega⟩
end
theorem CopI.whole {e:qb} {lo:Nat} {w:World} {X2 X5 X6 X9 vN vQ:Value} {q:qo} {l:qI} {p0 p1 l0 l1 A6 xg:Nat} {aT:Option Addr} {cT:Nat} {aH:Option Addr} {cH:Nat}
  (i:CopI e lo w true true true true true true X2 X5 X6 X9 vN vQ q l p0 p1 l0 l1 A6 xg aT cT aH cH):
  X2=.agg q.cells.toArray∧X5=.agg l.cells.toArray∧X9=.slice aT e.txs.length cT∧vQ=.slice aH e.holds.length cH∧Hid (q.v=e.qQ.v)∧Hid (l.v=e.log.v)∧
  OwnSts w lo w.heap.size q.a q.c q.seats∧je w lo w.heap.size l.a l.c l.recs∧OwnL w lo w.heap.size aT cT e.txs∧OwnH w lo w.heap.size aH cH e.holds∧
  (qF q.a q.c q.seats++(jw l.a l.c l.recs++(rowOf aT e.txs.length cT++rowOf aH e.holds.length cH))).Nodup:=by
 obtain ⟨a1,a2,a3,a4,a5⟩:=i.pool rfl;obtain ⟨b1,b2,b3,b4,b5,b6⟩:=i.log rfl;obtain ⟨t1,t2,t3⟩:=i.txs rfl;obtain ⟨h1,h2,h3⟩:=i.holds rfl;have tp:=i.top;refine ⟨a1,b1,t1,h1,a2,b2,OwnSts.widen a3 a4 tp.1 qg,je.widen b3 b5 tp.2 qg,t2,h2,?_⟩;have B2:=OwnSts.qC a3;have B3:=je.qC b3;have nr:∀ o:Option Nat,o.toList.Nodup:=fun o=>by cases o<;>simp
 simp only [qav,qaa];refine ⟨OwnSts.apart a3,⟨je.apart b3,⟨nr _,nr _,fun x hx y hy=>(h3 y (qad.1 hy)).2.2 x (qad.1 hx)⟩,fun x hx y hy=>?_⟩,fun x hx y hy=>?_⟩
 ·have:=B3 x hx;rcases hy with hy | hy
  ·rcases (t3 y (qad.1 hy)).2.1 with o | o<;>omega
  ·rcases (h3 y (qad.1 hy)).2.1 with o | o<;>omega
 ·have:=B2 x hx;rcases hy with hy | hy | hy
  ·have:=B3 y hy;omega
  ·rcases (t3 y (qad.1 hy)).1 with o | o<;>omega
  ·rcases (h3 y (qad.1 hy)).1 with o | o<;>omega
def Ue (e:qb) (q:qo) (l:qI) (aT:Option Addr) (cT:Nat) (aH:Option Addr) (cH:Nat):qb:=⟨zeroE.disk,q.seats,q.a,q.c,q.hand,l,e.txs,aT,cT,e.holds,aH,cH,e.next,e.down⟩
theorem Ez (e:qb) (q:qo) (l:qI) (aT:Option Addr) (cT:Nat) (aH:Option Addr) (cH:Nat):(Ue e q l aT cT aH cH).shape:=⟨zT.eight,zT.four⟩
theorem SY (w:World) (e:qb) (q:qo) (l:qI) (aT:Option Addr) (cT:Nat) (aH:Option Addr) (cH:Nat):
  (Instr.build 59 #[(1,.agg q.cells.toArray),(2,.agg l.cells.toArray),(3,.slice aT e.txs.length cT),(4,.slice aH e.holds.length cH),(5,.int .i64 e.next),(6,.bool e.down)]).run prog w=.ok (.agg (Ue e q l aT cT aH cH).cells.toArray) w:=run_build w _ _ _ (by kernel_rfl)
theorem qaP (w:World) (lo hi:Nat) (h:hi≤w.heap.size):qP w lo hi (zeroE.disk.flatMap (·.ss)):=by
 refine ⟨fun s hs=>?_,List.nodup_nil⟩;obtain ⟨p,hp,hs⟩:=qag.1 hs;have h1:p=jh:=by
  simp only [zeroE,qcv,qdu,qfL] at hp;rcases hp with h | h | h | h | h | h | h | h<;>exact h
 rw [h1] at hs;have h2:s=qw:=by simpa [jh] using hs
 rw [h2];exact Gw _ _ _ h
theorem CopI.eng {Z e:qb} {lo:Nat} {w:World} {X2 X5 X6 X9 vN vQ X3:Value} {q:qo} {l:qI} {BO p0 p1 l0 l1 A6 xg:Nat} {aT:Option Addr} {cT:Nat} {aH:Option Addr} {cH:Nat}
  (i:CopI e lo w true true true true true true X2 X5 X6 X9 vN vQ q l p0 p1 l0 l1 A6 xg aT cT aH cH) (b:CopB Z e.txs.length e.holds.length lo w true true true true true X3 BO p0 p1 l0 l1 A6 xg aT cT aH cH):
  (Ue e q l aT cT aH cH).own w lo w.heap.size∧BO∉(Ue e q l aT cT aH cH).blocks:=by
 obtain ⟨_,_,_,_,_,_,o1,o2,o3,o4,nd⟩:=i.whole;obtain ⟨_,_,_,f1,f2⟩:=b.box rfl;refine ⟨⟨qaP w _ _ qg,o1,o2,o3,o4,nd⟩,fun hm=>?_⟩;have hm':BO∈qF q.a q.c q.seats++(jw l.a l.c l.recs++(rowOf aT e.txs.length cT++rowOf aH e.holds.length cH)):=hm;simp only [qaa] at hm';rcases hm' with h | h | h | h
 ·have:=OwnSts.qC (i.pool rfl).2.2.1 BO h;rcases f1 with y | y<;>omega
 ·have:=je.qC (i.log rfl).2.2.1 BO h;rcases f2 with y | y<;>omega
 ·exact b.txs rfl rfl BO (qad.1 h) rfl
 ·exact b.holds rfl rfl BO (qad.1 h) rfl
end
theorem mo {w:World} {ops:Array Oper} {o:Oper} {act:Act} {K:Act→World→Prop} {Q:Exit→Act→World→Prop} {E:Prop} (hgd:o.guard=none) (s x:Operand)
  (ho:o.op=.call { callee:=.builtin .append,args:=#[s,x],argTypes:=#[57,57] })
  (lo hi:Nat) (a:Option Addr) (c:Nat) (xs:List qU) (hs:act.eval s=.slice a xs.length c) (hown:OwnH w lo hi a c xs)
  (sa:Option Addr) (sc:Nat) (zs:List qU) (hx:act.eval x=.slice sa zs.length sc) (hr:yN w sa zs) (hc:sa=none→sc=0)
  (hb:xs.length+zs.length≤1099511627776) (hlo:lo≤w.heap.size)
  (h:∀ a' c' ys w',Hid (ys=xs++zs)→OwnH w' lo w'.heap.size a' c' ys→w.grownBy w' (Value.slice a xs.length c).ownBlock→
   (∀ k,(Value.slice a' ys.length c').ownBlock=some k→(Value.slice a xs.length c).ownBlock=some k∨k=w.heap.size)→K (act.put o.dst (.slice a' ys.length c')) w'):
  if Region.wanted o (yielded ops act.tmps)=true then Oper.wp prog o act w K Q else E:=by
 have hw:Region.wanted o (yielded ops act.tmps)=true:=by simp [Region.wanted,hgd]
 rw [qan hw];obtain ⟨a',c',ys,w',hrun,h1,h2,h3,h4⟩:=YN (w:=w) o.type lo hi a c xs hown sa sc zs hr hc hb hlo;unfold Oper.wp execOp;simp only [ho,resolve,invoke,builtin,qdq,qeJ,qdf,qe8,qdG,qfe,hs,hx,hrun];exact h a' c' ys w' h1 h2 h3 h4
theorem EA {w:World} {ops:Array Oper} {act:Act} {K:Act→World→Prop} {Q:Exit→Act→World→Prop} {E:Prop} {dst:Option Nat} {ty:TypeId} {pos:String} {XY:Array Edge} (T:TypeId) (cs:List Value)
  (hz:(prog.info? T).map (·.zero)=some (some (.agg cs.toArray)))
  (h:K (act.put dst (.pointer (some ⟨w.heap.size,0,none⟩))) (w.alloc (.cells cs.toArray T))):
  if Region.wanted { dst:=dst,op:=.alloc T,type:=ty,pos:=pos,after:=XY,guard:=none } (yielded ops act.tmps)=true then Oper.wp prog { dst:=dst,op:=.alloc T,type:=ty,pos:=pos,after:=XY,guard:=none } act w K Q else E:=by
 rw [qan (by simp [Region.wanted])];cases hi:prog.info? T with
 | none=>rw [hi] at hz;cases hz
 | some inf=>
  rw [hi] at hz;have hz':inf.zero=some (.agg cs.toArray):=by simpa using hz
  unfold Oper.wp execOp;have e1:(zeroValue T).run prog w=.ok (.agg cs.toArray) w:=by simp [zeroValue,typeInfo,hi,hz']
  have e2:(Instr.alloc T true (.tuple #[])).run prog w=.ok (.pointer (some ⟨w.heap.size,0,none⟩)) (w.alloc (.cells cs.toArray T)):=by
   unfold Instr.alloc;simp only [qdq,e1,qdf];simp [newVar,go_sem]
  simp only [qdq,e2,qdf,qeJ];exact h
theorem gH {B:Nat} {w w':World} (h:Within B (B+1) w w'):Touch [B] w w':=⟨h.os,h.tape,h.output,h.size,fun k hk hn=>h.block k hk (fun hh=>hn (qac.2 (by omega)))⟩
theorem qct {w:World} {lo D hi:Nat} {t:qb} {ts:List qA} (h:t.own w lo D) (hd:qP w D hi (qZ ts)) (h1:lo≤D) (h2:D≤hi) (h3:hi≤w.heap.size):({ t with disk:=ts }:qb).own w lo hi:=by
 refine ⟨hd.widen h1 qg h3,h.pool.widen qg h2 h3,h.log.widen qg h2 h3,h.txs.widen qg h2 h3,h.holds.widen qg h2 h3,?_⟩;have hb:=h.qC;have ap:=h.apart;simp only [qb.blocks,qav] at ap;simp only [qb.blocks,qav];refine ⟨hd.apart,ap.2.1,fun x hx y hy=>?_⟩;have h4:=hd.qC x hx;have h5:=hb y (qaa.2 (.inr hy));omega
theorem EB {w:World} {o:Oper} {act:Act} {K:Act→World→Prop} {Q:Exit→Act→World→Prop} (T:TypeId) {v:Value} (parts:Array (Nat × Operand)) {ps:Array (Nat × Value)} (hr:(Instr.build T ps).run prog w=.ok v w)
  (ho:o.op=.build T parts) (hp:parts.map (fun p=>(p.1,act.eval p.2))=ps) (h:K (act.put o.dst v) w):Oper.wp prog o act w K Q:=by
 subst hp;unfold Oper.wp execOp;simp only [ho,qdq,hr,qdf,qeJ];exact h
theorem AA (e:qb) (se:e.shape) (w:World) (re:e.reads w) (hl:e.short 1048576) (hc:e.QU):
  Calls prog 21 #[.agg e.cells.toArray] w fun r w'=>∃ t:qb,r=.returned (.agg t.cells.toArray)∧t.shape∧Hid (t.v=e.v)∧t.own w' w.heap.size w'.heap.size∧qa w w':=by
 obtain ⟨Z,hZ⟩:=qV zeroE;have sZ:Z.shape:=by rw [← hZ.out];exact zT
 have HZ:=Tryz.Xh;rw [hZ.out] at HZ;obtain ⟨W,hW,b0,bR,hbW,qD⟩:=jK w e.cells Z.cells 59 59;have HB:Hid (∀ u,qa W u→Box u w.heap.size e.cells 59):=fun u hu=>b0.below hu b0.lt
 have Ur:Hid (∀ u,qa W u→Box u (w.heap.size+1) Z.cells 59):=fun u hu=>bR.below hu bR.lt
 have HR:Hid (∀ u,qa W u→e.reads u):=fun u hu=>(re.below hbW).below hu
 have jr:Hid (∀ u,qa W u→qa w u):=fun u hu=>qf hbW hu
 have hw0:w.heap.size+1<W.heap.size:=by omega
 have N:qa W W:=qab _ _;clear b0 bR qD;have HS:Hid (∀ u,qa W u→(u.rangeAt w.heap.size 136 e.qQ.cells∧u.rangeAt w.heap.size 138 e.log.cells∧u.cell? ⟨w.heap.size,140,none⟩=some (.slice e.aT e.txs.length e.cT)∧u.cell? ⟨w.heap.size,141,none⟩=some (.slice e.aH e.holds.length e.cH)∧u.cell? ⟨w.heap.size,142,none⟩=some (.int .i64 e.next)∧u.cell? ⟨w.heap.size,143,none⟩=some (.bool e.down))):=fun u hu=>(qY se (HB.out u hu)).2
 go_enter func21,ntmps21;go_upto_region 1 with (first | (guard_target=wpList _ _ _ (Oper.mk _ (Op.alloc _) _ _ _ _::_) _ _;refine Qf 59 Z.cells HZ ?_) | fail);rw [hW.out,show (w.alloc (Obj.cells e.cells.toArray 59)).heap.size=w.heap.size+1 from by simp];clear hW;have D0:qa W W.drew:=N.drew;refine wU HS D0 fun qc=>?_
 generalize W.drew=d0 at*
 refine jg 0 ?_;refine xB 1 (e.qQ.cells) (fun _ h=>h.1) underlying52 ((xP _)) ?_;refine jg 3 ?_;refine xB 4 (e.log.cells) (fun _ h=>h.2.1) underlying55 ((yT _)) ?_;refine jg 7 ?_;refine jg 8 ?_;refine jg 11 ?_;refine jg 12 ?_;refine jg 14 ?_;refine jg 15 ?_;refine jg 16 ?_;refine jg 17 ?_;clear qc;refine Hg (I:=fun l a u=>∃ (c2 c5 c6 c9 c10 c13 c3 c18:Bool) (X2 X5 X6 X9 vN vQ X3 JB:Value) (q:qo) (l':qI) (p0 p1 l0 l1 A6 xg:Nat) (aT:Option Addr) (cT:Nat) (aH:Option Addr) (cH:Nat) (BO:Nat),
  l=#[true,true,c2,true,true,c5,c6,true,true,c9,c10,true,true,c13,true,true,true,true,c18,c3,false]∧a=⟨([.agg e.cells.toArray,.pointer (some ⟨w.heap.size,0,none⟩),.pointer (some ⟨w.heap.size+1,0,none⟩),X3,undef,.pointer (some ⟨w.heap.size,136,none⟩),.agg (e.qQ.cells).toArray,X2,.pointer (some ⟨w.heap.size,138,none⟩),.agg (e.log.cells).toArray,X5,X6,.pointer (some ⟨w.heap.size,140,none⟩),.slice e.aT e.txs.length e.cT,X9,vN,.pointer (some ⟨w.heap.size,141,none⟩),.slice e.aH e.holds.length e.cH,vQ,.pointer (some ⟨w.heap.size,142,none⟩),.int .i64 e.next,.pointer (some ⟨w.heap.size,143,none⟩),.bool e.down,JB,undef,undef,undef,undef,undef,undef,undef,undef,undef,undef,undef,undef,undef]:List Value).toArray,[]⟩∧CopI e W.heap.size u c2 c5 c6 c9 c10 c13 X2 X5 X6 X9 vN vQ q l' p0 p1 l0 l1 A6 xg aT cT aH cH∧CopB Z e.txs.length e.holds.length W.heap.size u c3 c6 c9 c10 c13 X3 BO p0 p1 l0 l1 A6 xg aT cT aH cH∧(c18=true→(c2 && (c5 && (c6 && (c9 && (c10 && c13)))))=true∧JB=.agg (Ue e q l' aT cT aH cH).cells.toArray)∧qa W u)
  (stop:=fun l=>l.getD 18 false && l.getD 19 false) ?_ ?_ _ _ _ _ (by kernel_rfl) ?_
 rotate_right
 ·exact ⟨false,false,false,false,false,false,false,false,undef,undef,undef,undef,undef,undef,undef,undef,e.qQ,e.log,0,0,0,0,0,0,none,0,none,0,0,by kernel_rfl,rfl,CopI.start e _ _ _ _ _ _ _ _ D0.size,CopB.start _ _,nofun,D0⟩
 ·rintro l a u ⟨c2,c5,c6,c9,c10,c13,c3,c18,X2,X5,X6,X9,vN,vQ,X3,JB,q,l',p0,p1,l0,l1,A6,xg,aT,cT,aH,cH,BO,rfl,rfl,hI,hB,h18,hN⟩ hst;refine Bp (fun j=>(j == 2 && !c2) || ((j == 5 && (!c5 && c2)) || ((j == 6 && !c6) || ((j == 9 && (!c9 && (c5 && c6))) || ((j == 10 && !c10) || ((j == 13 && (!c13 && (c9 && c10))) || ((j == 19 && !c3) || (j == 18 && (!c18 && (c2 && (c5 && (c6 && (c9 && (c10 && c13)))))))))))))) ?_ ?_
  ·have hval:=And.intro hI.val (fun h=>(h18 h).1);clear hI hB hN h18;revert hst hval;cases c2<;>cases c5<;>cases c6<;>cases c9<;>cases c10<;>cases c13<;>cases c3<;>cases c18<;>first | exact (fun h _=>absurd h (by decide)) | exact (fun _ h=>absurd h (by decide)) | exact (fun _ _=>by (show _=true;kernel_rfl))
  ·clear hst;intro j hj;simp only [Bool.or_eq_true,qam,qfu,Bool.not_eq_true'] at hj;rcases hj with (⟨rfl,rfl⟩ | ⟨rfl,rfl,h2⟩ | ⟨rfl,rfl⟩ | ⟨rfl,rfl,h5,h6⟩ | ⟨rfl,rfl⟩ | ⟨rfl,rfl,h9,h10⟩ | ⟨rfl,rfl⟩ | ⟨rfl,rfl,a2,a5,a6,a9,pU,a13⟩)
   ·refine zJ rfl (fun K hK=>?_);go_simp;refine (Ae e.qQ u (HR.out _ hN).pool hl.pool).mono ?_;rintro r u' ⟨t,rfl,hv,ho,hb⟩;have hN':qa W u':=qf hN hb;exact hK.out _ _ ⟨HS.out _ hN',true,c5,c6,c9,c10,c13,c3,c18,_,X5,X6,X9,vN,vQ,X3,JB,t,l',_,_,l0,l1,A6,xg,aT,cT,aH,cH,BO,by kernel_rfl,rfl,hI.step2 rfl hv ho hb,hB.step2 hb,fun h=>absurd (h18 h).1 (by simp),hN'⟩
   ·refine zJ rfl (fun K hK=>?_);go_simp;refine (lV e.log u (HR.out _ hN).log hl.log hc.recs).mono ?_;rintro r u' ⟨t,rfl,hv,ho,hb⟩;have hN':qa W u':=qf hN hb;exact hK.out _ _ ⟨HS.out _ hN',c2,true,c6,c9,c10,c13,c3,c18,X2,_,X6,X9,vN,vQ,X3,JB,q,t,p0,p1,_,_,A6,xg,aT,cT,aH,cH,BO,by kernel_rfl,rfl,hI.Ew h2 rfl hv ho hb,hB.Ew hb,fun h=>absurd (h18 h).1 (by simp),hN'⟩
   ·refine zJ rfl (fun K hK=>?_);have hb:qa u (u.alloc (.cells #[] 115)):=(qab _ _).alloc qg _;have hN':qa W (u.alloc (.cells #[] 115)):=qf hN hb;go_simp;exact hK.out _ _ ⟨HS.out _ hN',c2,c5,true,c9,c10,c13,c3,c18,X2,X5,_,X9,vN,vQ,X3,JB,q,l',p0,p1,l0,l1,_,xg,aT,cT,aH,cH,BO,by kernel_rfl,rfl,hI.Ex rfl rfl,hB.Ex hb,fun h=>absurd (h18 h).1 (by simp),hN'⟩
   ·refine zJ rfl (fun K hK=>?_);obtain ⟨x1,x2,x3,x4,_,_⟩:=hI.six h6;refine mi rfl (.tmp 11) (.tmp 13) rfl A6 (A6+1) (some ⟨A6,0,none⟩) 0 [] (by rw [x1];rfl) (x2 rfl) e.aT e.cT e.txs rfl (HR.out _ hN).txs hc.txs (by have:=hl.txs;simp only [qdo];omega) (by omega) ?_;intro a' c' ys u' hys ho hg hk;have UJ:ys=e.txs:=hys.out;subst UJ;have hN':qa W u':=hN.grown hg hN.size (fun k hk=>by cases hk;exact x3);exact hK.out _ _ ⟨HS.out _ hN',c2,c5,c6,true,c10,c13,c3,c18,X2,X5,X6,_,vN,vQ,X3,JB,q,l',p0,p1,l0,l1,A6,xg,a',c',aH,cH,BO,by kernel_rfl,rfl,hI.Ey h5 h6 rfl ho hg hk,hB.Ey h6 hg hk,fun h=>absurd (h18 h).1 (by simp),hN'⟩
   ·refine zJ rfl (fun K hK=>?_);have hb:qa u (u.alloc (.cells #[] 117)):=(qab _ _).alloc qg _;have hN':qa W (u.alloc (.cells #[] 117)):=qf hN hb;go_simp;exact hK.out _ _ ⟨HS.out _ hN',c2,c5,c6,c9,true,c13,c3,c18,X2,X5,X6,X9,_,vQ,X3,JB,q,l',p0,p1,l0,l1,A6,_,aT,cT,aH,cH,BO,by kernel_rfl,rfl,hI.F9 rfl rfl,hB.F9 hb,fun h=>absurd (h18 h).1 (by simp),hN'⟩
   ·refine zJ rfl (fun K hK=>?_);obtain ⟨x1,x2,x3,x4,_,_⟩:=hI.ten h10;refine mo rfl (.tmp 15) (.tmp 17) rfl xg (xg+1) (some ⟨xg,0,none⟩) 0 [] (by rw [x1];rfl) (x2 rfl) e.aH e.cH e.holds rfl (HR.out _ hN).holds hc.holds (by have:=hl.holds;simp only [qdo];omega) (by omega) ?_;intro a' c' ys u' hys ho hg hk;have UJ:ys=e.holds:=hys.out;subst UJ;have hN':qa W u':=hN.grown hg hN.size (fun k hk=>by cases hk;exact x3);exact hK.out _ _ ⟨HS.out _ hN',c2,c5,c6,c9,c10,true,c3,c18,X2,X5,X6,X9,vN,_,X3,JB,q,l',p0,p1,l0,l1,A6,xg,aT,cT,a',c',BO,by kernel_rfl,rfl,hI.Ra h9 h10 rfl ho hg hk,hB.Ra h10 hg hk,fun h=>absurd (h18 h).1 (by simp),hN'⟩
   ·refine zJ rfl (fun K hK=>?_);obtain ⟨u',hu',bu,hb,_⟩:=qB u Z.cells 59;have hN':qa W u':=qf hN hb;refine EA 59 Z.cells HZ ?_;rw [hu'.out];exact hK.out _ _ ⟨HS.out _ hN',c2,c5,c6,c9,c10,c13,true,c18,X2,X5,X6,X9,vN,vQ,_,JB,q,l',p0,p1,l0,l1,A6,xg,aT,cT,aH,cH,_,by kernel_rfl,rfl,hI.below hb,CopB.laid hI rfl bu,h18,hN'⟩
   ·refine zJ rfl (fun K hK=>?_);subst a2 a5 a6 a9 pU a13;obtain ⟨rfl,rfl,rfl,rfl,_⟩:=hI.whole;rw [qan (by rfl)];refine EB 59 #[(1,.tmp 7),(2,.tmp 10),(3,.tmp 14),(4,.tmp 18),(5,.tmp 20),(6,.tmp 22)] (SY u e q l' aT cT aH cH) rfl (by simp only [qe8,qdG,qfe];rfl) ?_;exact hK.out _ _ ⟨HS.out _ hN,true,true,true,true,true,true,c3,true,_,_,X6,_,vN,_,X3,_,q,l',p0,p1,l0,l1,A6,xg,aT,cT,aH,cH,BO,by kernel_rfl,rfl,hI,hB,fun _=>⟨rfl,rfl⟩,hN⟩
 rintro l a u ⟨c2,c5,c6,c9,c10,c13,c3,c18,X2,X5,X6,X9,vN,vQ,X3,JB,q,l',p0,p1,l0,l1,A6,xg,aT,cT,aH,cH,BO,rfl,rfl,hI,hB,h18,hN⟩ hst;obtain ⟨rfl,rfl⟩:c18=true∧c3=true:=by simpa using hst
 clear hst;obtain ⟨hcs,rfl⟩:=h18 rfl;obtain ⟨rfl,rfl,rfl,rfl,rfl,rfl⟩:c2=true∧c5=true∧c6=true∧c9=true∧c10=true∧c13=true:=by simpa using hcs
 clear h18 hcs;obtain ⟨rfl,rfl,rfl,rfl,hv2,hv5,_⟩:=hI.whole;have hsh:=Ez e q l' aT cT aH cH;have HWH:Hid (∀ (t:qb),t.disk.map yO=e.disk.map yO→(t.seats,t.aS,t.cS,t.hand,t.log,t.txs,t.aT,t.cT,t.holds,t.aH,t.cH,t.next,t.down)=(q.seats,q.a,q.c,q.hand,l',e.txs,aT,cT,e.holds,aH,cH,e.next,e.down)→t.v=e.v):=fun t h1 h2=>by
  have v2:=hv2.out;have v5:=hv5.out;simp only [Prod.mk.injEq] at h2;obtain ⟨g1,g2,g3,g4,g5,g6,g7,g8,g9,g10,g11,g12,g13⟩:=h2;simp only [qo.v,qb.qQ,jM.mk.injEq] at v2;simp only [qb.v,g1,g4,g5,g6,g9,g12,g13,v2.1,v2.2,v5];congr 1
 obtain ⟨rfl,bu,hBl,_,_⟩:=hB.box rfl;obtain ⟨ho,hBO⟩:=hI.eng hB;clear hI hB hv2 hv5;obtain ⟨u1,hu1,hw1,hs1,HT1,b1⟩:=zq hsh sZ bu;have z1:=hw1.size;have z2:=qcF hs1;have o1:(Ue e q l' aT cT aH cH).own u1 W.heap.size u1.heap.size:=(ho.touch (gH hw1) (fun k hk hm=>hBO (by rw [← qac.1 hm];exact hk))).widen qg (by omega) qg;have hN1:qa W u1:=hN.trans (hw1.below hBl (by have:=hN.size;omega));have hlB:BO<u1.heap.size:=b1.lt;show wpAnyH _ _ _ _ _ 1 _ _ _;refine jc 20 (fun K hK=>?_);rw [qan (by rfl)];refine qc7 59 (.tmp 3) (.tmp 23) rfl BO 0 (Ue e q l' aT cT aH cH).cells.toArray rfl rfl HT1.out (jG (j6 hsh)) (qaf (QD _)) ?_;rw [hu1.out];refine qX hK (HS.out _ hN1) fun qc=>?_
 clear hK K qc;try simp only [zz]
 refine qau (by kernel_rfl) ?_ _;clear bu ho hN hw1 hs1 HT1 hu1 z1 z2 HS;have HT0:Hid (∀ ts:List qA,ts.map yO=e.disk.map yO→({ (Ue e q l' aT cT aH cH) with disk:=ts }:qb).v=e.v):=fun ts h=>HWH.out _ h rfl
 clear HWH;generalize Ue e q l' aT cT aH cH=t0 at*
 have DZ:Hid (t0.disk.length=8∧e.disk.length=8):=⟨hsh.eight,se.eight⟩;have pQ:Hid (∀ p∈e.disk,Fit p.ss):=fun p hp s hs=>by have:=hl.disk p hp s hs;omega
 have b1':Box u1 BO (qx ([]++t0.disk.drop 0)++t0.tail) 59:=b1;clear b1;go_wp2_with fail;go_loopw [4] (fun i wr=>∃ (k:Nat) (ts:List qA),k≤8∧i=.int .i64 (k:Int)∧Hid (ts.length=k∧(∀ p∈ts,p.ss.length=4)∧ts.map yO=(e.disk.take k).map yO)∧qP wr u1.heap.size wr.heap.size (qZ ts)∧Box wr BO (qx (ts++t0.disk.drop k)++t0.tail) 59∧t0.own wr W.heap.size u1.heap.size∧qa W wr∧u1.heap.size≤wr.heap.size) (fun i _=>8-(intOf i).toNat)
 case atStart=>exact ⟨0,[],qaw _,rfl,⟨rfl,fun p hp=>by (simp at hp),rfl⟩,qP.nil _ _ _,b1',o1,hN1,qcN _⟩
 case round=>
  obtain ⟨k,ts,hk,rfl,hts,hown,c1,ot,hnx,QF⟩:=hrel;clear b1' o1 hN1;by_cases hlt:k<8
  ·have hkl:k<e.disk.length:=by rw [DZ.out.2];exact hlt
   have hkt:k<t0.disk.length:=by rw [DZ.out.1];exact hlt
   have uz:=se.wy.at hlt;have HZ4:=hsh.wy.at hlt;have F1:=pQ.out _ (xz (k:=k) hkl);have R1:=(HR.out _ hnx).disk _ (xz (k:=k) hkl);have JC:Hid ((e.disk.take (k+1)).map yO=(e.disk.take k).map yO++[yO (e.disk.getD k jh)]):=by rw [Hid,qdb hkl,vz hkl,qdd];rfl
   have HDR:t0.disk.drop k=t0.disk.getD k jh::t0.disk.drop (k+1):=by rw [← vz hkt];exact qcX hkt
   have rP:wr.rangeAt w.heap.size (k*17) (e.disk.getD k jh).cells:=by have:=qb.VA se (HB.out _ hnx) k hkl;rwa [vz hkl] at this
   rw [HDR] at c1;clear HDR;generalize e.disk.getD k jh=p at*
   generalize t0.disk.getD k jh=zp at*
   have KX:=xe p uz;have C1:=Ye p uz wr R1 F1;have hi0:(0:Int)≤(k:Int):=by omega
   have bg:(k:Int)<8:=by omega
   clear R1;go_wp2_with (first | (guard_target=qp 32;refine qH 48 31 w.heap.size (k*17) (p.cells) rP underlying48 KX ?_) | fail);refine C1.mono ?_;clear C1 rP;rintro r w1 ⟨us,rfl,hv,ho1,hb1⟩;have bq:us.length=4:=by have:=qcz List.length hv.out;simp only [qa4] at this;omega
   have s1:=hb1.size;obtain ⟨q,hq⟩:∃ q:qA,Hid ((⟨p.lsn,us⟩:qA)=q):=⟨_,rfl⟩;have hq4:q.ss.length=4:=by rw [← hq.out];exact bq
   have oq:qP w1 wr.heap.size w1.heap.size q.ss:=by rw [← hq.out];exact ho1
   have KV:Hid (yO q=yO p):=by rw [Hid,← hq.out];simp only [yO];rw [hv.out]
   rw [hq.out];clear hq hv ho1 bq;replace c1:=c1.below hb1 c1.lt;have hown1:=hown.below hb1;replace hnx:=qf hnx hb1;replace ot:=ot.below hb1;rw [Qb,uF,qcJ,qcJ] at c1;obtain ⟨W2,hW2,d3,hw2,hs2⟩:=jE (qx ts) zp.cells q.cells (qx (t0.disk.drop (k+1))++t0.tail) c1 (by rw [jJ q hq4,jJ zp HZ4]);have hl3:(qx ts).length=k*17:=by rw [kS _ hts.out.2.1,hts.out.1]
   rw [hl3] at hW2;have Y8:Hid (w1.there BO (k*17) q.cells.toArray.size):=c1.there _ _ (by rw [qcY,jJ q hq4,qai,qai,hl3,jJ zp HZ4];omega);have s2:=hw2.size;have O1:Box W2 BO (qx ((ts++[q])++t0.disk.drop (k+1))++t0.tail) 59:=by
    rw [qcJ,Qb,qdr,uF,qcJ,qcJ];exact d3
   have HOW:Hid (qP W2 u1.heap.size W2.heap.size (qZ (ts++[q]))∧t0.own W2 W.heap.size u1.heap.size):=by
    refine ⟨?_,ot.touch (gH hw2) (fun k hk hm=>hBO (by rw [← qac.1 hm];exact hk))⟩;rw [KM,JP];have o:=(hown1.AL oq (by omega) (by omega) qg)
    simpa [qZ] using (o.within hw2 (.inr (by omega))).widen qg s2 qg
   have Jb:Hid ((ts++[q]).length=k+1∧(∀ p∈ts++[q],p.ss.length=4)∧(ts++[q]).map yO=(e.disk.take (k+1)).map yO):=by
    refine ⟨by rw [qai,hts.out.1];rfl,fun x hx=>?_,?_⟩
    ·rcases qaa.1 hx with h | h
     ·exact hts.out.2.1 x h
     ·rw [qac.1 h];exact hq4
    ·rw [JC.out,qdd,hts.out.2.2,← KV.out];rfl
   have HN:Hid (qa W W2∧u1.heap.size≤W2.heap.size):=⟨hnx.trans (hw2.below hBl (by have:=hnx.size;omega)),by omega⟩;have Ko:Hid ((prog.info? 48).map (·.size)=some q.cells.toArray.size):=xe q hq4;have U4:=qaf (uM q);have HW2:Hid (w1.setCells BO (k*17) q.cells.toArray.toList=W2):=hW2.out;clear c1 d3 hown hown1 oq hw2 hs2 hW2 hnx hts JC KV hl3 hb1 ot;go_wp2_with (first | (guard_target=ja 35;refine jb 48 35 33 BO (k*17) (q.cells).toArray Y8.out Ko.out U4 ?_) | fail);rw [HW2.out];go_roundw
   case rel=>exact ⟨k+1,ts++[q],by omega,by go_num,Jb,HOW.out.1,O1,HOW.out.2,HN.out.1,HN.out.2⟩
   case measure=>simp [intOf];omega
  ·obtain rfl:k=8:=by omega
   have hkk:¬ ((8:Nat):Int)<8:=by omega
   obtain ⟨T,hT⟩:∃ T:qb,Hid (({ t0 with disk:=ts }:qb)=T):=⟨_,rfl⟩;have sT:T.shape:=by rw [← hT.out];exact ⟨hts.out.1,hts.out.2.1⟩
   have bT:Box wr BO T.cells 59:=by
    have e0:t0.disk.drop 8=[]:=qe5 (by rw [DZ.out.1];exact qcN _);rw [e0,qcZ] at c1;rw [← hT.out];exact c1
   have HV:Hid (T.v=e.v):=by rw [Hid,← hT.out];exact HT0.out ts (by rw [hts.out.2.2,← DZ.out.2,qfE])
   have oT:T.own wr W.heap.size wr.heap.size:=by
    rw [← hT.out];exact qct ot hown (by omega) QF qg
   have bR:=Ur.out _ hnx;obtain ⟨WF,qK,hwF,q8,jI,bF⟩:=zq sT sZ bR;have FB:Hid (_=_):=Xf sT bF;have rT:wr.rangeAt BO 0 T.cells:=qN bT;have qdA:Hid (T.own WF w.heap.size WF.heap.size∧qa w WF):=⟨(oT.within hwF (.inr (by omega))).widen (by omega) (by omega) qg,(jr.out _ hnx).trans (hwF.below (by omega) (by have:=hnx.size;omega))⟩;have HI:=j6 sT;have HO:=qaf (QD T);clear hwF q8 bF oT bT bR c1 hown ot hts hT;go_wp2_with (first | (guard_target=qp 36;refine qH 59 3 BO 0 (T.cells) rT underlying59 HI ?_) | (guard_target=ja 2;refine jb 59 2 36 (w.heap.size+1) 0 (T.cells).toArray jI.out (jG HI) HO ?_) | fail);rw [qK.out];exact qa3 (v:=.agg T.cells.toArray) (jQ results21 rfl FB.out) rfl ⟨T,rfl,sT,HV,qdA.out.1,qdA.out.2⟩
end Go.Proofs.YtnfdccldabbobaaGreatDoor
