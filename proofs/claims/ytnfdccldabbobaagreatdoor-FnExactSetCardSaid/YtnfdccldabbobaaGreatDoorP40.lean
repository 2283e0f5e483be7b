/- Texts. -/
import Derived.Test.YtnfdccldabbobaaGreatDoorP34
import Derived.Test.YtnfdccldabbobaaGreatDoorP39
import Derived.Test.YtnfdccldabbobaaGreatDoorP38
import Derived.Test.YtnfdccldabbobaaGreatDoorP37
set_option maxHeartbeats 8000000
set_option maxRecDepth 100000
namespace Go.Proofs.YtnfdccldabbobaaGreatDoor
open Go.RowKit Go.Proofs.Tryz
theorem pK {e:qR} (h:jF e=true):okPool e.j4=true:=by
 unfold jF at h;simp only [qam] at h;exact h.2.1
theorem MU {e:qR} (h:jF e=true) {n:Nat} (h8:n<8):xZ (e.disk.getD n (0,[])).1 (e.disk.getD n (0,[])).2=true∨¬ n<e.disk.length:=by
 unfold jF uJ at h;simp only [qam] at h;have h1:=Xx h.2.2.2.2.2.1 n h8;unfold wW at h1;simp only [qam] at h1;by_cases hn:n<e.disk.length
 ·refine .inl ?_;have e1:e.disk.getD n Gm=e.disk.getD n (0,[]):=by simp [List.getD,hn]
  rw [← e1];exact h1.1
 ·exact .inr hn
theorem VW {e:qR} (h:jF e=true) (hd:e.disk.length=8) {n:Nat} (h8:n<8):ko e n=(qJ e n,qG (qJ e n).seats n):=by
 have hp:=pK h;have XC:xZ (e.disk.getD n (0,[])).1 (e.disk.getD n (0,[])).2=true:=(MU h h8).resolve_right (fun q=>q (by omega));unfold ko qJ;by_cases hs:0≤qG e.seats n
 ·rw [qan hs,qan hs];have hu:yP e.j4 n=yj e.j4 (qG e.seats n).toNat JX:=by
   unfold yP;rw [qan (show 0≤qG e.j4.seats n from hs)];rfl
  rw [hu];unfold yj;refine Prod.ext rfl ?_;show qG e.seats n=qG (e.seats.set _ _) n;exact YS (n:Int) (VV e.seats (qG e.seats n).toNat (JX (e.seats.getD (qG e.seats n).toNat qy)) rfl).symm
 ·rw [qa2 hs,qa2 hs];have hm:xC e.j4 n (e.disk.getD n (0,[])).1 (e.disk.getD n (0,[])).2=true:=dP hp (by simp only [inB,qcB];omega) XC (by show qG e.seats n<0;omega);unfold Qn zb;rw [qan hm];show (_,_)=(_,_);have e1:e.j4.seats=e.seats:=rfl;have e2:e.j4.hand=e.hand:=rfl;rw [e1,e2];obtain ⟨us,hh,old,went,hb⟩:∃ us hh old went,kY e.seats e.hand.toNat ⟨n,(e.disk.getD n (0,[])).1,(e.disk.getD n (0,[])).2,false,true⟩=(us,hh,old,went):=⟨_,_,_,_,rfl⟩;have hw:went=false→old.dirty=false:=fun q=>by
   subst q;unfold kY at hb;split at hb
   ·have:=qcz (fun x=>x.2.2.1) hb;simp only at this;rw [← this];rfl
   ·have:=qcz (fun x=>x.2.2.2) hb;simp at this
  simp only [hb];cases went with
  | false=>simp only [hw rfl];simp
  | true=>simp
theorem SA {t e:qb} {n:Nat} (h:t.v=(ko e.v n).1) (hp:e.v.zZ) (he:e.short 1048576):t.short 1048576:=by
 obtain ⟨m,hm⟩:∃ m:Nat,Hid ((1048576:Nat)=m):=⟨1048576,rfl⟩;have hm3:3≤m:=by have:=hm.out;omega
 rw [hm.out] at he ⊢;clear hm;have hzs:∀ k,∀ x∈(e.v.seats.getD k qy).ss,x.o.ints.length≤m∧x.o.refs.length≤m:=fun k x hx=>by
  rw [List.getD] at hx;cases hg:e.v.seats[k]? with
  | none=>
   rw [hg] at hx;simp only [Option.getD_none,qy] at hx;simp [qi,qh.v,qh.ss,qw] at hx;rw [hx];exact ⟨qaw _,qaw _⟩
  | some s=>rw [hg] at hx;exact Ji he s (List.mem_of_getElem? hg) x hx
 have hzd:∀ x∈(e.v.disk.getD n (0,[])).2,x.o.ints.length≤m∧x.o.refs.length≤m:=fun x hx=>by
  rw [List.getD] at hx;cases hg:e.v.disk[n]? with
  | none=>rw [hg] at hx;simp at hx
  | some p=>rw [hg] at hx;exact Xg he p (List.mem_of_getElem? hg) x hx
 obtain ⟨r1,r2,r3,r4⟩:=VX e.v n;have q4:t.v.log.recs=e.v.log.recs:=by rw [h];exact r3
 have q5:t.txs=e.txs:=by have:=qcz qR.txs h;rw [r1] at this;exact this
 have q6:t.holds=e.holds:=by have:=qcz qR.holds h;rw [r2] at this;exact this
 have hr:t.log.recs.map ql.v=e.log.recs.map ql.v:=q4;have TY:t.log.short m:=⟨by rw [YT hr];exact he.log.len,Fg hr (fun r=>r.short m) (fun a b e hb=>Go.Proofs.YtnfdccldabbobaaGreatDoor.xq e hb) he.log.each⟩;have hsl:e.v.seats.length≤m:=by have h5:e.seats.length≤m:=he.pool.len;simpa [qb.v] using h5
 unfold ko at h;by_cases hs:0≤qG e.v.seats n
 ·rw [qan hs] at h;have q1:t.v.disk=e.v.disk:=(qcz qR.disk h).trans rfl;have q2:t.v.seats=e.v.seats.set (qG e.v.seats n).toNat (Am (e.v.seats.getD (qG e.v.seats n).toNat qy)):=qcz qR.seats h;refine XK (by rw [q1];exact Xg he) (by rw [q2,qcP];exact hsl) (by
   rw [q2];intro s hs';rcases qcV hs' with q | q
   ·exact Ji he s q
   ·rw [q];exact hzs _) TY (by rw [q5];exact he.txs) (by rw [q6];exact he.holds)
 ·rw [qa2 hs] at h;obtain ⟨hd,hhd,Bu⟩:=hp.hand;have hh:e.v.hand.toNat=hd:=by rw [hhd];rfl
  rw [hh] at h;obtain ⟨us,hh',old,went,hb⟩:∃ us hh old went,kY e.v.seats hd ⟨n,(e.v.disk.getD n (0,[])).1,(e.v.disk.getD n (0,[])).2,false,true⟩=(us,hh,old,went):=⟨_,_,_,_,rfl⟩;have hmem:=WM e.v.seats hd ⟨n,(e.v.disk.getD n (0,[])).1,(e.v.disk.getD n (0,[])).2,false,true⟩;have hl3:us.length≤3:=by
   have:=WN e.v.seats hd ⟨n,(e.v.disk.getD n (0,[])).1,(e.v.disk.getD n (0,[])).2,false,true⟩ hp.len;rw [hb] at this;exact this
  have P7:∀ s∈us,∀ x∈s.ss,x.o.ints.length≤m∧x.o.refs.length≤m:=fun s hs' x hx=>by
   rw [hb] at hmem;rcases hmem s hs' with q | ⟨s0,h0,_,q⟩
   ·rw [q] at hx;exact hzd x hx
   ·rw [q] at hx;exact Ji he s0 h0 x hx
  have hold:went=true→∀ x∈old.ss,x.o.ints.length≤m∧x.o.refs.length≤m:=fun q x hx=>by
   have g1:=Zl e.v.seats hd ⟨n,(e.v.disk.getD n (0,[])).1,(e.v.disk.getD n (0,[])).2,false,true⟩ (by rw [hb];exact q) Bu;rw [hb] at g1;obtain ⟨s0,h0,_,g2⟩:=g1;have g3:old.ss=s0.ss:=g2;rw [g3] at hx;exact Ji he s0 h0 x hx
  rw [hb] at h;simp only at h;by_cases hw:went=true∧old.dirty=true
  ·rw [qan hw] at h;have q1:t.v.disk=e.v.disk.set old.no.toNat (old.lsn,old.ss):=qcz qR.disk h;have q2:t.v.seats=us:=qcz qR.seats h;exact XK (by rw [q1];exact Ao (Xg he) (hold hw.1)) (by rw [q2];omega) (by rw [q2];exact P7) TY (by rw [q5];exact he.txs) (by rw [q6];exact he.holds)
  ·rw [qa2 hw] at h;have q1:t.v.disk=e.v.disk:=(qcz qR.disk h).trans rfl;have q2:t.v.seats=us:=qcz qR.seats h;exact XK (by rw [q1];exact Xg he) (by rw [q2];omega) (by rw [q2];exact P7) TY (by rw [q5];exact he.txs) (by rw [q6];exact he.holds)
theorem Z4 {e:qb} (se:e.shape) (h:jF e.v=true) (he:e.short 1048576) {n:Nat} (h8:n<8):(∃ k:Nat,k<(qJ e.v n).seats.length∧qG (qJ e.v n).seats n=k)∧Hid (∀ t:qb,t.v=qJ e.v n→t.short 1048576):=by
 have hp:=Yi se h he;have hs:=VW h (by show (e.disk.map _).length=8;rw [qa4];exact se.eight) h8;obtain ⟨k,h1,h2,_⟩:=VY e.v hp n;rw [hs] at h1 h2;exact ⟨⟨k,h2,h1⟩,fun t ht=>SA (by rw [hs];exact ht) hp he⟩
theorem SB {p:jM} {x:q9} (hp:okPool p=true) (hl:p.seats.length<3) (hb:yM x=true) (hn:∀ j,j<p.seats.length→(p.seats.getD j qy).no≠x.no):okPool ⟨p.seats++[x],p.hand⟩=true:=by
 obtain ⟨h1,h2,h3⟩:=uj hp;have hg:∀ j,j<p.seats.length→(p.seats++[x]).getD j qy=p.seats.getD j qy:=fun j hj=>by simp [List.getD,List.getElem?_append_left hj]
 have hx:(p.seats++[x]).getD p.seats.length qy=x:=by simp [List.getD]
 have hL:(p.seats++[x]).length=p.seats.length+1:=by simp
 refine KC (by show (p.seats++[x]).length≤3;omega) h2 (fun k hk=>?_);have hk':k<(p.seats++[x]).length:=hk;show yH (p.seats++[x]) k=true;by_cases q:k<p.seats.length
 ·obtain ⟨g1,g2⟩:=JM q (h3 k q);exact Zv hk' (by rw [hg k q];exact g1) (fun i hi=>by rw [hg i (by omega),hg k q];exact g2 i hi)
 ·obtain rfl:k=p.seats.length:=by omega
  exact Zv hk' (by rw [hx];exact hb) (fun i hi=>by rw [hg i hi,hx];exact hn i hi)
theorem set_self {ls:List q9} {j:Nat} (hj:j<ls.length):ls.set j (ls.getD j qy)=ls:=by
 simp [List.getD,hj]
structure Vw (e:qR) (n:Nat) (L:Int) (s:q9) (j:Nat):Prop where
 pool:okPool e.j4=true
 lt:j<e.seats.length
 at':qG e.seats n=(j:Int)
 is:e.seats.getD j qy=s
 no:s.no=(n:Int)
 okp:xZ s.lsn s.ss=true
 low:s.lsn≤L
 hot:s.hot=true
 four:s.ss.length=4
theorem Fh {e:qb} (se:e.shape):(∀ s∈e.v.seats,s.ss.length=4)∧∀ p∈e.v.disk,p.2.length=4:=by
 refine ⟨fun s hs=>?_,fun p hp=>?_⟩
 ·obtain ⟨t,_,rfl⟩:=qdn.1 hs;rfl
 ·obtain ⟨t,ht,rfl⟩:=qdn.1 hp;show (t.ss.map _).length=4;rw [qa4];exact se.four t ht
theorem SC {e:qR} (h:jF e=true) (hd:e.disk.length=8) (h4s:∀ s∈e.seats,s.ss.length=4) (h4d:∀ p∈e.disk,p.2.length=4) {n:Nat} (h8:n<8):∃ s j,Vw (qJ e n) n e.log.recs.length s j:=by
 have hp:=pK h;have XC:xZ (e.disk.getD n (0,[])).1 (e.disk.getD n (0,[])).2=true:=(MU h h8).resolve_right (fun q=>q (by omega));have hsu:=GY h;have hall:=h;unfold jF uJ vI at hall;simp only [qam] at hall;have hdl:(e.disk.getD n (0,[])).1≤(e.log.recs.length:Int):=by
  have h1:=Xx hall.2.2.2.2.2.1 n h8;unfold wW at h1;simp only [qam,qcB] at h1;have e1:e.disk.getD n Gm=e.disk.getD n (0,[]):=by simp [List.getD,show n<e.disk.length by omega]
  rw [e1] at h1;omega
 have hd4:(e.disk.getD n (0,[])).2.length=4:=h4d _ (by
  have:n<e.disk.length:=by omega
  simp [List.getD,this])
 by_cases hs:0≤qG e.seats n
 ·have hf:qJ e n={ e with seats:=(yP e.j4 n).seats,hand:=(yP e.j4 n).hand }:=by rw [qJ,qan hs]
  rcases Qp e.seats n with ⟨j,hj,hno,_,hsj⟩ | ⟨_,q⟩
  ·have hu:yP e.j4 n=yj e.j4 j JX:=by
    unfold yP;rw [qan (show 0≤qG e.j4.seats n from hs)];show yj e.j4 (qG e.seats n).toNat JX=_;rw [hsj,qcU]
   have hb:yM (e.seats.getD j qy)=true:=(JM hj ((uj hp).2.2 j hj)).1;have hb':=hb;unfold yM at hb';simp only [qam] at hb';have hok:=Ah (p:=e.j4) (k:=j) (f:=JX) hp hj rfl hb;have hlow:=Xx hall.2.2.2.2.2.2.1 j hj;unfold wC at hlow;simp only [qam,qcB] at hlow;have hmem:e.seats.getD j qy∈e.seats:=by simp [List.getD,hj]
   rw [hf,hu];refine ⟨JX (e.seats.getD j qy),j,hok,?_,?_,?_,hno,hb'.2,hlow.1,rfl,(h4s (e.seats.getD j qy) hmem:_)⟩
   ·show j<(e.seats.set j _).length;rw [qcP];exact hj
   ·show qG (e.seats.set j _) n=_;rw [← hsj];exact YS (n:Int) (VV e.seats j (JX (e.seats.getD j qy)) rfl)
   ·show (e.seats.set j _).getD j qy=_;rw [Zx _ _ _ _ hj,qan rfl];rfl
  ·omega
 ·have hm:xC e.j4 n (e.disk.getD n (0,[])).1 (e.disk.getD n (0,[])).2=true:=dP hp (by simp only [inB,qcB];omega) XC (by show qG e.seats n<0;omega);have hno:∀ j,j<e.seats.length→(e.seats.getD j qy).no≠(n:Int):=by
   rcases Qp e.seats n with ⟨j,_,_,_,q⟩ | ⟨q,_⟩
   ·omega
   ·exact q
  obtain ⟨pl,old,went,hb⟩:∃ pl old went,zb e.j4 n (e.disk.getD n (0,[])).1 (e.disk.getD n (0,[])).2=(pl,old,went):=⟨_,_,_,rfl⟩;have hf:(qJ e n).seats=pl.seats∧(qJ e n).hand=pl.hand:=by
   rw [qJ,qa2 hs];unfold Qn;simp only [hb];split<;>exact ⟨rfl,rfl⟩
  have hpv:(qJ e n).j4=pl:=by
   show (⟨(qJ e n).seats,(qJ e n).hand⟩:jM)=pl;rw [hf.1,hf.2]
  have key:okPool pl=true∧∃ j,j<pl.seats.length∧qG pl.seats n=(j:Int)∧pl.seats.getD j qy=⟨n,(e.disk.getD n (0,[])).1,(e.disk.getD n (0,[])).2,false,true⟩:=by
   cases went with
   | true=>
    obtain ⟨_,_,j,_,hj,_,hsj,hg,_,hok,hl,_⟩:=rO hb;exact ⟨hok,j,by omega,hsj,hg⟩
   | false=>
    rw [zb,qan hm,kY] at hb;split at hb
    case isFalse=>simp at hb
    case isTrue hl=>
     have hpl:=(Prod.mk.inj hb).1.symm;have hh:((e.j4.hand.toNat:Nat):Int)=e.j4.hand:=by
      have:=(uj hp).2.1;rw [Pv] at this;omega
     simp only [hh] at hpl;have hsb:yM ⟨n,(e.disk.getD n (0,[])).1,(e.disk.getD n (0,[])).2,false,true⟩=true:=by
      have hn7:inB (n:Int) 0 7=true:=by simp only [inB,qcB];omega
      simp only [yM,hn7,XC,Bool.and_self]
     have hok:=SB (p:=e.j4) hp hl hsb hno;rw [hpl];have hg:∀ j,j<e.seats.length→(e.seats++[(⟨n,(e.disk.getD n (0,[])).1,(e.disk.getD n (0,[])).2,false,true⟩:q9)]).getD j qy=e.seats.getD j qy:=fun j hj=>by simp [List.getD,List.getElem?_append_left hj]
     have hx:(e.seats++[(⟨n,(e.disk.getD n (0,[])).1,(e.disk.getD n (0,[])).2,false,true⟩:q9)]).getD e.seats.length qy=⟨n,(e.disk.getD n (0,[])).1,(e.disk.getD n (0,[])).2,false,true⟩:=by simp [List.getD]
     refine ⟨hok,e.seats.length,?_,Zu ?_ ?_ (fun i hi=>?_),hx⟩
     ·show _<(e.seats++[_]).length;simp
     ·show _<(e.seats++[_]).length;simp
     ·exact (qcz q9.no hx).trans rfl
     ·show ((e.seats++[_]).getD i qy).no≠_;rw [hg i hi];exact hno i hi
  obtain ⟨hok,j,hj,hsj,hg⟩:=key;exact ⟨⟨n,(e.disk.getD n (0,[])).1,(e.disk.getD n (0,[])).2,false,true⟩,j,⟨by rw [hpv];exact hok,by rw [hf.1];exact hj,by rw [hf.1];exact hsj,by rw [hf.1];exact hg,rfl,XC,hdl,rfl,hd4⟩⟩
theorem Z5 {e:qR} {n:Nat} {L:Int} {s:q9} {j:Nat} (h:Vw e n L s j):qJ e n=e∧ko e n=(e,(j:Int)):=by
 have h0:0≤qG e.seats n:=by rw [h.at'];omega
 have hs:{ s with hot:=true }=s:=by
  obtain ⟨a,b,c,d,hh⟩:=s;have:=h.hot;simp only at this;rw [this]
 have hset:e.seats.set j s=e.seats:=by
  rw [← h.is];exact set_self h.lt
 constructor
 ·rw [qJ,qan h0];unfold yP;rw [qan (show 0≤qG e.j4.seats n from h0)];have e1:(yj e.j4 (qG e.j4.seats n).toNat JX)=e.j4:=by
   have e2:qG e.j4.seats n=(j:Int):=h.at';unfold yj JX;rw [e2,qcU];have e3:e.j4.seats.getD j qy=s:=h.is;rw [e3,hs];show (⟨e.seats.set j s,e.hand⟩:jM)=e.j4;rw [hset];rfl
  rw [e1];rfl
 ·rw [ko,qan h0,h.at',qcU,h.is];unfold Am;rw [hs,hset]
theorem WO {e:qR} {k o:Nat} {x:qO} {L:Int} {s:q9} {j:Nat} (h:Vw (qJ e (o / 4)) (o / 4) L s j):Vw (wS e k o x) (o / 4) L s j:=⟨h.pool,h.lt,h.at',h.is,h.no,h.okp,h.low,h.hot,h.four⟩
theorem VZ {e:qR} {o:Nat} {L:Int} {s:q9} {j:Nat} (h:Vw e (o / 4) L s j):QE e o=s.ss.getD (o % 4) ⟨false,⟨0,[],[]⟩⟩:=by
 unfold QE;rw [h.at',qcU,h.is]
theorem qb3 {n:Int} {ss:List qO} (h:xZ n ss=true) (i:Nat) (hi:i<ss.length) (d:qO):qL (ss.getD i d)=true:=by
 unfold xZ at h;simp only [qam,qdt] at h;exact h.1 _ (by simp [List.getD,hi])
theorem qee {n m:Int} {ss:List qO} {x:qO} (h:xZ n ss=true) (i:Nat) (hx:qL x=true) (hm:0≤m∧m≤1000000):xZ m (ss.set i x)=true:=by
 unfold xZ at h ⊢;simp only [qam,qdt] at h ⊢;refine ⟨fun y hy=>?_,by simp only [inB,qcB];exact hm⟩;rcases qcV hy with q | q
 ·exact h.1 y q
 ·rw [q];exact hx
structure Qs (e:qR) (tx:Int) (k o:Nat) (x:qO) (s:q9) (j:Nat):Prop where
 seat:Vw (qJ e (o / 4)) (o / 4) e.log.recs.length s j
 again:ko e (o / 4)=(qJ e (o / 4),(j:Int))
 len:e.log.recs.length≤3990
 one:1≤o∧o<32
 lt:k<e.txs.length
 tx':(e.txs.getD k qz).tx=tx
 live:jC e.txs tx=(k:Int)
 txb:1≤tx∧tx≤1000
 last:0≤(e.txs.getD k qz).last∧(e.txs.getD k qz).last≤e.log.recs.length
 slot:qL x=true
theorem set_good {e:qR} (h:jF e=true) (hd:e.disk.length=8) (h4s:∀ s∈e.seats,s.ss.length=4) (h4d:∀ p∈e.disk,p.2.length=4) (hl:e.log.recs.length≤3990) {o k:Nat} {x:qO} (h1:1≤o) (h32:o<32) (hk:k<e.txs.length) (hlv:jC e.txs (e.txs.getD k qz).tx=(k:Int)) (hx:qL x=true):∃ s j,Qs e (e.txs.getD k qz).tx k o x s j:=by
 obtain ⟨s,j,hs⟩:=SC h hd h4s h4d (n:=o / 4) (by omega);have hm:e.txs.getD k qz∈e.txs:=by
  have:e.txs.getD k qz=e.txs[k]:=by simp [List.getD,hk]
  rw [this];exact qdw hk
 obtain ⟨q1,q2,_,_,q3,q4⟩:=GZ h _ hm;refine ⟨s,j,hs,?_,hl,⟨h1,h32⟩,hk,rfl,hlv,⟨q1,q2⟩,⟨q3,q4⟩,hx⟩;rw [VW h hd (by omega),hs.at']
theorem Qs.Oz {e:qR} {tx:Int} {k o:Nat} {x:qO} {s:q9} {j:Nat} (g:Qs e tx k o x s j):xx (vW (wX e k o x) ((e.log.recs.length:Int)+1))=true:=by
 have hl:=g.len;have hb:=g.txb;have hla:=g.last;have ho:=g.one;have a1:inB ((e.log.recs.length:Int)+1) 1 1000000=true:=by simp only [inB,qcB];omega
 have a2:qL (QE (qJ e (o / 4)) o)=true:=by rw [VZ g.seat];exact qb3 g.seat.okp _ (by rw [g.seat.four];omega) _
 have a3:=g.slot;have a4:inB (e.txs.getD k qz).tx 1 1000=true:=by rw [g.tx'];simp only [inB,qcB];omega
 have a5:inB (e.txs.getD k qz).last 0 ((e.log.recs.length:Int)+1-1)=true:=by simp only [inB,qcB];omega
 have a6:inB (o:Int) 1 31=true:=by simp only [inB,qcB];omega
 simp only [xx,vW,wX,a1,a2,a3,a4,a5,a6];rfl
theorem Qs.qb4 {e:qR} {tx:Int} {k o:Nat} {x:qO} {s:q9} {j:Nat} (g:Qs e tx k o x s j):
  redoOk s.lsn s.ss (vW (wX e k o x) ((e.log.recs.length:Int)+1))=true∧zP s.lsn s.ss (vW (wX e k o x) ((e.log.recs.length:Int)+1))=((e.log.recs.length:Int)+1,s.ss.set (o % 4) x):=by
 have hlow:=g.seat.low;have h1:redoOk s.lsn s.ss (vW (wX e k o x) ((e.log.recs.length:Int)+1))=true:=by
  unfold redoOk;rw [g.seat.okp,g.Oz];have:decide (s.lsn<(vW (wX e k o x) ((e.log.recs.length:Int)+1)).lsn)=true:=by
   show decide (s.lsn<(e.log.recs.length:Int)+1)=true;simp only [qcB];omega
  rw [this];rfl
 refine ⟨h1,?_⟩;rw [Ap h1];show ((e.log.recs.length:Int)+1,s.ss.set ((o:Int) % 4).toNat x)=_;rw [show ((o:Int) % 4).toNat=o % 4 by omega]
theorem Qs.apply {e:qR} {tx:Int} {k o:Nat} {x:qO} {s:q9} {j:Nat} (g:Qs e tx k o x s j):
  setR e k o x={ wS e k o x with seats:=(qJ e (o / 4)).seats.set j ⟨(o / 4:Nat),(e.log.recs.length:Int)+1,s.ss.set (o % 4) x,true,true⟩ }:=by
 have hs2:=WO (k:=k) (x:=x) g.seat;obtain ⟨f1,_⟩:=Z5 hs2;have hl:=g.len;have hm:yI (wS e k o x).j4 (o / 4:Nat) ((e.log.recs.length:Int)+1) (s.ss.set (o % 4) x)=true:=by
  unfold yI;have e1:qG (wS e k o x).j4.seats (o / 4:Nat)=(j:Int):=hs2.at';have e2:(wS e k o x).j4.seats.getD j qy=s:=hs2.is;have hlow:=g.seat.low;rw [hs2.pool,e1,qcU,e2,qee g.seat.okp _ g.slot ⟨by omega,by omega⟩];simp only [qfH,qam,qcB];omega
 unfold setR WQ;simp only [f1];have e3:uL (wS e k o x) (o / 4)=s:=by
  unfold uL;rw [hs2.at',qcU,hs2.is]
 rw [e3,g.qb4.2];simp only [H9 hm hs2.at'];rfl
theorem OA {e:qb} (se:e.shape) (h:jF e.v=true) (he:e.short 1048576) {tx:Int} {k o:Nat} {x:qO} {s:q9} {j:Nat} (g:Qs e.v tx k o x s j) (hx:x.o.ints.length≤1048576∧x.o.refs.length≤1048576):MV e.v k o x:=by
 have hs2:=WO (k:=k) (x:=x) g.seat;obtain ⟨f1,_⟩:=Z5 hs2;have hd:e.v.disk.length=8:=by show (e.disk.map _).length=8;rw [qa4];exact se.eight
 have h8:o / 4<8:=by have:=g.one;omega
 have hfs:=VW h hd h8;have hp1:(qJ e.v (o / 4)).zZ:=by
  have:=Fj e.v (Yi se h he) (o / 4) h8;rw [hfs] at this;exact this
 have hsh:=(Z4 se h he h8).2;obtain ⟨f2,f3,f4⟩:=Xp e.v (o / 4);have hL:e.v.log.recs.length=e.log.recs.length:=by simp [qb.v,qI.v]
 have hshort:∀ t:qb,t.v=wS e.v k o x→t.short 1048576:=fun t ht=>by
  have q1:t.v.disk=(qJ e.v (o / 4)).disk:=(qcz qR.disk ht).trans rfl;have q2:t.v.seats=(qJ e.v (o / 4)).seats:=(qcz qR.seats ht).trans rfl;have q3:t.v.log.recs=e.v.log.recs++[vW (wX e.v k o x) (((qJ e.v (o / 4)).log.recs.length:Int)+1)]:=by
   have:=qcz (fun z:qR=>z.log.recs) ht;rw [← f3];exact this
  have q4:t.txs.length=e.txs.length:=by
   have:t.txs=e.v.txs.set k _:=qcz qR.txs ht;rw [this,qcP];rfl
  have q5:t.holds=e.holds:=by
   have:t.holds=(qJ e.v (o / 4)).holds:=qcz qR.holds ht;rw [this,f4];rfl
  obtain ⟨b,hb⟩:∃ b:qb,b.v=qJ e.v (o / 4):=by
   refine ⟨{ t with log:={ t.log with recs:=t.log.recs.take e.log.recs.length },txs:=e.txs },?_⟩;have g1:({ t with log:={ t.log with recs:=t.log.recs.take e.log.recs.length },txs:=e.txs }:qb).v={ t.v with log:=⟨t.v.log.recs.take e.log.recs.length,t.v.log.sure⟩,txs:=e.v.txs }:=by
    simp only [qb.v,qI.v,List.map_take]
   rw [g1,q3,List.take_left' hL,ht,← f2,← f3];rfl
  have hsb:=hsh.out b hb;have d1:b.v.disk=t.v.disk:=by rw [q1,hb]
  have d2:b.v.seats=t.v.seats:=by rw [q2,hb]
  refine XK (by rw [← d1];exact Xg hsb) (by rw [← d2];have h5:b.seats.length≤1048576:=hsb.pool.len;simpa [qb.v] using h5) (by rw [← d2];exact Ji hsb) (aQ ?_ ?_) (by rw [q4];exact he.txs) (by rw [q5];exact he.holds)
  ·rw [q3];have:=g.len;simp only [qai,qcS,qdo];omega
  ·rw [q3];intro r hr;rcases qaa.1 hr with q | q
   ·exact MW he r q
   ·rw [qac.1 q];refine ⟨?_,hx,qaw _⟩;show (QE (qJ e.v (o / 4)) o).o.ints.length≤1048576∧(QE (qJ e.v (o / 4)) o).o.refs.length≤1048576;rw [VZ g.seat];have hm:s∈b.v.seats:=by
     rw [hb,← g.seat.is];have:=g.seat.lt;simp [List.getD,this]
    refine Ji hsb s hm _ ?_;have:o % 4<s.ss.length:=by rw [g.seat.four];omega
    simp [List.getD,this]
 have hfit:Gq s.ss:=by
  rw [← g.seat.is];exact hp1.fitS _ (by have:=g.seat.lt;simp [List.getD,this])
 refine ⟨g.Oz,fun t ht _=>⟨by rw [ht];exact ⟨hp1.len,hp1.hand,hp1.nos,hp1.fitS,hp1.eight,hp1.fitD⟩,hshort t ht⟩,⟨j,by rw [f1];exact hs2.lt,by rw [f1];exact hs2.at'⟩,fun t ht=>hshort t (by rw [← f1];exact ht),?_⟩;have e3:uL (qJ (wS e.v k o x) (o / 4)) (o / 4)=s:=by
  unfold uL;rw [f1,hs2.at',qcU,hs2.is]
 refine ⟨((e.v.log.recs.length:Int)+1,s.ss.set (o % 4) x),⟨by rw [e3];exact g.qb4.2,by rw [e3];exact g.qb4.1⟩,by rw [Hid,qcP];exact g.seat.four,fun y hy=>?_⟩;rcases qcV hy with q | q
 ·exact hfit y q
 ·rw [q];exact ⟨qcx hx.1 (by decide),qcx hx.2 (by decide)⟩
theorem Qs.same {e:qR} {tx:Int} {k o:Nat} {x:qO} {s:q9} {j:Nat} (g:Qs e tx k o x s j):
  { setR e k o x with holds:=if jo o e.holds=0 then e.holds++[⟨tx,o⟩] else e.holds }=J7 e tx o x:=by
 have hs2:=WO (k:=k) (x:=x) g.seat;obtain ⟨_,f2⟩:=Z5 hs2;obtain ⟨r1,r2,r3⟩:=Xp e (o / 4);have hlv:=g.live;have e2:KJ (qJ e (o / 4)) (Zy tx (e.txs.getD k qz).last o (((qJ e (o / 4)).seats.getD j qy).ss.getD (o % 4) ⟨false,⟨0,[],[]⟩⟩) x)=wS e k o x:=by
  rw [g.seat.is,← VZ g.seat];unfold KJ wS NK V3;have h0:0≤jC (qJ e (o / 4)).txs tx:=by rw [r1,hlv];omega
  have e1:(Zy tx (e.txs.getD k qz).last o (QE (qJ e (o / 4)) o) x).tx=tx:=rfl;rw [e1,qan h0,r1,hlv,qcU,r2];have e4:wX e k o x=Zy tx (e.txs.getD k qz).last o (QE (qJ e (o / 4)) o) x:=by
   unfold wX Zy;rw [g.tx']
  rw [e4];rfl
 have Aq:(wS e k o x).seats.getD j qy=s:=hs2.is;have e3:Jj (wS e k o x) o x ((e.log.recs.length:Int)+1)=setR e k o x:=by
  rw [g.apply];unfold Jj;simp only [f2,qcU,Aq];unfold Gr;rw [g.seat.no,g.seat.hot];rfl
 unfold J7;simp only [g.again,hlv,qcU,e2,e3];have e5:(setR e k o x).holds=e.holds:=by
  rw [g.apply];exact r3
 rw [e5];by_cases q:jo o e.holds=0
 ·rw [qan q,qan q]
 ·rw [qa2 q,qa2 q,← e5]
def xQ (e:qR) (tx oid:Int) (x:qO):qR × Int:=
 if kz e (inB oid 1 31 && qL x)≠0 then (e,kz e (inB oid 1 31 && qL x))
 else if jC e.txs tx= -1 then (e,2)
 else if jo oid e.holds≠0∧jo oid e.holds≠tx then (e,3)
 else (J7 e tx oid.toNat x,0)
theorem WR {e:qR} (h:jF e=true) {k:Nat} (hk:k<e.txs.length):jC e.txs (e.txs.getD k qz).tx=(k:Int):=by
 have hs:=Be h;have:=pM (e.txs.getD k qz).tx e.txs 0 k hk rfl (fun i hi q=>by
  have hi':i<e.txs.length:=by omega
  have h1:=qfY.1 hs i k hi' hk hi;have e1:e.txs.getD i qz=e.txs[i]:=by simp [List.getD,hi']
  have e2:e.txs.getD k qz=e.txs[k]:=by simp [List.getD,hk]
  rw [e1,e2] at q;omega)
 rw [qeK] at this;exact this
theorem WT {e:qR} {a:Bool} (h:kz e a=0):a=true:=by
 cases a with
 | true=>rfl
 | false=>unfold kz at h;simp at h
theorem DN (hs:List qU) (k:Int):∀ n:Nat,(kg k (jf hs n)).place<(n:Int)∨xV k (jf hs n)=none
 | 0=>.inr rfl
 | n+1=>by
  by_cases q:k=(hs.getD n jy).oid
  ·refine .inl ?_;have e1:kg k (jf hs (n+1))=⟨(hs.getD n jy).oid,(hs.getD n jy).tx,(n:Int)⟩:=by
    unfold kg;rw [jf,uD,qan q];rfl
   rw [e1];show (n:Int)<_;omega
  ·have e1:xV k (jf hs (n+1))=xV k (jf hs n):=by rw [jf,uD,qa2 q]
   rcases DN hs k n with h | h
   ·refine .inl ?_;have e2:kg k (jf hs (n+1))=kg k (jf hs n):=by unfold kg;rw [e1]
    rw [e2];omega
   ·exact .inr (by rw [e1];exact h)
theorem MX {P:Prop} (h:P:=by
 rintro r w' ⟨D,rfl,sD,MZ,oD,N4⟩;exact ⟨D,rfl,sD,by rw [Hid,MZ.out,Fp];rfl,oD,N4⟩):P:=h
theorem SE (e t:qb) (tx:Int) (m M R:Nat) (s:qj) (w W d1 d2:World) (hv:t.v=e.v) (hl:e.short 1048576) (st:t.shape) (hok:jF e.v=true) (hlen:e.v.log.recs.length≤3800) (h1:1≤m) (h32:m<32) (hx:qL s.v=true) (hxs:s.v.o.ints.length≤1048576∧s.v.o.refs.length≤1048576) (rs:s.reads w) (hg:jR w) (hww:w.heap.size≤d1.heap.size) (N2:qa W d2) (mq:qa w W) (hW:W.heap.size≤d1.heap.size) (h12:d1.heap.size≤d2.heap.size)
  (ot:t.own d2 d1.heap.size M) (hMR:M<R) (hM:d1.heap.size≤M) (hm:MapAt d2 M (jf e.holds e.holds.length)) (bR:Box d2 R (zi t.cells M (e.holds.length:Int)) 137):
  Calls prog 39 #[.pointer (some ⟨R,0,none⟩),.int .i64 tx,.int .i64 (m:Int),.agg s.cells.toArray] d2 fun r d3=>∃ x:qR × Int,Hid (x=if jC e.txs tx= -1 then (e.v,2) else if jo m e.holds≠0∧jo m e.holds≠tx then (e.v,3) else (J7 e.v tx m s.v,0))∧r=.returned (.int .i64 x.2)∧
   Calls prog 40 #[.pointer (some ⟨R,0,none⟩)] d3 fun r w'=>∃ D:qb,r=.returned (.agg D.cells.toArray)∧D.shape∧Hid (D.v=x.1)∧D.own w' W.heap.size w'.heap.size∧qa W w':=by
 have V4:jF t.v=true:=by rw [hv];exact hok
 have hlt:=qb.xq hv hl;have hL:t.v.log.recs.length=t.log.recs.length:=by simp [qb.v,qI.v]
 have h38:t.v.log.recs.length≤3980:=by rw [hv];omega
 have hblk:=ot.qC;have hgw:=hg.lt;have hdt:t.v.disk.length=8:=by show (t.disk.map _).length=8;rw [qa4];exact st.eight
 have h8:m / 4<8:=by omega
 have hsu:t.log.sure≤t.log.recs.length:=by have:=GY V4;simpa [qb.v,qI.v] using this
 have hat:=qb5 st ot hMR bR;have hte:t.txs=e.txs:=Ar hv;have hth:t.holds=e.holds:=Pw hv;have h6:t.txs.length≤1000:=by have:=Io V4;have e1:t.v.txs=t.txs:=rfl;rw [e1] at this;omega
 have YU:=Z4 st V4 hlt h8;obtain ⟨M0,aU⟩:=Fh st;have hCO:ve (jf e.holds e.holds.length) e.holds:=ZM hok;have qmb:∀ X,X<d1.heap.size→Off R t X:=fun X hX=>⟨by omega,fun hk=>by have:=hblk _ hk;omega⟩
 have qcW:∀ k,k<t.txs.length→∃ sv j,Qs t.v (t.txs.getD k qz).tx k m s.v sv j:=fun k hk=>
  set_good V4 hdt M0 aU (by omega) h1 h32 hk (WR V4 hk) hx
 have HA:∀ k,k<t.txs.length→MV t.v k m s.v:=fun k hk=>by
  obtain ⟨sv,j,g⟩:=qcW k hk;exact OA st V4 hlt g hxs
 have hD:∀ u,Touch (R::t.blocks) d2 u→qa w u:=fun u hu=>by
  have q1:=qf mq N2;exact q1.trans ⟨hu.os,hu.tape,hu.output,hu.size,fun k hk=>hu.block k (by have:=q1.size;omega) (fun hq=>by
   rcases qcv.1 hq with q | q
   ·omega
   ·have:=(hblk k q).1;omega)⟩
 have hPL:∀ k,0≤(kg k (jf e.holds e.holds.length)).place∧(kg k (jf e.holds e.holds.length)).place≤1099511627776:=fun k=>by have:=tC e.holds k e.holds.length;have:=hl.holds;omega
 have hlH:=hl.holds;have hcl:=Fq hok h1 h32;have UF:e.v.holds=e.holds:=rfl;rw [UF] at hcl;refine (Au M (e.holds.length:Int) R t tx m s (jf e.holds e.holds.length) d2 hat (hg.keep (qf mq N2)) (qmb _ (by omega)) hm ⟨by omega,fun hk=>by have:=hblk _ hk;omega⟩ ⟨by omega,by omega⟩ (Yi st V4 hlt) hlt hsu h32 (by omega) h6
  (fun u hu=>jd.below rs (hD u hu)) hxs YU.1 YU.2 HA).mono ?_
 intro r d3 qga;unfold Vx at qga;have Fp:t.v=e.v:=hv;rcases qga with ⟨hn,rfl,hb⟩ | ⟨hn,hc,hne,rfl,hb⟩ | ⟨k,hk,hlv,hcx,rfl,s',n,hvs,sa,m3,tt,fr⟩
 ·refine ⟨(e.v,2),by rw [Hid,qan (by rw [← hte];exact hn)],rfl,(Xq W d1 d2 d3 M R _ _ e.holds t t ot hMR hM (hm.below hb) (hat.below hb) (Touch.of_below hb) (fun k hk=>.inl hk) hCO hPL N2 hW h12).mono ?_⟩;exact MX
 ·rcases hcl with ⟨q,_⟩ | ⟨_,q2,q3⟩
  ·rw [q] at hc;cases hc
  ·refine ⟨(e.v,3),by rw [Hid,qa2 (by rw [← hte];exact hn),qan ⟨by omega,by rw [q2];exact hne⟩],rfl,(Xq W d1 d2 d3 M R _ _ e.holds t t ot hMR hM (hm.below hb) (hat.below hb) (Touch.of_below hb) (fun k hk=>.inl hk) hCO hPL N2 hW h12).mono ?_⟩;exact MX
 ·obtain ⟨sv,j,g⟩:=qcW k hk;have htx:(t.txs.getD k qz).tx=tx:=XU tx t.txs 0 k hk (by rw [qeK];exact hlv);rw [htx] at g;have hsame:=g.same;have Av:t.v.holds=e.holds:=hth;rw [Av] at hsame;have hnl:¬ jC e.txs tx= -1:=by rw [← hte,hlv];omega
  have htb:=g.txb.1;rcases hcl with ⟨q1,q2,q3⟩ | ⟨q1,q2,q3⟩
  ·rw [qa2 (by rw [q1];decide)] at m3;refine ⟨(J7 e.v tx m s.v,0),by rw [Hid,qa2 hnl,qa2 (fun q=>q.1 q2)],rfl,?_⟩;refine (Xq W d1 d2 d3 M R n _ (e.holds++[⟨tx,m⟩]) t s' ot hMR hM m3 sa tt fr (hCO.put h1 h32 q3 (fun k=>DN e.holds k e.holds.length)) (OB hPL ⟨by show (0:Int)≤(e.holds.length:Int);omega,by show (e.holds.length:Int)≤_;omega⟩) N2 hW h12).mono ?_;rintro r w' ⟨D,rfl,sD,MZ,oD,N4⟩;refine ⟨D,rfl,sD,?_,oD,N4⟩;rw [qan q2] at hsame;rw [Hid,MZ.out,hvs.out,← Fp];exact hsame
  ·rw [qan q1] at m3;have hct:=hcx q1;refine ⟨(J7 e.v tx m s.v,0),by rw [Hid,qa2 hnl,qa2 (fun q=>q.2 (by rw [q2];exact hct))],rfl,?_⟩;refine (Xq W d1 d2 d3 M R n _ e.holds t s' ot hMR hM m3 sa tt fr hCO hPL N2 hW h12).mono ?_;rintro r w' ⟨D,rfl,sD,MZ,oD,N4⟩;refine ⟨D,rfl,sD,?_,oD,N4⟩;rw [qa2 (by omega)] at hsame;rw [Hid,MZ.out,hvs.out,← Fp];exact hsame
theorem M3 {P:Prop} (h:P:=by
 clear hb;refine qX hK (jY.out _ N2) fun qc=>?_
 clear hK K;try simp only [zz]
 refine jg 8 ?_;refine qau (by kernel_rfl) ?_ _;clear qc;go_wp2_with fail
 go_meet
 case rel=>exact ⟨by rw [HAB.out];rfl,N2⟩):P:=h
theorem JN (e:qb) (tx oid:Int) (s:qj) (se:e.shape) (w:World) (hg:jR w) (re:e.reads w) (hl:e.short 1048576) (hc:e.QU) (rs:s.reads w) (hxs:s.v.o.ints.length≤1048576∧s.v.o.refs.length≤1048576):
  Calls prog 9 #[.agg e.cells.toArray,.int .i64 tx,.int .i64 oid,.agg s.cells.toArray] w fun r w'=>OC (xQ e.v tx oid s.v) w r w':=by
 obtain ⟨Z,hZ⟩:=qV zeroE;have sZ:Z.shape:=by rw [← hZ.out];exact zT
 have HZ:=Tryz.Xh;rw [hZ.out] at HZ;obtain ⟨W,hW,b0,bS,bR,hbW,qD⟩:=yK w e.cells s.cells Z.cells 59 45 59;have HB:Hid (∀ u,qa W u→Box u w.heap.size e.cells 59∧Box u (w.heap.size+1) s.cells 45):=fun u hu=>⟨b0.below hu b0.lt,bS.below hu bS.lt⟩
 have Ur:Hid (∀ u,qa W u→Box u (w.heap.size+2) Z.cells 59):=fun u hu=>bR.below hu bR.lt
 have HR:Hid (∀ u,qa W u→e.reads u∧s.reads u):=fun u hu=>⟨(re.below hbW).below hu,jd.below rs (qf hbW hu)⟩
 have jr:Hid (∀ u,qa W u→qa w u):=fun u hu=>qf hbW hu
 have HG:Hid (∀ u,qa W u→jR u):=fun u hu=>hg.keep (qf hbW hu)
 have wK:Hid (s.reads w∧jR w∧qa w W):=⟨rs,hg,hbW⟩;have hw0:w.heap.size+2<W.heap.size:=by omega
 have N0:qa W W:=qab _ _;have M4:=j6 se;have jY:Hid (∀ u,qa W u→u.rangeAt w.heap.size 0 e.cells∧u.rangeAt (w.heap.size+1) 0 s.cells):=fun u hu=>⟨qN ((HB.out _ hu).1),qN ((HB.out _ hu).2)⟩
 have FIN:Hid (∀ (D:qb) (u:World),D.shape→qa W u→D.own u W.heap.size u.heap.size→∃ WF,Hid (u.setCells (w.heap.size+2) 0 D.cells.toArray.toList=WF)∧Hid (u.there (w.heap.size+2) 0 D.cells.toArray.size)∧Hid ((loadVar 59 ⟨w.heap.size+2,0,none⟩).run prog WF=.ok (.agg D.cells.toArray) WF)∧Hid (D.own WF w.heap.size WF.heap.size∧qa w WF)):=fun D u sD hu od=>by
  obtain ⟨WF,qK,hwF,q8,jI,bF⟩:=zq sD sZ (Ur.out u hu);exact ⟨WF,qK,jI,Xf sD bF,(od.within hwF (.inr (by omega))).widen (by omega) (by omega) qg,(jr.out _ hu).trans (hwF.below (by omega) (by have:=hu.size;omega))⟩
 have D0:qa W W.drew:=N0.drew;have C0:=Zc oid W.drew;have C5:=Jr s W.drew (HG.out _ D0) (HR.out _ D0).2 (fun x hx=>by rw [qac.1 hx];exact ⟨qcx hxs.1 (by decide),qcx hxs.2 (by decide)⟩);have HC7:Hid (∀ u,qa W u→∀ b,Calls prog 34 #[.agg e.cells.toArray,.bool b] u fun r w'=>r=.returned (.int .i64 (kz e.v b))∧qa u w'):=fun u hu b=>RJ e b se u (HG.out _ hu) (HR.out _ hu).1 hl
 clear b0 bS bR qD;go_enter func9,ntmps9;go_upto_region 1 with (first | (guard_target=wpList _ _ _ (Oper.mk _ (Op.alloc _) _ _ _ _::_) _ _;refine Qf 59 Z.cells HZ ?_) | fail);rw [hW.out];clear hW;obtain ⟨ab,HAB⟩:∃ ab,Hid (ab=(inB oid 1 31 && qL s.v)):=⟨_,rfl⟩
 go_cut [10] from 13 (fun a wx=>a=.int .i64 (kz e.v ab)∧qa W wx)
 case first=>
  refine qaZ (S:=fun u=>u.rangeAt w.heap.size 0 e.cells∧u.rangeAt (w.heap.size+1) 0 s.cells) (by kernel_rfl) (jY.out _ D0) (fun qc=>?_);generalize W.drew=d0 at*
  cases hi:inB oid 1 31 with
  | false=>
   rw [hi] at HAB;refine xB 0 (e.cells) (fun _ h=>h.1) underlying59 M4 ?_;refine jg 1 ?_;refine jc 2 (fun K hK=>?_);go_simp;refine C0.mono ?_;clear C0;rintro r dd ⟨rfl,rfl⟩;rw [hi];refine qX hK (jY.out _ D0) fun qc=>?_
   clear hK K ;try simp only [zz]
   iterate 4 refine jv ?_
   refine jc 7 (fun K hK=>?_);go_simp;refine (HC7.out _ D0 false).mono ?_;rintro r d2 ⟨rfl,hb⟩;have N2:=qf D0 hb;exact M3
  | true=>
   rw [hi] at HAB;refine xB 0 (e.cells) (fun _ h=>h.1) underlying59 M4 ?_;refine jg 1 ?_;refine jc 2 (fun K hK=>?_);go_simp;refine C0.mono ?_;clear C0;rintro r dd ⟨rfl,rfl⟩;rw [hi];refine qX hK (jY.out _ D0) fun qc=>?_
   clear hK K ;try simp only [zz]
   refine jg 3 ?_;refine xB 4 (s.cells) (fun _ h=>h.2) underlying45 ((zg s)) ?_;refine jc 5 (fun K hK=>?_);go_simp;refine C5.mono ?_;clear C5;rintro r d1 ⟨rfl,hb⟩;have N1:=qf D0 hb;clear hb;refine qX hK (jY.out _ N1) fun qc=>?_
   clear hK K ;try simp only [zz]
   refine jg 6 ?_;refine jc 7 (fun K hK=>?_);go_simp;refine (HC7.out _ N1 (qL s.v)).mono ?_;rintro r d2 ⟨rfl,hb⟩;have N2:=qf N1 hb;exact M3
 case rest=>
 obtain ⟨rfl,N1⟩:=hcut;have r1:wc.rangeAt w.heap.size 0 e.cells:=(jY.out _ N1).1;have q1:wc.rangeAt (w.heap.size+1) 0 s.cells:=(jY.out _ N1).2;rw [HAB.out];by_cases hz:kz e.v (inB oid 1 31 && qL s.v)=0;rotate_left
 ·have HV:Hid (xQ e.v tx oid s.v=(e.v,kz e.v (inB oid 1 31 && qL s.v))):=by rw [Hid,xQ,qan hz]
  have hzb:(kz e.v (inB oid 1 31 && qL s.v) == 0)=false:=by simpa using hz
  have C:=Vy e se wc (HR.out _ N1).1 hl hc;generalize kz e.v (inB oid 1 31 && qL s.v)=RV at*
  go_wp2_with (first | (guard_target=qp 23;refine qH 59 4 w.heap.size 0 (e.cells) (r1) underlying59 M4 ?_) | fail);refine C.mono ?_;clear C r1 q1;rintro r d2 ⟨t,rfl,st,hv,ot,hb⟩;have N2:=qf N1 hb;obtain ⟨WF,qK,jI,xA,HE⟩:=FIN.out t d2 st N2 (ot.widen (by have:=N1.size;omega) qg qg);have Zz:=j6 st;have Fs:=qaf (QD t);clear hb ot;go_wp2_with (first | (guard_target=ja 8;refine jb 59 8 24 (w.heap.size+2) 0 (t.cells).toArray jI.out (jG Zz) Fs ?_) | fail);rw [qK.out];exact qa3 (v:=.tuple #[.agg t.cells.toArray,.int .i64 RV]) (zK results9 rfl xA.out rfl) rfl ⟨t,by rw [HV.out],st,by rw [HV.out];exact hv,HE.out.1,HE.out.2⟩
 have hok:=VK hz;have YU:=WT hz;rw [qam] at YU;have qgb:1≤oid∧oid≤31:=by have:=YU.1;simpa [inB] using this
 obtain ⟨m,rfl,hm1,Fu⟩:∃ m:Nat,oid=(m:Int)∧1≤m∧m<32:=⟨oid.toNat,by omega,by omega,by omega⟩;have HV:Hid (xQ e.v tx m s.v=if jC e.txs tx= -1 then (e.v,2) else if jo m e.holds≠0∧jo m e.holds≠tx then (e.v,3) else (J7 e.v tx m s.v,0)):=by
  rw [Hid,xQ,qa2 (fun q=>q hz),qcU];rfl
 have C:=qef e se wc (HR.out _ N1).1 hl hc;have yD:Hid (jF e.v=true∧e.v.log.recs.length≤3800∧qL s.v=true):=⟨hok,VJ hz,YU.2⟩;rw [hz];clear hok hz YU qgb;go_wp2_with (first | (guard_target=qp 26;refine qH 59 4 w.heap.size 0 (e.cells) (r1) underlying59 M4 ?_) | fail);refine C.mono ?_;clear C r1 q1;rintro r d2 ⟨t,M,R,rfl,st,hv,ot,hMR,hRl,hM,hm,bR,hb⟩;have N2:=qf N1 hb;have z1:=N1.size;have z2:=hb.size;clear hb;have q2:d2.rangeAt (w.heap.size+1) 0 s.cells:=(jY.out _ N2).2;have C:=SE e t tx m M R s w W wc d2 hv.out hl st yD.out.1 yD.out.2.1 hm1 Fu yD.out.2.2 hxs wK.out.1 wK.out.2.1 (by omega) N2 wK.out.2.2 (by omega) (by omega) ot hMR (by omega) hm bR;clear ot hm bR;go_wp2_with (first | (guard_target=qp 31;refine qH 45 7 (w.heap.size+1) 0 (s.cells) (q2) underlying45 (zg s) ?_) | fail);refine C.mono ?_;clear C q2;rintro r d3 ⟨⟨xv,xc⟩,HX,rfl,C⟩;go_wp2_with fail;refine C.mono ?_;clear C;rintro r d4 ⟨D,rfl,sD,MZ,oD,N4⟩;obtain ⟨WF,qK,jI,xA,HE⟩:=FIN.out D d4 sD N4 oD;have HID:=j6 sD;have HOD:=qaf (QD D);clear oD;go_wp2_with (first | (guard_target=ja 8;refine jb 59 8 34 (w.heap.size+2) 0 (D.cells).toArray jI.out (jG HID) HOD ?_) | fail);rw [qK.out];exact qa3 (v:=.tuple #[.agg D.cells.toArray,.int .i64 xc]) (zK results9 rfl xA.out rfl) rfl ⟨D,by rw [HV.out,← HX.out],sD,by rw [HV.out,← HX.out];exact MZ,HE.out.1,HE.out.2⟩
def qO.real (v:qO):qj:=⟨v,none,0,none,0⟩
theorem Aw (ss:List qO):(ss.map qO.real).map (·.v)=ss:=by rw [List.map_map];exact List.map_id'' (fun _=>rfl) ss
theorem M6:∀ ls:List q9,(∀ s∈ls,s.ss.length=4)→∃ l:List qh,l.map qh.v=ls
 | [],_=>⟨[],rfl⟩
 | s::r,h=>by
  obtain ⟨l,hl⟩:=M6 r (fun x hx=>h x (qcO _ hx));have h4:=h s qfd;obtain ⟨no,lsn,ss,d,ho⟩:=s
  match ss,h4 with
  | [a,b,c,e],_=>exact ⟨⟨no,lsn,a.real,b.real,c.real,e.real,d,ho⟩::l,by rw [qdG,hl];rfl⟩
theorem qb6 (e:qR) (h4:∀ s∈e.seats,s.ss.length=4):∃ b:qb,b.v=e:=by
 obtain ⟨l,hl⟩:=M6 e.seats h4;obtain ⟨disk,seats,hand,log,txs,holds,next,down⟩:=e;obtain ⟨recs,sure⟩:=log;refine ⟨⟨disk.map (fun p=>⟨p.1,p.2.map qO.real⟩),l,none,0,hand,⟨recs.map (fun r=>⟨r.lsn,r.tx,r.prev,r.kind,r.oid,r.bf.real,r.af.real,r.next,r.txs,none,0⟩),sure,none,0⟩,txs,none,0,holds,none,0,next,down⟩,?_⟩;have h1:(disk.map (fun p=>(⟨p.1,p.2.map qO.real⟩:qA))).map (fun p=>(p.lsn,p.ss.map (·.v)))=disk:=by
  rw [List.map_map];exact List.map_id'' (fun p=>by show (p.1,_)=p;rw [Aw]) disk
 have h2:(recs.map (fun r=>(⟨r.lsn,r.tx,r.prev,r.kind,r.oid,r.bf.real,r.af.real,r.next,r.txs,none,0⟩:ql))).map ql.v=recs:=by
  rw [List.map_map];exact List.map_id'' (fun r=>rfl) recs
 simp only [qb.v,qI.v,h1,h2,hl]
theorem SG {e:qR} {n:Nat} (M0:∀ s∈e.seats,s.ss.length=4) (aU:∀ p∈e.disk,p.2.length=4) (hd:e.disk.length=8) (h8:n<8):∀ s∈(qJ e n).seats,s.ss.length=4:=by
 have hd4:(e.disk.getD n (0,[])).2.length=4:=aU _ (by
  have:n<e.disk.length:=by omega
  simp [List.getD,this])
 intro s hs;by_cases h0:0≤qG e.seats n
 ·rw [qJ,qan h0] at hs;have hu:(yP e.j4 n).seats=e.seats.set (qG e.seats n).toNat (JX (e.seats.getD (qG e.seats n).toNat qy)):=by
   unfold yP;rw [qan (show 0≤qG e.j4.seats n from h0)];rfl
  have hs':s∈(yP e.j4 n).seats:=hs;rw [hu] at hs';rcases qcV hs' with q | q
  ·exact M0 s q
  ·rw [q];show (e.seats.getD _ qy).ss.length=4;rw [List.getD];cases hg:e.seats[(qG e.seats n).toNat]? with
   | none=>rfl
   | some z=>exact M0 z (List.mem_of_getElem? hg)
 ·have hb:(qJ e n).seats=(zb e.j4 n (e.disk.getD n (0,[])).1 (e.disk.getD n (0,[])).2).1.seats:=by
   rw [qJ,qa2 h0];unfold Qn;simp only;split<;>rfl
  rw [hb] at hs;unfold zb at hs;split at hs
  ·rcases WM _ _ _ s hs with q | ⟨s0,h1,_,h2⟩
   ·rw [q];exact hd4
   ·rw [h2];exact M0 s0 h1
  ·exact M0 s hs
theorem Ay {e:qR} (h:jF e=true):e.holds.length≤31:=by
 have hc:=(ZM h).perm;rw [hc.length_eq];exact PQ _ 31
theorem M8 {t e:qb} {tx oid:Int} {x:qO} (se:e.shape) (h:t.v=(xQ e.v tx oid x).1) (he:e.short 1048576) (hx:x.o.ints.length≤1048576∧x.o.refs.length≤1048576):t.short 1048576:=by
 unfold xQ at h;by_cases h1:kz e.v (inB oid 1 31 && qL x)≠0
 ·rw [qan h1] at h;exact qb.xq h he
 rw [qa2 h1] at h;by_cases h2:jC e.v.txs tx= -1
 ·rw [qan h2] at h;exact qb.xq h he
 rw [qa2 h2] at h;by_cases h3:jo oid e.v.holds≠0∧jo oid e.v.holds≠tx
 ·rw [qan h3] at h;exact qb.xq h he
 rw [qa2 h3] at h;have hz:=Classical.not_not.1 h1;have hok:=VK hz;have hlen:=VJ hz;have YU:=WT hz;rw [qam] at YU;have qgb:1≤oid∧oid≤31:=by have:=YU.1;simpa [inB] using this
 obtain ⟨m,rfl,hm1,Fu⟩:∃ m:Nat,oid=(m:Int)∧1≤m∧m<32:=⟨oid.toNat,by omega,by omega,by omega⟩;rw [qcU] at h;rcases KL e.v.txs tx with q | ⟨k,hlv,hk⟩
 ·exact absurd q h2
 have htx:(e.v.txs.getD k qz).tx=tx:=XU tx e.v.txs 0 k hk (by rw [qeK];exact hlv);have hd:e.v.disk.length=8:=by show (e.disk.map _).length=8;rw [qa4];exact se.eight
 obtain ⟨M0,aU⟩:=Fh se;obtain ⟨s,j,g⟩:=set_good hok hd M0 aU (by omega) hm1 Fu hk (WR hok hk) YU.2;rw [htx] at g;have hsh:=(Z4 se hok he (n:=m / 4) (by omega)).2;have h4e:∀ s∈(qJ e.v (m / 4)).seats,s.ss.length=4:=SG M0 aU hd (by omega);obtain ⟨b,hb⟩:=qb6 (qJ e.v (m / 4)) h4e;have hsb:=hsh.out b hb;have hv:t.v=_:=h.trans g.same.symm;rw [g.apply] at hv;obtain ⟨r1,r2,r3⟩:=Xp e.v (m / 4);have q1:t.v.disk=b.v.disk:=by rw [hb];exact (qcz qR.disk hv).trans rfl
 have q2:t.v.seats=b.v.seats.set j ⟨(m / 4:Nat),(e.v.log.recs.length:Int)+1,s.ss.set (m % 4) x,true,true⟩:=by rw [hb];exact (qcz qR.seats hv).trans rfl
 have q3:t.v.log.recs=e.v.log.recs++[vW (wX e.v k m x) (((qJ e.v (m / 4)).log.recs.length:Int)+1)]:=by
  have:=qcz (fun z:qR=>z.log.recs) hv;rw [← r2];exact this
 have q4:t.txs.length=e.txs.length:=by
  have:t.txs=e.v.txs.set k _:=(qcz qR.txs hv).trans rfl;rw [this,qcP];rfl
 have q5:t.holds.length≤32:=by
  have h5:=Ay hok;have:t.holds=if jo m e.v.holds=0 then e.v.holds++[⟨tx,m⟩] else e.v.holds:=(qcz qR.holds hv).trans rfl;rw [this];split
  ·simp only [qai,qcS,qdo];omega
  ·omega
 have hm:s∈b.v.seats:=by
  rw [hb,← g.seat.is];have:=g.seat.lt;simp [List.getD,this]
 have hss:=Ji hsb s hm;refine XK (by rw [q1];exact Xg hsb) (by rw [q2,qcP];have h5:b.seats.length≤1048576:=hsb.pool.len;simpa [qb.v] using h5) (by
  rw [q2];intro y hy;rcases qcV hy with q | q
  ·exact Ji hsb y q
  ·rw [q];intro z hz;rcases qcV hz with q | q
   ·exact hss z q
   ·rw [q];exact hx) (aQ ?_ ?_) (by rw [q4];exact he.txs) (by omega)
 ·rw [q3];simp only [qai,qcS,qdo];omega
 ·rw [q3];intro r hr;rcases qaa.1 hr with q | q
  ·exact MW he r q
  ·rw [qac.1 q];refine ⟨?_,hx,qaw _⟩;show (QE (qJ e.v (m / 4)) m).o.ints.length≤1048576∧(QE (qJ e.v (m / 4)) m).o.refs.length≤1048576;rw [VZ g.seat];refine hss _ ?_;have:m % 4<s.ss.length:=by rw [g.seat.four];omega
   simp [List.getD,this]
theorem Fv {P:Prop} (h:P:=by
 have HF:Hid (RV=1):=HV.out.trans rfl;go_wp2;go_ret;exact ⟨jN HF.out.symm,HE.out⟩):P:=h
theorem Az (e:qb) (se:e.shape) (w:World) (re:e.reads w) (hl:e.short 1048576):
  Calls prog 22 #[.agg e.cells.toArray] w fun r w'=>r=.returned (.int .i64 (kz e.v true))∧qa w w':=by
 have HV:Hid (kz e.v true=if jF e.v && (!e.down && true) then (if 3800<e.log.recs.length then 4 else 0) else 1):=by
  rw [Hid];unfold kz;rw [show e.v.log.recs.length=e.log.recs.length by simp [qb.v,qI.v]];rfl
 generalize kz e.v true=RV at*
 have CE:=fun u (hr:e.reads u)=>Gs e se u hr hl
 have hrl:e.log.recs.length≤1048576:=hl.log.len;have HI:=j6 se;obtain ⟨W,hW,b0,hbW,qD⟩:=qB w e.cells 59;have HB:Hid (∀ u,qa W u→Box u w.heap.size e.cells 59):=fun u hu=>b0.below hu b0.lt
 have HR:Hid (∀ u,qa W u→e.reads u):=fun u hu=>(re.below hbW).below hu
 have jr:Hid (∀ u,qa W u→qa w u):=fun u hu=>qf hbW hu
 have hw0:w.heap.size<W.heap.size:=by omega
 have N:qa W W:=qab _ _;clear b0 qD;have pe:W.rangeAt w.heap.size 0 e.cells:=qN (HB.out W N);clear re hl;have C1:=CE W (HR.out W N);clear CE;go_enter func22,ntmps22;go_wp2_with (first | (guard_target=qp 4;refine qH 59 1 w.heap.size 0 (e.cells) (by rw [hW.out];exact pe) underlying59 HI ?_) | fail);rw [hW.out];clear hW pe;refine C1.mono ?_;clear C1;rintro r w1 ⟨rfl,hb⟩;replace N:=qf N hb;clear hb;have p2:=(qY se (HB.out _ N)).2.2.1;have l0:w1.cell? ⟨w.heap.size,138,none⟩=some (.slice e.log.a e.log.recs.length e.log.c):=p2 0 _ rfl;have p6:=(qY se (HB.out _ N)).2.2.2.2.2.2;have HE:Hid (qa w w1):=jr.out _ N;obtain ⟨vO,hO⟩:=qV (jF e.v);obtain ⟨vD,hD⟩:=qV e.down;rw [hO.out,hD.out] at HV;rw [hD.out] at p6;rw [hO.out];clear p2 hO hD;cases vO with
 | false=>
  exact Fv
 | true=>
  cases vD with
  | true=>
   exact Fv
  | false=>
   by_cases hx:3800<e.log.recs.length
   ·have hxi:(3800:Int)<(e.log.recs.length:Int):=by omega
    have HF:Hid (RV=4):=HV.out.trans (qan hx);clear hx;go_wp2;go_ret;exact ⟨jN HF.out.symm,HE.out⟩
   ·have hxi:¬ (3800:Int)<(e.log.recs.length:Int):=by omega
    have HF:Hid (RV=0):=HV.out.trans (qa2 hx);clear hx;go_wp2;go_ret;exact ⟨jN HF.out.symm,HE.out⟩
theorem rQ (e:qR) (a:Bool):kz e a=0∨kz e a=1∨kz e a=4:=by
 unfold kz;split
 ·split
  ·exact .inr (.inr rfl)
  ·exact .inl rfl
 ·exact .inr (.inl rfl)
theorem SH {e:qR} {a:Bool} (h:kz e true=1):kz e a=1:=by
 cases a with
 | true=>exact h
 | false=>unfold kz;simp
theorem ZA (e:qR):kz e false=1:=by unfold kz;simp
theorem JO {P:Prop} (h:P:=by
 go_wp2_with (first | (guard_target=qp 30;refine qH 59 10 d1.heap.size 0 (t.cells) (rT) underlying59 Zz ?_) | (guard_target=ja 8;refine jb 59 8 30 (w.heap.size+2) 0 (t.cells).toArray jI.out (jG Zz) Fs ?_) | fail);rw [qK.out];exact qa3 (v:=.tuple #[.agg t.cells.toArray,.int .i64 1]) (zK results6 rfl xA.out rfl) rfl ⟨t,by rw [HV.out],st,by rw [HV.out];exact hv,HE.out.1,HE.out.2⟩):P:=h
theorem pO {P:Prop} (h:P:=by
 go_wp2_with (first | (guard_target=qp 55;refine qH 45 7 (w.heap.size+1) 0 (s.cells) qS underlying45 (zg s) ?_) | fail);refine C.mono ?_;clear C qS;rintro r d7 ⟨⟨v7,rfl⟩,D,MZ,s7⟩;obtain ⟨sD,r7,WF,qK,jI,xA,HE⟩:=ug.out D d7 s7;have HVD:Hid (D.v=(xQ e.v tx m s.v).1):=by rw [Hid,HV.out,MZ.out,HVT.out]
 have HID:=j6 sD;have HOD:=qaf (QD D);clear s7 ug;go_wp2_with (first | (guard_target=qp 57;refine qH 59 10 d1.heap.size 0 (D.cells) (r7) underlying59 HID ?_) | (guard_target=ja 8;refine jb 59 8 57 (w.heap.size+2) 0 (D.cells).toArray jI.out (jG HID) HOD ?_) | fail);rw [qK.out];exact qa3 (v:=.tuple #[.agg D.cells.toArray,.int .i64 0]) (zK results6 rfl xA.out rfl) rfl ⟨D,by rw [HV.out],sD,HVD,HE.out.1,HE.out.2⟩):P:=h
theorem Xr (e:qb) (tx oid:Int) (s:qj) (se:e.shape) (w:World) (re:e.reads w) (hl:e.short 1048576) (hc:e.QU) (rs:s.reads w) (hxs:s.v.o.ints.length≤1048576∧s.v.o.refs.length≤1048576):
  Calls prog 6 #[.agg e.cells.toArray,.int .i64 tx,.int .i64 oid,.agg s.cells.toArray] w fun r w'=>OC (xQ e.v tx oid s.v) w r w':=by
 obtain ⟨Z,hZ⟩:=qV zeroE;have sZ:Z.shape:=by rw [← hZ.out];exact zT
 have HZ:=Tryz.Xh;rw [hZ.out] at HZ;obtain ⟨W,hW,b0,bS,bR,hbW,qD⟩:=yK w e.cells s.cells Z.cells 59 45 59;have HB:Hid (∀ u,qa W u→Box u w.heap.size e.cells 59∧Box u (w.heap.size+1) s.cells 45):=fun u hu=>⟨b0.below hu b0.lt,bS.below hu bS.lt⟩
 have Ur:Hid (∀ u,qa W u→Box u (w.heap.size+2) Z.cells 59):=fun u hu=>bR.below hu bR.lt
 have HR:Hid (∀ u,qa W u→e.reads u∧s.reads u):=fun u hu=>⟨(re.below hbW).below hu,jd.below rs (qf hbW hu)⟩
 have jr:Hid (∀ u,qa W u→qa w u):=fun u hu=>qf hbW hu
 have hw0:w.heap.size+2<W.heap.size:=by omega
 have N0:qa W W:=qab _ _;have M4:=j6 se;have jY:Hid (∀ u,qa W u→u.rangeAt w.heap.size 0 e.cells∧u.rangeAt (w.heap.size+1) 0 s.cells):=fun u hu=>⟨qN ((HB.out _ hu).1),qN ((HB.out _ hu).2)⟩
 have FIN:Hid (∀ (D:qb) (u:World),D.shape→qa W u→D.own u W.heap.size u.heap.size→∃ WF,Hid (u.setCells (w.heap.size+2) 0 D.cells.toArray.toList=WF)∧Hid (u.there (w.heap.size+2) 0 D.cells.toArray.size)∧Hid ((loadVar 59 ⟨w.heap.size+2,0,none⟩).run prog WF=.ok (.agg D.cells.toArray) WF)∧Hid (D.own WF w.heap.size WF.heap.size∧qa w WF)):=fun D u sD hu od=>by
  obtain ⟨WF,qK,hwF,q8,jI,bF⟩:=zq sD sZ (Ur.out u hu);exact ⟨WF,qK,jI,Xf sD bF,(od.within hwF (.inr (by omega))).widen (by omega) (by omega) qg,(jr.out _ hu).trans (hwF.below (by omega) (by have:=hu.size;omega))⟩
 have r0:W.rangeAt w.heap.size 0 e.cells:=(jY.out _ N0).1;have C:=AA e se W (HR.out _ N0).1 hl hc;have aV:Hid (Fit [s]):=fun x hx=>by rw [qac.1 hx];exact ⟨qcx hxs.1 (by decide),qcx hxs.2 (by decide)⟩
 have hlT:=hl.txs;have hlH:=hl.holds;have hlL:=hl.log.len;clear b0 bS bR qD;go_enter func6,ntmps6;go_upto_region 1 with (first | (guard_target=wpList _ _ _ (Oper.mk _ (Op.alloc _) _ _ _ _::_) _ _;refine Qf 59 Z.cells HZ ?_) | fail);rw [hW.out];clear hW;go_wp2_with (first | (guard_target=qp 13;refine qH 59 4 w.heap.size 0 (e.cells) (r0) underlying59 M4 ?_) | fail);refine C.mono ?_;clear C r0;rintro r d1 ⟨t,rfl,st,hv,ot,hb⟩;have N1:=qf N0 hb;have z1:=N1.size;obtain ⟨Zd,hZd,bZ,yF,zx⟩:=qB d1 Z.cells 59;obtain ⟨d2,hd2,hw2,hs2,HT2,b5⟩:=zq st sZ bZ;have hb2:qa d1 d2:=yF.trans (hw2.below qg (by omega));have N2:=qf N1 hb2;have z2:=b5.lt;have IE:=ot.below hb2;have Zz:=j6 st;have Fs:=qaf (QD t);have r2:d2.rangeAt w.heap.size 0 e.cells:=(jY.out _ N2).1;have C:=Az e se d2 (HR.out _ N2).1 hl;clear bZ yF zx hw2 hs2 hb ot;go_wp2_with (first | (guard_target=wpList _ _ _ (Oper.mk _ (Op.alloc 59) _ _ _ _::_) _ _;refine Qf 59 Z.cells HZ ?_) | (guard_target=ja 10;refine jb 59 10 14 d1.heap.size 0 (t.cells).toArray (by rw [hZd.out];exact HT2.out) (jG Zz) Fs ?_) | (guard_target=qp 15;refine qH 59 4 w.heap.size 0 (e.cells) (by rw [hZd.out,hd2.out];exact r2) underlying59 M4 ?_) | fail);rw [hZd.out,hd2.out];clear hZd hd2 HT2 r2;refine C.mono ?_;clear C;rintro r d3 ⟨rfl,hb⟩;have N3:=qf N2 hb;have z3:=hb.size;replace b5:=b5.below hb b5.lt;have P9:=IE.below hb;clear hb IE hb2;have HVT:Hid (t.v=e.v):=hv.out;have XL:Hid (∀ u,qa d3 u→u.rangeAt d1.heap.size 0 t.cells∧∃ WF,Hid (u.setCells (w.heap.size+2) 0 t.cells.toArray.toList=WF)∧Hid (u.there (w.heap.size+2) 0 t.cells.toArray.size)∧Hid ((loadVar 59 ⟨w.heap.size+2,0,none⟩).run prog WF=.ok (.agg t.cells.toArray) WF)∧Hid (t.own WF w.heap.size WF.heap.size∧qa w WF)):=fun u hu=>by
  have hz:=hu.size;exact ⟨qN (b5.below hu b5.lt),FIN.out t u st (qf N3 hu) ((P9.below hu).widen (by omega) (by omega) qg)⟩
 have HSR:Hid (∀ u,qa d3 u→u.rangeAt (w.heap.size+1) 0 s.cells):=fun u hu=>(jY.out u (qf N3 hu)).2
 have HEL:Hid (∀ u,qa d3 u→u.rangeAt w.heap.size 0 e.cells∧Calls prog 25 #[.agg e.cells.toArray,.int .i64 tx] u fun r w'=>r=.returned (.int .i64 (jC e.txs tx))∧qa u w'):=fun u hu=>
  ⟨(jY.out u (qf N3 hu)).1,Yo e se tx u (HR.out u (qf N3 hu)).1.txs (by omega)⟩
 have HEH:Hid (∀ u,qa d3 u→u.rangeAt w.heap.size 0 e.cells∧Calls prog 26 #[.agg e.cells.toArray,.int .i64 oid] u fun r w'=>r=.returned (.int .i64 (jo oid e.holds))∧qa u w'):=fun u hu=>
  ⟨(jY.out u (qf N3 hu)).1,WU e se oid u (HR.out u (qf N3 hu)).1.holds (by omega)⟩
 have hbl:=P9.qC;have HST:Hid (∀ u,qa d3 u→∀ m:Nat,m<32→jF e.v=true→0≤jC e.txs tx→e.v.log.recs.length≤3800→Calls prog 27 #[.pointer (some ⟨d1.heap.size,0,none⟩),.int .i64 tx,.int .i64 m,.agg s.cells.toArray] u fun r w'=>(∃ v,r=.returned v)∧∃ e',Hid (e'.v=J7 t.v tx m s.v)∧kC d1.heap.size t u e' w'):=fun u hu m hm hok hlv hle=>by
  have hz:=hu.size;have ou:=P9.below hu;have hlt:=qb.xq hv.out hl;have V4:jF t.v=true:=by rw [hv.out];exact hok
  have htx:t.txs=e.txs:=qcz qR.txs hv.out;have hth:t.holds=e.holds:=qcz qR.holds hv.out;have htl:t.log.recs.length=e.log.recs.length:=by
   have h1:=qcz (fun x:qR=>x.log.recs.length) hv.out
   simpa [qb.v,qI.v] using h1
  have au:wu u d1.heap.size t:=⟨b5.below hu b5.lt,st,ou.widen (qaw _) (by omega) qg,fun hk=>by have:=(P9.qC _ hk).2;omega⟩;refine OD d1.heap.size t tx m s u au (Yi st V4 hlt) hm (fun x hx=>jd.below rs ?_) aV.out (by omega) (by rw [htx];omega) (by rw [hth];omega) (by rw [htx];exact hlv);have q1:=jr.out u (qf N3 hu);exact q1.trans ⟨hx.os,hx.tape,hx.output,hx.size,fun k hk=>hx.block k (by have:=q1.size;omega) (fun hq=>by
   rcases qcv.1 hq with q | q
   ·omega
   ·have:=(hbl k q).1;omega)⟩
 have HFN:Hid (∀ u,qa d3 u→∀ (D:qb) (x:World),kC d1.heap.size t u D x→D.shape∧x.rangeAt d1.heap.size 0 D.cells∧∃ WF,Hid (x.setCells (w.heap.size+2) 0 D.cells.toArray.toList=WF)∧Hid (x.there (w.heap.size+2) 0 D.cells.toArray.size)∧Hid ((loadVar 59 ⟨w.heap.size+2,0,none⟩).run prog WF=.ok (.agg D.cells.toArray) WF)∧Hid (D.own WF w.heap.size WF.heap.size∧qa w WF)):=fun u hu D x s4=>by
  have hz:=hu.size;have z4:=s4.size;have q1:=qf N3 hu;have oD:D.own x W.heap.size x.heap.size:=qb.own.raise s4.at'.own (fun k hk=>(s4.fresh k hk).elim (fun q=>by have:=(hbl k q).1;omega) (fun q=>by omega));have N4:qa W x:=q1.trans ⟨s4.touch.os,s4.touch.tape,s4.touch.output,s4.touch.size,fun k hk=>s4.touch.block k (by have:=q1.size;omega) (fun hq=>by
   rcases qcv.1 hq with q | q
   ·omega
   ·have:=(hbl k q).1;omega)⟩
  exact ⟨s4.at'.shape,qN s4.at'.box,FIN.out D x s4.at'.shape N4 oD⟩
 have CI:=j5 oid 1 31 d3;have CS:=Yg s d3 (HR.out _ N3).2 aV.out;clear b5 P9 hbl;rcases rQ e.v true with hz | hz | hz;rotate_left
 ·have HV:Hid (xQ e.v tx oid s.v=(e.v,1)):=by rw [Hid,xQ,SH hz,qan (by decide)]
  rw [hz];clear hz CI CS;obtain ⟨rT,WF,qK,jI,xA,HE⟩:=XL.out d3 (qab _ _);clear XL;exact JO
 ·rw [hz];cases hi:inB oid 1 31 with
  | false=>
   have hab:(inB oid 1 31 && qL s.v)=false:=by rw [hi];rfl
   have HV:Hid (xQ e.v tx oid s.v=(e.v,1)):=by rw [Hid,xQ,hab,ZA,qan (by decide)]
   rw [hi] at CI;clear hz hi hab;go_wp2_with fail;refine CI.mono ?_;rintro r dd ⟨rfl,rfl⟩;obtain ⟨rT,WF,qK,jI,xA,HE⟩:=XL.out dd (qab _ _);clear XL CI;exact JO
  | true=>
   rw [hi] at CI;go_wp2_with fail;refine CI.mono ?_;clear CI;rintro r dd ⟨rfl,rfl⟩;have qS:=HSR.out dd (qab _ _);go_wp2_with (first | (guard_target=qp 26;refine jD (by rfl) 45 (.tmp 7) rfl (w.heap.size+1) 0 rfl (s.cells) _ qS underlying45 rfl (zg s) ?_) | fail);refine CS.mono ?_;clear CS qS;rintro r d4 ⟨rfl,hb4⟩;have z4:=hb4.size;cases hx:qL s.v with
   | false=>
    have hab:(inB oid 1 31 && qL s.v)=false:=by rw [hi,hx];rfl
    have HV:Hid (xQ e.v tx oid s.v=(e.v,1)):=by rw [Hid,xQ,hab,ZA,qan (by decide)]
    clear hz hi hab hx;obtain ⟨rT,WF,qK,jI,xA,HE⟩:=XL.out d4 hb4;clear XL;exact JO
   | true=>
    have hab:(inB oid 1 31 && qL s.v)=true:=by rw [hi,hx];rfl
    have HV:Hid (xQ e.v tx oid s.v=(e.v,4)):=by rw [Hid,xQ,hab,hz,qan (by decide)]
    clear hz hi hab hx;obtain ⟨rT,WF,qK,jI,xA,HE⟩:=XL.out d4 hb4;clear XL;go_wp2_with (first | (guard_target=qp 34;refine qH 59 10 d1.heap.size 0 (t.cells) (rT) underlying59 Zz ?_) | (guard_target=ja 8;refine jb 59 8 34 (w.heap.size+2) 0 (t.cells).toArray jI.out (jG Zz) Fs ?_) | fail);rw [qK.out];exact qa3 (v:=.tuple #[.agg t.cells.toArray,.int .i64 4]) (zK results6 rfl xA.out rfl) rfl ⟨t,by rw [HV.out],st,by rw [HV.out];exact hv,HE.out.1,HE.out.2⟩
 rw [hz];cases hi:inB oid 1 31 with
 | false=>
  have hab:(inB oid 1 31 && qL s.v)=false:=by rw [hi];rfl
  have HV:Hid (xQ e.v tx oid s.v=(e.v,1)):=by rw [Hid,xQ,hab,ZA,qan (by decide)]
  rw [hi] at CI;clear hz hi hab;go_wp2_with fail;refine CI.mono ?_;rintro r dd ⟨rfl,rfl⟩;obtain ⟨rT,WF,qK,jI,xA,HE⟩:=XL.out dd (qab _ _);clear XL CI;exact JO
 | true=>
  rw [hi] at CI;go_wp2_with fail;refine CI.mono ?_;clear CI;rintro r dd ⟨rfl,rfl⟩;have qS:=HSR.out dd (qab _ _);go_wp2_with (first | (guard_target=qp 26;refine jD (by rfl) 45 (.tmp 7) rfl (w.heap.size+1) 0 rfl (s.cells) _ qS underlying45 rfl (zg s) ?_) | fail);refine CS.mono ?_;clear CS qS;rintro r d4 ⟨rfl,hb4⟩;have z4:=hb4.size;cases hx:qL s.v with
  | false=>
   have hab:(inB oid 1 31 && qL s.v)=false:=by rw [hi,hx];rfl
   have HV:Hid (xQ e.v tx oid s.v=(e.v,1)):=by rw [Hid,xQ,hab,ZA,qan (by decide)]
   clear hz hi hab hx;obtain ⟨rT,WF,qK,jI,xA,HE⟩:=XL.out d4 hb4;clear XL;exact JO
  | true=>
   have hab:(inB oid 1 31 && qL s.v)=true:=by rw [hi,hx];rfl
   have OE:Hid (xQ e.v tx oid s.v=if jC e.v.txs tx= -1 then (e.v,2) else if jo oid e.v.holds≠0∧jo oid e.v.holds≠tx then (e.v,3) else (J7 e.v tx oid.toNat s.v,0)):=by rw [Hid,xQ,hab,qa2 (by rw [hz];decide)]
   have yD:Hid (jF e.v=true∧e.v.log.recs.length≤3800∧1≤oid∧oid≤31):=⟨VK hz,VJ hz,by simpa [inB] using hi⟩;clear hz hi hab hx;obtain ⟨rE,CL⟩:=HEL.out d4 hb4;go_wp2_with (first | (guard_target=qp 37;refine qH 59 4 w.heap.size 0 (e.cells) (rE) underlying59 M4 ?_) | fail);refine CL.mono ?_;clear CL rE;rintro r d5 ⟨rfl,hb5⟩;have N5:=qf hb4 hb5;have z5:=N5.size;have BL:Hid (jC e.v.txs tx=jC e.txs tx):=rfl;rcases KL e.txs tx with hlv | ⟨k,hlv,hk⟩
   ·have HV:Hid (xQ e.v tx oid s.v=(e.v,2)):=by rw [Hid,OE.out,qan (by rw [BL.out];exact hlv)]
    rw [hlv];clear hlv;obtain ⟨rT,WF,qK,jI,xA,HE⟩:=XL.out d5 N5;clear XL;go_wp2_with (first | (guard_target=qp 41;refine qH 59 10 d1.heap.size 0 (t.cells) (rT) underlying59 Zz ?_) | (guard_target=ja 8;refine jb 59 8 41 (w.heap.size+2) 0 (t.cells).toArray jI.out (jG Zz) Fs ?_) | fail);rw [qK.out];exact qa3 (v:=.tuple #[.agg t.cells.toArray,.int .i64 2]) (zK results6 rfl xA.out rfl) rfl ⟨t,by rw [HV.out],st,by rw [HV.out];exact hv,HE.out.1,HE.out.2⟩
   have HLK:Hid (0≤jC e.txs tx∧¬ jC e.v.txs tx= -1):=⟨by omega,by rw [BL.out];omega⟩;have hk0:¬ (k:Int)<0:=by omega
   rw [hlv];clear hlv;obtain ⟨rE,CH⟩:=HEH.out d5 N5;go_wp2_with (first | (guard_target=qp 42;refine qH 59 4 w.heap.size 0 (e.cells) (rE) underlying59 M4 ?_) | fail);refine CH.mono ?_;clear CH rE;rintro r d6 ⟨rfl,hb6⟩;have N6:=qf N5 hb6;have z6:=N6.size;have HHT:Hid (jo oid e.v.holds=jo oid e.holds):=rfl;rw [HHT.out] at OE;clear HHT BL;by_cases hbz:jo oid e.holds≠0∧jo oid e.holds≠tx
   ·have HV:Hid (xQ e.v tx oid s.v=(e.v,3)):=by rw [Hid,OE.out,qa2 HLK.out.2,qan hbz]
    have hb1:(jo oid e.holds != 0)=true:=by simpa using hbz.1
    have hb2:(jo oid e.holds != tx)=true:=by simpa using hbz.2
    generalize jo oid e.holds=HF at*
    clear hbz;obtain ⟨rT,WF,qK,jI,xA,HE⟩:=XL.out d6 N6;clear XL;go_wp2_with (first | (guard_target=qp 52;refine qH 59 10 d1.heap.size 0 (t.cells) (rT) underlying59 Zz ?_) | (guard_target=ja 8;refine jb 59 8 52 (w.heap.size+2) 0 (t.cells).toArray jI.out (jG Zz) Fs ?_) | fail);rw [qK.out];exact qa3 (v:=.tuple #[.agg t.cells.toArray,.int .i64 3]) (zK results6 rfl xA.out rfl) rfl ⟨t,by rw [HV.out],st,by rw [HV.out];exact hv,HE.out.1,HE.out.2⟩
   have HV:Hid (xQ e.v tx oid s.v=(J7 e.v tx oid.toNat s.v,0)):=by rw [Hid,OE.out,qa2 HLK.out.2,qa2 hbz]
   obtain ⟨m,rfl,hm1,Fu⟩:∃ m:Nat,oid=(m:Int)∧1≤m∧m<32:=⟨oid.toNat,by have:=yD.out.2.2;omega,by have:=yD.out.2.2;omega,by have:=yD.out.2.2;omega⟩;rw [qcU] at HV;have C:=HST.out d6 N6 m Fu yD.out.1 HLK.out.1 yD.out.2.1;have qS:=HSR.out d6 N6;have ug:Hid (_):=HFN.out d6 N6;have hcs:(jo (m:Int) e.holds=0)∨((jo (m:Int) e.holds != 0)=true∧jo (m:Int) e.holds=tx):=by
    by_cases q:jo (m:Int) e.holds=0
    ·exact .inl q
    ·exact .inr ⟨by simpa using q,Classical.byContradiction fun q2=>hbz ⟨q,q2⟩⟩
   clear hbz XL HSR HST HEH HEL HFN OE;generalize jo (m:Int) e.holds=HF at*
   rcases hcs with hcs | ⟨hcs,hct⟩
   ·subst hcs;exact pO
   ·have hcx:(HF != tx)=false:=by rw [hct];simp
    clear hct;exact pO
theorem uy {w:World} {dst:Option Nat} {ty:TypeId} {pos:String} {XY:Array Edge} {act:Act} {K:Act→World→Prop} {Q:Exit→Act→World→Prop} (T:TypeId) (cs:List Value)
  (hz:(prog.info? T).map (·.zero)=some (some (.agg cs.toArray)))
  (h:K (act.put dst (.pointer (some ⟨w.heap.size,0,none⟩))) (w.alloc (.cells cs.toArray T))):
  Oper.wp prog { dst:=dst,op:=.alloc T,type:=ty,pos:=pos,after:=XY,guard:=none } act w K Q:=by
 cases hi:prog.info? T with
 | none=>rw [hi] at hz;cases hz
 | some inf=>
  rw [hi] at hz;have hz':inf.zero=some (.agg cs.toArray):=by simpa using hz
  unfold Oper.wp execOp;have e1:(zeroValue T).run prog w=.ok (.agg cs.toArray) w:=by simp [zeroValue,typeInfo,hi,hz']
  have e2:(Instr.alloc T true (.tuple #[])).run prog w=.ok (.pointer (some ⟨w.heap.size,0,none⟩)) (w.alloc (.cells cs.toArray T)):=by
   unfold Instr.alloc;simp only [qdq,e1,qdf];simp [newVar,go_sem]
  simp only [qdq,e2,qdf,qeJ];exact h
theorem AB (s:qj):(prog.info? 26).map (·.size)=some s.cells.length:=by show _=some 4;kernel_rfl
theorem qb.qh6 {e:qb} (se:e.shape) (h:e.short 1048576):e.kE 1≤109951162777600:=by
 have h1:=Wj (qZ e.disk) 1048576 (fun s hs=>by
  obtain ⟨p,hp,hs⟩:=qag.1 hs;exact h.disk p hp s hs)
 rw [M9 se.four,se.eight] at h1;have h2:=WV h.pool;have h3:=Na h.log;have h4:=h.txs;have h5:=h.holds;unfold qb.kE qb.kH qb.kT qb.kL qb.kP;omega
theorem Sz (p:qb) (tx oid:Int) (s:qj) (w:World) (hg:jR w) (hin:iZ w p) (his:Qj w s):
  Calls prog 3 #[.agg p.cells.toArray,.int .i64 tx,.int .i64 oid,.agg s.cells.toArray] w fun e w'=>e=.returned (.bool true)∧qa w w':=by
 have sp:p.shape:=hin.shape;have hrd:p.reads w:=hin.reads;have hrs:s.reads w:=his.reads;have hss:Small [s]:=fun t ht=>by obtain rfl:=qac.1 ht;have h1:=his.lI;have h2:=his.lR;simp only [maxLen] at h1 h2;omega
 obtain ⟨Z,hZ⟩:=qV zeroE;have sZ:Z.shape:=by rw [← hZ.out];exact zT
 have HZ:=Tryz.Xh;rw [hZ.out] at HZ;obtain ⟨W,hW,b0,b1,hbW,qD⟩:=jK w p.cells s.cells 40 26;have jY:Hid (∀ w',qa W w'→w'.rangeAt w.heap.size 0 p.cells∧w'.rangeAt (w.heap.size+1) 0 s.cells):=fun w' hh=>⟨qN (b0.below hh b0.lt),qN (b1.below hh b1.lt)⟩
 have Yc:Hid (∀ w',qa W w'→p.reads w'):=fun w' hh=>hrd.below (qf hbW hh)
 have wK:Hid (∀ w',qa W w'→s.reads w'):=fun w' hh=>jd.below hrs (qf hbW hh)
 have HG:Hid (∀ w',qa W w'→jR w'):=fun w' hh=>hg.keep (qf hbW hh)
 have HI:=OG sp;have HJ:=AB s;have CZ:=rW p sp W (Yc.out W (qab _ _)) hin.wide;have jr:Hid (∀ u,qa W u→qa w u):=fun u hu=>qf hbW hu
 have RG:∀ (u:World) (a:Nat) (t:qb),Box u a t.cells 59→u.rangeAt a 0 t.cells:=fun u a t b=>Box.range [] t.cells [] (by simpa using b)
 have XV:Hid (_):=RG;have RS:∀ (u:World) (a:Nat) (t:qj),Box u a t.cells 45→u.rangeAt a 0 t.cells:=fun u a t b=>Box.range [] t.cells [] (by simpa using b)
 have qb7:Hid (_):=RS;obtain ⟨VC,Nb⟩:=qV ((xQ p.v tx oid s.v).2);clear b0 b1 hrd hrs hin hg RG RS his;go_enter func3,ntmps3;go_wp2_with (first | (guard_target=qp 21;refine qH 40 4 w.heap.size 0 (p.cells) (by rw [hW.out];exact (jY.out _ (qab _ _)).1) underlying40 HI ?_) | fail);rw [hW.out];clear hW qD;refine CZ.mono ?_;clear CZ;rintro e w1 ⟨z,rfl,hz,B1⟩;rcases hz with hneg | ⟨hz0,hzl,hl⟩
 ·have HE:Hid (qa w w1):=jr.out _ B1;go_wp2;go_ret;exact ⟨rfl,HE.out⟩
 have hzn:¬ z<0:=by omega
 have C:=Ym s z w1 hss ⟨hz0,hzl⟩;have R1:=(jY.out _ B1).2;go_wp2_with (first | (guard_target=qp 26;refine qH 26 7 (w.heap.size+1) 0 (s.cells) (R1) underlying26 HJ ?_) | fail);refine C.mono ?_;clear C R1;rintro e w2 ⟨z2,rfl,hz2,hb⟩;have B2:=qf B1 hb;clear hb;rcases hz2 with hneg | ⟨qbz,_,hls⟩
 ·have HE:Hid (qa w w2):=jr.out _ B2;go_wp2;go_ret;exact ⟨rfl,HE.out⟩
 have qlL:¬ z2<0:=by omega
 have hsl:=hls s (qac.2 rfl);have WW:s.v.o.ints.length≤1099511627776:=qcx hsl.1 (by decide);have WX:s.v.o.refs.length≤1099511627776:=qcx hsl.2 (by decide);clear hls hss;go_upto_region 8 with fail;have DR:Hid (w2.heap.size≤w2.drew.heap.size):=qcN _
 go_cut [10,11] from 21 (fun a b wx=>∃ (A:Nat) (tw:qb),a=.pointer (some ⟨A,0,none⟩)∧b=.int .i64 VC∧tw.shape∧Hid (tw.v=(xQ p.v tx oid s.v).1)∧Box wx A tw.cells 59∧tw.own wx w2.heap.size wx.heap.size∧qa w2 wx)
 case first=>
  have N0:qa w2 w2.drew:=(qab _ _).drew;refine qaZ (S:=fun u=>u.rangeAt w.heap.size 0 p.cells∧u.rangeAt (w.heap.size+1) 0 s.cells) (by kernel_rfl) (jY.out _ (qf B2 N0)) (fun qc=>?_);generalize w2.drew=d0 at*
  refine xB 0 (p.cells) (fun _ h=>h.1) underlying40 HI ?_;refine jg 2 ?_;refine jg 3 ?_;refine xB 4 (s.cells) (fun _ h=>h.2) underlying26 HJ ?_;refine qde (rs:=[1,10]) (by kernel_rfl) (by simp) ?_;refine qcE rfl (fun K hK=>?_) (qcE rfl (fun K hK=>?_) qc9)
  ·go_simp;refine (Qt p sp _ (Yc.out _ (qf B2 N0)) hl).mono ?_;rintro r u1 ⟨ts,rfl,st,hv2,ho2,hb⟩;have N2:=N0.trans (hb.mono (N0).size);have zu1:=hb.size;have yu1:=(N0).size;refine qX hK (jY.out _ (qf B2 N2)) fun qc=>?_
   clear hK K hb;try simp only [zz]
   refine qde (rs:=[5,10]) (by kernel_rfl) (by simp) ?_;refine qcE rfl (fun K hK=>?_) (qcE rfl (fun K hK=>?_) qc9)
   ·go_simp;refine (wm s _ (wK.out _ (qf B2 N2)) WW WX).mono ?_;rintro r u3 ⟨t2,rfl,Qg,Jk,hb⟩;replace ho2:=ho2.below hb;have N4:=N2.trans (hb.mono (N2).size);have zu3:=hb.size;have yu3:=(N2).size;refine qX hK (jY.out _ (qf B2 N4)) fun qc=>?_
    clear hK K hb;try simp only [zz]
    refine qde (rs:=[6,10]) (by kernel_rfl) (by simp) ?_;refine qcE rfl (fun K hK=>?_) (qcE rfl (fun K hK=>?_) qc9)
    ·go_simp;have C:=Xr ts tx oid t2 st _ ho2.reads (qb.xq hv2.out hl) ho2.QU (OwnO.reads Jk) (by rw [Qg.out];exact hsl);rw [hv2.out,Qg.out] at C;refine C.mono ?_;clear C;rintro r u5 ⟨tw,rfl,sw,hvw,ow,hb⟩;rw [Nb.out];have N6:=N4.trans (hb.mono (N4).size);have zu5:=hb.size;have yu5:=(N4).size;refine qX hK (jY.out _ (qf B2 N6)) fun qc=>?_
     clear hK K hb;try simp only [Act.put,zD,zE,zF]
     refine jg 7 ?_;refine jg 8 ?_;refine jg 9 ?_;refine jc 10 (fun K hK=>?_);rw [qan (by rfl)];refine uy 59 Z.cells HZ ?_;obtain ⟨u7,qge,bZ,hb,zx⟩:=qB _ Z.cells 59;rw [qge.out];clear qge zx;have o9:=(ow).below hb;have N8:=N6.trans (hb.mono (N6).size);have zu7:=hb.size;have yu7:=(N6).size;have b10:Box u7 u5.heap.size Z.cells 59:=bZ;have lu7:=b10.lt;refine qX hK (jY.out _ (qf B2 N8)) fun qc=>?_
     clear hK K hb bZ;try simp only [Act.put,zD,zE,zF]
     obtain ⟨qgf,qK,hwF,q8,jI,bF⟩:=zq sw sZ b10;refine jc 11 (fun K hK=>?_);rw [qan (by rfl)];refine qc7 59 (.tmp 10) (.tmp 39) rfl (u5.heap.size) 0 tw.cells.toArray rfl rfl jI.out (jG (j6 sw)) (qaf (QD tw)) ?_;rw [qK.out];have NF:=N8.trans (hwF.below (by have:=DR.out;omega) (by have:=N8.size;omega));refine qX hK (jY.out _ (qf B2 NF)) fun qc=>?_
     clear hK K;try simp only [Act.put,zA,zB,zC]
     refine jg 12 ?_;refine qau (by kernel_rfl) ?_ _;have oF:tw.own qgf w2.heap.size qgf.heap.size:=((o9).within hwF (by first | exact .inl (by omega) | exact .inr (by omega))).widen (by have:=DR.out;omega) (by omega) qg;clear hwF q8 jI qK qc;go_wp2_with fail
     go_meet
     case rel=>exact ⟨u5.heap.size,tw,rfl,rfl,sw,hvw,bF,oF,NF⟩
    ·rw [qan (by rfl)];refine uy 59 Z.cells HZ ?_;obtain ⟨u12,qc8,bZ,hb,zx⟩:=qB _ Z.cells 59;rw [qc8.out];clear qc8 zx;replace ho2:=ho2.below hb;replace Jk:=OwnO.below Jk hb;have N13:=N4.trans (hb.mono (N4).size);have qo9:=hb.size;have qpa:=(N4).size;have b14:Box u12 u3.heap.size Z.cells 59:=bZ;have qpb:=b14.lt;refine qX hK (jY.out _ (qf B2 N13)) fun qc=>?_
     clear hK K hb bZ;try simp only [Act.put,zD,zE,zF]
     refine jc 6 (fun K hK=>?_);go_simp;have C:=Xr ts tx oid t2 st _ ho2.reads (qb.xq hv2.out hl) ho2.QU (OwnO.reads Jk) (by rw [Qg.out];exact hsl);rw [hv2.out,Qg.out] at C;refine C.mono ?_;clear C;rintro r u15 ⟨tw,rfl,sw,hvw,ow,hb⟩;rw [Nb.out];have b17:=b14.below hb b14.lt;have N16:=N13.trans (hb.mono (N13).size);have qpc:=hb.size;have qpd:=(N13).size;refine qX hK (jY.out _ (qf B2 N16)) fun qc=>?_
     clear hK K hb;try simp only [Act.put,zD,zE,zF]
     refine jg 7 ?_;refine jg 8 ?_;refine jg 9 ?_;obtain ⟨qgh,qK,hwF,q8,jI,bF⟩:=zq sw sZ b17;refine jc 11 (fun K hK=>?_);rw [qan (by rfl)];refine qc7 59 (.tmp 10) (.tmp 39) rfl (u3.heap.size) 0 tw.cells.toArray rfl rfl jI.out (jG (j6 sw)) (qaf (QD tw)) ?_;rw [qK.out];have NF:=N16.trans (hwF.below (by have:=DR.out;omega) (by have:=N16.size;omega));refine qX hK (jY.out _ (qf B2 NF)) fun qc=>?_
     clear hK K;try simp only [Act.put,zA,zB,zC]
     refine jg 12 ?_;refine qau (by kernel_rfl) ?_ _;have oF:tw.own qgh w2.heap.size qgh.heap.size:=((ow).within hwF (by first | exact .inl (by omega) | exact .inr (by omega))).widen (by have:=DR.out;omega) (by omega) qg;clear hwF q8 jI qK qc;go_wp2_with fail
     go_meet
     case rel=>exact ⟨u3.heap.size,tw,rfl,rfl,sw,hvw,bF,oF,NF⟩
   ·rw [qan (by rfl)];refine uy 59 Z.cells HZ ?_;obtain ⟨u19,qda,bZ,hb,zx⟩:=qB _ Z.cells 59;rw [qda.out];clear qda zx;replace ho2:=ho2.below hb;have OH:=N2.trans (hb.mono (N2).size);have qmc:=hb.size;have qpe:=(N2).size;have wP:Box u19 u1.heap.size Z.cells 59:=bZ;have qpf:=wP.lt;refine qX hK (jY.out _ (qf B2 OH)) fun qc=>?_
    clear hK K hb bZ;try simp only [Act.put,zD,zE,zF]
    refine jc 5 (fun K hK=>?_);go_simp;refine (wm s _ (wK.out _ (qf B2 OH)) WW WX).mono ?_;rintro r u22 ⟨t2,rfl,Qg,Jk,hb⟩;replace ho2:=ho2.below hb;have nE:=wP.below hb wP.lt;have N23:=OH.trans (hb.mono (OH).size);have qpg:=hb.size;have qph:=(OH).size;refine qX hK (jY.out _ (qf B2 N23)) fun qc=>?_
    clear hK K hb;try simp only [zz]
    refine jc 6 (fun K hK=>?_);go_simp;have C:=Xr ts tx oid t2 st _ ho2.reads (qb.xq hv2.out hl) ho2.QU (OwnO.reads Jk) (by rw [Qg.out];exact hsl);rw [hv2.out,Qg.out] at C;refine C.mono ?_;clear C;rintro r u25 ⟨tw,rfl,sw,hvw,ow,hb⟩;rw [Nb.out];have Lp:=nE.below hb nE.lt;have N26:=N23.trans (hb.mono (N23).size);have qpi:=hb.size;have qpj:=(N23).size;refine qX hK (jY.out _ (qf B2 N26)) fun qc=>?_
    clear hK K hb;try simp only [Act.put,zD,zE,zF]
    refine jg 7 ?_;refine jg 8 ?_;refine jg 9 ?_;obtain ⟨qgj,qK,hwF,q8,jI,bF⟩:=zq sw sZ Lp;refine jc 11 (fun K hK=>?_);rw [qan (by rfl)];refine qc7 59 (.tmp 10) (.tmp 39) rfl (u1.heap.size) 0 tw.cells.toArray rfl rfl jI.out (jG (j6 sw)) (qaf (QD tw)) ?_;rw [qK.out];have NF:=N26.trans (hwF.below (by have:=DR.out;omega) (by have:=N26.size;omega));refine qX hK (jY.out _ (qf B2 NF)) fun qc=>?_
    clear hK K;try simp only [Act.put,zA,zB,zC]
    refine jg 12 ?_;refine qau (by kernel_rfl) ?_ _;have oF:tw.own qgj w2.heap.size qgj.heap.size:=((ow).within hwF (by first | exact .inl (by omega) | exact .inr (by omega))).widen (by have:=DR.out;omega) (by omega) qg;clear hwF q8 jI qK qc;go_wp2_with fail
    go_meet
    case rel=>exact ⟨u1.heap.size,tw,rfl,rfl,sw,hvw,bF,oF,NF⟩
  ·rw [qan (by rfl)];refine uy 59 Z.cells HZ ?_;obtain ⟨u29,qdc,bZ,hb,zx⟩:=qB _ Z.cells 59;rw [qdc.out];clear qdc zx;have OI:=N0.trans (hb.mono (N0).size);have qpk:=hb.size;have qpl:=(N0).size;have BM:Box u29 d0.heap.size Z.cells 59:=bZ;have qpm:=BM.lt;refine qX hK (jY.out _ (qf B2 OI)) fun qc=>?_
   clear hK K hb bZ;try simp only [Act.put,zD,zE,zF]
   refine jc 1 (fun K hK=>?_);go_simp;refine (Qt p sp _ (Yc.out _ (qf B2 OI)) hl).mono ?_;rintro r u32 ⟨ts,rfl,st,hv2,ho2,hb⟩;have G9:=BM.below hb BM.lt;have OJ:=OI.trans (hb.mono (OI).size);have qpn:=hb.size;have qpo:=(OI).size;refine qX hK (jY.out _ (qf B2 OJ)) fun qc=>?_
   clear hK K hb;try simp only [zz]
   refine jc 5 (fun K hK=>?_);go_simp;refine (wm s _ (wK.out _ (qf B2 OJ)) WW WX).mono ?_;rintro r u35 ⟨t2,rfl,Qg,Jk,hb⟩;replace ho2:=ho2.below hb;have Bg:=G9.below hb G9.lt;have N36:=OJ.trans (hb.mono (OJ).size);have qpp:=hb.size;have qpq:=(OJ).size;refine qX hK (jY.out _ (qf B2 N36)) fun qc=>?_
   clear hK K hb;try simp only [zz]
   refine jc 6 (fun K hK=>?_);go_simp;have C:=Xr ts tx oid t2 st _ ho2.reads (qb.xq hv2.out hl) ho2.QU (OwnO.reads Jk) (by rw [Qg.out];exact hsl);rw [hv2.out,Qg.out] at C;refine C.mono ?_;clear C;rintro r u38 ⟨tw,rfl,sw,hvw,ow,hb⟩;rw [Nb.out];have b40:=Bg.below hb Bg.lt;have N39:=N36.trans (hb.mono (N36).size);have qpr:=hb.size;have qps:=(N36).size;refine qX hK (jY.out _ (qf B2 N39)) fun qc=>?_
   clear hK K hb;try simp only [Act.put,zD,zE,zF]
   iterate 3 refine jv ?_
   obtain ⟨qgl,qK,hwF,q8,jI,bF⟩:=zq sw sZ b40;refine jc 11 (fun K hK=>?_);rw [qan (by rfl)];refine qc7 59 (.tmp 10) (.tmp 39) rfl (d0.heap.size) 0 tw.cells.toArray rfl rfl jI.out (jG (j6 sw)) (qaf (QD tw)) ?_;rw [qK.out];have NF:=N39.trans (hwF.below (by have:=DR.out;omega) (by have:=N39.size;omega));refine qX hK (jY.out _ (qf B2 NF)) fun qc=>?_
   clear hK K;try simp only [Act.put,zA,zB,zC]
   refine jg 12 ?_;refine qau (by kernel_rfl) ?_ _;have oF:tw.own qgl w2.heap.size qgl.heap.size:=((ow).within hwF (by first | exact .inl (by omega) | exact .inr (by omega))).widen (by have:=DR.out;omega) (by omega) qg;clear hwF q8 jI qK qc;go_wp2_with fail
   go_meet
   case rel=>exact ⟨d0.heap.size,tw,rfl,rfl,sw,hvw,bF,oF,NF⟩
 case rest=>
 obtain ⟨A6,tw,rfl,rfl,sw,hvw,b6,ow,hb⟩:=hcut;obtain ⟨w3,hw3⟩:∃ x,x=wc:=⟨_,rfl⟩;subst hw3;have B3:=qf B2 hb;have z3:=hb.size;have l3:=b6.lt;clear hb;have HIw:=j6 sw;have C:=Qt p sp w3 (Yc.out _ B3) hl;have R3:=(jY.out _ B3).1;go_wp2_with (first | (guard_target=qp 41;refine qH 40 4 w.heap.size 0 (p.cells) (R3) underlying40 HI ?_) | fail);refine C.mono ?_;clear C R3;rintro e w5 ⟨q,rfl,sq,hqm,oq,hb⟩;have B5:=qf B3 hb;have z5:=hb.size;replace ow:=ow.below hb;replace b6:=b6.below hb b6.lt;clear hb;have OL:=qb.xq hqm.out hl;obtain ⟨Z6,hZ6,bZ,yF,zx⟩:=qB w5 Z.cells 59;obtain ⟨w6,hS6,DT,OM,Co,b7⟩:=zq sq sZ bZ;have hb6:qa w5 w6:=yF.trans (DT.below qg (by omega));have B6:=qf B5 hb6;have l6:=b7.lt;replace ow:=ow.below hb6;replace oq:=oq.below hb6;replace b6:=b6.below hb6 b6.lt;have Ko:=j6 sq;have HCq:=qaf (QD q);clear bZ yF zx DT OM hb6;have C:=wm s w6 (wK.out _ B6) WW WX;have R6:=(jY.out _ B6).2;go_wp2_with (first | (guard_target=wpList _ _ _ (Oper.mk (some 12) (Op.alloc _) _ _ _ _::_) _ _;refine Qf 59 Z.cells HZ ?_) | (guard_target=ja 12;refine jb 59 12 42 w5.heap.size 0 (q.cells).toArray (by rw [hZ6.out];exact Co.out) (jG Ko) HCq ?_) | (guard_target=qp 43;refine qH 26 7 (w.heap.size+1) 0 (s.cells) (by rw [hZ6.out,hS6.out];exact R6) underlying26 HJ ?_) | fail);rw [hZ6.out,hS6.out];refine C.mono ?_;clear C R6 hZ6 hS6 Co;rintro e w7 ⟨t,rfl,Kq,ot,hb⟩;have B7:=qf B6 hb;have z7:=hb.size;replace ow:=ow.below hb;replace oq:=oq.below hb;replace b6:=b6.below hb b6.lt;replace b7:=b7.below hb b7.lt;clear hb;have hts:t.v.o.ints.length≤1048576∧t.v.o.refs.length≤1048576:=by rw [Kq.out];exact hsl
 obtain ⟨Z8,hZ8,bZ,yF,zx⟩:=qB w7 qw.cells 45;obtain ⟨w8,hS8,DT,OM,Uv,_,bt⟩:=DU t _ rfl bZ;have uu:qa w7 w8:=yF.trans (DT.below qg (by omega));have Fw:Hid (w7.alloc (.cells #[.bool false,.int .i64 0,.slice none 0 0,.slice none 0 0] 45)=Z8):=hZ8.out;have B8:=qf B7 uu;have l8:=bt.lt;replace ow:=ow.below uu;replace oq:=oq.below uu;replace ot:=OwnO.below ot uu;replace b6:=b6.below uu b6.lt;replace b7:=b7.below uu b7.lt;clear bZ yF zx DT OM uu hZ8;have C:=JN q tx oid t sq w8 (HG.out _ B8) oq.reads OL oq.QU (OwnO.reads ot) hts;rw [hqm.out,Kq.out] at C;have G7:=XV.out _ _ _ b7;have Gt:=qb7.out _ _ _ bt;go_wp2_with (first | (guard_target=ja 13;refine jb 45 13 44 w7.heap.size 0 (t.cells).toArray (by rw [Fw.out];exact Uv.out) (jG (zg t)) (DW t) ?_) | (guard_target=qp 46;refine qH 59 12 w5.heap.size 0 (q.cells) (by rw [Fw.out,hS8.out];exact G7) underlying59 Ko ?_) | (guard_target=qp 49;refine qH 45 13 w7.heap.size 0 (t.cells) (by rw [Fw.out,hS8.out];exact Gt) underlying45 (zg t) ?_) | fail);rw [Fw.out,hS8.out];refine C.mono ?_;clear C G7 Gt Fw hS8 Uv;rintro e w9 ⟨tg,rfl,sg,hvg,og,hb⟩;rw [Nb.out];have B9:=qf B8 hb;have z9:=hb.size;replace ow:=ow.below hb;replace oq:=oq.below hb;replace ot:=OwnO.below ot hb;replace b6:=b6.below hb b6.lt;replace b7:=b7.below hb b7.lt;replace bt:=bt.below hb bt.lt;clear hb;have aW:=M8 sp hvg.out hl hsl;have HGW:Hid (tw.v=tg.v):=hvw.out.trans hvg.out.symm;obtain ⟨Z10,Fx,bZ,yF,zx⟩:=qB w9 Z.cells 59;obtain ⟨Jl,AJ,DT,OM,Bj,b8⟩:=zq sg sZ bZ;have vw:qa w9 Jl:=yF.trans (DT.below qg (by omega));have B10:=qf B9 vw;have l10:=b8.lt;replace ow:=ow.below vw;replace oq:=oq.below vw;replace ot:=OwnO.below ot vw;replace og:=og.below vw;replace b6:=b6.below vw b6.lt;replace b7:=b7.below vw b7.lt;replace bt:=bt.below vw bt.lt;have aX:=j6 sg;have HCg:=qaf (QD tg);clear bZ yF zx DT OM vw;have G8:=XV.out _ _ _ b8;have G6:=XV.out _ _ _ b6;have C:=JV tg tw sg sw HGW.out Jl og.reads ow.reads (qb.jB aW);go_wp2_with (first | (guard_target=wpList _ _ _ (Oper.mk (some 14) (Op.alloc _) _ _ _ _::_) _ _;refine Qf 59 Z.cells HZ ?_) | (guard_target=ja 14;refine jb 59 14 51 w9.heap.size 0 (tg.cells).toArray (by rw [Fx.out];exact Bj.out) (jG aX) HCg ?_) | (guard_target=qp 53;refine qH 59 14 w9.heap.size 0 (tg.cells) (by rw [Fx.out,AJ.out];exact G8) underlying59 aX ?_) | (guard_target=qp 54;refine qH 59 10 A6 0 (tw.cells) (by rw [Fx.out,AJ.out];exact G6) underlying59 HIw ?_) | fail);rw [Fx.out,AJ.out];refine C.mono ?_;clear C G8 G6 Fx AJ Bj;rintro e XA ⟨rfl,hb⟩;have B11:=qf B10 hb;have z11:=hb.size;replace ow:=ow.below hb;replace oq:=oq.below hb;replace ot:=OwnO.below ot hb;replace og:=og.below hb;replace b6:=b6.below hb b6.lt;replace b7:=b7.below hb b7.lt;replace bt:=bt.below hb bt.lt;replace b8:=b8.below hb b8.lt;clear hb;have HQ:Hid (q.v=p.v∧t.v=s.v):=⟨hqm.out,Kq.out⟩;have DD:qa XA XA.drew:=(qab _ _).drew;have HX:Hid (∀ u,qa XA u→u.rangeAt w5.heap.size 0 q.cells∧q.reads u):=fun u hu=>⟨XV.out _ _ _ (b7.below hu b7.lt),(oq.below hu).reads⟩
 go_wp2_with fail;refine qaZ (S:=fun w'=>w'.rangeAt w.heap.size 0 p.cells∧w'.rangeAt w5.heap.size 0 q.cells) (by kernel_rfl) ⟨(jY.out _ B11.drew).1,(HX.out _ DD).1⟩ (fun qc=>?_);refine xB 0 q.cells (fun _ h=>h.2) underlying59 Ko ?_;refine xB 1 p.cells (fun _ h=>h.1) underlying40 HI ?_;refine jc 2 (fun K hK=>?_);go_simp;refine (Qt p sp _ (Yc.out _ B11.drew) hl).mono ?_;rintro e wa ⟨vs,rfl,sv,OO,OP,Fy⟩;have Ca:qa W wa:=(B11.drew).trans (Fy.mono B11.size);have Da:=qf DD Fy;refine hK.out _ _ ⟨(jY.out _ Ca).1,(HX.out _ Da).1⟩ (fun qc=>?_);clear hK K;refine jc 3 (fun K hK=>?_);go_simp;refine (JV q vs sq sv (OO.out.trans HQ.out.1.symm) wa (HX.out _ Da).2 OP.reads (qb.jB OL)).mono ?_;rintro e XB ⟨rfl,hbb⟩;have OQ:=qf Ca hbb;have Db:=qf Da hbb;refine hK.out _ _ ⟨(jY.out _ OQ).1,(HX.out _ Db).1⟩ (fun qc=>?_);clear hK K;refine jg 4 ?_;refine qau (by kernel_rfl) ?_ _;have qoD:=Db.size;replace ow:=ow.below Db;replace oq:=oq.below Db;replace ot:=OwnO.below ot Db;replace og:=og.below Db;replace b6:=b6.below Db b6.lt;replace b7:=b7.below Db b7.lt;replace bt:=bt.below Db bt.lt;replace b8:=b8.below Db b8.lt;clear qc HX Da Db Ca Fy hbb OP OO sv DD;have DD:qa XB XB.drew:=(qab _ _).drew;have HX:Hid (∀ u,qa XB u→u.rangeAt w7.heap.size 0 t.cells∧t.reads u):=fun u hu=>⟨qb7.out _ _ _ (bt.below hu bt.lt),OwnO.reads (OwnO.below ot hu)⟩
 go_wp2_with fail;refine qaZ (S:=fun w'=>w'.rangeAt (w.heap.size+1) 0 s.cells∧w'.rangeAt w7.heap.size 0 t.cells) (by kernel_rfl) ⟨(jY.out _ OQ.drew).2,(HX.out _ DD).1⟩ (fun qc=>?_);refine xB 0 t.cells (fun _ h=>h.2) underlying45 ((zg t)) ?_;refine xB 1 s.cells (fun _ h=>h.1) underlying26 HJ ?_;refine jc 2 (fun K hK=>?_);go_simp;refine (wm s _ (wK.out _ OQ.drew) WW WX).mono ?_;rintro e wa ⟨vs,rfl,OO,OP,Fy⟩;have Ca:qa W wa:=(OQ.drew).trans (Fy.mono OQ.size);have Da:=qf DD Fy;refine hK.out _ _ ⟨(jY.out _ Ca).2,(HX.out _ Da).1⟩ (fun qc=>?_);clear hK K;refine jc 3 (fun K hK=>?_);go_simp;refine (Xk t vs (OO.out.trans HQ.out.2.symm) wa (HX.out _ Da).2 (OwnO.reads OP) (qcx hts.1 (by decide)) (qcx hts.2 (by decide))).mono ?_;rintro e w13 ⟨rfl,hbb⟩;have B13:=qf Ca hbb;have Db:=qf Da hbb;refine hK.out _ _ ⟨(jY.out _ B13).2,(HX.out _ Db).1⟩ (fun qc=>?_);clear hK K;refine jg 4 ?_;refine qau (by kernel_rfl) ?_ _;have qoE:=Db.size;replace ow:=ow.below Db;replace oq:=oq.below Db;replace ot:=OwnO.below ot Db;replace og:=og.below Db;replace b6:=b6.below Db b6.lt;replace b7:=b7.below Db b7.lt;replace bt:=bt.below Db bt.lt;replace b8:=b8.below Db b8.lt;clear qc HX Da Db Ca Fy hbb OP OO DD;have KQ:=qb.aY sq OL;have KQM:=qb.qh6 sq OL;have KQ0:=qb.qdg q;have G7:=XV.out _ _ _ b7;have C:=YP q sq w3.heap.size w5.heap.size 1 w13 oq (qb.jB OL) (by omega) KQ (by omega);have yJ:=oq.qC;have htb:∀ k∈t.blocks,w6.heap.size≤k∧k<w7.heap.size:=fun k hk=>qj.qC ot k hk
 go_wp2_with (first | (guard_target=qp 72;refine qH 59 12 w5.heap.size 0 (q.cells) (G7) underlying59 Ko ?_) | fail);refine C.mono ?_;clear C G7;rintro e w14 ⟨rfl,_,t14⟩;have B14:qa W w14:=B13.trans (YV t14 (fun k hk=>by have:=yJ k hk;have:=B3.size;omega) B13.size);have z14:=t14.size;replace ow:=ow.touch t14 (fun k hk hm=>by have:=ow.qC k hk;have:=yJ k hm;omega);have hgb:=og.qC;replace og:=og.touch t14 (fun k hk hm=>by have:=hgb k hk;have:=yJ k hm;omega);replace ot:=qj.touch ot t14 (fun k hk hm=>by have:=htb k hk;have:=yJ k hm;omega);replace b6:=b6.touch t14 (fun hm=>by have:=yJ _ hm;omega);replace bt:=bt.touch t14 (fun hm=>by have:=yJ _ hm;omega);replace b8:=b8.touch t14 (fun hm=>by have:=yJ _ hm;omega);clear oq b7 t14 yJ;have Gt:=qb7.out _ _ _ bt;have C:=Vl t w6.heap.size w7.heap.size (q.kE 1) w14 ot KQ0 (qcx hts.1 (by decide)) (qcx hts.2 (by decide)) KQM;go_wp2_with (first | (guard_target=qp 75;refine qH 45 13 w7.heap.size 0 (t.cells) (Gt) underlying45 (zg t) ?_) | fail);refine C.mono ?_;clear C Gt;rintro e w15 ⟨rfl,_,t15⟩;have B15:qa W w15:=B14.trans (YV t15 (fun k hk=>by have:=htb k hk;have:=B6.size;omega) B14.size);have z15:=t15.size;replace ow:=ow.touch t15 (fun k hk hm=>by have:=ow.qC k hk;have:=htb k hm;omega);replace og:=og.touch t15 (fun k hk hm=>by have:=hgb k hk;have:=htb k hm;omega);replace b6:=b6.touch t15 (fun hm=>by have:=htb _ hm;omega);replace b8:=b8.touch t15 (fun hm=>by have:=htb _ hm;omega);clear ot bt t15 htb;have hKn:¬ q.kE 1+(t.count:Int)<0:=by omega
 have G8:=XV.out _ _ _ b8;have G6:=XV.out _ _ _ b6;have C:=JV tg tw sg sw HGW.out w15 og.reads ow.reads (qb.jB aW);go_wp2_with (first | (guard_target=qp 81;refine jD (by rfl) 59 (.tmp 14) rfl w9.heap.size 0 rfl (tg.cells) _ (G8) underlying59 rfl aX ?_) | (guard_target=qp 82;refine jD (by rfl) 59 (.tmp 10) rfl A6 0 rfl (tw.cells) _ (G6) underlying59 rfl HIw ?_) | fail);refine C.mono ?_;clear C G8 G6;rintro e w16 ⟨rfl,hb⟩;have B16:=qf B15 hb;have z16:=hb.size;replace ow:=ow.below hb;replace og:=og.below hb;replace b6:=b6.below hb b6.lt;replace b8:=b8.below hb b8.lt;clear hb;have KG:=qb.aY sg aW;have KG0:=qb.qdg tg;have G8:=XV.out _ _ _ b8;have C:=YP tg sg w8.heap.size w9.heap.size 1 w16 og (qb.jB aW) (by omega) KG (by omega);go_wp2_with (first | (guard_target=qp 91;refine qH 59 14 w9.heap.size 0 (tg.cells) (G8) underlying59 aX ?_) | fail);refine C.mono ?_;clear C G8 hKn;rintro e w17 ⟨rfl,mg,t17⟩;have B17:qa W w17:=B16.trans (YV t17 (fun k hk=>by have:=hgb k hk;have:=B8.size;omega) B16.size);have z17:=t17.size;replace ow:=ow.touch t17 (fun k hk hm=>by have:=ow.qC k hk;have:=hgb k hm;omega);replace b6:=b6.touch t17 (fun hm=>by have:=hgb _ hm;omega);replace b8:=b8.touch t17 (fun hm=>by have:=hgb _ hm;omega);clear og t17 hgb;have G8:=XV.out _ _ _ b8;have C:=Vt tg sg w8.heap.size w9.heap.size 1 w17 mg (qb.jB aW) (by omega) KG;go_wp2_with (first | (guard_target=qp 94;refine qH 59 14 w9.heap.size 0 (tg.cells) (G8) underlying59 aX ?_) | fail);refine C.mono ?_;clear C G8;rintro e WY ⟨rfl,hb⟩;have Qh:=qf B17 hb;have z18:=hb.size;replace ow:=ow.below hb;replace mg:=mg.below hb;replace b6:=b6.below hb b6.lt;replace b8:=b8.below hb b8.lt;clear hb;have hKn:¬ tg.kE 1<0:=by omega
 go_upto_region 31 with fail;have WZ:Hid (WY.heap.size≤WY.drew.heap.size):=qcN _
 go_cut [19,20] from 21 (fun a b wx=>∃ (A:Nat) (th:qb),a=.pointer (some ⟨A,0,none⟩)∧b=.int .i64 VC∧th.shape∧Hid (th.v=(xQ p.v tx oid s.v).1)∧Box wx A th.cells 59∧th.own wx WY.heap.size wx.heap.size∧qa WY wx)
 case first=>
  have N0:qa WY WY.drew:=(qab _ _).drew;refine qaZ (S:=fun u=>u.rangeAt w.heap.size 0 p.cells∧u.rangeAt (w.heap.size+1) 0 s.cells) (by kernel_rfl) (jY.out _ (qf Qh N0)) (fun qc=>?_);generalize WY.drew=d0 at*
  refine xB 0 (p.cells) (fun _ h=>h.1) underlying40 HI ?_;refine jg 2 ?_;refine jg 3 ?_;refine xB 4 (s.cells) (fun _ h=>h.2) underlying26 HJ ?_;refine qde (rs:=[1,10]) (by kernel_rfl) (by simp) ?_;refine qcE rfl (fun K hK=>?_) (qcE rfl (fun K hK=>?_) qc9)
  ·go_simp;refine (Qt p sp _ (Yc.out _ (qf Qh N0)) hl).mono ?_;rintro r u42 ⟨ts,rfl,st,hv2,ho2,hb⟩;have DX:=N0.trans (hb.mono (N0).size);have qpt:=hb.size;have qpu:=(N0).size;refine qX hK (jY.out _ (qf Qh DX)) fun qc=>?_
   clear hK K hb;try simp only [zz]
   refine qde (rs:=[5,10]) (by kernel_rfl) (by simp) ?_;refine qcE rfl (fun K hK=>?_) (qcE rfl (fun K hK=>?_) qc9)
   ·go_simp;refine (wm s _ (wK.out _ (qf Qh DX)) WW WX).mono ?_;rintro r u44 ⟨t2,rfl,Qg,Jk,hb⟩;replace ho2:=ho2.below hb;have DY:=DX.trans (hb.mono (DX).size);have qpv:=hb.size;have qpw:=(DX).size;refine qX hK (jY.out _ (qf Qh DY)) fun qc=>?_
    clear hK K hb;try simp only [zz]
    refine qde (rs:=[6,10]) (by kernel_rfl) (by simp) ?_;refine qcE rfl (fun K hK=>?_) (qcE rfl (fun K hK=>?_) qc9)
    ·go_simp;have C:=JN ts tx oid t2 st _ (HG.out _ (qf Qh DY)) ho2.reads (qb.xq hv2.out hl) ho2.QU (OwnO.reads Jk) (by rw [Qg.out];exact hsl);rw [hv2.out,Qg.out] at C;refine C.mono ?_;clear C;rintro r u46 ⟨th,rfl,sh,UF,oh,hb⟩;rw [Nb.out];have N47:=DY.trans (hb.mono (DY).size);have qpx:=hb.size;have qpy:=(DY).size;refine qX hK (jY.out _ (qf Qh N47)) fun qc=>?_
     clear hK K hb;try simp only [Act.put,zD,zE,zF]
     refine jg 7 ?_;refine jg 8 ?_;refine jg 9 ?_;refine jc 10 (fun K hK=>?_);rw [qan (by rfl)];refine uy 59 Z.cells HZ ?_;obtain ⟨u48,qdi,bZ,hb,zx⟩:=qB _ Z.cells 59;rw [qdi.out];clear qdi zx;have o50:=(oh).below hb;have N49:=N47.trans (hb.mono (N47).size);have qpz:=hb.size;have qpA:=(N47).size;have aa:Box u48 u46.heap.size Z.cells 59:=bZ;have qpB:=aa.lt;refine qX hK (jY.out _ (qf Qh N49)) fun qc=>?_
     clear hK K hb bZ;try simp only [Act.put,zD,zE,zF]
     obtain ⟨qgq,qK,hwF,q8,jI,bF⟩:=zq sh sZ aa;refine jc 11 (fun K hK=>?_);rw [qan (by rfl)];refine qc7 59 (.tmp 19) (.tmp 110) rfl (u46.heap.size) 0 th.cells.toArray rfl rfl jI.out (jG (j6 sh)) (qaf (QD th)) ?_;rw [qK.out];have NF:=N49.trans (hwF.below (by have:=WZ.out;omega) (by have:=N49.size;omega));refine qX hK (jY.out _ (qf Qh NF)) fun qc=>?_
     clear hK K;try simp only [Act.put,zA,zB,zC]
     refine jg 12 ?_;refine qau (by kernel_rfl) ?_ _;have oF:th.own qgq WY.heap.size qgq.heap.size:=((o50).within hwF (by first | exact .inl (by omega) | exact .inr (by omega))).widen (by have:=WZ.out;omega) (by omega) qg;clear hwF q8 jI qK qc;go_wp2_with fail
     go_meet
     case rel=>exact ⟨u46.heap.size,th,rfl,rfl,sh,UF,bF,oF,NF⟩
    ·rw [qan (by rfl)];refine uy 59 Z.cells HZ ?_;obtain ⟨u53,qdj,bZ,hb,zx⟩:=qB _ Z.cells 59;rw [qdj.out];clear qdj zx;replace ho2:=ho2.below hb;replace Jk:=OwnO.below Jk hb;have OT:=DY.trans (hb.mono (DY).size);have qpC:=hb.size;have qpD:=(DY).size;have TC:Box u53 u44.heap.size Z.cells 59:=bZ;have qpE:=TC.lt;refine qX hK (jY.out _ (qf Qh OT)) fun qc=>?_
     clear hK K hb bZ;try simp only [Act.put,zD,zE,zF]
     refine jc 6 (fun K hK=>?_);go_simp;have C:=JN ts tx oid t2 st _ (HG.out _ (qf Qh OT)) ho2.reads (qb.xq hv2.out hl) ho2.QU (OwnO.reads Jk) (by rw [Qg.out];exact hsl);rw [hv2.out,Qg.out] at C;refine C.mono ?_;clear C;rintro r u56 ⟨th,rfl,sh,UF,oh,hb⟩;rw [Nb.out];have b58:=TC.below hb TC.lt;have KW:=OT.trans (hb.mono (OT).size);have qpF:=hb.size;have qpG:=(OT).size;refine qX hK (jY.out _ (qf Qh KW)) fun qc=>?_
     clear hK K hb;try simp only [Act.put,zD,zE,zF]
     refine jg 7 ?_;refine jg 8 ?_;refine jg 9 ?_;obtain ⟨qgr,qK,hwF,q8,jI,bF⟩:=zq sh sZ b58;refine jc 11 (fun K hK=>?_);rw [qan (by rfl)];refine qc7 59 (.tmp 19) (.tmp 110) rfl (u44.heap.size) 0 th.cells.toArray rfl rfl jI.out (jG (j6 sh)) (qaf (QD th)) ?_;rw [qK.out];have NF:=KW.trans (hwF.below (by have:=WZ.out;omega) (by have:=KW.size;omega));refine qX hK (jY.out _ (qf Qh NF)) fun qc=>?_
     clear hK K;try simp only [Act.put,zA,zB,zC]
     refine jg 12 ?_;refine qau (by kernel_rfl) ?_ _;have oF:th.own qgr WY.heap.size qgr.heap.size:=((oh).within hwF (by first | exact .inl (by omega) | exact .inr (by omega))).widen (by have:=WZ.out;omega) (by omega) qg;clear hwF q8 jI qK qc;go_wp2_with fail
     go_meet
     case rel=>exact ⟨u44.heap.size,th,rfl,rfl,sh,UF,bF,oF,NF⟩
   ·rw [qan (by rfl)];refine uy 59 Z.cells HZ ?_;obtain ⟨u60,qdk,bZ,hb,zx⟩:=qB _ Z.cells 59;rw [qdk.out];clear qdk zx;replace ho2:=ho2.below hb;have OU:=DX.trans (hb.mono (DX).size);have qpH:=hb.size;have qpI:=(DX).size;have BN:Box u60 u42.heap.size Z.cells 59:=bZ;have qpJ:=BN.lt;refine qX hK (jY.out _ (qf Qh OU)) fun qc=>?_
    clear hK K hb bZ;try simp only [Act.put,zD,zE,zF]
    refine jc 5 (fun K hK=>?_);go_simp;refine (wm s _ (wK.out _ (qf Qh OU)) WW WX).mono ?_;rintro r u63 ⟨t2,rfl,Qg,Jk,hb⟩;replace ho2:=ho2.below hb;have X0:=BN.below hb BN.lt;have OV:=OU.trans (hb.mono (OU).size);have qpK:=hb.size;have qpL:=(OU).size;refine qX hK (jY.out _ (qf Qh OV)) fun qc=>?_
    clear hK K hb;try simp only [zz]
    refine jc 6 (fun K hK=>?_);go_simp;have C:=JN ts tx oid t2 st _ (HG.out _ (qf Qh OV)) ho2.reads (qb.xq hv2.out hl) ho2.QU (OwnO.reads Jk) (by rw [Qg.out];exact hsl);rw [hv2.out,Qg.out] at C;refine C.mono ?_;clear C;rintro r u66 ⟨th,rfl,sh,UF,oh,hb⟩;rw [Nb.out];have b68:=X0.below hb X0.lt;have Bf:=OV.trans (hb.mono (OV).size);have qpM:=hb.size;have qpN:=(OV).size;refine qX hK (jY.out _ (qf Qh Bf)) fun qc=>?_
    clear hK K hb;try simp only [Act.put,zD,zE,zF]
    refine jg 7 ?_;refine jg 8 ?_;refine jg 9 ?_;obtain ⟨qgs,qK,hwF,q8,jI,bF⟩:=zq sh sZ b68;refine jc 11 (fun K hK=>?_);rw [qan (by rfl)];refine qc7 59 (.tmp 19) (.tmp 110) rfl (u42.heap.size) 0 th.cells.toArray rfl rfl jI.out (jG (j6 sh)) (qaf (QD th)) ?_;rw [qK.out];have NF:=Bf.trans (hwF.below (by have:=WZ.out;omega) (by have:=Bf.size;omega));refine qX hK (jY.out _ (qf Qh NF)) fun qc=>?_
    clear hK K;try simp only [Act.put,zA,zB,zC]
    refine jg 12 ?_;refine qau (by kernel_rfl) ?_ _;have oF:th.own qgs WY.heap.size qgs.heap.size:=((oh).within hwF (by first | exact .inl (by omega) | exact .inr (by omega))).widen (by have:=WZ.out;omega) (by omega) qg;clear hwF q8 jI qK qc;go_wp2_with fail
    go_meet
    case rel=>exact ⟨u42.heap.size,th,rfl,rfl,sh,UF,bF,oF,NF⟩
  ·rw [qan (by rfl)];refine uy 59 Z.cells HZ ?_;obtain ⟨u70,qdl,bZ,hb,zx⟩:=qB _ Z.cells 59;rw [qdl.out];clear qdl zx;have OW:=N0.trans (hb.mono (N0).size);have qpO:=hb.size;have qpP:=(N0).size;have b72:Box u70 d0.heap.size Z.cells 59:=bZ;have qpQ:=b72.lt;refine qX hK (jY.out _ (qf Qh OW)) fun qc=>?_
   clear hK K hb bZ;try simp only [Act.put,zD,zE,zF]
   refine jc 1 (fun K hK=>?_);go_simp;refine (Qt p sp _ (Yc.out _ (qf Qh OW)) hl).mono ?_;rintro r u73 ⟨ts,rfl,st,hv2,ho2,hb⟩;have TD:=b72.below hb b72.lt;have OX:=OW.trans (hb.mono (OW).size);have qpR:=hb.size;have qpS:=(OW).size;refine qX hK (jY.out _ (qf Qh OX)) fun qc=>?_
   clear hK K hb;try simp only [zz]
   refine jc 5 (fun K hK=>?_);go_simp;refine (wm s _ (wK.out _ (qf Qh OX)) WW WX).mono ?_;rintro r u76 ⟨t2,rfl,Qg,Jk,hb⟩;replace ho2:=ho2.below hb;have Ol:=TD.below hb TD.lt;have OY:=OX.trans (hb.mono (OX).size);have qpT:=hb.size;have qpU:=(OX).size;refine qX hK (jY.out _ (qf Qh OY)) fun qc=>?_
   clear hK K hb;try simp only [zz]
   refine jc 6 (fun K hK=>?_);go_simp;have C:=JN ts tx oid t2 st _ (HG.out _ (qf Qh OY)) ho2.reads (qb.xq hv2.out hl) ho2.QU (OwnO.reads Jk) (by rw [Qg.out];exact hsl);rw [hv2.out,Qg.out] at C;refine C.mono ?_;clear C;rintro r u79 ⟨th,rfl,sh,UF,oh,hb⟩;rw [Nb.out];have b81:=Ol.below hb Ol.lt;have N80:=OY.trans (hb.mono (OY).size);have qpV:=hb.size;have qpW:=(OY).size;refine qX hK (jY.out _ (qf Qh N80)) fun qc=>?_
   clear hK K hb;try simp only [Act.put,zD,zE,zF]
   iterate 3 refine jv ?_
   obtain ⟨qgv,qK,hwF,q8,jI,bF⟩:=zq sh sZ b81;refine jc 11 (fun K hK=>?_);rw [qan (by rfl)];refine qc7 59 (.tmp 19) (.tmp 110) rfl (d0.heap.size) 0 th.cells.toArray rfl rfl jI.out (jG (j6 sh)) (qaf (QD th)) ?_;rw [qK.out];have NF:=N80.trans (hwF.below (by have:=WZ.out;omega) (by have:=N80.size;omega));refine qX hK (jY.out _ (qf Qh NF)) fun qc=>?_
   clear hK K;try simp only [Act.put,zA,zB,zC]
   refine jg 12 ?_;refine qau (by kernel_rfl) ?_ _;have oF:th.own qgv WY.heap.size qgv.heap.size:=((oh).within hwF (by first | exact .inl (by omega) | exact .inr (by omega))).widen (by have:=WZ.out;omega) (by omega) qg;clear hwF q8 jI qK qc;go_wp2_with fail
   go_meet
   case rel=>exact ⟨d0.heap.size,th,rfl,rfl,sh,UF,bF,oF,NF⟩
 case rest=>
 obtain ⟨A12,th,rfl,rfl,sh,UF,b12,oh,hb⟩:=hcut;obtain ⟨w19,qmd⟩:∃ x,x=wc:=⟨_,rfl⟩;subst qmd;have B19:=qf Qh hb;replace ow:=ow.below hb;replace mg:=mg.below hb;replace b6:=b6.below hb b6.lt;replace b8:=b8.below hb b8.lt;clear hb;have hhS:=M8 sp UF.out hl hsl;have HHW:Hid (tw.v=th.v):=hvw.out.trans UF.out.symm;have HIh:=j6 sh;have G12:=XV.out _ _ _ b12;have G6:=XV.out _ _ _ b6;have C:=JV th tw sh sw HHW.out w19 oh.reads ow.reads (qb.jB hhS);go_wp2_with (first | (guard_target=qp 112;refine qH 59 19 A12 0 (th.cells) (G12) underlying59 HIh ?_) | (guard_target=qp 113;refine qH 59 10 A6 0 (tw.cells) (G6) underlying59 HIw ?_) | fail);refine C.mono ?_;clear C G12 G6;rintro e w20 ⟨rfl,hb⟩;have B20:=qf B19 hb;replace mg:=mg.below hb;replace b8:=b8.below hb b8.lt;clear hb;have G8:=XV.out _ _ _ b8;have C:=Vt tg sg w8.heap.size w9.heap.size 1 w20 mg (qb.jB aW) (by omega) KG;go_wp2_with (first | (guard_target=qp 121;refine qH 59 14 w9.heap.size 0 (tg.cells) (G8) underlying59 aX ?_) | fail);refine C.mono ?_;clear C G8;rintro e w21 ⟨rfl,hb⟩;have HE:Hid (qa w w21):=jr.out _ (qf B20 hb);clear hb;go_wp2;go_ret;exact ⟨rfl,HE.out⟩
end Go.Proofs.YtnfdccldabbobaaGreatDoor
