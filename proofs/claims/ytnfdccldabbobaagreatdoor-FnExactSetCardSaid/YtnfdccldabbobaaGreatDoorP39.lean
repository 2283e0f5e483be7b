/- Texts. -/
import Derived.Test.YtnfdccldabbobaaGreatDoorP32
import Derived.Test.YtnfdccldabbobaaGreatDoorP27
set_option maxHeartbeats 8000000
set_option maxRecDepth 100000
namespace Go.Proofs.YtnfdccldabbobaaGreatDoor
open Go.RowKit Go.Proofs.Tryz
theorem qb.own.QU {w:World} {lo hi:Nat} {e:qb} (h:e.own w lo hi):e.QU:=⟨h.txs.Y9,h.holds.Y9,je.QU h.log⟩
theorem YV {bl:List Nat} {W w w':World} (h:Touch bl w w') (hd:∀ k∈bl,W.heap.size≤k) (hs:W.heap.size≤w.heap.size):Below W.heap.size w w':=
 ⟨h.os,h.tape,h.output,h.size,fun k hk=>h.block k (by omega) (fun hm=>by have:=hd k hm;omega)⟩
theorem M9 {ps:List qA} (h:∀ p∈ps,p.ss.length=4):(qZ ps).length=ps.length*4:=by
 induction ps with
 | nil=>rfl
 | cons p r ih=>
  have h1:=ih (fun q hq=>h q (qcO _ hq));have h2:=h p qfd;simp only [qZ,qaY,qai,qcS] at h1 ⊢;omega
theorem WV {t:qo} (h:t.short 1048576):(t.count:Int)≤4194304:=by
 have h2:=h.len;have e:t.count=4*t.seats.length:=rfl;rw [e];omega
theorem Na {t:qI} (h:t.short 1048576):(t.count:Int)≤10995116277760:=by
 have h1:=fP t.recs 1048576 h.each;have h2:=h.len;have h3:t.recs.length*(10+7*1048576)≤1048576*(10+7*1048576):=Nat.mul_le_mul_right _ h2;have e:t.count=jA t.recs:=rfl;rw [e];omega
theorem qb.aY {e:qb} (se:e.shape) (h:e.short 1048576):e.kP 1≤10995116277760∧e.kE 1≤1152921504606846976:=by
 have h1:=Wj (qZ e.disk) 1048576 (fun s hs=>by
  obtain ⟨p,hp,hs⟩:=qag.1 hs;exact h.disk p hp s hs)
 rw [M9 se.four,se.eight] at h1;have h2:=WV h.pool;have h3:=Na h.log;have h4:=h.txs;have h5:=h.holds;unfold qb.kE qb.kH qb.kT qb.kL qb.kP;omega
theorem qb.qdg (e:qb):0≤e.kE 1:=by unfold qb.kE qb.kH qb.kT qb.kL qb.kP;omega
theorem FW (no:Int) (ss:List q9) (k:Nat) (h:∃ s∈ss,s.no=no):kN no ss k≠ -1:=by
 induction ss generalizing k with
 | nil=>obtain ⟨s,hs,_⟩:=h;cases hs
 | cons s r ih=>
  rw [kN];by_cases hq:s.no=no
  ·rw [qan hq];omega
  ·rw [qa2 hq];refine ih _ ?_;obtain ⟨x,hx,he⟩:=h;rcases qcv.1 hx with rfl | hx
   ·exact absurd he hq
   ·exact ⟨x,hx,he⟩
theorem Ns {ss:List q9} {no:Int} (h:∃ s∈ss,s.no=no):∃ k:Nat,qG ss no=k∧k<ss.length∧(ss.getD k qy).no=no:=by
 rcases JY ss no with h1 | h1
 ·exact absurd h1 (FW no ss 0 h)
 ·exact h1
theorem qar (ss:List q9) (h:Nat) (new:q9) (hl:ss.length≤3) (hh:h<3):new∈(kY ss h new).1:=by
 unfold kY;split
 ·simp
 ·next hn=>
  have hk:=(JF 4 ss h hh).2;have hlen:=Yj 4 ss h;exact qfO.2 ⟨(qW 4 ss h).2.2,by rw [qcP];omega,by simp⟩
theorem WM (ss:List q9) (h:Nat) (new:q9):∀ s∈(kY ss h new).1,s=new∨∃ s0∈ss,s.no=s0.no∧s.ss=s0.ss:=by
 unfold kY;split
 ·intro s hs;rcases qaa.1 hs with hs | hs
  ·exact .inr ⟨s,hs,rfl,rfl⟩
  ·exact .inl (qac.1 hs)
 ·intro s hs;rcases qcV hs with hs | hs
  ·obtain ⟨s0,h0,e1,e2,_,_⟩:=Nj 4 ss h s hs;exact .inr ⟨s0,h0,e1,e2⟩
  ·exact .inl hs
theorem AZ (ss:List q9) (h:Nat) (new:q9) (hh:h<3):(kY ss h new).2.1<3:=by
 unfold kY;split
 ·exact hh
 ·exact (JF 4 ss h hh).1
theorem VY (e:qR) (hp:e.zZ) (n:Nat):∃ k:Nat,(ko e n).2=k∧k<(ko e n).1.seats.length∧((ko e n).1.seats.getD k qy).no=n:=by
 rcases JY e.seats n with hs | ⟨k,hs,hk,hno⟩
 ·rw [ko,qa2 (by rw [hs];omega)];obtain ⟨h,hh,h3⟩:=hp.hand;have hin:∃ s∈(kY e.seats e.hand.toNat ⟨n,(e.disk.getD n (0,[])).1,(e.disk.getD n (0,[])).2,false,true⟩).1,s.no=(n:Int):=
   ⟨_,qar _ _ _ hp.len (by rw [hh];simpa using h3),rfl⟩
  simp only;split
  ·exact Ns hin
  ·exact Ns hin
 ·rw [ko,hs,qan (by omega),qcU];refine ⟨k,rfl,by rw [qcP];exact hk,?_⟩;simp only [List.getD,qfi hk,qe7];rw [← List.getD_eq_getElem?_getD];exact hno
theorem Fj (e:qR) (hp:e.zZ) (n:Nat) (h8:n<8):(ko e n).1.zZ:=by
 obtain ⟨h,hh,h3⟩:=hp.hand;rcases JY e.seats n with hs | ⟨k,hs,hk,hno⟩
 ·rw [ko,qa2 (by rw [hs];omega)];have hd:n<e.disk.length:=by rw [hp.eight];exact h8
  have hdm:e.disk.getD n (0,[])∈e.disk:=by simp only [List.getD,qcG hd,qe7];exact qdw hd
  have A7:∀ s∈(kY e.seats e.hand.toNat ⟨n,(e.disk.getD n (0,[])).1,(e.disk.getD n (0,[])).2,false,true⟩).1,(∃ m:Nat,s.no=m∧m<8)∧Gq s.ss:=fun s hs1=>by
   rcases WM _ _ _ s hs1 with h1 | ⟨s0,h0,e1,e2⟩
   ·rw [h1];exact ⟨⟨n,rfl,h8⟩,hp.fitD _ hdm⟩
   ·rw [e1,e2];exact ⟨hp.nos s0 h0,hp.fitS s0 h0⟩
  have hlen:=WN e.seats e.hand.toNat ⟨n,(e.disk.getD n (0,[])).1,(e.disk.getD n (0,[])).2,false,true⟩ hp.len;have hhd:=AZ e.seats e.hand.toNat ⟨n,(e.disk.getD n (0,[])).1,(e.disk.getD n (0,[])).2,false,true⟩ (by rw [hh];simpa using h3);have hold:=fun hw=>Zl e.seats e.hand.toNat ⟨n,(e.disk.getD n (0,[])).1,(e.disk.getD n (0,[])).2,false,true⟩ hw (by rw [hh];simpa using h3)
  simp only;split
  ·next hw=>
   obtain ⟨s0,h0,e1,e2⟩:=hold hw.1;refine ⟨hlen,⟨_,rfl,hhd⟩,fun s hs1=>(A7 s hs1).1,fun s hs1=>(A7 s hs1).2,?_,fun p hp1=>?_⟩
   ·simp only [uf,qcP];exact hp.eight
   ·simp only [uf] at hp1;rcases qcV hp1 with h1 | h1
    ·exact hp.fitD p h1
    ·rw [h1];simp only;rw [e2];exact hp.fitS s0 h0
  ·exact ⟨hlen,⟨_,rfl,hhd⟩,fun s hs1=>(A7 s hs1).1,fun s hs1=>(A7 s hs1).2,hp.eight,hp.fitD⟩
 ·rw [ko,hs,qan (by omega),qcU];have hkm:e.seats.getD k qy∈e.seats:=by simp only [List.getD,qcG hk,qe7];exact qdw hk
  refine ⟨by rw [qcP];exact hp.len,⟨h,hh,h3⟩,fun s hs1=>?_,fun s hs1=>?_,hp.eight,hp.fitD⟩
  ·rcases qcV hs1 with h1 | h1
   ·exact hp.nos s h1
   ·rw [h1];have:=hp.nos _ hkm;exact this
  ·rcases qcV hs1 with h1 | h1
   ·exact hp.fitS s h1
   ·rw [h1];have:=hp.fitS _ hkm;exact this
theorem VX (e:qR) (n:Nat):(ko e n).1.txs=e.txs∧(ko e n).1.holds=e.holds∧(ko e n).1.log.recs=e.log.recs∧(ko e n).1.next=e.next:=by
 unfold ko;split
 ·exact ⟨rfl,rfl,rfl,rfl⟩
 ·simp only;split<;>exact ⟨rfl,rfl,rfl,rfl⟩
theorem qg1 (e:qR) (hp:e.zZ) (r:xS):(KJ e r).zZ:=⟨hp.len,hp.hand,hp.nos,hp.fitS,hp.eight,hp.fitD⟩
theorem A8 (e:qR) (o:Nat) (x:qO) (lsn:Int):(Jj e o x lsn).txs=e.txs∧(Jj e o x lsn).holds=e.holds∧(Jj e o x lsn).log.recs=e.log.recs∧(Jj e o x lsn).next=e.next:=VX e (o / 4)
theorem Ao {d:List (Int × List qO)} {k:Nat} {q:Int × List qO} {m:Nat} (h:∀ p∈d,∀ x∈p.2,x.o.ints.length≤m∧x.o.refs.length≤m) (hq:∀ x∈q.2,x.o.ints.length≤m∧x.o.refs.length≤m):∀ p∈d.set k q,∀ x∈p.2,x.o.ints.length≤m∧x.o.refs.length≤m:=fun p hp=>(qcV hp).elim (h p) (fun e=>by rw [e];exact hq)
theorem XK {t:qb} {m:Nat} (hd:∀ p∈t.v.disk,∀ x∈p.2,x.o.ints.length≤m∧x.o.refs.length≤m) (hs:t.v.seats.length≤m) (hp:∀ s∈t.v.seats,∀ x∈s.ss,x.o.ints.length≤m∧x.o.refs.length≤m) (hl:t.log.short m) (ht:t.txs.length≤m) (hh:t.holds.length≤m):t.short m:=by
 refine ⟨fun p hp' x hx=>hd _ (qdn.2 ⟨p,hp',rfl⟩) x.v (qdn.2 ⟨x,hx,rfl⟩),⟨by show t.seats.length≤m;simpa [qb.v] using hs,fun s hs' x hx=>hp s.v (qdn.2 ⟨s,hs',rfl⟩) x.v ?_⟩,hl,ht,hh⟩;exact qdn.2 ⟨x,hx,rfl⟩
theorem Xg {e:qb} {m:Nat} (h:e.short m):∀ p∈e.v.disk,∀ x∈p.2,x.o.ints.length≤m∧x.o.refs.length≤m:=fun p hp x hx=>by
 obtain ⟨q,hq,rfl⟩:=qdn.1 hp;obtain ⟨y,hy,rfl⟩:=qdn.1 hx;exact h.disk q hq y hy
theorem Ji {e:qb} {m:Nat} (h:e.short m):∀ s∈e.v.seats,∀ x∈s.ss,x.o.ints.length≤m∧x.o.refs.length≤m:=fun s hs x hx=>by
 obtain ⟨q,hq,rfl⟩:=qdn.1 hs;obtain ⟨y,hy,rfl⟩:=qdn.1 hx;exact h.pool.each q hq y hy
def xS.Nt (r:xS) (m:Nat):Prop:=(r.bf.o.ints.length≤m∧r.bf.o.refs.length≤m)∧(r.af.o.ints.length≤m∧r.af.o.refs.length≤m)∧r.txs.length≤m
theorem A9 {r:ql} {m:Nat} (h:r.short m):r.v.Nt m:=⟨h.bf,h.af,h.txs⟩
theorem qen {r:ql} {m:Nat} (h:r.v.Nt m):r.short m:=⟨h.1,h.2.1,h.2.2⟩
theorem MW {e:qb} {m:Nat} (h:e.short m):∀ r∈e.v.log.recs,r.Nt m:=fun r hr=>by
 obtain ⟨q,hq,rfl⟩:=qdn.1 hr;exact A9 (h.log.each q hq)
theorem aQ {t:qb} {m:Nat} (hn:t.v.log.recs.length≤m) (h:∀ r∈t.v.log.recs,r.Nt m):t.log.short m:=
 ⟨by simpa [qb.v,qI.v] using hn,fun r hr=>qen (h r.v (qdn.2 ⟨r,hr,rfl⟩))⟩
section
attribute [local go_sem ↓] Go.wp_at_zero Go.wp_at_succ
def Zy (tx prev oid:Int) (b a:qO):xS:=⟨0,tx,prev,1,oid,b,a,0,[]⟩
def J7 (e:qR) (tx:Int) (o:Nat) (x:qO):qR:=
 let f:=ko e (o / 4)
 let prev:=(e.txs.getD (jC e.txs tx).toNat qz).last
 let e2:=KJ f.1 (Zy tx prev o ((f.1.seats.getD f.2.toNat qy).ss.getD (o % 4) ⟨false,⟨0,[],[]⟩⟩) x)
 let e3:=Jj e2 o x ((e.log.recs.length:Int)+1)
 if jo o e3.holds=0 then { e3 with holds:=e3.holds++[⟨tx,o⟩] } else e3
def qh.slot (s:qh) (j:Nat):qj:=match j with
 | 0=>s.s0
 | 1=>s.s1
 | 2=>s.s2
 | _=>s.s3
theorem FX (s:qh) (j:Nat) (hj:j<4):s.slot j∈s.ss:=by
 match j,hj with
 | 0,_=>simp [qh.slot,qh.ss]
 | 1,_=>simp [qh.slot,qh.ss]
 | 2,_=>simp [qh.slot,qh.ss]
 | 3,_=>simp [qh.slot,qh.ss]
theorem qg2 (s:qh) (j:Nat) (hj:j<4):(s.slot j).v=s.v.ss.getD j ⟨false,⟨0,[],[]⟩⟩:=by
 match j,hj with
 | 0,_=>rfl
 | 1,_=>rfl
 | 2,_=>rfl
 | 3,_=>rfl
theorem Ea {w:World} {g b:Nat} {s:qh} (h:w.rangeAt g b s.cells) (j:Nat) (hj:j<4):w.rangeAt g (b+1+1+j*4) (s.slot j).cells:=by
 intro i v hv;have hi:i<4:=(qcL.1 hv).1;have h1:=h (2+j*4+i) v (by
  match j,hj with
  | 0,_=>match i,hi with
   | 0,_=>exact hv
   | 1,_=>exact hv
   | 2,_=>exact hv
   | 3,_=>exact hv
  | 1,_=>match i,hi with
   | 0,_=>exact hv
   | 1,_=>exact hv
   | 2,_=>exact hv
   | 3,_=>exact hv
  | 2,_=>match i,hi with
   | 0,_=>exact hv
   | 1,_=>exact hv
   | 2,_=>exact hv
   | 3,_=>exact hv
  | 3,_=>match i,hi with
   | 0,_=>exact hv
   | 1,_=>exact hv
   | 2,_=>exact hv
   | 3,_=>exact hv)
 rw [show b+1+1+j*4+i=b+(2+j*4+i) by omega];exact h1
theorem qj.own_below {w w':World} {lo hi:Nat} {s:qj} (h:s.own w lo hi) (hb:qa w w'):s.own w' lo hi:=OwnO.below h hb
theorem qas {w:World} {C:Nat} (q:qj) (old:List Value) (ho:old.length=4) (bC:Box w C old 45):
  ∃ WF,Hid (w.setCells C 0 q.cells=WF)∧Within C (C+1) w WF∧WF.heap.size=w.heap.size∧Hid (w.there C 0 q.cells.toArray.size)∧Box WF C q.cells 45:=by
 obtain ⟨WF,qK,bF,hwF,q8⟩:=jE [] old q.cells [] (by simpa using bC) (by rw [ho];rfl);exact ⟨WF,qK,hwF,q8,bC.there 0 _ (by rw [ho];show 0+4≤4;decide),by simpa using bF⟩
theorem qcf {P:Program} {w w':World} {m:Sem Value} {v:Value} (h:m.run P w=.ok v w'):(do let r ← m;pure (Next.value r):Sem Next).run P w=.ok (.value v) w':=by simp only [qdq,h,qdf,qeJ]
theorem Eb (w:World) (tx prev oid:Int) (b a:qj):(Instr.build 124 #[(1,Value.int .i64 tx),(2,Value.int .i64 prev),(3,Value.int .i64 1),(4,Value.int .i64 oid),(5,Value.agg b.cells.toArray),(6,Value.agg a.cells.toArray)]).run prog w=.ok (.agg (ql.cells ⟨0,tx,prev,1,oid,b,a,0,[],none,0⟩).toArray) w:=run_build w _ _ _ (by kernel_rfl)
theorem ji.SS {E:Nat} {e e':qb} {w w' u:World} (s:kC E e w e' w') (t:Touch (E::e'.blocks) w' u):Touch (E::e.blocks) w u:=
 ⟨t.os.trans s.touch.os,t.tape.trans s.touch.tape,t.output.trans s.touch.output,qcx s.size t.size,fun k hk hn=>(t.block k (qe2 hk s.size) (fun h=>by
  rcases qcv.1 h with h | h
  ·exact hn (by simp [h])
  ·rcases s.fresh k h with h | h
   ·exact hn (qcO _ h)
   ·omega)).trans (s.touch.block k hk hn)⟩
theorem ji.qat {E:Nat} {e e1:qb} {w w1 wa w2:World} {ys:List qU} {a':Option Addr} {c':Nat} (s:kC E e w e1 w1) (hA:qa w1 wa) (ho:OwnH w2 0 w2.heap.size a' c' ys) (hg:wa.grownBy w2 (Value.slice e1.aH e1.holds.length e1.cH).ownBlock)
  (hf:∀ k,(Value.slice a' ys.length c').ownBlock=some k→(Value.slice e1.aH e1.holds.length e1.cH).ownBlock=some k∨k=wa.heap.size):
  ∃ W,Hid (w2.setCell ⟨E,141,none⟩ (.slice a' ys.length c')=W)∧kC E e w (e1.Qy ys a' c') W∧w2.cell? ⟨E,141,none⟩=some (.slice e1.aH e1.holds.length e1.cH)∧w2.frozen? ⟨E,141,none⟩=false:=by
 have a1:=s.at'.below hA;have t2:Touch (rowOf e1.aH e1.holds.length e1.cH) wa w2:=Touch.jO hg (fun k hk=>qad.2 hk);have hE:E∉rowOf e1.aH e1.holds.length e1.cH:=fun h=>s.at'.off (qb.wJ h)
 have bx:=a1.box.touch t2 hE;obtain ⟨W,hW,b,hw,hs⟩:=jZ bx (136+5) (.slice a' ys.length c');rw [qb.ZB a1.shape] at b;have tW:Touch [E] w2 W:=⟨hw.os,hw.tape,hw.output,hw.size,fun k hk hn=>hw.block k hk (fun hh=>hn (by simp;omega))⟩;have hEn:E∉rowOf a' ys.length c':=fun h=>(hf E (qad.1 h)).elim (fun h1=>hE (qad.2 h1)) (fun h1=>by have:=a1.box.lt;omega)
 have oW:OwnH W 0 W.heap.size a' c' ys:=(ho.touch tW (fun k hk hk'=>hEn (by rw [← qac.1 hk'];exact qad.2 hk))).widen qg (qcF hs.symm) qg;have st:kC E e1 wa (e1.Qy ys a' c') W:=a1.held ys a' c' b oW ((t2.mono (fun k hk=>qcO _ hk)).trans (tW.mono (by simp))) (fun k hk=>(hf k (qad.1 hk)).imp (fun h=>qad.2 h) (fun h=>by omega));exact ⟨W,hW,s.trans (ji.after hA st),qb.xG a1.shape bx 5 _ rfl,bx.frozen _⟩
theorem cB {P:Prop} (h:P:=by
 refine tk 18 (v:=.agg rc.cells.toArray) rfl (Or.inl ⟨by rfl,?_⟩) qc ?_
 ·intro w' hSw;have e9:=Eb w' tx Hy o q x;rw [hrc.out] at e9;refine qcf ?_;simp only [qe8,qdG,qfe];exact e9
 try simp only [zz]
 have C8:=qah E e1 rc w8 a8 orc qcg qch (by rw [hl1.out];exact hlen) (by rw [Xz.out];omega);refine qde (rs:=[19]) (by kernel_rfl) (by simp) ?_;refine qcE rfl (fun K hK=>?_) qc9;go_simp;refine C8.mono ?_;clear C8;rintro r w9 ⟨rfl,e9,pW,ha9,m9⟩;have hB1:w.heap.size∉rc.blocks:=fun hh=>by have:=mH.out _ hh;omega
 have hB9:w3.heap.size∉rc.blocks:=fun hh=>(Ec.out _ hh).elim (fun h1=>by omega) (fun h1=>by omega)
 have b19:=m9.boxes b18 gY hB1;have He:=m9.boxes b98 qdv hB9;have qoH:=m9.off b18.lt gY hB1;have S9:kC E e w e9 w9:=zt.step S8 m9 (fun i hi=>by have:=mH.out i hi;omega);have y9:w9.cell? ⟨E,140,none⟩=some (.slice (some ⟨gT,0,none⟩) e1.txs.length e1.cT):=by
  have h1:=qb.xG m9.at'.shape m9.at'.box 4 _ rfl;rw [ha9.out.1,ha9.out.2.1,hgT,show e9.txs.length=e1.txs.length from by rw [Ar pW.out];simp only [KJ];rw [bK];rfl] at h1;exact h1
 refine hK.out _ _ (Cu.out _ y9 b19 He) (fun qc=>?_);clear hK K;try simp only [zz]
 refine yt 20 (.int .i64 ((e1.log.recs.length:Int)+1)) ?_;refine qau (by kernel_rfl) ?_ _;clear qc y9 He hB1 hB9 ha9 m9 b18 b98 S8 a8 orc qcg qch;have hl9:e9.log.recs.length=e.log.recs.length+1:=by rw [AV pW.out];simp [KJ,qb.v,qI.v,hl1.out]
 have ht9:e9.txs.length=e.txs.length:=by rw [Ar pW.out];simp only [KJ];rw [bK];show e1.txs.length=_;rw [Xz.out]
 have hh9:e9.holds=e.holds:=by rw [Pw pW.out];exact HHX.out
 have qci:e9.v.zZ:=by rw [pW.out];exact qg1 _ hok _
 obtain ⟨k9,qg6,qg7,_⟩:=VY e9.v qci (o / 4);have CA:=SQ E e9 o s ((e1.log.recs.length:Int)+1) w9 S9.at' qci h32 (fun u e' _ _ hu=>hr u (S9.SS hu)) hl ⟨k9,qg6,qg7⟩;have r19:w9.rangeAt w.heap.size 0 s.cells:=qN b19;have HE9:Hid (e9.v=KJ e1.v rc.v):=pW.out;have HL9:Hid (e9.txs.length=e.txs.length∧e9.holds=e.holds):=⟨ht9,hh9⟩;clear pW hl9 ht9 hh9 qci qg6 qg7;go_wp2_with (first | (guard_target=qp 51;refine qH 45 7 w.heap.size 0 s.cells r19 underlying45 (wE s) ?_) | fail);refine CA.mono ?_;clear CA r19;rintro r Jl ⟨⟨v10,rfl⟩,e10,qcj,_,s10⟩;have S10:=S9.trans s10;have pU:=S10.at';have Ed:e10.holds=e.holds:=by rw [Pw qcj.out,(A8 e9.v o s.v _).2.1];exact HL9.out.2
 have CH:=WU e10 pU.shape o Jl pU.own.holds.reads (by rw [Ed];omega);have r10:Jl.rangeAt E 0 e10.cells:=qN pU.box;have FI:Hid ((prog.info? 59).map (·.size)=some e10.cells.length):=by rw [Hid,qb.yc pU.shape];exact Tryz.gW
 have Ee:Hid (J7 e.v tx o s.v=if jo o e10.v.holds=0 then { e10.v with holds:=e10.v.holds++[⟨tx,o⟩] } else e10.v):=by
  have h1:Jj (KJ (ko e.v (o / 4)).1 (Zy tx (e.v.txs.getD (jC e.v.txs tx).toNat qz).last o (((ko e.v (o / 4)).1.seats.getD (ko e.v (o / 4)).2.toNat qy).ss.getD (o % 4) ⟨false,⟨0,[],[]⟩⟩) s.v)) o s.v ((e.v.log.recs.length:Int)+1)=e10.v:=by
   rw [qcj.out,HE9.out,Zh.out,HRV.out];simp only [qcU,qb.v,qI.v,qa4,hl1.out]
  rw [Hid];unfold J7;simp only;rw [h1]
 clear qcj HE9 HL9 s10 S9;go_wp2_with (first | (guard_target=qp 56;refine qH 59 55 E 0 e10.cells r10 underlying59 FI.out ?_) | fail);refine CH.mono ?_;clear CH r10 FI;rintro r XA ⟨rfl,qg8⟩;have S11:=S10.below qg8;have AP:=qg8.size;by_cases hz:jo o e10.holds=0
 ·have hzb:(jo o e10.holds == 0)=true:=by simpa using hz
  have HVE:Hid (J7 e.v tx o s.v={ e10.v with holds:=e10.v.holds++[⟨tx,o⟩] }):=by rw [Hid,Ee.out,qan (show jo o e10.v.holds=0 from hz)]
  have a11:=S11.at';have yA:XA.cell? ⟨E,141,none⟩=some (.slice e10.aH e10.holds.length e10.cH):=qb.xG a11.shape a11.box 5 _ rfl;have hA:qa XA (XA.alloc (.cells #[.int .i64 tx,.int .i64 (o:Int)] 117)):=(qab _ _).alloc qg _;have aj:=a11.own.holds.below hA;have hlh:e10.holds.length+1≤68719476736:=by rw [Ed];exact hH
  clear hz Ee Ed;go_wp2_with (first | (guard_target=qp 69;refine fQ rfl _ _ rfl 0 XA.heap.size e10.aH e10.cH e10.holds rfl aj _ _ [⟨tx,o⟩] rfl (GK XA ⟨tx,o⟩ _) (fun h=>by cases h) (by simp;omega) (qaw _) ?_;intro a3 c3 y3 XB hy3 ho3 hg3 hf3;have qmo:=S11.qat hA ho3 hg3 hf3;obtain ⟨W13,qmp,s13,m13,f13⟩:=qmo) | fail);rw [qmp.out];go_end0;refine ⟨⟨_,rfl⟩,_,?_,s13⟩;rw [Hid,HVE.out];simp only [qb.v,qb.Qy,hy3.out]
 ·have hzb:(jo o e10.holds == 0)=false:=by simpa using hz
  have HVE:Hid (e10.v=J7 e.v tx o s.v):=by rw [Hid,Ee.out,qa2 (show ¬ jo o e10.v.holds=0 from hz)]
  clear hz Ee Ed;go_wp2;go_end0;exact ⟨⟨_,rfl⟩,e10,HVE,S11⟩):P:=h
theorem cK {P:Prop} (h:P:=by
 have h1:jC e.v.txs tx=kT:=by show jC e.txs tx=kT;rw [← Xz.out];exact hkT
 rw [Hid,h1,qcU,← HBV.out,← hxv.out,← hqv.out,← hrc.out,← qhc.out,Xz.out];rfl):P:=h
theorem cO {P:Prop} (h:P:=by
 rw [← hrc.out] at hi;simp only [ql.blocks,qaa] at hi;rcases hi with hi | hi | hi
 ·exact .inl (qj.qC WE i hi)
 ·exact .inr (qj.qC ox i hi).1
 ·cases hi):P:=h
theorem cZ {P:Prop} (h:P:=by
 rw [← hrc.out];exact ⟨OwnO.widen WE (qaw _) Ef qg,OwnO.widen eD (qaw _) qg qg,K7 _ _ _ qg,hap⟩):P:=h
theorem OD (E:Nat) (e:qb) (tx:Int) (o:Nat) (s:qj) (w:World) (h:wu w E e) (hp:e.v.zZ) (h32:o<32) (hr:∀ u,Touch (E::e.blocks) w u→s.reads u) (hl:Fit [s]) (hlen:e.log.recs.length+1≤68719476736) (hT:e.txs.length≤68719476736) (hH:e.holds.length+1≤68719476736) (hlive:0≤jC e.txs tx):
  Calls prog 27 #[.pointer (some ⟨E,0,none⟩),.int .i64 tx,.int .i64 o,.agg s.cells.toArray] w fun r w'=>(∃ v,r=.returned v)∧∃ e',Hid (e'.v=J7 e.v tx o s.v)∧kC E e w e' w':=by
 obtain ⟨W,hW,b0,hbW,qD⟩:=qB w s.cells 45;have a1:=h.below hbW;have hoff:Off E e w.heap.size:=h.new qg;have C':Calls prog 67 #[.pointer (some ⟨E,0,none⟩),.int .i64 ((o:Int) / 4)] W fun r w'=>∃ (e':qb) (k:Int),r=.returned (.int .i64 k)∧Hid (ko e.v (o / 4)=(e'.v,k))∧Hid (e'.log.recs=e.log.recs)∧kC E e W e' w':=by
  rw [show (o:Int) / 4=((o / 4:Nat):Int) from by omega];exact pX E e (o / 4) W a1 hp (by omega)
 obtain ⟨k,hk0,hkl,_⟩:=VY e.v hp (o / 4);have hok:=Fj e.v hp (o / 4) (by omega);obtain ⟨ft,fh,fl,_⟩:=VX e.v (o / 4);go_enter func27,ntmps27;go_upto_region 1 with fail;rw [hW.out];clear hW qD;go_wp2_with fail;refine C'.mono ?_;clear C';rintro r w2 ⟨e1,k1,rfl,hf,hl1,s1⟩;rw [hf.out] at hk0 hkl hok ft fh fl;simp only at hk0 hkl hok ft fh fl;subst hk0;have hk:k<e1.seats.length:=by simpa [qb.v] using hkl
 have Xz:Hid (e1.txs=e.txs):=ft;have HHX:Hid (e1.holds=e.holds):=fh;have b2:=s1.boxes b0 hoff;have S1:kC E e w e1 w2:=ji.after hbW s1;have gY:=s1.off b0.lt hoff;have hs1:=S1.size;have hlt2:w.heap.size<w2.heap.size:=b2.lt;have a2:=s1.at';obtain ⟨g,hg⟩:∃ g,e1.aS=some ⟨g,0,none⟩:=by
  rcases a2.own.pool.row.2 with ⟨_,h0⟩ | ⟨g,cap',cur,hv,_⟩
  ·omega
  ·simp only [qcK] at hv;exact ⟨g,hv.1⟩
 have x0:w2.cell? ⟨E,136,none⟩=some (.slice (some ⟨g,0,none⟩) e1.seats.length e1.cS):=by rw [← hg];exact qb.xG a2.shape a2.box 0 _ rfl
 have ho:=a2.own.pool;rw [hg] at ho;obtain ⟨j,hj⟩:∃ j:Nat,Hid (o % 4=j):=⟨_,rfl⟩;have WJ:j<4:=by rw [← hj.out];omega
 have r2:=Ea (zm ho.row rfl k hk).1 j WJ;have hmem:=xE e1.seats k hk;have oz:=(ho.each _ hmem).each _ (FX (e1.seats.getD k qi) j WJ);have hfz:Fit [(e1.seats.getD k qi).slot j]:=fun y hy=>by
  rw [qac.1 hy];exact hok.fitS (e1.seats.getD k qi).v (qgn hmem) _ (qgn (FX _ j WJ))
 have HBV:Hid (((e1.seats.getD k qi).slot j).v=((e1.v.seats.getD k qy).ss.getD (o % 4) ⟨false,⟨0,[],[]⟩⟩)):=by
  rw [Hid,qg2 _ _ WJ,hj.out,show e1.v.seats=e1.seats.map qh.v from rfl,kM]
 obtain ⟨y,hy⟩:=qV ((e1.seats.getD k qi).slot j);rw [hy.out] at r2 oz hfz HBV;have C2:=uB y w2 (OwnO.reads oz) (hfz y (by simp)).1 (hfz y (by simp)).2;have hkk:(k:Int)<(e1.seats.length:Int):=by omega
 have hki:(0:Int)≤(k:Int):=by omega
 have ej:(o:Int) % 4=(j:Int):=by have:=hj.out;omega
 have qmn:(j:Int)<4:=by omega
 have hj0:(0:Int)≤(j:Int):=by omega
 clear ho oz hfz hmem hg hkl ft fh fl;go_wp2_with (first | (guard_target=qp 27;refine qH 45 26 g (k*20+1+1+j*4) y.cells r2 underlying45 (wE y) ?_) | fail);refine C2.mono ?_;clear C2 r2 x0;rintro r w3 ⟨q,rfl,hqv,oq,hb3⟩;have hs3:=hb3.size;obtain ⟨W4,wL,TN,hb4,hs4⟩:=qB w3 qw.cells 45;obtain ⟨W5,zS,Ya,hs5,LP,b5⟩:=qas q _ rfl TN;have Pj:Hid (w3.alloc (.cells #[.bool false,.int .i64 0,.slice none 0 0,.slice none 0 0] 45)=W4):=wL.out;have V8:Hid (W4.setCells w3.heap.size 0 q.cells.toArray.toList=W5):=zS.out;have Ug:qa w3 W5:=hb4.trans (Ya.below qg (by omega));have N25:qa w2 W5:=hb3.trans (Ug.mono hs3);have S5:=S1.below N25;have X8:=b2.below N25 b2.lt;have UD:=qj.own_below oq Ug;have qp1:=b5.lt;have HO5:=bH q;have qgR:=N25.size;clear wL zS hs4 hs5 Ya hb4 TN ej;go_upto_region 3 with (first | (guard_target=ja 9;refine jb 45 9 28 w3.heap.size 0 q.cells.toArray (by rw [Pj.out];exact LP.out) (wE q) HO5 ?_;rw [Pj.out,V8.out]) | fail);clear Pj V8 LP HO5;simp only [Act.put];obtain ⟨kT,hkT,qmq⟩:∃ kT:Nat,jC e1.txs tx=kT∧kT<e1.txs.length:=by
  rw [Xz.out];rcases KL e.txs tx with h1 | h1
  ·omega
  ·exact h1
 obtain ⟨gT,hgT⟩:∃ gT,e1.aT=some ⟨gT,0,none⟩:=by
  rcases S5.at'.own.txs.1.2 with ⟨_,h0⟩ | ⟨g',cap',cur,hv,_⟩
  ·omega
  ·simp only [qcK] at hv;exact ⟨g',hv.1⟩
 obtain ⟨Hy,qhc⟩:=qV ((e1.txs.getD kT qz).last);have ND:qa W5 W5.drew:=(qab _ _).drew;have S6:=S5.below ND;have b16:=X8.below ND X8.lt;have b96:=b5.below ND b5.lt;have Cu:Hid (∀ u,u.cell? ⟨E,140,none⟩=some (.slice (some ⟨gT,0,none⟩) e1.txs.length e1.cT)→Box u w.heap.size s.cells 45→Box u w3.heap.size q.cells 45→u.cell? ⟨E,140,none⟩=some (.slice (some ⟨gT,0,none⟩) e1.txs.length e1.cT)∧u.rangeAt w.heap.size 0 s.cells∧u.rangeAt w3.heap.size 0 q.cells):=fun u h1 h2 h3=>⟨h1,qN h2,qN h3⟩
 have eF:Hid (∀ u,wu u E e1→u.cell? ⟨E,140,none⟩=some (.slice (some ⟨gT,0,none⟩) e1.txs.length e1.cT)∧u.cell? ⟨gT,kT*3+1,none⟩=some (.int .i64 Hy)):=fun u hu=>⟨by rw [← hgT];exact qb.xG hu.shape hu.box 4 _ rfl,by
  have h1:=hu.own.txs.1;rw [hgT] at h1;rw [h1.cellAt (kT*3+1) (by omega),uT e1.txs kT 1 qmq (by omega),← qhc.out];rfl⟩
 have FI:Hid ((prog.info? 59).map (·.size)=some e1.cells.length):=by rw [Hid,qb.yc S5.at'.shape];exact Tryz.gW
 have qp2:(kT:Int)<(e1.txs.length:Int):=by omega
 have qp3:(0:Int)≤(kT:Int):=by omega
 have Zh:Hid (ko e.v (o / 4)=(e1.v,(k:Int))):=hf.out;clear hf hlive;refine qaZ (S:=fun w'=>w'.cell? ⟨E,140,none⟩=some (.slice (some ⟨gT,0,none⟩) e1.txs.length e1.cT)∧w'.rangeAt w.heap.size 0 s.cells∧w'.rangeAt w3.heap.size 0 q.cells) (by kernel_rfl) ?_ (fun qc=>?_)
 ·exact Cu.out _ (eF.out _ S6.at').1 b16 b96
 refine yt 0 (.pointer (some ⟨E,0,none⟩)) ?_;refine yt 1 (.int .i64 tx) ?_;refine yt 2 (.pointer (some ⟨E,0,none⟩)) ?_;refine yt 3 (.pointer (some ⟨E,0,none⟩)) ?_;refine yt 4 (.pointer (some ⟨E,140,none⟩)) ?_;refine tk 5 (v:=.slice (some ⟨gT,0,none⟩) e1.txs.length e1.cT) rfl (Or.inl ⟨by rfl,?_⟩) qc ?_
 ·intro w' hSw;have hx:=hSw.1;go_simp<;>rfl
 try simp only [zz]
 refine yt 6 (.pointer (some ⟨E,0,none⟩)) ?_;refine yt 7 (.pointer (some ⟨E,0,none⟩)) ?_;refine yt 9 (.int .i64 tx) ?_;refine Bo 15 rfl (qfK (by rfl) _ _ rfl _ _ rfl q.cells _ (fun _ h=>h.2.2) underlying45 rfl (wE q)) ?_;refine Bo 16 rfl (qfK (by rfl) _ _ rfl _ _ rfl s.cells _ (fun _ h=>h.2.1) underlying45 rfl (wE s)) ?_;refine yt 14 (.int .i64 o) ?_;have C6:=Yo e1 S6.at'.shape tx W5.drew S6.at'.own.txs.reads (by rw [Xz.out];omega);rw [hkT] at C6;have r6:W5.drew.rangeAt E 0 e1.cells:=qN S6.at'.box;refine qde (rs:=[8]) (by kernel_rfl) (by simp) ?_;refine qcE rfl (fun K hK=>?_) qc9;rw [qan (by rfl)];refine wp_load_mid 59 (.tmp 36) rfl E 0 rfl e1.cells _ r6 underlying59 rfl FI.out ?_;refine hK.out _ _ (qc) (fun qc=>?_);clear hK K;try simp only [zz]
 refine qde (rs:=[10]) (by kernel_rfl) (by simp) ?_;refine qcE rfl (fun K hK=>?_) qc9;go_simp;refine C6.mono ?_;clear C6 r6;rintro r w7 ⟨rfl,QH⟩;have S7:=S6.below QH;have b17:=b16.below QH b16.lt;have b97:=b96.below QH b96.lt;refine hK.out _ _ (Cu.out _ (eF.out _ S7.at').1 b17 b97) (fun qc=>?_);clear hK K;try simp only [zz]
 refine yt 11 (.pointer (some ⟨gT,kT*3,none⟩)) ?_;refine yt 12 (.pointer (some ⟨gT,kT*3+1,none⟩)) ?_;have hfs:=hl s (by simp);have C7:=uB s w7 (hr w7 S7.touch) hfs.1 hfs.2;have qbU:W5.heap.size≤w7.heap.size:=QH.size;refine qde (rs:=[13,17]) (by kernel_rfl) (by simp) ?_;refine qcE rfl (fun K hK=>?_) (qcE rfl (fun K hK=>?_) qc9)
 ·have z7:=(eF.out _ S7.at').2;go_simp;refine hK.out _ _ (qc) (fun qc=>?_);clear hK K;try simp only [zz]
  clear z7;refine qde (rs:=[17]) (by kernel_rfl) (by simp) ?_;refine qcE rfl (fun K hK=>?_) qc9;go_simp;refine C7.mono ?_;clear C7;rintro r w8 ⟨x,rfl,hxv,ox,uu⟩;have S8:=S7.below uu;have a8:=S8.at';have b18:=b17.below uu b17.lt;have b98:=b97.below uu b97.lt;have qfJ:=uu.size;have N58:qa W5 w8:=(ND.trans QH).trans (uu.mono qbU);have WE:=qj.own_below UD N58;have eD:x.own w8 w3.heap.size w8.heap.size:=OwnO.widen ox (by omega) qg qg;have Ef:w3.heap.size≤w8.heap.size:=by omega
  have hap:=XE WE eD (K7 w8 w8.heap.size w8.heap.size qg) Ef;obtain ⟨rc,hrc⟩:∃ rc:ql,Hid ((⟨0,tx,Hy,1,o,q,x,0,[],none,0⟩:ql)=rc):=⟨_,rfl⟩;have orc:rc.own w8 0 w8.heap.size:=by
   exact cZ
  have Ec:Hid (∀ i∈rc.blocks,(w2.heap.size≤i∧i<w3.heap.size)∨w7.heap.size≤i):=fun i hi=>by
   exact cO
  have mH:Hid (∀ i∈rc.blocks,w2.heap.size≤i):=fun i hi=>(Ec.out i hi).elim (fun h1=>h1.1) (fun h1=>by omega)
  have qcg:∀ i∈rc.blocks,i∉e1.blocks:=fun i hi hm=>by have:=mH.out i hi;have:=S1.at'.lt i hm;omega
  have qch:E∉rc.blocks:=fun hi=>by have:=mH.out E hi;have:=S1.at'.box.lt;omega
  have qdv:Off E e1 w3.heap.size:=S1.at'.new hs3;have HRV:Hid (rc.v=Zy tx (e.v.txs.getD (jC e.v.txs tx).toNat qz).last o ((e1.v.seats.getD k qy).ss.getD (o % 4) ⟨false,⟨0,[],[]⟩⟩) s.v):=by
   exact cK
  clear WE eD hap N58;refine hK.out _ _ (Cu.out _ (eF.out _ S8.at').1 b18 b98) (fun qc=>?_);clear hK K;try simp only [zz]
  exact cB
 ·go_simp;refine C7.mono ?_;clear C7;rintro r w8 ⟨x,rfl,hxv,ox,uu⟩;have S8:=S7.below uu;have a8:=S8.at';have b18:=b17.below uu b17.lt;have b98:=b97.below uu b97.lt;have qfJ:=uu.size;have N58:qa W5 w8:=(ND.trans QH).trans (uu.mono qbU);have WE:=qj.own_below UD N58;have eD:x.own w8 w3.heap.size w8.heap.size:=OwnO.widen ox (by omega) qg qg;have Ef:w3.heap.size≤w8.heap.size:=by omega
  have hap:=XE WE eD (K7 w8 w8.heap.size w8.heap.size qg) Ef;obtain ⟨rc,hrc⟩:∃ rc:ql,Hid ((⟨0,tx,Hy,1,o,q,x,0,[],none,0⟩:ql)=rc):=⟨_,rfl⟩;have orc:rc.own w8 0 w8.heap.size:=by
   exact cZ
  have Ec:Hid (∀ i∈rc.blocks,(w2.heap.size≤i∧i<w3.heap.size)∨w7.heap.size≤i):=fun i hi=>by
   exact cO
  have mH:Hid (∀ i∈rc.blocks,w2.heap.size≤i):=fun i hi=>(Ec.out i hi).elim (fun h1=>h1.1) (fun h1=>by omega)
  have qcg:∀ i∈rc.blocks,i∉e1.blocks:=fun i hi hm=>by have:=mH.out i hi;have:=S1.at'.lt i hm;omega
  have qch:E∉rc.blocks:=fun hi=>by have:=mH.out E hi;have:=S1.at'.box.lt;omega
  have qdv:Off E e1 w3.heap.size:=S1.at'.new hs3;have HRV:Hid (rc.v=Zy tx (e.v.txs.getD (jC e.v.txs tx).toNat qz).last o ((e1.v.seats.getD k qy).ss.getD (o % 4) ⟨false,⟨0,[],[]⟩⟩) s.v):=by
   exact cK
  clear WE eD hap N58;refine hK.out _ _ (Cu.out _ (eF.out _ S8.at').1 b18 b98) (fun qc=>?_);clear hK K;try simp only [zz]
  have z8:=(eF.out _ S8.at').2;refine qde (rs:=[13]) (by kernel_rfl) (by simp) ?_;refine qcE rfl (fun K hK=>?_) qc9;go_simp;refine hK.out _ _ (qc) (fun qc=>?_);clear hK K;try simp only [zz]
  clear z8;exact cB
end
theorem XW {B:Nat} {w w':World} (h:Within B (B+1) w w'):Touch [B] w w':=⟨h.os,h.tape,h.output,h.size,fun k hk hn=>h.block k hk (fun hh=>hn (qac.2 (by omega)))⟩
theorem qax {w:World} {e:qb} {lo hi m:Nat} {hs:List qU} {a:Option Addr} {c:Nat} (h:e.own w lo hi) (ho:OwnH w m w.heap.size a c hs) (h1:lo≤hi) (h2:hi≤m) (h3:m≤w.heap.size):({ e with holds:=hs,aH:=a,cH:=c }:qb).own w lo w.heap.size:=by
 refine ⟨h.disk.widen qg (by omega) qg,h.pool.widen qg (by omega) qg,h.log.widen qg (by omega) qg,h.txs.widen qg (by omega) qg,ho.widen (by omega) qg qg,?_⟩;have hb:=h.qC;have ap:=h.apart;simp only [qb.blocks,qaa] at hb;simp only [qb.blocks,qav,qaa] at ap;simp only [qb.blocks,qav,qaa];obtain ⟨a1,⟨a2,⟨a3,⟨a4,_,_⟩,a5⟩,a6⟩,a7⟩:=ap;have nr:∀ o:Option Nat,o.toList.Nodup:=fun o=>by cases o<;>simp
 have hn:∀ k∈rowOf a hs.length c,m≤k:=fun k hk=>(ho.lt k (qad.1 hk)).1
 refine ⟨a1,⟨a2,⟨a3,⟨a4,nr _,fun x hx y hy q=>?_⟩,fun x hx y hy=>?_⟩,fun x hx y hy=>?_⟩,fun x hx y hy=>?_⟩
 ·have:=hb x (.inr (.inr (.inr (.inl hx))));have:=hn y hy;omega
 ·rcases hy with hy | hy
  ·exact a5 x hx y (.inl hy)
  ·have:=hb x (.inr (.inr (.inl hx)));have:=hn y hy;omega
 ·rcases hy with hy | hy | hy
  ·exact a6 x hx y (.inl hy)
  ·exact a6 x hx y (.inr (.inl hy))
  ·have:=hb x (.inr (.inl hx));have:=hn y hy;omega
 ·rcases hy with hy | hy | hy | hy
  ·exact a7 x hx y (.inl hy)
  ·exact a7 x hx y (.inr (.inl hy))
  ·exact a7 x hx y (.inr (.inr (.inl hy)))
  ·have:=hb x (.inl hx);have:=hn y hy;omega
theorem qay (R M:Nat) (e:qb) (se:e.shape) (n:Int) (ms:List jl) (w:World) (lo hi:Nat) (b:Box w R (zi e.cells M n) 137) (hm:MapAt w M ms) (hb:∀ k,0≤(kg k ms).place∧(kg k ms).place≤1099511627776) (own:e.own w lo hi) (hR:R∉e.blocks) (h1:lo≤hi) (h2:hi≤w.heap.size):
  Calls prog 40 #[.pointer (some ⟨R,0,none⟩)] w fun r w'=>∃ (hs:List qU) (a:Option Addr) (c:Nat),r=.returned (.agg ({ e with holds:=hs,aH:=a,cH:=c }:qb).cells.toArray)∧Hid (hs.Perm (yZ ms 31)∧hs.Pairwise (fun a b=>¬ (kg b.oid ms).place<(kg a.oid ms).place))∧({ e with holds:=hs,aH:=a,cH:=c }:qb).own w' lo w'.heap.size∧Touch [R] w w'∧Hid (∀ k∈rowOf a hs.length c,w.heap.size≤k):=by
 obtain ⟨Z,hZ⟩:=qV zeroE;have sZ:Z.shape:=by rw [← hZ.out];exact zT
 have HZ:=Tryz.Xh;rw [hZ.out] at HZ;have hRl:=b.lt;obtain ⟨W,hW,bZ,hbW,qD⟩:=qB w Z.cells 59;have b1:=b.below hbW b.lt;have qhf:=own.below hbW;have zW:=hbW.size;have hlZ:=bZ.lt;have C:=ET R M e.cells n ms W b1 (qb.yc se) (hm.below hbW) hb;have HA:Hid ((qx e.disk).length=136):=qb.yg se;clear b hm hb qD own;go_enter func40,ntmps40;go_wp2_with (first | (guard_target=wpList _ _ _ (Oper.mk _ (Op.alloc _) _ _ _ _::_) _ _;refine Qf 59 Z.cells HZ ?_) | fail);rw [hW.out];clear hW;refine C.mono ?_;clear C;rintro r w1 ⟨hs,a,c,rfl,HP,oh,hb1⟩;have z1:=hb1.size;replace b1:=b1.below hb1 b1.lt;have b2:Box w1 R (qx e.disk++[.slice e.aS e.seats.length e.cS,.int .i64 e.hand,.slice e.log.a e.log.recs.length e.log.c,.int .i64 e.log.sure,.slice e.aT e.txs.length e.cT,.slice e.aH e.holds.length e.cH,.int .i64 e.next,.bool e.down,.map (some M),.int .i64 n]) 137:=by unfold zi qb.cells at b1;rw [qcJ] at b1;exact b1
 have qhg:=qhf.below hb1;have bZ2:=bZ.below hb1 bZ.lt;have f0:=b2.frozen 141;have x0:=b2.cell 141 (.slice e.aH e.holds.length e.cH) (by rw [qcQ (by rw [HA.out];omega),HA.out];rfl);obtain ⟨w2,h2',c2,t2,s2⟩:=Jm b2 HA.out 5 (.slice a hs.length c);have z2:=t2.size;obtain ⟨T,hT⟩:∃ T:qb,Hid (({ e with holds:=hs,aH:=a,cH:=c }:qb)=T):=⟨_,rfl⟩;have sT:T.shape:=by rw [← hT.out];exact ⟨se.eight,se.four⟩
 have c3:Box w2 R ([]++(T.cells++[.map (some M),.int .i64 n])) 137:=by
  rw [← hT.out,qfU,qb.cells,qcJ];exact c2
 have rT:w2.rangeAt R 0 T.cells:=Box.range [] T.cells _ c3;have qck:e.own w2 lo hi:=qhg.touch (XW t2) (fun k hk hm=>hR (by rw [← qac.1 hm];exact hk));have oh3:OwnH w2 W.heap.size w2.heap.size a c hs:=(oh.within t2 (.inr (by omega))).widen qg (by omega) qg;have oT:T.own w2 lo w2.heap.size:=by rw [← hT.out];exact qax qck oh3 h1 (by omega) (by omega)
 have bZ3:=bZ2.within t2 (by omega);obtain ⟨WF,qK,hwF,q8,jI,bF⟩:=zq sT sZ bZ3;have xA:Hid (_=_):=Xf sT bF;have eG:Touch [R] w w2:=(Touch.of_below (qf hbW hb1)).trans (XW t2);have qmr:Hid (∀ k∈rowOf a hs.length c,w.heap.size≤k):=fun k hk=>by have:=(oh3.lt _ (qad.1 hk)).1;omega
 have jr:Hid (T.own WF lo WF.heap.size∧Touch [R] w WF):=⟨(oT.touch (XW hwF) (fun k hk hm=>?_)).widen qg hwF.size qg,⟨hwF.os.trans eG.os,hwF.tape.trans eG.tape,hwF.output.trans eG.output,qcx eG.size hwF.size,fun k hk hn=>(hwF.block k (by omega) (by omega)).trans (eG.block k hk hn)⟩⟩;rotate_left
 ·rw [qac.1 hm,← hT.out] at hk;simp only [qb.blocks,qaa] at hk;have hb2:=qck.qC;simp only [qb.blocks,qaa] at hb2;rcases hk with hk | hk | hk | hk | hk
  ·have:=hb2 _ (.inl hk);omega
  ·have:=hb2 _ (.inr (.inl hk));omega
  ·have:=hb2 _ (.inr (.inr (.inl hk)));omega
  ·have:=hb2 _ (.inr (.inr (.inr (.inl hk))));omega
  ·have:=(oh3.lt _ (qad.1 hk)).1;omega
 have HI:=j6 sT;have HO:=qaf (QD T);have h2n:Hid (w1.setCell ⟨R,141,none⟩ (.slice a hs.length c)=w2):=h2'.out;clear h2' c2 c3 b1 b2 qhf qhg qck oh oh3 oT bZ bZ2 bZ3 hwF q8 bF t2 s2 eG hb1 hbW;go_upto_region 2 with fail;rw [h2n.out];clear h2n f0 x0;go_wp2_with (first | (guard_target=qp 12;refine qH 59 11 R 0 (T.cells) rT underlying59 HI ?_) | (guard_target=ja 2;refine jb 59 2 12 w.heap.size 0 (T.cells).toArray jI.out (jG HI) HO ?_) | fail);rw [qK.out];exact qa3 (v:=.agg T.cells.toArray) (jQ results40 rfl xA.out) rfl ⟨hs,a,c,by rw [hT.out],HP,by rw [hT.out];exact jr.out.1,jr.out.2,qmr⟩
theorem qcl (R M:Nat) (e:qb) (se:e.shape) (n:Int) (ms:List jl) (w:World) (lo hi:Nat) (b:Box w R (zi e.cells M n) 137) (hm:MapAt w M ms) (hb:∀ k,0≤(kg k ms).place∧(kg k ms).place≤1099511627776) (own:e.own w lo hi) (hR:R∉e.blocks) (h1:lo≤hi) (h2:hi≤w.heap.size):
  Calls prog 40 #[.pointer (some ⟨R,0,none⟩)] w fun r w'=>∃ (hs:List qU) (a:Option Addr) (c:Nat),r=.returned (.agg ({ e with holds:=hs,aH:=a,cH:=c }:qb).cells.toArray)∧Hid (hs.Perm (yZ ms 31)∧hs.Pairwise (fun a b=>¬ (kg b.oid ms).place<(kg a.oid ms).place))∧({ e with holds:=hs,aH:=a,cH:=c }:qb).own w' lo w'.heap.size∧Touch [R] w w':=
 (qay R M e se n ms w lo hi b hm hb own hR h1 h2).mono (fun _ _ ⟨hs,a,c,q1,q2,q3,q4,_⟩=>⟨hs,a,c,q1,q2,q3,q4⟩)
theorem zK {P:Program} {fn:Func} {s t:Nat} {ty:TypeId} {tmps:Array Value} {w:World} {v b:Value} {ad:Addr} (hf:fn.results=#[.cell s ty,.tmp t]) (ht:tmps[s]?.getD undef=.pointer (some ad)) (hl:(loadVar ty ad).run P w=.ok v w) (hb:tmps[t]?.getD undef=b):(results fn tmps).run P w=.ok (.tuple #[v,b]) w:=by
 unfold results;rw [hf];simp [ht,asAddr,hl,hb]
def OC (x:qR × Int) (w:World) (r:Ending) (w':World):Prop:=∃ t:qb,r=.returned (.tuple #[.agg t.cells.toArray,.int .i64 x.2])∧t.shape∧Hid (t.v=x.1)∧t.own w' w.heap.size w'.heap.size∧qa w w'
theorem qb5 {w:World} {lo M R:Nat} {n:Int} {t:qb} (st:t.shape) (ot:t.own w lo M) (hMR:M<R) (bR:Box w R (zi t.cells M n) 137):yR M n w R t:=by
 have hl:=bR.lt;exact ⟨bR,st,ot.widen (qaw _) (by omega) qg,fun hk=>by have:=(ot.qC R hk).2;omega⟩
theorem Xq (W d1 d2 d3:World) (M R:Nat) (n:Int) (ms:List jl) (hs:List qU) (t s:qb) (ot:t.own d2 d1.heap.size M) (hMR:M<R) (hM:d1.heap.size≤M) (mS:MapAt d3 M ms) (sa:yR M n d3 R s) (tt:Touch (M::R::t.blocks) d2 d3) (fr:∀ k∈s.blocks,k∈t.blocks∨d2.heap.size≤k)
  (hco:ve ms hs) (XJ:∀ k,0≤(kg k ms).place∧(kg k ms).place≤1099511627776) (N2:qa W d2) (hW:W.heap.size≤d1.heap.size) (h12:d1.heap.size≤d2.heap.size):
  Calls prog 40 #[.pointer (some ⟨R,0,none⟩)] d3 fun r w'=>∃ D:qb,r=.returned (.agg D.cells.toArray)∧D.shape∧Hid (D.v={ s.v with holds:=hs })∧D.own w' W.heap.size w'.heap.size∧qa W w':=by
 have z3:=tt.size;have hb:=ot.qC;have oS:s.own d3 d1.heap.size d3.heap.size:=qb.own.raise sa.own (fun k hk=>(fr k hk).elim (fun q=>(hb k q).1) (fun q=>by omega));have N3:qa W d3:=N2.trans ⟨tt.os,tt.tape,tt.output,tt.size,fun k hk=>tt.block k (by have:=N2.size;omega) (fun hq=>by
  rcases qcv.1 hq with q | q
  ·omega
  ·rcases qcv.1 q with q | q
   ·omega
   ·have:=(hb k q).1;omega)⟩
 refine (qcl R M s sa.shape _ _ d3 d1.heap.size d3.heap.size sa.box mS XJ oS sa.off (by omega) qg).mono ?_;rintro r w' ⟨xs,a,c,rfl,HP,oD,tD⟩;have hhs:xs=hs:=hco.sorted HP.out.1 HP.out.2;subst hhs;refine ⟨_,rfl,⟨sa.shape.eight,sa.shape.four⟩,rfl,oD.widen (by omega) qg qg,?_⟩;exact N3.trans ⟨tD.os,tD.tape,tD.output,tD.size,fun k hk=>tD.block k (by have:=N3.size;omega) (fun hq=>by have:=qac.1 hq;omega)⟩
end Go.Proofs.YtnfdccldabbobaaGreatDoor
