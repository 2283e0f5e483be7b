/- Texts. -/
import Derived.Test.YtnfdccldabbobaaGreatDoorP26
import Derived.Test.YtnfdccldabbobaaGreatDoorP25
set_option maxHeartbeats 8000000
set_option maxRecDepth 100000
namespace Go.Proofs.YtnfdccldabbobaaGreatDoor
open Go.RowKit Go.Proofs.Tryz
abbrev NJ:TypeId:=137
def qb.run (M:Nat) (n:Int) (e:qb):List Value:=zi e.cells M n
abbrev yR (M:Nat) (n:Int):=j3 (qb.run M n) NJ
abbrev ky (M:Nat) (n:Int):=ji (qb.run M n) NJ
def qb.uN (e:qb) (M:Nat) (n:Int):List Value:=[.slice e.aS e.seats.length e.cS,.int .i64 e.hand,.slice e.log.a e.log.recs.length e.log.c,.int .i64 e.log.sure,.slice e.aT e.txs.length e.cT,.slice e.aH e.holds.length e.cH,.int .i64 e.next,.bool e.down,.map (some M),.int .i64 n]
theorem vV (e:qb) (M:Nat) (n:Int):e.run M n=qx e.disk++e.uN M n:=by
 unfold qb.run zi qb.cells;rw [qcJ];rfl
theorem GH {e:qb} (se:e.shape) (M:Nat) (n:Int) (j:Nat):(e.run M n)[136+j]? =(e.uN M n)[j]? :=by
 rw [vV,qcQ (by rw [qb.yg se];omega),qb.yg se,show 136+j-136=j by omega]
theorem run_set {e:qb} (se:e.shape) (M:Nat) (n:Int) (j:Nat) (v:Value):(e.run M n).set (136+j) v=qx e.disk++(e.uN M n).set j v:=by
 rw [vV,qdh _ _ (by rw [qb.yg se];omega),qb.yg se,show 136+j-136=j by omega]
theorem j3.Y7 {M:Nat} {n:Int} {w:World} {R:Nat} {e:qb} (h:yR M n w R e) (j:Nat) (v:Value) (hv:(e.uN M n)[j]? =some v):w.cell? ⟨R,136+j,none⟩=some v:=h.box.cell (136+j) v (by rw [GH h.shape];exact hv)
theorem ES {w:World} {B lo hi:Nat} {vs:List Value} {a:Option Addr} {c:Nat} {rs:List ql} (b:Box w B vs NJ) (h:je w lo hi a c rs):B∉jw a c rs:=by
 intro hm;have hb:w.heap[B]? =some (.cells vs.toArray 137 (0,0)):=b;have no:∀ {b2 s2 n2:Nat} {e2:TypeId} {v2:Value} {x2:List Value},w.ownsRow b2 e2 s2 v2 n2 x2→v2.ownBlock=some B→e2=137:=by
  intro b2 s2 n2 e2 v2 x2 h2 hk2;obtain ⟨qeD,hc2⟩:=Jo h2 hk2;rw [hb] at hc2;simp only [qeL,Obj.cells.injEq] at hc2;exact hc2.2.1.symm
 simp only [jw,qaa,qag,qad] at hm;rcases hm with h1 | ⟨r,hr,h1⟩
 ·have:=no h.row h1;cases this
 ·have hr':=h.each r hr;simp only [ql.blocks,qj.blocks,qaa,qad] at h1;rcases h1 with (h1 | h1) | (h1 | h1) | h1
  ·have:=no hr'.bf.ints.1 h1;cases this
  ·have:=no hr'.bf.refs.1 h1;cases this
  ·have:=no hr'.af.ints.1 h1;cases this
  ·have:=no hr'.af.refs.1 h1;cases this
  ·have:=no hr'.txs.1 h1;cases this
def NK (e:qR) (r:xS):qR:={ e with log:=⟨e.log.recs++[vW r ((e.log.recs.length:Int)+1)],e.log.sure⟩ }
theorem sQ (M:Nat) (n:Int) (R:Nat) (e:qb) (x:Int) (w:World) (h:yR M n w R e) (hs:e.log.sure≤e.log.recs.length):
  Calls prog 213 #[.pointer (some ⟨R,138,none⟩),.int .i64 x] w fun r w'=>(∃ v,r=.returned v)∧ky M n R e w (e.jP (e.log.upTo x)) w'∧Touch [R] w w':=by
 have h0:(e.run M n)[138]? =some (.slice e.log.a e.log.recs.length e.log.c):=(GH h.shape M n 2).trans rfl;have h1:(e.run M n)[138+1]? =some (.int .i64 e.log.sure):=(GH h.shape M n 3).trans rfl;refine (sS R 138 (e.run M n) NJ e.log.a e.log.c e.log.recs.length e.log.sure x w h.box h0 h1).mono ?_;rintro r w' ⟨hr,bx,hw,hz⟩;have hm:min (max e.log.sure x) (e.log.recs.length:Int)=max e.log.sure (min x e.log.recs.length):=by omega
 rw [hm] at bx;have ht:Touch [R] w w':=hw.QG;have hR:∀ k∈jw e.log.a e.log.c e.log.recs,k∉[R]:=fun k hk hm=>h.off (by rw [← qac.1 hm];exact qb.wY hk)
 refine ⟨hr,h.logs (e.log.upTo x) ?_ ((h.own.log.touch ht hR).widen qg (by omega) qg) (ht.mono (fun k hk=>by rw [qac.1 hk];exact qfd)) (fun k hk=>.inl hk),ht⟩;have e1:=run_set h.shape M n 3 (.int .i64 (max e.log.sure (min x e.log.recs.length)));rw [show 136+3=138+1 from rfl] at e1;rw [e1] at bx;have e2:(e.jP (e.log.upTo x)).run M n=qx e.disk++(e.uN M n).set 3 (.int .i64 (max e.log.sure (min x e.log.recs.length))):=by
  rw [vV];rfl
 rw [e2];exact bx
theorem qj.raise {w:World} {lo lo' hi:Nat} {s:qj} (h:s.own w lo hi) (hb:∀ k∈s.blocks,lo'≤k):s.own w lo' hi:=
 ⟨⟨xM h.ints.1 (fun k hk=>hb k (qaa.2 (.inl (qad.2 hk)))),h.ints.2⟩,⟨xM h.refs.1 (fun k hk=>hb k (qaa.2 (.inr (qad.2 hk)))),h.refs.2⟩,h.apart⟩
theorem qb.own.raise {w:World} {lo hi:Nat} {e:qb} (h:e.own w 0 hi) (hb:∀ k∈e.blocks,lo≤k):e.own w lo hi:=by
 refine ⟨⟨fun s hs=>?_,h.disk.apart⟩,⟨xM h.pool.row (fun k hk=>hb k (qb.xU (qaa.2 (.inl (qad.2 hk))))),h.pool.top,h.pool.blk,fun s hs=>?_,h.pool.apart⟩,⟨xM h.log.row (fun k hk=>hb k (qb.wY (qaa.2 (.inl (qad.2 hk))))),h.log.top,h.log.blk,fun r hr=>?_,h.log.apart⟩,
  ⟨xM h.txs.1 (fun k hk=>hb k (qb.zL (qad.2 hk))),h.txs.2⟩,⟨xM h.holds.1 (fun k hk=>hb k (qb.wJ (qad.2 hk))),h.holds.2⟩,h.apart⟩
 ·exact qj.raise (h.disk.each s hs) (fun k hk=>hb k (qb.wZ (qag.2 ⟨s,hs,hk⟩)))
 ·have hS:qP w 0 hi s.ss:=h.pool.each s hs;exact ⟨fun x hx=>qj.raise (hS.each x hx) (fun k hk=>hb k (qb.xU (qaa.2 (.inr (qag.2 ⟨s,hs,qag.2 ⟨x,hx,hk⟩⟩))))),hS.apart⟩
 ·have hr1:=h.log.each r hr;have hk:∀ k∈r.blocks,lo≤k:=fun k hk=>hb k (qb.wY (qaa.2 (.inr (qag.2 ⟨r,hr,hk⟩))))
  exact ⟨qj.raise hr1.bf (fun k h1=>hk k (qaa.2 (.inl h1))),qj.raise hr1.af (fun k h1=>hk k (qaa.2 (.inr (qaa.2 (.inl h1))))),⟨xM hr1.txs.1 (fun k h1=>hk k (qaa.2 (.inr (qaa.2 (.inr (qad.2 h1)))))),hr1.txs.2⟩,hr1.apart⟩
section
attribute [local go_sem ↓] Go.wp_at_zero Go.wp_at_succ
theorem sW (M:Nat) (m:Int) (E:Nat) (e:qb) (s:qh) (w:World) (h:yR M m w E e) (Qi:e.log.sure≤e.log.recs.length) (n:Nat) (hn:s.no=(n:Int)) (h8:n<8) (hr:∀ u,Touch [E] w u→s.reads u) (hl:Fit s.ss):
  Calls prog 184 #[.pointer (some ⟨E,0,none⟩),.agg s.cells.toArray] w fun r w'=>(∃ v,r=.returned v)∧∃ e',Hid (e'.v=uf e.v s.v)∧Hid (e'.log.recs=e.log.recs∧e'.aT=e.aT)∧ky M m E e w e' w':=by
 obtain ⟨W,hW,b0,hbW,qD⟩:=qB w s.cells 121;have a1:=h.below hbW;have hoff:Off E e w.heap.size:=h.new qg;have hws:w.heap.size<W.heap.size:=by omega
 have wK:Hid (∀ u,Box u w.heap.size s.cells 121→u.rangeAt w.heap.size 0 s.cells∧u.rangeAt w.heap.size 1 s.page.cells):=fun u bu=>⟨qN bu,by
  have e1:s.cells=[.int .i64 s.no]++(s.page.cells++[.bool s.dirty,.bool s.hot]):=by rw [qh.ui];rfl
  rw [e1] at bu;exact Box.range _ _ _ bu⟩
 have HI:Hid ((prog.info? 48).map (·.size)=some s.page.cells.length):=by rw [Hid,jJ s.page rfl];kernel_rfl
 clear qD;go_enter func184,ntmps184;go_upto_region 1 with fail;rw [hW.out];clear hW;have ND:qa W W.drew:=(qab _ _).drew;have a2:=a1.below ND;have b2:=b0.below ND b0.lt;refine qaZ (S:=fun w'=>w'.rangeAt w.heap.size 0 s.cells∧w'.rangeAt w.heap.size 1 s.page.cells) (by kernel_rfl) ?_ (fun qc=>?_)
 ·exact wK.out _ b2
 iterate 6 refine jv ?_
 refine tk 6 (v:=.int .i64 s.lsn) rfl (Or.inl ⟨by rfl,?_⟩) qc ?_
 ·intro w' hSw;have hx:w'.cell? ⟨w.heap.size,1,none⟩=some (.int .i64 s.lsn):=hSw.1 1 _ rfl;go_simp<;>rfl
 try simp only [zz]
 refine jc 7 (fun K hK=>?_);go_simp;refine (sQ M m E e s.lsn W.drew a2 Qi).mono ?_;rintro r w3 ⟨⟨v3,rfl⟩,s3,t3⟩;have b3:=s3.boxes b2 hoff;have N0:qa w W.drew:=qf hbW ND;have S3:ky M m E e w (e.jP (e.log.upTo s.lsn)) w3:=ji.after N0 s3;have r3:s.reads w3:=hr _ ((Touch.of_below N0).trans t3);have hs3:=S3.size;have dG:=s3.size;have hE:E<w.heap.size:=h.box.lt;have hb3:w.heap.size<w3.heap.size:=b3.lt;refine qX hK (wK.out _ b3) fun qc=>?_
 clear hK K;try simp only [zz]
 refine qau (by kernel_rfl) ?_ _;clear qc s3 a1 a2 b2 b0 t3 hr;have GI:qa w3 w3.drew:=(qab _ _).drew;have a4:=S3.at'.below GI;have b4:=b3.below GI b3.lt;go_upto_region 2 with fail;refine qaZ (S:=fun w'=>w'.rangeAt w.heap.size 0 s.cells∧w'.rangeAt w.heap.size 1 s.page.cells) (by kernel_rfl) ?_ (fun qc=>?_)
 ·exact wK.out _ b4
 iterate 2 refine jv ?_
 refine tk 2 (v:=.int .i64 s.no) rfl (Or.inl ⟨by rfl,?_⟩) qc ?_
 ·intro w' hSw;have hx:w'.cell? ⟨w.heap.size,0,none⟩=some (.int .i64 s.no):=hSw.1 0 _ rfl;go_simp<;>rfl
 try simp only [zz]
 refine jg 3 ?_;refine xB 4 s.page.cells (fun _ h=>h.2) underlying48 HI.out ?_;refine jg 6 ?_;refine jg 7 ?_;refine jg 8 ?_;refine jc 5 (fun K hK=>?_);go_simp;refine (zU s.page rfl w3.drew (r3.below GI) hl).mono ?_;rintro r w5 ⟨ts,rfl,hts,GJ,hb5⟩;have Ug:qa w3 w5:=GI.trans hb5;have a5:=S3.at'.below Ug;have b5:=b3.below Ug b3.lt;have S5:=S3.below Ug;have h4:ts.length=4:=by have:=qcz List.length hts.out;simpa [qh.page,qh.ss] using this
 have hs5:=Ug.size;refine qX hK (wK.out _ b5) fun qc=>?_
 clear hK K;try simp only [zz]
 obtain ⟨WF,qK,Y8,aF,tF,q8,fF⟩:=a5.Tv (fun e=>e.uN M m) (fun e=>vV e M m) (fun _ _=>rfl) n h8 ⟨s.lsn,ts⟩ h4 GJ w3.drew qg (fun k hk=>a4.lt k hk) a4.box.lt hb5.size qg;have Qw:Hid (w5.setCells E (n*17) (qA.cells ⟨s.lsn,ts⟩).toArray.toList=WF):=qK.out;have bF:=b5.touch tF (by simp;omega);have Tw:Hid ((prog.info? 48).map (·.size)=some (qA.cells ⟨s.lsn,ts⟩).toArray.size):=by rw [Hid,qcY,jJ _ h4];kernel_rfl
 have HS:Hid (∃ e',Hid (e'.v=uf e.v s.v)∧Hid (e'.log.recs=e.log.recs∧e'.aT=e.aT)∧ky M m E e w e' WF):=by
  refine ⟨_,?_,?_,aF,?_,?_⟩
  ·rw [Hid];simp only [qb.v,qb.uZ,qb.jP,uf,qI.upTo,qI.v,qeW,qh.v,hn,qcU,hts.out,qh.page,qa4]
  ·exact ⟨rfl,rfl⟩
  ·exact S5.touch.trans (tF.mono (by simp))
  ·intro k hk;rcases fF k hk with h1 | h1
   ·exact S5.fresh k h1
   ·exact .inr (by have:w3.drew.heap.size=w3.heap.size:=rfl;omega)
 clear qK aF tF q8 fF;have Yx:(n:Int)<8:=by omega
 have hn0:(0:Int)≤(n:Int):=by omega
 refine jg 9 ?_;refine jc 10 (fun K hK=>?_);rw [qan (by rfl)];refine qc7 48 (.tmp 21) (.tmp 17) rfl E (n*17) (qA.cells ⟨s.lsn,ts⟩).toArray rfl rfl Y8.out Tw.out (qaf (uM _)) ?_;rw [Qw.out];refine qX hK (wK.out _ bF) fun qc=>?_
 clear hK K;try simp only [Act.put,zA,zB,zC]
 refine qau (by kernel_rfl) ?_ _;go_wp2;go_end0;exact ⟨⟨_,rfl⟩,HS.out⟩
end
def yZ (ms:List jl):Nat→List qU
 | 0=>[]
 | k+1=>yZ ms k++(match xV ((k:Int)+1) ms with | some c=>[⟨c.tx,(k:Int)+1⟩] | none=>[])
theorem PQ (ms:List jl) (k:Nat):(yZ ms k).length≤k:=by
 induction k with
 | zero=>simp [yZ]
 | succ k ih=>rw [yZ,qai];split<;>simp<;>omega
theorem UL {ms:List jl} {k:Nat} {c:jl} (h:xV ((k:Int)+1) ms=some c):yZ ms (k+1)=yZ ms k++[⟨c.tx,(k:Int)+1⟩]:=by rw [yZ,h]
theorem dH {ms:List jl} {k:Nat} (h:xV ((k:Int)+1) ms=none):yZ ms (k+1)=yZ ms k:=by rw [yZ,h,qcZ]
theorem dJ {ms:List jl} {k:Int} {c:jl} (h:xV k ms=some c):kg k ms=c:=by rw [kg,h];rfl
theorem ET (R M:Nat) (cs:List Value) (n:Int) (ms:List jl) (w:World) (b:Box w R (zi cs M n) 137) (hcs:cs.length=144) (hm:MapAt w M ms) (hb:∀ k,0≤(kg k ms).place∧(kg k ms).place≤1099511627776):
  Calls prog 89 #[.pointer (some ⟨R,0,none⟩)] w fun r w'=>∃ (hs:List qU) (a:Option Addr) (c:Nat),r=.returned (.slice a hs.length c)∧Hid (hs.Perm (yZ ms 31)∧hs.Pairwise (fun a b=>¬ (kg b.oid ms).place<(kg a.oid ms).place))∧OwnH w' w.heap.size w'.heap.size a c hs∧qa w w':=by
 obtain ⟨W,hW,b0,hbW,qD⟩:=qB w [.pointer (some ⟨R,0,none⟩)] 89;have hRl:=b.lt;have hMl:=hm.lt;have HF:Hid (∀ u,qa W u→u.cell? ⟨w.heap.size,0,none⟩=some (.pointer (some ⟨R,0,none⟩))∧u.cell? ⟨R,144,none⟩=some (.map (some M))∧MapAt u M ms):=fun u hu=>by
  have n0:=qf hbW hu;exact ⟨(b0.below hu b0.lt).cell 0 _ rfl,(b.below n0 b.lt).cell 144 _ (by rw [zi,qcQ (by omega),hcs];rfl),hm.below n0⟩
 have jr:Hid (∀ u,qa W u→qa w u):=fun u hu=>qf hbW hu
 have hw0:w.heap.size<W.heap.size:=by omega
 have HB:Hid (∀ k,0≤(kg k ms).place∧(kg k ms).place≤1099511627776):=hb;clear b0 qD hb b hm hbW;go_enter func89,ntmps89;go_wp2_with fail;rw [hW.out];clear hW;go_loopw [3,4,5,6] (fun s i _ _ wr=>∃ (k:Nat) (a:Option Addr) (c:Nat),k≤31∧i=.int .i64 ((k:Int)+1)∧s=.slice a (yZ ms k).length c∧OwnH wr W.heap.size wr.heap.size a c (yZ ms k)∧qa W wr) (fun _ i _ _ _=>32-(intOf i).toNat)
 case atStart=>exact ⟨0,none,0,qaw _,rfl,rfl,dK _ _ _ qg,qab _ _⟩
 case round=>
  obtain ⟨k,a,c,hk,rfl,rfl,ho,hN⟩:=hrel;have hlen:=PQ ms k;obtain ⟨f0,f1,f2⟩:=HF.out _ hN;by_cases hlt:k<31
  ·have hki:(k:Int)+1≤31:=by omega
   have hlk:=Yf f2 ((k:Int)+1) true;cases hgc:xV ((k:Int)+1) ms with
   | none=>
    have HL:Hid (yZ ms (k+1)=yZ ms k):=dH hgc;have HAT:Hid (kg ((k:Int)+1) ms=⟨(k:Int)+1,0,0⟩):=by rw [Hid,kg,hgc];rfl
    rw [hgc,HAT.out] at hlk;have uo:qa wr (wr.alloc (.cells #[.int .i64 0,.int .i64 0] 141)):=(qab _ _).alloc qg _;have HN:Hid (qa W (wr.alloc (.cells #[.int .i64 0,.int .i64 0] 141))∧OwnH (wr.alloc (.cells #[.int .i64 0,.int .i64 0] 141)) W.heap.size (wr.alloc (.cells #[.int .i64 0,.int .i64 0] 141)).heap.size a c (yZ ms k)):=⟨qf hN uo,(ho.below uo).widen qg uo.size qg⟩;clear uo;go_wp2_with fail;go_roundw
    case rel=>exact ⟨k+1,a,c,by omega,by go_num,by rw [HL.out],by rw [HL.out];exact HN.out.2,HN.out.1⟩
    case measure=>simp [intOf];omega
   | some m=>
    have HL:Hid (yZ ms (k+1)=yZ ms k++[⟨m.tx,(k:Int)+1⟩]):=UL hgc;have HAT:Hid (kg ((k:Int)+1) ms=m):=dJ hgc;rw [hgc,HAT.out] at hlk;obtain ⟨V,hV,bV,uo,Yy⟩:=qB wr [.int .i64 m.tx,.int .i64 m.place] 141;have N1:=qf hN uo;have ho1:=(ho.below uo).widen qg uo.size qg;have x0:=bV.cell 0 _ rfl;have zV:=N1.size;have ho2:=ho1.below ((qab _ _).alloc qg (.cells #[.int .i64 m.tx,.int .i64 ((k:Int)+1)] 117));go_upto_region 7 with fail;rw [hV.out];clear hV bV uo Yy f0 f1 f2 hlk hgc ho HAT;go_wp2_with (at_builtin;refine UM rfl _ _ rfl W.heap.size V.heap.size a c (yZ ms k) rfl ho2 _ _ [⟨m.tx,(k:Int)+1⟩] rfl (GK V ⟨m.tx,(k:Int)+1⟩ _) (fun h=>by cases h) (by simp;omega) (by simp;omega) ?_;intro a3 c3 y3 w3 hy3 ho3 hg3);have HY:Hid (y3=yZ ms (k+1)):=by rw [Hid,hy3.out,HL.out]
    have HN:Hid (qa W w3):=tu (N1.trans ((qab _ _).alloc zV _)) hg3 (fun j hj=>(ho1.lt j hj).1) (by simp;omega);clear hy3 hg3 ho1 ho2 N1;go_roundw
    case rel=>exact ⟨k+1,a3,c3,by omega,by go_num,by rw [HY.out],by rw [← HY.out];exact ho3,HN.out⟩
    case measure=>simp [intOf];omega
  ·obtain rfl:k=31:=by omega
   have hki:¬ ((31:Nat):Int)+1≤31:=by omega
   generalize hL:yZ ms 31=L at*
   cases a with
   | none=>
    have hnl:L=[]:=by
     rcases ho.1.2 with ⟨_,h0⟩ | ⟨g,cap,cur,hv,_⟩
     ·exact qcI.1 h0
     ·cases hv
    subst hnl;have hc0:c=0:=ho.Y9 rfl;subst hc0;have C:=eY (.func (.func 138) #[] #[.pointer (some ⟨w.heap.size,0,none⟩)]) wr;have HE:Hid (_):=jr.out _ hN;go_wp2_with fail;refine C.mono ?_;rintro r w' ⟨rfl,rfl⟩;go_wp2;go_ret;exact ⟨[],none,0,rfl,⟨by simp,by simp⟩,dK _ _ _ qg,HE.out⟩
   | some ad=>
    obtain ⟨g,rfl⟩:∃ g,ad=⟨g,0,none⟩:=by
     rcases ho.1.2 with ⟨hv,_⟩ | ⟨g,cap,cur,hv,_⟩
     ·cases hv
     ·simp only [qcK,qeL] at hv;exact ⟨g,hv.1⟩
    have hgl:=ho.lt g rfl;have C:=EU w.heap.size R M g c W.heap.size ms L wr f0 f1 f2 (by omega) (by omega) (by omega) HB.out ho (by omega);go_wp2_with fail;refine C.mono ?_;clear C;rintro r w' ⟨rfl,ts,HP,ot,hg⟩;have HE:Hid (qa w w'∧OwnH w' w.heap.size w'.heap.size (some ⟨g,0,none⟩) c ts):=⟨jr.out _ (hN.grown hg hN.size (fun j hj=>by cases hj;omega)),ot.widen (by omega) qg qg⟩;have XX:Hid (ts.length=L.length):=HP.out.1.length_eq;rw [← XX.out];clear hg ot ho f0 f1 f2;go_wp2;go_ret;exact ⟨ts,_,c,rfl,HP,HE.out.2,HE.out.1⟩
structure ve (ms:List jl) (hs:List qU):Prop where
 got:∀ h∈hs,∃ c,xV h.oid ms=some c∧c.tx=h.tx
 only:∀ k c,1≤k→k≤31→xV k ms=some c→⟨c.tx,k⟩∈hs
 oids:∀ h∈hs,1≤h.oid∧h.oid≤31
 up:hs.Pairwise (fun a b=>(kg a.oid ms).place<(kg b.oid ms).place)
theorem PR (ms:List jl) (h:qU):∀ k:Nat,h∈yZ ms k ↔ ∃ c,xV h.oid ms=some c∧c.tx=h.tx∧1≤h.oid∧h.oid≤(k:Int):=by
 intro k
 induction k with
 | zero=>
  constructor
  ·intro hh;cases hh
  ·rintro ⟨c,_,_,h1,h2⟩;omega
 | succ k ih=>
  cases hg:xV ((k:Int)+1) ms with
  | none=>
   rw [dH hg,ih];refine ⟨fun ⟨c,a,b,d,e⟩=>⟨c,a,b,d,by omega⟩,fun ⟨c,a,b,d,e⟩=>⟨c,a,b,d,?_⟩⟩;by_cases q:h.oid=(k:Int)+1
   ·rw [q,hg] at a;cases a
   ·omega
  | some m=>
   rw [UL hg,qaa,ih,qac];constructor
   ·rintro (⟨c,a,b,d,e⟩ | rfl)
    ·exact ⟨c,a,b,d,by omega⟩
    ·exact ⟨m,hg,rfl,by show (1:Int)≤(k:Int)+1;omega,by show (k:Int)+1≤_;omega⟩
   ·rintro ⟨c,a,b,d,e⟩;by_cases q:h.oid=(k:Int)+1
    ·rw [q,hg] at a;cases a;refine .inr ?_;obtain ⟨t,o⟩:=h;simp only at b q;rw [b,q]
    ·exact .inl ⟨c,a,b,d,by omega⟩
theorem Ro (ms:List jl):∀ k:Nat,(yZ ms k).Nodup:=by
 intro k
 induction k with
 | zero=>exact List.nodup_nil
 | succ k ih=>
  cases hg:xV ((k:Int)+1) ms with
  | none=>rw [dH hg];exact ih
  | some m=>
   rw [UL hg,qav];refine ⟨ih,by simp,fun x hx y hy q=>?_⟩;obtain ⟨c,_,_,_,h4⟩:=(PR ms x k).1 hx;rw [q,qac.1 hy] at h4;simp only at h4;omega
theorem ve.nodup {ms:List jl} {hs:List qU} (h:ve ms hs):hs.Nodup:=h.up.imp (fun q e=>by rw [e] at q;omega)
theorem ve.perm {ms:List jl} {hs:List qU} (h:ve ms hs):hs.Perm (yZ ms 31):=by
 refine (List.perm_ext_iff_of_nodup h.nodup (Ro ms 31)).2 (fun x=>?_);rw [PR];constructor
 ·intro hx;obtain ⟨c,h1,h2⟩:=h.got x hx;exact ⟨c,h1,h2,(h.oids x hx).1,by have:=(h.oids x hx).2;omega⟩
 ·rintro ⟨c,h1,h2,h3,h4⟩;have:=h.only x.oid c h3 (by omega) h1;rw [h2] at this;exact this
theorem ve.sorted {ms:List jl} {hs ts:List qU} (h:ve ms hs) (hp:ts.Perm (yZ ms 31)) (ho:ts.Pairwise (fun a b=>¬ (kg b.oid ms).place<(kg a.oid ms).place)):ts=hs:=by
 have hpt:ts.Perm hs:=hp.trans h.perm.symm;refine List.Perm.eq_of_pairwise (le:=fun a b=>¬ (kg b.oid ms).place<(kg a.oid ms).place) ?_ ho (h.up.imp (fun q=>by omega)) hpt;intro a b ha hb h1 h2;have ha':a∈hs:=hpt.mem_iff.1 ha;have he:(kg a.oid ms).place=(kg b.oid ms).place:=by omega
 obtain ⟨i,hi,rfl⟩:=qfO.1 ha';obtain ⟨j,hj,rfl⟩:=qfO.1 hb;have up:=qfY.1 h.up;rcases Nat.lt_trichotomy i j with q | q | q
 ·have:=up i j hi hj q;omega
 ·subst q;rfl
 ·have:=up j i hj hi q;omega
theorem eZ (hs:List qU):∀ n,(∀ i,i<n→∀ j,j<i→(hs.getD j jy).oid≠(hs.getD i jy).oid)→∀ j,j<n→xV (hs.getD j jy).oid (jf hs n)=some ⟨(hs.getD j jy).oid,(hs.getD j jy).tx,(j:Int)⟩:=by
 intro n
 induction n with
 | zero=>intro _ j hj;omega
 | succ n ih=>
  intro hd j hj;rw [jf,uD];by_cases e:j=n
  ·subst e;rw [qan rfl]
  ·rw [qa2 (hd n (by omega) j (by omega))];exact ih (fun i hi j hj=>hd i (by omega) j hj) j (by omega)
theorem Rp {hs:List qU} (hd:∀ i,i<hs.length→∀ j,j<i→(hs.getD j jy).oid≠(hs.getD i jy).oid) (ho:∀ h∈hs,1≤h.oid∧h.oid≤31):ve (jf hs hs.length) hs:=by
 have hg:=eZ hs hs.length hd;have at':∀ i (hi:i<hs.length),xV hs[i].oid (jf hs hs.length)=some ⟨hs[i].oid,hs[i].tx,(i:Int)⟩:=fun i hi=>by
  have:=hg i hi
  simpa [List.getD,hi] using this
 refine ⟨fun h hh=>?_,fun k c h1 h2 hk=>?_,ho,?_⟩
 ·obtain ⟨i,hi,rfl⟩:=qfO.1 hh;exact ⟨_,at' i hi,rfl⟩
 ·have hne:xV k (jf hs hs.length)≠none:=by rw [hk];simp
  have:∃ j,j<hs.length∧(hs.getD j jy).oid=k:=by
   apply Classical.byContradiction;intro hc;exact hne ((ZH hs k hs.length).2 (fun j hj e=>hc ⟨j,hj,e⟩))
  obtain ⟨j,hj,rfl⟩:=this;rw [hg j hj] at hk;cases hk;have:hs.getD j jy=hs[j]:=by simp [List.getD,hj]
  rw [this];exact qdw hj
 ·rw [qfY];intro i j hi hj hij;rw [dJ (at' i hi),dJ (at' j hj)];show (i:Int)<(j:Int);omega
theorem tC (hs:List qU) (k:Int):∀ n,0≤(kg k (jf hs n)).place∧(kg k (jf hs n)).place≤(n:Int):=by
 intro n
 induction n with
 | zero=>exact ⟨Int.le_refl _,Int.le_refl _⟩
 | succ n ih=>
  unfold kg at ih ⊢;rw [jf,uD];by_cases e:k=(hs.getD n jy).oid
  ·rw [qan e];simp only [qe7];omega
  ·rw [qa2 e];omega
section
attribute [local go_sem ↓] Go.wp_at_zero Go.wp_at_succ
end
end Go.Proofs.YtnfdccldabbobaaGreatDoor
