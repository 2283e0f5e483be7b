/- Texts. -/
import Derived.Test.YtnfdccldabbobaaGreatDoorP16
import Derived.Test.YtnfdccldabbobaaGreatDoorP12
set_option maxHeartbeats 8000000
set_option maxRecDepth 100000
namespace Go.Proofs.YtnfdccldabbobaaGreatDoor
open Go.RowKit Go.Proofs.Tryz
theorem Tryz.VT:(prog.info? 121).map (fun i=>(i.zero,i.size,i.bytes))=some (some (.agg qi.cells.toArray),20,280):=by kernel_rfl
theorem uw {w:World} {base lo hi n:Nat} {v:Value} {xs:List Value} {r:qh} (h:w.ownsRow base 121 20 v n xs) (hr:r.own w lo hi):∀ k,v.ownBlock=some k→k∉r.blocks:=by
 intro k hk hm;obtain ⟨cur,hc⟩:=Jo h hk;have no:∀ {b2 s2 n2:Nat} {e2:TypeId} {v2:Value} {x2:List Value},w.ownsRow b2 e2 s2 v2 n2 x2→v2.ownBlock=some k→e2=121:=by
  intro b2 s2 n2 e2 v2 x2 h2 hk2;obtain ⟨qeD,hc2⟩:=Jo h2 hk2;rw [hc] at hc2;simp only [qeL,Obj.cells.injEq] at hc2;exact hc2.2.1.symm
 obtain ⟨x,hx,hm⟩:=qag.1 hm;simp only [qj.blocks,qaa,qad] at hm;rcases hm with h1 | h1
 ·have:=no (hr.each x hx).ints.1 h1;cases this
 ·have:=no (hr.each x hx).refs.1 h1;cases this
theorem Sw {w:World} {ops:Array Oper} {rest:List Oper} {o:Oper} {act:Act} {Q:Exit→Act→World→Prop} (hgd:o.guard=none) (s x:Operand)
  (ho:o.op=.call { callee:=.builtin .append,args:=#[s,x],argTypes:=#[50,50] })
  (lo hi:Nat) (a:Option Addr) (c:Nat) (rs:List qh) (hs:act.eval s=.slice a rs.length c) (hown:OwnSts w lo hi a c rs)
  (b off:Nat) (sc:Nat) (q:qh) (hx:act.eval x=.slice (some ⟨b,off,none⟩) 1 sc) (hr:w.rangeAt b off q.cells) (l u:Nat) (hq:q.own w l u) (hl:hi≤l) (hu:u≤w.heap.size)
  (hb:rs.length+1≤68719476736) (hlo:lo≤hi)
  (h:∀ a' c' w',OwnSts w' lo w'.heap.size a' c' (rs++[q])→w.grownBy w' (Value.slice a rs.length c).ownBlock→wpList prog ops Q rest (act.put o.dst (.slice a' (rs++[q]).length c')) w'):
  wpList prog ops Q (o::rest) act w:=by
 obtain ⟨i0,hi0,hz0,hz1,hz2⟩:=qft Tryz.VT;have yJ:=hq.qC;have htop:=hown.top;refine wpList_append_own w hgd s x 50 ho lo 121 i0 (.agg qi.cells.toArray) 20 280 underlying50 hi0 hz0 hz1 hz2 rfl (by decide) _ _ _ hs hown.row ⟨b,off,none⟩ 1 sc q.cells hx (by rfl) ?_ (Mw q) (by simp only [maxLen];omega) (by omega) (by omega) (fun v' w' h1 h2 _=>?_)
 ·intro j v hj;rw [zI];exact hr j v hj
 ·have e:jH rs++q.cells=jH (rs++[q]):=by rw [yX,yf];simp [jH]
  have e2:rs.length+1=(rs++[q]).length:=by simp
  rw [e,e2] at h1;have sh:∃ a' c',v'=.slice a' (rs++[q]).length c':=by
   rcases h1.2 with ⟨rfl,h0⟩ | ⟨g,cap,cur,rfl,_⟩
   ·simp at h0
   ·exact ⟨_,_,rfl⟩
  obtain ⟨a',c',rfl⟩:=sh;have hsz:=h2.size;have ht:Touch (Value.slice a rs.length c).ownBlock.toList w w':=Touch.jO h2 (fun k hk=>qad.2 hk);have hrow:=h1.lt;have hold:∀ r∈rs,r.own w' lo w'.heap.size:=fun r hr=>((hown.each r hr).touch ht (fun k hk hk'=>(qav.1 hown.apart).2.2 k hk' k (qag.2 ⟨r,hr,hk⟩) rfl)).widen qg (by omega) qg
  have hnew:q.own w' lo w'.heap.size:=(hq.touch ht (fun k hk hk'=>by have:=yJ k hk;have:=hown.blk k (qad.1 hk');omega)).widen (by omega) (by omega) qg;refine h a' c' w' ⟨h1,qcN _,fun k hk=>(hrow k hk).2,fun r hr=>?_,?_⟩ h2
  ·rcases qaa.1 hr with hr | hr
   ·exact hold r hr
   ·obtain rfl:=qac.1 hr;exact hnew
  ·rw [qcy,qav,qav];have hap:=(qav.1 hown.apart).2.1;have hin:∀ x∈rs.flatMap qh.blocks,lo≤x∧x<hi:=fun x hx=>by
    obtain ⟨r,hr,hx⟩:=qag.1 hx;exact (hown.each r hr).qC x hx
   refine ⟨by cases (Value.slice a' (rs++[q]).length c').ownBlock<;>simp,⟨hap,by simpa using hq.apart,fun x hx y hy e=>?_⟩,fun x hx y hy e=>?_⟩
   ·have:=hin x hx;simp only [qaY,qdH,qcZ] at hy;have:=yJ y hy;omega
   ·have hx':=qad.1 hx;subst e;rcases qaa.1 hy with hy | hy
    ·obtain ⟨r,hr,hy⟩:=qag.1 hy;exact uw h1 (hold r hr) x hx' hy
    ·simp only [qaY,qdH,qcZ] at hy;exact uw h1 hnew x hx' hy
structure qR where
 disk:List (Int × List qO)
 seats:List q9
 hand:Int
 log:Xd
 txs:List qM
 holds:List qU
 next:Int
 down:Bool
structure qb where
 disk:List qA
 seats:List qh
 aS:Option Addr
 cS:Nat
 hand:Int
 log:qI
 txs:List qM
 aT:Option Addr
 cT:Nat
 holds:List qU
 aH:Option Addr
 cH:Nat
 next:Int
 down:Bool
def qb.v (e:qb):qR:=⟨e.disk.map (fun p=>(p.lsn,p.ss.map (·.v))),e.seats.map qh.v,e.hand,e.log.v,e.txs,e.holds,e.next,e.down⟩
def qx (ps:List qA):List Value:=ps.flatMap qA.cells
def qb.tail (e:qb):List Value:=[.slice e.aS e.seats.length e.cS,.int .i64 e.hand,.slice e.log.a e.log.recs.length e.log.c,.int .i64 e.log.sure,.slice e.aT e.txs.length e.cT,.slice e.aH e.holds.length e.cH,.int .i64 e.next,.bool e.down]
def qb.cells (e:qb):List Value:=qx e.disk++e.tail
structure qb.shape (e:qb):Prop where
 eight:e.disk.length=8
 four:∀ p∈e.disk,p.ss.length=4
theorem kS:∀ (ps:List qA),(∀ p∈ps,p.ss.length=4)→(qx ps).length=ps.length*17:=by
 intro ps
 induction ps with
 | nil=>intro _;rfl
 | cons p r ih=>
  intro h;have h1:=ih (fun q hq=>h q (qcO _ hq));have h2:=jJ p (h p qfd);simp only [qx,qaY,qai,qcS] at h1 ⊢;omega
theorem qb.yg {e:qb} (h:e.shape):(qx e.disk).length=136:=by rw [kS _ h.four,h.eight]
theorem qb.yc {e:qb} (h:e.shape):e.cells.length=144:=by rw [qb.cells,qai,qb.yg h];rfl
theorem qb.xG {w:World} {B:Nat} {t:TypeId} {e:qb} (h:e.shape) (b:Box w B e.cells t) (j:Nat) (v:Value) (hv:e.tail[j]? =some v):w.cell? ⟨B,136+j,none⟩=some v:=by
 refine b.cell (136+j) v ?_;rw [qb.cells,qcQ (by rw [qb.yg h];omega),qb.yg h,show 136+j-136=j by omega];exact hv
theorem QI (ps:List qA) (k:Nat) (hk:k<ps.length):qx ps=qx (ps.take k)++(ps[k].cells++qx (ps.drop (k+1))):=by
 have e:ps=ps.take k++ps[k]::ps.drop (k+1):=by
  conv=>lhs;rw [← qdJ k ps,qcX hk]
 conv=>lhs;rw [e]
 simp only [qx,qcy,qaY]
theorem qb.VA {w:World} {B:Nat} {t:TypeId} {e:qb} (h:e.shape) (b:Box w B e.cells t) (k:Nat) (hk:k<e.disk.length):w.rangeAt B (k*17) e.disk[k].cells:=by
 have e1:e.cells=qx (e.disk.take k)++(e.disk[k].cells++(qx (e.disk.drop (k+1))++e.tail)):=by rw [qb.cells,QI e.disk k hk];simp
 have b':=b;rw [e1] at b';have:=Box.range _ _ _ b'
 rwa [kS _ (fun p hp=>h.four p (qfN hp)),qdm,qf1 (Nat.le_of_lt hk)] at this
def rowOf (a:Option Addr) (n c:Nat):List Nat:=(Value.slice a n c).ownBlock.toList
def qb.Kw (e:qb):List Nat:=(e.disk.flatMap (·.ss)).flatMap qj.blocks
def qb.blocks (e:qb):List Nat:=e.Kw++(qF e.aS e.cS e.seats++(jw e.log.a e.log.c e.log.recs++(rowOf e.aT e.txs.length e.cT++rowOf e.aH e.holds.length e.cH)))
structure qb.own (w:World) (lo hi:Nat) (e:qb):Prop where
 disk:qP w lo hi (e.disk.flatMap (·.ss))
 pool:OwnSts w lo hi e.aS e.cS e.seats
 log:je w lo hi e.log.a e.log.c e.log.recs
 txs:OwnL w lo hi e.aT e.cT e.txs
 holds:OwnH w lo hi e.aH e.cH e.holds
 apart:e.blocks.Nodup
theorem qP.touch {w w':World} {lo hi:Nat} {ss:List qj} {bl:List Nat} (h:qP w lo hi ss) (ht:Touch bl w w') (hd:∀ k∈ss.flatMap qj.blocks,k∉bl):qP w' lo hi ss:=
 ⟨fun x hx=>qj.touch (h.each x hx) ht (fun k hk=>hd k (qag.2 ⟨x,hx,hk⟩)),h.apart⟩
theorem qb.own.qC {w:World} {lo hi:Nat} {e:qb} (h:e.own w lo hi):∀ k∈e.blocks,lo≤k∧k<hi:=by
 intro k hk;simp only [qb.blocks,qaa] at hk;rcases hk with hk | hk | hk | hk | hk
 ·exact h.disk.qC k hk
 ·exact h.pool.qC k hk
 ·exact h.log.qC k hk
 ·exact h.txs.lt k (qad.1 hk)
 ·exact h.holds.lt k (qad.1 hk)
theorem qb.own.touch {w w':World} {lo hi:Nat} {e:qb} {bl:List Nat} (h:e.own w lo hi) (ht:Touch bl w w') (hd:∀ k∈e.blocks,k∉bl):e.own w' lo hi:=by
 simp only [qb.blocks,qaa] at hd;exact ⟨h.disk.touch ht (fun k hk=>hd k (.inl hk)),h.pool.touch ht (fun k hk=>hd k (.inr (.inl hk))),h.log.touch ht (fun k hk=>hd k (.inr (.inr (.inl hk)))),h.txs.touch ht (fun k hk=>hd k (.inr (.inr (.inr (.inl (qad.2 hk)))))),h.holds.touch ht (fun k hk=>hd k (.inr (.inr (.inr (.inr (qad.2 hk)))))),h.apart⟩
theorem qb.own.within {w w':World} {lo hi l r:Nat} {e:qb} (h:e.own w lo hi) (hw:Within l r w w') (hd:hi≤l∨r≤lo):e.own w' lo hi:=
 ⟨h.disk.within hw hd,h.pool.within hw hd,h.log.within hw hd,h.txs.within hw hd,h.holds.within hw hd,h.apart⟩
theorem qb.own.below {w w':World} {lo hi:Nat} {e:qb} (h:e.own w lo hi) (hb:qa w w'):e.own w' lo hi:=
 ⟨h.disk.below hb,h.pool.below hb,h.log.below hb,h.txs.below hb,h.holds.below hb,h.apart⟩
theorem qb.own.widen {w:World} {lo hi lo' hi':Nat} {e:qb} (h:e.own w lo hi) (h1:lo'≤lo) (h2:hi≤hi') (h3:hi'≤w.heap.size):e.own w lo' hi':=
 ⟨h.disk.widen h1 h2 h3,h.pool.widen h1 h2 h3,h.log.widen h1 h2 h3,h.txs.widen h1 h2 h3,h.holds.widen h1 h2 h3,h.apart⟩
theorem Tryz.gW:(prog.info? 59).map (·.size)=some 144:=by kernel_rfl
def jh:qA:=⟨0,[qw,qw,qw,qw]⟩
def zeroE:qb:=⟨[jh,jh,jh,jh,jh,jh,jh,jh],[],none,0,0,⟨[],0,none,0⟩,[],none,0,[],none,0,0,false⟩
theorem Tryz.Xh:(prog.info? 59).map (·.zero)=some (some (.agg zeroE.cells.toArray)):=by kernel_rfl
structure vT (ps:List qA):Prop where
 eight:ps.length=8
 four:∀ p∈ps,p.ss.length=4
theorem xz {ps:List qA} {k:Nat} (h:k<ps.length):ps.getD k jh∈ps:=by simp [List.getD,h,List.getElem_mem]
theorem vT.at {ps:List qA} (h:vT ps) {k:Nat} (hk:k<8):(ps.getD k jh).ss.length=4:=h.four _ (xz (by rw [h.eight];exact hk))
def yO (p:qA):Int × List qO:=(p.lsn,p.ss.map (·.v))
def qZ (ps:List qA):List qj:=ps.flatMap (·.ss)
theorem Yt {w:World} {B:Nat} {t:TypeId} {ps:List qA} (h:vT ps) (b:Box w B (qx ps) t) (k:Nat) (hk:k<8):w.rangeAt B (k*17) (ps.getD k jh).cells:=by
 have hk':k<ps.length:=by rw [h.eight];exact hk
 have e:=QI ps k hk';have b':=b;rw [e] at b';have:=Box.range _ _ _ b';rw [kS _ (fun p hp=>h.four p (qfN hp)),qdm,qf1 (Nat.le_of_lt hk')] at this;have e2:ps.getD k jh=ps[k]:=by simp [List.getD,hk']
 rw [e2];exact this
theorem um {ps:List qA} (h:vT ps):(prog.info? 49).map (·.size)=some (qx ps).length:=by rw [kS _ h.four,h.eight];kernel_rfl
theorem qgX {ps ts:List qA} (he:ts.map yO=ps.map yO) (k:Nat) (hk:k<ps.length):yO (ts.getD k jh)=yO (ps.getD k jh):=by
 have hk':k<ts.length:=by have:=qcz List.length he;simp only [qa4] at this;omega
 have:=qcz (fun l=>l[k]?) he
 simpa [List.getD,hk,hk'] using this
theorem xe (p:qA) (h:p.ss.length=4):(prog.info? 48).map (·.size)=some p.cells.length:=by rw [jJ _ h];kernel_rfl
theorem ru (ps ts:List qA) (hp:vT ps) (ht:vT ts) (he:ts.map yO=ps.map yO) (w:World) (Yw:∀ p∈ps,jS w p.ss) (hrt:∀ p∈ts,jS w p.ss) (hf:∀ p∈ps,Fit p.ss):
  Calls prog 41 #[.agg (qx ps).toArray,.agg (qx ts).toArray] w fun e w'=>e=.returned (.bool true)∧qa w w':=by
 obtain ⟨W,hW,b0,b1,hbW,qD⟩:=jK w (qx ps) (qx ts) 49 49;go_enter func41,ntmps41;go_wp2_with fail;rw [hW.out];clear hW qD;go_loopw [5] (fun i wr=>∃ k:Nat,k≤8∧i=.int .i64 (k:Int)∧qa W wr) (fun i _=>8-(intOf i).toNat)
 case atStart=>exact ⟨0,qaw _,rfl,qab _ _⟩
 case round=>
  obtain ⟨k,hk,rfl,hbr⟩:=hrel;by_cases hlt:k<8
  ·have HR:Hid (∀ u,qa W u→u.rangeAt w.heap.size (k*17) (ps.getD k jh).cells∧u.rangeAt (w.heap.size+1) (k*17) (ts.getD k jh).cells):=fun u hu=>⟨Yt hp (b0.below hu b0.lt) k hlt,Yt ht (b1.below hu b1.lt) k hlt⟩
   have uz:=hp.at hlt;have Cn:=ht.at hlt;have hv:=qgX he k (by rw [hp.eight];exact hlt);have R1:=Yw _ (xz (k:=k) (by rw [hp.eight];exact hlt));have R2:=hrt _ (xz (k:=k) (by rw [ht.eight];exact hlt));have F1:=hf _ (xz (k:=k) (by rw [hp.eight];exact hlt));generalize ps.getD k jh=p at*
   generalize ts.getD k jh=t at*
   obtain ⟨n,ss⟩:=p;obtain ⟨n',ts'⟩:=t;simp only [yO,Prod.mk.injEq] at hv;obtain ⟨rfl,hv⟩:=hv;have HV:Hid _:=hv;clear hv;have hi0:(0:Int)≤(k:Int):=by omega
   have bg:(k:Int)<8:=by omega
   go_wp2_with fail;have D0:qa W wr.drew:=hbr.trans ((qab _ _).drew.mono hbr.size);refine qaZ (S:=fun u=>u.rangeAt w.heap.size (k*17) (qA.cells ⟨n',ss⟩)∧u.rangeAt (w.heap.size+1) (k*17) (qA.cells ⟨n',ts'⟩)) (by kernel_rfl) (HR.out _ D0) (fun qc=>?_);generalize wr.drew=d0 at*
   iterate 2 refine jv ?_
   refine xB 2 (qA.cells ⟨n',ss⟩) (fun _ h=>h.1) underlying48 ((xe _ uz)) ?_
   iterate 2 refine jv ?_
   refine xB 5 (qA.cells ⟨n',ts'⟩) (fun _ h=>h.2) underlying48 ((xe _ Cn)) ?_;refine jc 6 (fun K hK=>?_);go_simp;refine (nD n' ss ts' uz HV.out d0 (R1.below (qf hbW D0)) (R2.below (qf hbW D0)) F1).mono ?_;rintro e d1 ⟨rfl,hb1⟩;have D1:=qf D0 hb1;refine qX hK (HR.out _ D1) fun qc=>?_
   clear hK K hb1;try simp only [zz]
   refine jg 7 ?_;refine qau (by kernel_rfl) ?_ _;clear qc;go_wp2_with fail;go_roundw
   case rel=>exact ⟨k+1,by omega,by go_num,D1⟩
   case measure=>simp [intOf];omega
  ·obtain rfl:k=8:=by omega
   have hkk:¬ ((8:Nat):Int)<8:=by omega
   have HE:Hid (qa w wr):=qf hbW hbr;go_wp2;go_ret;exact ⟨rfl,HE.out⟩
theorem qP.part {w:World} {lo hi:Nat} {A M B:List qj} (h:qP w lo hi (A++(M++B))):qP w lo hi M:=by
 refine ⟨fun s hs=>h.each s (by simp [hs]),?_⟩;have:=h.apart;simp only [qcy,qav] at this;exact this.2.1.1
theorem qP.swap {w w':World} {lo hi:Nat} {A M N B:List qj} (h:qP w lo hi (A++(M++B))) (ht:Touch (M.flatMap qj.blocks) w w') (ho:qP w' lo hi N) (hb:N.flatMap qj.blocks=M.flatMap qj.blocks):qP w' lo hi (A++(N++B)):=by
 have ha:=h.apart;simp only [qcy,qav,qaa] at ha;obtain ⟨a1,⟨a2,a3,a4⟩,a5⟩:=ha;refine ⟨fun s hs=>?_,?_⟩
 ·rcases qaa.1 hs with hs | hs
  ·exact qj.touch (h.each s (by simp [hs])) ht (fun k hk hk'=>a5 k (qag.2 ⟨s,hs,hk⟩) k (.inl hk') rfl)
  ·rcases qaa.1 hs with hs | hs
   ·exact ho.each s hs
   ·exact qj.touch (h.each s (by simp [hs])) ht (fun k hk hk'=>a4 k hk' k (qag.2 ⟨s,hs,hk⟩) rfl)
 ·have:=h.apart;simp only [qcy,hb] at this ⊢;exact this
theorem uR (ss:List qj):∀ k,(kK ss k).flatMap qj.blocks=ss.flatMap qj.blocks:=by
 induction ss with
 | nil=>intro k;rfl
 | cons s r ih=>intro k;simp only [kK,qaY,mZ,ih]
theorem Ua (A B:List qj):jm (A++B)=jm A+jm B:=by
 induction A with
 | nil=>simp [jm]
 | cons s r ih=>simp only [qfk,jm,ih];omega
theorem KM (a b:List qA):qZ (a++b)=qZ a++qZ b:=by simp only [qZ,qcy]
theorem JP (p:qA) (b:List qA):qZ (p::b)=p.ss++qZ b:=by simp only [qZ,qaY]
theorem vz {ps:List qA} {k:Nat} (h:k<ps.length):ps[k]=ps.getD k jh:=by simp [List.getD,h]
theorem di (ps:List qA) (k:Nat) (hk:k<ps.length):qZ ps=qZ (ps.take k)++((ps.getD k jh).ss++qZ (ps.drop (k+1))):=by
 have e:ps=ps.take k++ps.getD k jh::ps.drop (k+1):=by
  conv=>lhs;rw [← qdJ k ps,qcX hk]
  simp [List.getD,hk]
 conv=>lhs;rw [e]
 simp only [qZ,qcy,qaY]
theorem Nn (ps:List qA) (k:Nat) (hk:k<ps.length):qZ (ps.take (k+1))=qZ (ps.take k)++(ps.getD k jh).ss:=by
 rw [qdb hk,KM,JP,vz hk];simp only [qZ,qdH,qcZ]
theorem VE (ps:List qA) (k:Nat):jm (qZ (ps.take k))≤jm (qZ ps):=by
 conv=>rhs;rw [← qdJ k ps,KM,Ua]
 omega
theorem Gl (ps:List qA) (hp:vT ps) (lo hi:Nat) (k0:Int) (w:World) (ho:qP w lo hi (qZ ps)) (hf:∀ p∈ps,Fit p.ss) (h0:0≤k0) (hk:k0+jm (qZ ps)≤10995116277760) (hhi:hi≤w.heap.size):
  Calls prog 47 #[.agg (qx ps).toArray,.int .i64 k0] w fun e w'=>e=.returned (.int .i64 (k0+jm (qZ ps)))∧qP w' lo hi (kK (qZ ps) k0)∧Touch ((qZ ps).flatMap qj.blocks) w w':=by
 obtain ⟨W,hW,b0,hbW,qD⟩:=qB w (qx ps) 49;have hs0:w.heap.size<W.heap.size:=by omega
 have hbl:=ho.qC;go_enter func47,ntmps47;go_wp2_with fail;rw [hW.out];clear hW qD;go_loopw [1,5] (fun kk i wr=>∃ k:Nat,k≤8∧i=.int .i64 (k:Int)∧kk=.int .i64 (k0+jm (qZ (ps.take k)))∧qP wr lo hi (kK (qZ (ps.take k)) k0++qZ (ps.drop k))∧Touch ((qZ ps).flatMap qj.blocks) W wr) (fun _ i _=>8-(intOf i).toNat)
 case atStart=>exact ⟨0,qaw _,rfl,by simp [qZ,jm],by simpa [qZ,kK] using ho.below hbW,Touch.refl _ _⟩
 case round=>
  obtain ⟨k,TQ,rfl,rfl,hor,htr⟩:=hrel;by_cases hlt:k<8
  ·have hkl:k<ps.length:=by rw [hp.eight];exact hlt
   have hwB:w.heap.size∉(qZ ps).flatMap qj.blocks:=fun h=>by have:=(hbl _ h).2;omega
   have r1:=Yt hp (b0.touch htr hwB) k hlt;have uz:=hp.at hlt;have F1:=hf _ (xz (k:=k) hkl);have e1:qZ (ps.drop k)=(ps.getD k jh).ss++qZ (ps.drop (k+1)):=by
    rw [qcX hkl,JP,vz hkl]
   rw [e1] at hor;have e2:=Nn ps k hkl;have HC:Hid (jm (qZ (ps.take (k+1)))=jm (qZ (ps.take k))+jm (ps.getD k jh).ss):=by rw [Hid,e2,Ua]
   have HM:Hid (kK (qZ (ps.take (k+1))) k0=kK (qZ (ps.take k)) k0++kK (ps.getD k jh).ss (k0+jm (qZ (ps.take k)))):=by rw [Hid,e2,Yk]
   have HB:Hid (∀ j∈(ps.getD k jh).ss.flatMap qj.blocks,j∈(qZ ps).flatMap qj.blocks):=fun j hj=>by
    rw [di ps k hkl];simp only [qcy,qaa];exact .inr (.inl hj)
   have hcl:=VE ps k;have C:=PG (ps.getD k jh) uz lo hi (k0+jm (qZ (ps.take k))) wr hor.part F1 (by omega) (by omega) (by have:=htr.size;omega);clear e1 e2;generalize ps.getD k jh=p at*
   have KX:=xe p uz;have hi0:(0:Int)≤(k:Int):=by omega
   have bg:(k:Int)<8:=by omega
   generalize hcc:jm (qZ (ps.take k))=cc at*
   go_wp2_with (first | (guard_target=qp 12;refine qH 48 11 w.heap.size (k*17) p.cells r1 underlying48 KX ?_) | fail);refine C.mono ?_;clear C;rintro e w1 ⟨rfl,ho1,ht1⟩;have yD:Hid (qP w1 lo hi (kK (qZ (ps.take (k+1))) k0++qZ (ps.drop (k+1)))):=by
    rw [Hid,HM.out,qcJ];exact hor.swap ht1 ho1 (uR _ _)
   have JC:Hid (Touch ((qZ ps).flatMap qj.blocks) W w1):=htr.trans (ht1.mono HB.out);have YB:Hid (k0+(cc:Int)+(jm p.ss:Int)=k0+(jm (qZ (ps.take (k+1))):Int)):=by have:=HC.out;rw [Hid];omega
   clear hor htr ho1 ht1 HC HM;go_wp2_with fail;go_roundw
   case rel=>exact ⟨k+1,by omega,by go_num,by rw [YB.out],yD.out,JC.out⟩
   case measure=>simp [intOf];omega
  ·obtain rfl:k=8:=by omega
   have hkk:¬ ((8:Nat):Int)<8:=by omega
   have e1:ps.take 8=ps:=by rw [← hp.eight,qfE]
   have e2:ps.drop 8=[]:=by rw [← hp.eight,List.drop_length]
   rw [e1,e2] at hor;have HE:Hid (qP wr lo hi (kK (qZ ps) k0)∧Touch ((qZ ps).flatMap qj.blocks) w wr):=⟨by simpa [qZ] using hor,(Touch.of_below hbW).trans htr⟩;have HT:Hid (k0+(jm (qZ (ps.take 8)):Int)=k0+jm (qZ ps)):=by rw [Hid,e1]
   clear e1 e2;go_wp2;go_ret;exact ⟨jN HT.out,HE.out.1,HE.out.2⟩
theorem Pg (ps:List qA) (hp:vT ps) (lo hi:Nat) (k0:Int) (w:World) (ho:qP w lo hi (kK (qZ ps) k0)) (hf:∀ p∈ps,Fit p.ss) (h0:0≤k0) (hk:k0+jm (qZ ps)≤10995116277760):
  Calls prog 53 #[.agg (qx ps).toArray,.int .i64 k0] w fun e w'=>e=.returned (.int .i64 (k0+jm (qZ ps)))∧qa w w':=by
 obtain ⟨W,hW,b0,hbW,qD⟩:=qB w (qx ps) 49;go_enter func53,ntmps53;go_wp2_with fail;rw [hW.out];clear hW qD;go_loopw [1,5] (fun kk i wr=>∃ k:Nat,k≤8∧i=.int .i64 (k:Int)∧kk=.int .i64 (k0+jm (qZ (ps.take k)))∧qa W wr) (fun _ i _=>8-(intOf i).toNat)
 case atStart=>exact ⟨0,qaw _,rfl,by simp [qZ,jm],qab _ _⟩
 case round=>
  obtain ⟨k,TQ,rfl,rfl,hbr⟩:=hrel;by_cases hlt:k<8
  ·have hkl:k<ps.length:=by rw [hp.eight];exact hlt
   have r1:=Yt hp (b0.below hbr b0.lt) k hlt;have uz:=hp.at hlt;have F1:=hf _ (xz (k:=k) hkl);have hor:qP wr lo hi (kK (qZ ps) k0):=ho.below (qf hbW hbr);rw [di ps k hkl,Yk,Yk] at hor;have e2:=Nn ps k hkl;have HC:Hid (jm (qZ (ps.take (k+1)))=jm (qZ (ps.take k))+jm (ps.getD k jh).ss):=by rw [Hid,e2,Ua]
   have hcl:=VE ps k;have C:=FQ (ps.getD k jh) uz lo hi (k0+jm (qZ (ps.take k))) wr hor.part F1 (by omega) (by omega);clear e2 hor;generalize ps.getD k jh=p at*
   have KX:=xe p uz;have hi0:(0:Int)≤(k:Int):=by omega
   have bg:(k:Int)<8:=by omega
   generalize hcc:jm (qZ (ps.take k))=cc at*
   go_wp2_with (first | (guard_target=qp 12;refine qH 48 11 w.heap.size (k*17) p.cells r1 underlying48 KX ?_) | fail);refine C.mono ?_;clear C;rintro e w1 ⟨rfl,hb1⟩;have HBK:Hid (qa W w1):=qf hbr hb1;have YB:Hid (k0+(cc:Int)+(jm p.ss:Int)=k0+(jm (qZ (ps.take (k+1))):Int)):=by have:=HC.out;rw [Hid];omega
   have hnn:¬ (k0+(cc:Int)+(jm p.ss:Int))<0:=by omega
   clear hbr hb1 HC r1;go_wp2_with fail;go_roundw
   case rel=>exact ⟨k+1,by omega,by go_num,by rw [YB.out],HBK.out⟩
   case measure=>simp [intOf];omega
  ·obtain rfl:k=8:=by omega
   have hkk:¬ ((8:Nat):Int)<8:=by omega
   have e1:ps.take 8=ps:=by rw [← hp.eight,qfE]
   have HT:Hid (k0+(jm (qZ (ps.take 8)):Int)=k0+jm (qZ ps)):=by rw [Hid,e1]
   have HE:Hid (qa w wr):=qf hbW hbr;clear e1;go_wp2;go_ret;exact ⟨jN HT.out,HE.out⟩
structure jM where
 seats:List q9
 hand:Int
structure qo where
 seats:List qh
 hand:Int
 a:Option Addr
 c:Nat
def qo.v (l:qo):jM:=⟨l.seats.map qh.v,l.hand⟩
def qo.cells (l:qo):List Value:=[.slice l.a l.seats.length l.c,.int .i64 l.hand]
def qo.reads (w:World) (l:qo):Prop:=xw w l.a l.seats
def qo.own (w:World) (lo hi:Nat) (l:qo):Prop:=OwnSts w lo hi l.a l.c l.seats
def qh.short (s:qh) (m:Nat):Prop:=∀ x∈s.ss,x.v.o.ints.length≤m∧x.v.o.refs.length≤m
structure qo.short (l:qo) (m:Nat):Prop where
 len:l.seats.length≤m
 each:∀ r∈l.seats,r.short m
theorem qo.short.at {l:qo} {m:Nat} (h:l.short m) (k:Nat) (hk:k<l.seats.length):(l.seats.getD k qi).short m:=h.each _ (xE _ k hk)
theorem qh.xq {a b:qh} {m:Nat} (h:a.v=b.v) (hb:b.short m):a.short m:=by
 intro x hx;have e:a.ss.map (·.v)=b.ss.map (·.v):=qcz q9.ss h;have:x.v∈b.ss.map (·.v):=by rw [← e];exact qdn.2 ⟨x,hx,rfl⟩
 obtain ⟨y,hy,e⟩:=qdn.1 this;rw [← e];exact hb y hy
theorem qh.short.wide {s:qh} (h:s.short 1048576):s.short 1099511627776:=fun x hx=>by have:=h x hx;omega
theorem Zr {rs ts:List qh} (h:ts.map qh.v=rs.map qh.v):ts.length=rs.length:=by simpa using qcz List.length h
theorem CG {rs ts:List qh} (h:ts.map qh.v=rs.map qh.v) (k:Nat) (hk:k<rs.length):(ts.getD k qi).v=(rs.getD k qi).v:=by
 have hk':k<ts.length:=by rw [Zr h];exact hk
 have:=qcz (fun x=>x[k]?) h
 simpa [List.getD,hk,hk'] using this
theorem qao {rs ts:List qh} (h:ts.map qh.v=rs.map qh.v) (P:qh→Prop) (hP:∀ a b:qh,a.v=b.v→P b→P a) (hall:∀ r∈rs,P r):∀ r∈ts,P r:=by
 intro r hr;obtain ⟨k,hk,rfl⟩:=qfa hr;have hk':k<rs.length:=by rw [← Zr h];exact hk
 have e:=CG h k hk';refine hP _ (rs.getD k qi) ?_ (hall _ (xE rs k hk'));rw [← e];simp [List.getD,hk]
theorem qo.xq {l t:qo} {m:Nat} (h:t.v=l.v) (hl:l.short m):t.short m:=by
 simp only [qo.v,jM.mk.injEq] at h;exact ⟨by rw [Zr h.1];exact hl.len,qao h.1 (fun r=>r.short m) (fun a b e hb=>qh.xq e hb) hl.each⟩
theorem qo.jB {l:qo} (hl:l.short 1048576):l.short 1099511627776:=⟨by have:=hl.len;omega,fun r hr=>(hl.each r hr).wide⟩
theorem Oh (q:qh):q.cells.toArray.all (·.oneCell')=true:=qaf (Mw q)
theorem ZN (w:World) (lo hi:Nat) (h:hi≤w.heap.size):qi.own w lo hi:=⟨fun s hs=>by
 simp only [qh.ss,qi,qcv,qdu,qfL] at hs;have:s=qw:=by rcases hs with h | h | h | h<;>exact h
 subst this;exact ⟨J3 w lo hi h,J3 w lo hi h,fun k h1 _=>by cases h1⟩,by show ([]:List Nat).Nodup;simp⟩
theorem QP {ts:List qj} (h:ts.length=4):∃ a b c d,ts=[a,b,c,d]:=by
 match ts,h with
 | [a,b,c,d],_=>exact ⟨a,b,c,d,rfl⟩
def xW (tx:Int):List qM→Nat→Int
 | [],_=> -1
 | l::r,k=>if l.tx=tx then (k:Int) else xW tx r (k+1)
def jC (ls:List qM) (tx:Int):Int:=xW tx ls 0
def jo (oid:Int):List qU→Int
 | []=>0
 | l::r=>if l.oid=oid then l.tx else jo oid r
def kN (no:Int):List q9→Nat→Int
 | [],_=> -1
 | l::r,k=>if l.no=no then (k:Int) else kN no r (k+1)
def qG (ss:List q9) (no:Int):Int:=kN no ss 0
def vk (tx:Int) (rs:List xS):Nat→Int
 | 0=>0
 | k+1=>if (rs.getD k qE.v).tx=tx then (k:Int)+1 else vk tx rs k
def lastOf (rs:List xS) (tx:Int):Int:=vk tx rs rs.length
theorem qcd (ls:List qM) (k:Nat) (h:k<ls.length):ls.drop k=ls.getD k qz::ls.drop (k+1):=by
 rw [qcX h];simp [List.getD,h]
theorem qce (ls:List qU) (k:Nat) (h:k<ls.length):ls.drop k=ls.getD k jy::ls.drop (k+1):=by
 rw [qcX h];simp [List.getD,h]
theorem Dy (ls:List qh) (k:Nat) (h:k<ls.length):(ls.map qh.v).drop k=(ls.getD k qi).v::(ls.map qh.v).drop (k+1):=by
 rw [qcX (by simpa using h)];simp [List.getD,h]
theorem Ub {P:Prop} (h:P:=by
 clear hq hR HR2;go_wp2_with fail;go_roundw
 case rel=>exact ⟨k+1,by go_num,by omega,HR3,hbl⟩
 case measure=>simp [intOf];omega):P:=h
theorem Np {P:Prop} (h:P:=by
 have yJ:(z.tx == tx)=true:=by simpa using hq
 clear hq hR HR2;go_wp2;go_ret;exact ⟨jN HR3.out,Ka⟩):P:=h
theorem Yo (e:qb) (hsh:e.shape) (tx:Int) (w:World) (hr:kQ w e.aT e.txs) (hl:e.txs.length≤1099511627776):
  Calls prog 25 #[.agg e.cells.toArray,.int .i64 tx] w fun r w'=>r=.returned (.int .i64 (jC e.txs tx))∧qa w w':=by
 obtain ⟨W,hW,b0,hbW,qD⟩:=qB w e.cells 59;have HT:Hid (∀ u,qa W u→u.cell? ⟨w.heap.size,140,none⟩=some (.slice e.aT e.txs.length e.cT)):=fun u hu=>qb.xG hsh (b0.below hu b0.lt) 4 _ rfl
 have HR:Hid (∀ u,qa W u→kQ u e.aT e.txs):=fun u hu=>hr.below (qf hbW hu)
 have HF:Hid (xW tx (e.txs.drop 0) 0=jC e.txs tx):=rfl;generalize jC e.txs tx=R at*
 generalize e.cells=cs at*
 generalize e.txs=ls at*
 generalize e.aT=a at*
 generalize e.cT=c at*
 clear qD b0 hsh hr;go_enter func25,ntmps25;go_wp2_with fail;rw [hW.out];clear hW;go_loopw [5] (fun i wr=>∃ (k:Nat),i=.int .i64 k∧k≤ls.length∧Hid (xW tx (ls.drop k) k=R)∧qa W wr)
  (fun i _=>ls.length-(intOf i).toNat)
 case atStart=>exact ⟨0,rfl,by omega,HF,qab _ _⟩
 case round=>
  obtain ⟨k,rfl,hk,hR,hbl⟩:=hrel;have x0:=HT.out wr hbl;have hrr:=HR.out wr hbl;have Ka:=qf hbW hbl;by_cases hlt:k<ls.length
  ·obtain ⟨b,off,rfl,hcell⟩:=hrr (by rintro rfl;simp at hlt);obtain ⟨c0,_,_⟩:=hcell k hlt;clear hcell;have hkk:(k:Int)<(ls.length:Int):=by omega
   have hi0:(0:Int)≤(k:Int):=by omega
   have HR2:Hid ((if (ls.getD k qz).tx=tx then (k:Int) else xW tx (ls.drop (k+1)) (k+1))=R):=by
    have h:=hR.out;rw [qcd ls k hlt,xW] at h;exact h
   generalize ls.getD k qz=z at*
   by_cases hq:z.tx=tx
   ·have HR3:Hid ((k:Int)=R):=by have h:=HR2.out;rw [qan hq] at h;exact h
    exact Np
   ·have HR3:Hid (xW tx (ls.drop (k+1)) (k+1)=R):=by have h:=HR2.out;rw [qa2 hq] at h;exact h
    have yJ:(z.tx == tx)=false:=by simpa using hq
    exact Ub
  ·have hkk:¬ (k:Int)<(ls.length:Int):=by omega
   have MG:Hid (-1=R):=by
    have h:=hR.out;rw [qe5 (by omega),xW] at h;exact h
   clear hR;go_wp2;go_ret;exact ⟨jN MG.out,Ka⟩
theorem WU (e:qb) (hsh:e.shape) (oid:Int) (w:World) (hr:yN w e.aH e.holds) (hl:e.holds.length≤1099511627776):
  Calls prog 26 #[.agg e.cells.toArray,.int .i64 oid] w fun r w'=>r=.returned (.int .i64 (jo oid e.holds))∧qa w w':=by
 obtain ⟨W,hW,b0,hbW,qD⟩:=qB w e.cells 59;have HT:Hid (∀ u,qa W u→u.cell? ⟨w.heap.size,141,none⟩=some (.slice e.aH e.holds.length e.cH)):=fun u hu=>qb.xG hsh (b0.below hu b0.lt) 5 _ rfl
 have HR:Hid (∀ u,qa W u→yN u e.aH e.holds):=fun u hu=>hr.below (qf hbW hu)
 have HF:Hid (jo oid (e.holds.drop 0)=jo oid e.holds):=rfl;generalize jo oid e.holds=R at*
 generalize e.cells=cs at*
 generalize e.holds=ls at*
 generalize e.aH=a at*
 generalize e.cH=c at*
 clear qD b0 hsh hr;go_enter func26,ntmps26;go_wp2_with fail;rw [hW.out];clear hW;go_loopw [5] (fun i wr=>∃ (k:Nat),i=.int .i64 k∧k≤ls.length∧Hid (jo oid (ls.drop k)=R)∧qa W wr)
  (fun i _=>ls.length-(intOf i).toNat)
 case atStart=>exact ⟨0,rfl,by omega,HF,qab _ _⟩
 case round=>
  obtain ⟨k,rfl,hk,hR,hbl⟩:=hrel;have x0:=HT.out wr hbl;have hrr:=HR.out wr hbl;have Ka:=qf hbW hbl;by_cases hlt:k<ls.length
  ·obtain ⟨b,off,rfl,hcell⟩:=hrr (by rintro rfl;simp at hlt);obtain ⟨c1,c0⟩:=hcell k hlt;clear hcell;have hkk:(k:Int)<(ls.length:Int):=by omega
   have hi0:(0:Int)≤(k:Int):=by omega
   have HR2:Hid ((if (ls.getD k jy).oid=oid then (ls.getD k jy).tx else jo oid (ls.drop (k+1)))=R):=by
    have h:=hR.out;rw [qce ls k hlt,jo] at h;exact h
   generalize ls.getD k jy=z at*
   by_cases hq:z.oid=oid
   ·have HR3:Hid (z.tx=R):=by have h:=HR2.out;rw [qan hq] at h;exact h
    have yJ:(z.oid == oid)=true:=by simpa using hq
    clear hq hR HR2;go_wp2;go_ret;exact ⟨jN HR3.out,Ka⟩
   ·have HR3:Hid (jo oid (ls.drop (k+1))=R):=by have h:=HR2.out;rw [qa2 hq] at h;exact h
    have yJ:(z.oid == oid)=false:=by simpa using hq
    exact Ub
  ·have hkk:¬ (k:Int)<(ls.length:Int):=by omega
   have MG:Hid (0=R):=by
    have h:=hR.out;rw [qe5 (by omega),jo] at h;exact h
   clear hR;go_wp2;go_ret;exact ⟨jN MG.out,Ka⟩
theorem VD (a:Option Addr) (c:Nat) (ls:List qh) (hand no:Int) (w:World) (hr:xw w a ls) (hl:ls.length≤1099511627776):
  Calls prog 113 #[.agg #[.slice a ls.length c,.int .i64 hand],.int .i64 no] w fun r w'=>r=.returned (.int .i64 (qG (ls.map qh.v) no))∧qa w w':=by
 obtain ⟨W,hW,b0,hbW,qD⟩:=qB w [.slice a ls.length c,.int .i64 hand] 52;have HT:Hid (∀ u,qa W u→u.cell? ⟨w.heap.size,0,none⟩=some (.slice a ls.length c)):=fun u hu=>(b0.below hu b0.lt).cell 0 _ rfl
 have HR:Hid (∀ u,qa W u→xw u a ls):=fun u hu=>hr.below (qf hbW hu)
 have HF:Hid (kN no ((ls.map qh.v).drop 0) 0=qG (ls.map qh.v) no):=rfl;generalize qG (ls.map qh.v) no=R at*
 clear qD b0 hr;go_enter func113,ntmps113;go_wp2_with fail;rw [hW.out];clear hW;go_loopw [5] (fun i wr=>∃ (k:Nat),i=.int .i64 k∧k≤ls.length∧Hid (kN no ((ls.map qh.v).drop k) k=R)∧qa W wr)
  (fun i _=>ls.length-(intOf i).toNat)
 case atStart=>exact ⟨0,rfl,by omega,HF,qab _ _⟩
 case round=>
  obtain ⟨k,rfl,hk,hR,hbl⟩:=hrel;have x0:=HT.out wr hbl;have hrr:=HR.out wr hbl;have Ka:=qf hbW hbl;by_cases hlt:k<ls.length
  ·obtain ⟨b,off,rfl,hcell⟩:=hrr (by rintro rfl;simp at hlt);have c0:=(hcell k hlt).1 0 _ rfl;simp only [Nat.add_zero] at c0;clear hcell;have hkk:(k:Int)<(ls.length:Int):=by omega
   have hi0:(0:Int)≤(k:Int):=by omega
   have HR2:Hid ((if (ls.getD k qi).no=no then (k:Int) else kN no ((ls.map qh.v).drop (k+1)) (k+1))=R):=by
    have h:=hR.out;rw [Dy ls k hlt,kN] at h;exact h
   generalize ls.getD k qi=z at*
   by_cases hq:z.no=no
   ·have HR3:Hid ((k:Int)=R):=by have h:=HR2.out;rw [qan hq] at h;exact h
    have yJ:(z.no == no)=true:=by simpa using hq
    clear hq hR HR2;go_wp2;go_ret;exact ⟨jN HR3.out,Ka⟩
   ·have HR3:Hid (kN no ((ls.map qh.v).drop (k+1)) (k+1)=R):=by have h:=HR2.out;rw [qa2 hq] at h;exact h
    have yJ:(z.no == no)=false:=by simpa using hq
    exact Ub
  ·have hkk:¬ (k:Int)<(ls.length:Int):=by omega
   have MG:Hid (-1=R):=by
    have h:=hR.out;rw [qe5 (by rw [qa4];omega),kN] at h;exact h
   clear hR;go_wp2;go_ret;exact ⟨jN MG.out,Ka⟩
theorem qem (rs:List ql) (k:Nat):(rs.map ql.v).getD k qE.v=(rs.getD k qE).v:=by
 simp only [List.getD,qdy];cases rs[k]? <;>rfl
theorem lZ (l:qI) (tx:Int) (w:World) (hr:l.reads w) (hl:l.recs.length≤1099511627776):
  Calls prog 146 #[.agg l.cells.toArray,.int .i64 tx] w fun r w'=>r=.returned (.int .i64 (lastOf (l.recs.map ql.v) tx))∧qa w w':=by
 obtain ⟨rs,sure,a,c⟩:=l;simp only [qI.cells,qI.reads] at*
 obtain ⟨W,hW,b0,hbW,qD⟩:=qB w [.slice a rs.length c,.int .i64 sure] 55;have HT:Hid (∀ u,qa W u→u.cell? ⟨w.heap.size,0,none⟩=some (.slice a rs.length c)):=fun u hu=>(b0.below hu b0.lt).cell 0 _ rfl
 have HR:Hid (∀ u,qa W u→yl u a rs):=fun u hu=>hr.below (qf hbW hu)
 have HF:Hid (vk tx (rs.map ql.v) rs.length=lastOf (rs.map ql.v) tx):=by rw [Hid,lastOf,qa4]
 generalize lastOf (rs.map ql.v) tx=R at*
 have x0:=HT.out W (qab _ _);clear qD b0 hr;go_enter func146,ntmps146;go_wp2_with fail;rw [hW.out];clear hW x0;go_loopw [5] (fun i wr=>∃ (k:Nat),i=.int .i64 ((k:Int)-1)∧k≤rs.length∧Hid (vk tx (rs.map ql.v) k=R)∧qa W wr)
  (fun i _=>(intOf i+1).toNat)
 case atStart=>exact ⟨rs.length,by go_num,by omega,HF,qab _ _⟩
 case round=>
  obtain ⟨k,rfl,hk,hR,hbl⟩:=hrel;have x0:=HT.out wr hbl;have hrr:=HR.out wr hbl;have Ka:=qf hbW hbl;cases k with
  | zero=>
   have MG:Hid (0=R):=hR.out;clear hR;go_wp2;go_ret;exact ⟨jN MG.out,Ka⟩
  | succ k=>
   obtain ⟨b,off,rfl,hcell⟩:=hrr (by rintro rfl;simp at hk);have c0:=(hcell k (by omega)).1 1 _ rfl;clear hcell;have hkk:(k:Int)<(rs.length:Int):=by omega
   have hi0:(0:Int)≤(k:Int):=by omega
   have HR2:Hid ((if (rs.getD k qE).tx=tx then (k:Int)+1 else vk tx (rs.map ql.v) k)=R):=by
    have h:=hR.out;rw [vk,qem] at h;exact h
   have hk1:((k+1:Nat):Int)-1=(k:Int):=by omega
   rw [hk1];generalize rs.getD k qE=z at*
   by_cases hq:z.tx=tx
   ·have HR3:Hid ((k:Int)+1=R):=by have h:=HR2.out;rw [qan hq] at h;exact h
    exact Np
   ·have HR3:Hid (vk tx (rs.map ql.v) k=R):=by have h:=HR2.out;rw [qa2 hq] at h;exact h
    have yJ:(z.tx == tx)=false:=by simpa using hq
    clear hq hR HR2;go_wp2_with fail;go_roundw
    case rel=>exact ⟨k,by go_num,by omega,HR3,hbl⟩
    case measure=>simp [intOf]
section
open Go.ChangeShapes Go.WideShapes Go.ChangeAt Go.RowKit
structure KO (w:World) (s:qh):Prop where
 slots:∀ x∈s.ss,Qj w x
 no:zy s.no
 lsn:zy s.lsn
theorem KO.reads {w:World} {s:qh} (h:KO w s):s.reads w:=fun x hx=>(h.slots x hx).reads
theorem KO.short {w:World} {s:qh} (h:KO w s):s.short 9223372036854775807:=fun x hx=>by
 have h1:=(h.slots x hx).lI;have h2:=(h.slots x hx).lR;simp only [maxLen] at h1 h2;omega
structure VF (w:World) (l:qo):Prop where
 seats:xw w l.a l.seats
 each:∀ r∈l.seats,KO w r
 len:l.seats.length≤maxLen
 num:zy l.hand
theorem VF.short {w:World} {l:qo} (h:VF w l):l.short 9223372036854775807:=⟨by have:=h.len;simp only [maxLen] at this;omega,fun r hr=>(h.each r hr).short⟩
theorem VF.reads {w:World} {l:qo} (h:VF w l):l.reads w:=h.seats
section
variable {H:Type} {enc:TypeId × Value→H} {w:World} {base:Nat} {spare:Nat→Bool} {held:Bool}
theorem Tryz.FR:prog.cellsOf 160=20:=by kernel_rfl
theorem qap {fuel:Nat} {cs:List Value} {x:DataW H × List MemPlace} (h:DataW.trod enc prog w base spare held fuel 160 cs=some x):
  ∃ s:qh,cs=s.cells∧KO w s:=by
 obtain ⟨xs,n,_,_,hlen,hxl,hf⟩:=qfC underlying160 h;rw [Tryz.FR] at hlen
 match cs,hlen with
 | [v0,v1,v2,v3,v4,v5,v6,v7,v8,v9,v10,v11,v12,v13,v14,v15,v16,v17,v18,v19],_=>
  have f0:=hf 0 _ rfl;have f1:=hf 1 _ rfl;have f2:=hf 2 _ rfl;have f3:=hf 3 _ rfl;obtain ⟨y0,hx0⟩:=jV xs 0 (by rw [hxl];decide);rw [hx0] at f0;obtain ⟨y1,hx1⟩:=jV xs 1 (by rw [hxl];decide);rw [hx1] at f1;obtain ⟨y2,hx2⟩:=jV xs 2 (by rw [hxl];decide);rw [hx2] at f2;obtain ⟨y3,hx3⟩:=jV xs 3 (by rw [hxl];decide);rw [hx3] at f3;simp only [qeM,qeF,qeG,Tryz.Ki,Tryz.GL,Tryz.NW,List.drop,List.take] at f0 f1 f2 f3;obtain ⟨n0,e0,w0⟩:=zl f0;obtain ⟨p,e1,h4,w1,hs⟩:=Wo f1;obtain ⟨d,e2,_⟩:=DataW.trod_bool underlying4 f2;obtain ⟨t,e3,_⟩:=DataW.trod_bool underlying4 f3;obtain ⟨lsn,ss⟩:=p;obtain ⟨a,b,c,d',rfl⟩:=QP (ts:=ss) h4;simp only [qfh,qgt] at e0 e2 e3;subst e0 e2 e3;refine ⟨⟨n0,lsn,a,b,c,d',d,t⟩,?_,hs,w0,w1⟩;rw [qh.ui];show _=Value.int .i64 n0::((qA.cells ⟨lsn,[a,b,c,d']⟩)++[.bool d,.bool t]);rw [← e1];rfl
theorem Tryz.qaq:prog.cellsOf 31=1:=by kernel_rfl
theorem Tryz.TW:prog.cellsOf 33=2:=by kernel_rfl
theorem AY {fuel:Nat} {cs:List Value} {x:DataW H × List MemPlace} (h:DataW.trod enc prog w base spare held fuel 31 cs=some x):
  ∃ (a:Option Addr) (c:Nat) (rs:List qh),cs=[.slice a rs.length c]∧xw w a rs∧(∀ r∈rs,KO w r)∧rs.length≤maxLen:=by
 rcases DataW.trod_slice underlying31 h with ⟨rfl,_⟩ | ⟨a,len,cap,elems,rest,n,_,rfl,_,_,hl,hm,hlen,hel,_,_⟩
 ·exact ⟨none,0,[],rfl,xw.nil _ _,fun r hr=>by simp at hr,by simp⟩
 rw [Tryz.FR] at hel;have each:∀ i,i<len→∃ t:qh,w.cells? base (a.add (i*20)) 20=some t.cells∧KO w t:=by
  intro i hi;have hy:=hel i hi;rw [qcG (by omega:i<elems.length),Option.bind_eq_some_iff] at hy;obtain ⟨cs',hcs,hy'⟩:=hy;obtain ⟨t,e,ht⟩:=qap hy';exact ⟨t,by rw [hcs,e],ht⟩
 obtain ⟨f,hf⟩:∃ f:Nat→qh,∀ i,i<len→w.cells? base (a.add (i*20)) 20=some (f i).cells∧KO w (f i):=by
  refine ⟨fun i=>if h:i<len then (each i h).choose else qi,fun i hi=>?_⟩;simp only [dif_pos hi];exact (each i hi).choose_spec
 refine ⟨some a,cap,(List.range len).map f,by simp,?_,?_,by simp;omega⟩
 ·intro hne;have hpos:=qe9.2 hne;simp only [qa4,List.length_range] at hpos ⊢;obtain ⟨b,off,spot⟩:=a;have c0:=(qfR (hf 0 hpos).1).2.2 0 (by decide);have hspot:spot=none:=by simpa [Addr.add] using World.cell?_spot c0
  subst hspot;refine ⟨b,off,rfl,fun k hk=>?_⟩;have e:((List.range len).map f).getD k qi=f k:=by simp [List.getD,hk]
  rw [e];have hc:=(qfR (hf k hk).1).2.2;refine ⟨fun j v hv=>?_,(hf k hk).2.reads⟩;have hj:j<20:=by have:=(qcL.1 hv).1;rwa [yn] at this
  have d:=hc j (by simpa using hj);simp only [zI] at d;rw [d,hv]
 ·intro r hr;obtain ⟨k,hk,rfl⟩:=qdn.1 hr;exact (hf k (qds.1 hk)).2
theorem Di {fuel:Nat} {cs:List Value} {x:DataW H × List MemPlace} (h:DataW.trod enc prog w base spare held fuel 33 cs=some x):
  ∃ l:qo,cs=l.cells∧VF w l:=by
 obtain ⟨xs,n,_,_,hlen,hxl,hf⟩:=qfC underlying33 h;rw [Tryz.TW] at hlen
 match cs,hlen with
 | [v0,v1],_=>
  have f0:=hf 0 _ rfl;have f1:=hf 1 _ rfl;obtain ⟨y0,hx0⟩:=jV xs 0 (by rw [hxl];decide);rw [hx0] at f0;obtain ⟨y1,hx1⟩:=jV xs 1 (by rw [hxl];decide);rw [hx1] at f1;simp only [qeM,qeF,qeG,Tryz.Ki,Tryz.qaq,List.drop,List.take] at f0 f1;obtain ⟨a,c,rs,e0,h0,h1,h2⟩:=AY f0;obtain ⟨m,e1,w1⟩:=zl f1;simp only [qfh,qgt] at e0 e1;subst e0 e1;exact ⟨⟨rs,m,a,c⟩,rfl,h0,h1,h2,w1⟩
theorem qkV {b0:Nat} {v:Value} {d:DataW H} {ps:List MemPlace} (hval:Value.okWide prog w .any b0 33 v) (h:DataW.Trod enc prog w base spare held 33 v d ps):
  ∃ l:qo,v=.agg l.cells.toArray∧VF w l:=by
 obtain ⟨cs,rfl,hcs⟩:=okWide_struct underlying33 hval;obtain ⟨fuel,hf⟩:=h;have e:(Value.agg cs).cells.toList=cs.toList:=rfl;rw [e] at hf;obtain ⟨r,hc,rest⟩:=Di hf;refine ⟨r,?_,rest⟩;congr 1;apply qgk.1;rw [hc]
end
end
theorem PH (s t:qj) (w:World) (hs:s.reads w) (ht:t.reads w) (hls:Fit [s]) (hlt:Fit [t]):
  Calls prog 147 #[.agg s.cells.toArray,.agg t.cells.toArray] w fun e w'=>e=.returned (.bool (ym s.v t.v))∧qa w w':=by
 obtain ⟨h1,h2⟩:=hls s (qac.2 rfl);obtain ⟨h3,h4⟩:=hlt t (qac.2 rfl);obtain ⟨W,hW,b0,b1,hbW,qD⟩:=jK w s.cells t.cells 45 45;have C1:=Zn s.v.o t.v.o s.aI s.cI s.aR s.cR t.aI t.cI t.aR t.cR W (jd.below hs hbW) (jd.below ht hbW) h1 h2 h3 h4;have HZ:Hid (ym s.v t.v=((s.v.has == t.v.has) && zR s.v.o t.v.o)):=rfl;generalize ym s.v t.v=R at*
 simp only [qj.cells] at*
 obtain ⟨x0,x1,x2,x3,_⟩:=b0.four;obtain ⟨y0,y1,y2,y3,_⟩:=b1.four;clear qD b0 b1;cases hb:(s.v.has == t.v.has) with
 | false=>
  have HR:Hid (R=false):=by rw [Hid,HZ.out];simp [hb]
  clear HZ C1;go_enter func147,ntmps147;go_wp2;go_ret;exact ⟨qm HR.out.symm,by rw [hW.out];exact hbW⟩
 | true=>
  have HR:Hid (R=zR s.v.o t.v.o):=by rw [Hid,HZ.out];simp [hb]
  clear HZ;go_enter func147,ntmps147;go_wp2_with fail;rw [hW.out];refine C1.mono ?_;clear C1 x0 x1 x2 x3 y0 y1 y2 y3;rintro e w1 ⟨rfl,hb1⟩;go_wp2;go_ret;exact ⟨qm HR.out.symm,qf hbW hb1⟩
def gD (a b:List qO):Bool:=(List.range 4).all fun i=>ym (a.getD i qw.v) (b.getD i qw.v)
def wD (a b:Int × List qO):Bool:=gD a.2 b.2 && decide (a.1=b.1)
theorem bU {a b:Int × List qO} (i:Nat) (hi:i<4) (h:ym (a.2.getD i qw.v) (b.2.getD i qw.v)=false):wD a b=false:=by
 have:gD a.2 b.2=false:=by
  rw [gD,qfw];exact ⟨i,qds.2 hi,by rw [h];decide⟩
 rw [wD,this,qgg]
theorem Nq {a b:Int × List qO} (h:∀ i,i<4→ym (a.2.getD i qw.v) (b.2.getD i qw.v)=true):wD a b=decide (a.1=b.1):=by
 have:gD a.2 b.2=true:=by
  rw [gD,qdt];exact fun i hi=>h i (qds.1 hi)
 rw [wD,this,qfH]
theorem Jn (ss:List qj) (k:Nat):(ss.map (·.v)).getD k qw.v=(ss.getD k qw).v:=by
 simp only [List.getD,qdy];cases ss[k]? <;>rfl
theorem wE (s:qj):(prog.info? 45).map (·.size)=some s.cells.length:=by show _=some 4;kernel_rfl
theorem qgY (s:qj):∀ v∈s.cells,v.oneCell'=true:=by
 intro v hv;simp only [qj.cells,qcv,qdu,qfL] at hv;rcases hv with rfl | rfl | rfl | rfl<;>rfl
theorem Gv {w:World} {B:Nat} {t:TypeId} {n:Int} {ss:List qj} (b:Box w B (qA.cells ⟨n,ss⟩) t) (k:Nat) (hk:k<ss.length):w.rangeAt B (1+k*4) (ss.getD k qw).cells:=by
 intro j v hv;have hj:j<4:=(qcL.1 hv).1;have e:=Jc ss k j hk hj;refine b.cell (1+k*4+j) v ?_;show (Value.int .i64 n::cellsS ss)[1+k*4+j]? =some v;rw [show 1+k*4+j=(k*4+j)+1 by omega,qdI,e];exact hv
theorem bY {P:Prop} (h:P:=by
 ·obtain rfl:k=4:=by omega
  have hkk:¬ ((4:Nat):Int)<4:=by omega
  have HE:Hid (RR=decide (n=m)∧qa w wr):=⟨zw.out hall.out,qf hbW hbr⟩;have x0:=(HB.out _ hbr).1.cell 0 _ rfl;have y0:=(HB.out _ hbr).2.cell 0 _ rfl;by_cases hnm:n=m
  ·subst hnm;go_wp2;go_ret;exact ⟨qm (by rw [HE.out.1];simp),HE.out.2⟩
  ·have hne:(n == m)=false:=by simpa using hnm
   go_wp2;go_ret;exact ⟨qm (by rw [HE.out.1];simp [hnm]),HE.out.2⟩):P:=h
theorem cu {P:Prop} (h:P:=by
 refine qau (by kernel_rfl) ?_ _;clear qc;have HE:Hid (RR=false∧qa w d1):=⟨qgZ.out hsm.out,qf hbW D1⟩;go_wp2;go_ret;exact ⟨qm HE.out.1.symm,HE.out.2⟩):P:=h
theorem cz {P:Prop} (h:P:=by
 refine qau (by kernel_rfl) ?_ _;clear qc;go_wp2_with fail;go_roundw
 case rel=>exact ⟨k+1,by omega,by go_num,HK.out _ hsm.out rfl,D1⟩
 case measure=>simp [intOf];omega):P:=h
theorem VB (p q:qA) (hp:p.ss.length=4) (hq:q.ss.length=4) (w:World) (rp:jS w p.ss) (rq:jS w q.ss) (fp:Fit p.ss) (fq:Fit q.ss):
  Calls prog 112 #[.agg p.cells.toArray,.agg q.cells.toArray] w fun e w'=>e=.returned (.bool (wD (p.lsn,p.ss.map (·.v)) (q.lsn,q.ss.map (·.v))))∧qa w w':=by
 have kI:Hid (∀ i,i<4→ym (p.ss.getD i qw).v (q.ss.getD i qw).v=false→wD (p.lsn,p.ss.map (·.v)) (q.lsn,q.ss.map (·.v))=false):=fun i hi h=>bU i hi (by rw [Jn,Jn];exact h)
 have zw:Hid ((∀ i,i<4→ym (p.ss.getD i qw).v (q.ss.getD i qw).v=true)→wD (p.lsn,p.ss.map (·.v)) (q.lsn,q.ss.map (·.v))=decide (p.lsn=q.lsn)):=fun h=>Nq (fun i hi=>by rw [Jn,Jn];exact h i hi)
 generalize wD (p.lsn,p.ss.map (·.v)) (q.lsn,q.ss.map (·.v))=RR at*
 obtain ⟨n,ss⟩:=p;obtain ⟨m,ts⟩:=q;simp only at*
 obtain ⟨W,hW,b0,b1,hbW,qD⟩:=jK w (qA.cells ⟨n,ss⟩) (qA.cells ⟨m,ts⟩) 48 48;have HB:Hid (∀ u,qa W u→Box u w.heap.size (qA.cells ⟨n,ss⟩) 48∧Box u (w.heap.size+1) (qA.cells ⟨m,ts⟩) 48):=fun u hu=>⟨b0.below hu b0.lt,b1.below hu b1.lt⟩
 clear qD b0 b1;go_enter func112,ntmps112;go_wp2_with fail;rw [hW.out];clear hW;go_loopw [5] (fun i wr=>∃ k:Nat,k≤4∧i=.int .i64 (k:Int)∧Hid (∀ i,i<k→ym (ss.getD i qw).v (ts.getD i qw).v=true)∧qa W wr) (fun i _=>4-(intOf i).toNat)
 case atStart=>exact ⟨0,qaw _,rfl,fun i hi=>by omega,qab _ _⟩
 case round=>
  obtain ⟨k,hk,rfl,hall,hbr⟩:=hrel;by_cases hlt:k<4
  ·have HR:Hid (∀ u,qa W u→u.rangeAt w.heap.size (1+k*4) (ss.getD k qw).cells∧u.rangeAt (w.heap.size+1) (1+k*4) (ts.getD k qw).cells):=fun u hu=>⟨Gv (HB.out u hu).1 k (by omega),Gv (HB.out u hu).2 k (by omega)⟩
   have R1:=rp _ (xh (k:=k) (by omega:k<ss.length));have R2:=rq _ (xh (k:=k) (by omega:k<ts.length));have F1:=fp _ (xh (k:=k) (by omega:k<ss.length));have F2:=fq _ (xh (k:=k) (by omega:k<ts.length));have KU:=kI.out k hlt;have HK:Hid (∀ b,ym (ss.getD k qw).v (ts.getD k qw).v=b→b=true→∀ i,i<k+1→ym (ss.getD i qw).v (ts.getD i qw).v=true):=fun b hb hb2 i hi=>by
    by_cases e:i=k
    ·rw [e,hb];exact hb2
    ·exact hall.out i (by omega)
   have qgZ:Hid (_):=KU;clear KU;generalize ss.getD k qw=s at*
   generalize ts.getD k qw=t at*
   have hi0:(0:Int)≤(k:Int):=by omega
   have hi4:(k:Int)<4:=by omega
   go_wp2_with fail;have D0:qa W wr.drew:=hbr.trans ((qab _ _).drew.mono hbr.size);refine qaZ (S:=fun u=>u.rangeAt w.heap.size (1+k*4) s.cells∧u.rangeAt (w.heap.size+1) (1+k*4) t.cells) (by kernel_rfl) (HR.out _ D0) (fun qc=>?_);generalize wr.drew=d0 at*
   iterate 3 refine jv ?_
   refine xB 3 (s.cells) (fun _ h=>h.1) underlying45 ((wE _)) ?_
   iterate 3 refine jv ?_
   refine xB 7 (t.cells) (fun _ h=>h.2) underlying45 ((wE _)) ?_;refine jc 8 (fun K hK=>?_);go_simp;refine (PH s t _ (jd.below R1 (qf hbW D0)) (jd.below R2 (qf hbW D0)) (fun x hx=>by obtain rfl:=qac.1 hx;exact F1) (fun x hx=>by obtain rfl:=qac.1 hx;exact F2)).mono ?_;rintro e d1 ⟨rfl,hb1⟩;have D1:=qf D0 hb1;refine qX hK (HR.out _ D1) fun qc=>?_
   clear hK K hb1;try simp only [zz]
   obtain ⟨bb,hsm⟩:=qV (ym s.v t.v);rw [hsm.out];cases bb with
   | true=>
    refine jg 9 ?_;exact cz
   | false=>
    refine jg 9 ?_;exact cu
  exact bY
theorem YZ (p q:qA) (hp:p.ss.length=4) (hq:q.ss.length=4) (w:World) (rp:jS w p.ss) (rq:jS w q.ss) (fp:Fit p.ss) (fq:Fit q.ss):
  Calls prog 155 #[.agg p.cells.toArray,.agg q.cells.toArray] w fun e w'=>e=.returned (.bool (wD (p.lsn,p.ss.map (·.v)) (q.lsn,q.ss.map (·.v))))∧qa w w':=by
 have kI:Hid (∀ i,i<4→ym (p.ss.getD i qw).v (q.ss.getD i qw).v=false→wD (p.lsn,p.ss.map (·.v)) (q.lsn,q.ss.map (·.v))=false):=fun i hi h=>bU i hi (by rw [Jn,Jn];exact h)
 have zw:Hid ((∀ i,i<4→ym (p.ss.getD i qw).v (q.ss.getD i qw).v=true)→wD (p.lsn,p.ss.map (·.v)) (q.lsn,q.ss.map (·.v))=decide (p.lsn=q.lsn)):=fun h=>Nq (fun i hi=>by rw [Jn,Jn];exact h i hi)
 generalize wD (p.lsn,p.ss.map (·.v)) (q.lsn,q.ss.map (·.v))=RR at*
 obtain ⟨n,ss⟩:=p;obtain ⟨m,ts⟩:=q;simp only at*
 obtain ⟨W,hW,b0,b1,hbW,qD⟩:=jK w (qA.cells ⟨n,ss⟩) (qA.cells ⟨m,ts⟩) 48 48;have HB:Hid (∀ u,qa W u→Box u w.heap.size (qA.cells ⟨n,ss⟩) 48∧Box u (w.heap.size+1) (qA.cells ⟨m,ts⟩) 48):=fun u hu=>⟨b0.below hu b0.lt,b1.below hu b1.lt⟩
 clear qD b0 b1;have hrg0:W.rangeAt w.heap.size 1 (cellsS ss):=Box.range [.int .i64 n] (cellsS ss) [] (by rw [qcZ];exact (HB.out _ (qab _ _)).1);have qg0:(prog.info? 46).map (·.size)=some (cellsS ss).length:=by rw [jW,hp];kernel_rfl
 go_enter func155,ntmps155;go_wp2_with (first | (guard_target=qp 8;refine qH 46 7 w.heap.size 1 (cellsS ss) (by rw [hW.out];exact hrg0) underlying46 qg0 ?_) | fail);rw [hW.out];clear hW hrg0 qg0;go_loopw [9] (fun i wr=>∃ k:Nat,k≤4∧i=.int .i64 (k:Int)∧Hid (∀ i,i<k→ym (ss.getD i qw).v (ts.getD i qw).v=true)∧qa W wr) (fun i _=>4-(intOf i).toNat)
 case atStart=>exact ⟨0,qaw _,rfl,fun i hi=>by omega,qab _ _⟩
 case round=>
  obtain ⟨k,hk,rfl,hall,hbr⟩:=hrel;by_cases hlt:k<4
  ·have HR1:Hid (∀ u,qa W u→u.rangeAt (w.heap.size+1) (1+k*4) (ts.getD k qw).cells):=fun u hu=>Gv (HB.out u hu).2 k (by omega)
   have R1:=rp _ (xh (k:=k) (by omega:k<ss.length));have R2:=rq _ (xh (k:=k) (by omega:k<ts.length));have F1:=fp _ (xh (k:=k) (by omega:k<ss.length));have F2:=fq _ (xh (k:=k) (by omega:k<ts.length));have KU:=kI.out k hlt;have HK:Hid (∀ b,ym (ss.getD k qw).v (ts.getD k qw).v=b→b=true→∀ i,i<k+1→ym (ss.getD i qw).v (ts.getD i qw).v=true):=fun b hb hb2 i hi=>by
    by_cases e:i=k
    ·rw [e,hb];exact hb2
    ·exact hall.out i (by omega)
   have qgZ:Hid (_):=KU;have hix:=Jp ss hp k hlt;clear KU;generalize ss.getD k qw=s at*
   generalize ts.getD k qw=t at*
   have hi0:(0:Int)≤(k:Int):=by omega
   have hi4:(k:Int)<4:=by omega
   obtain ⟨ZV,QJ,bZ,yF,zx⟩:=qB wr [.bool false,.int .i64 0,.slice none 0 0,.slice none 0 0] 45;obtain ⟨V,hV,bS0,XD,Kr⟩:=jE [] [.bool false,.int .i64 0,.slice none 0 0,.slice none 0 0] s.cells [] (by simpa using bZ) rfl;have bS:Box V wr.heap.size s.cells 45:=by simpa using bS0
   have HT:Hid (ZV.there wr.heap.size 0 s.cells.toArray.size):=bZ.there 0 _ (by show 0+4≤4;decide);have HV:Hid (ZV.setCells wr.heap.size 0 s.cells.toArray.toList=V):=hV.out;have nb:qa wr V:=yF.trans (XD.below qg (by omega));have D:=qf hbr nb;have l6:=bS.lt;have HR:Hid (∀ u,qa V u→u.rangeAt wr.heap.size 0 s.cells∧u.rangeAt (w.heap.size+1) (1+k*4) t.cells):=fun u hu=>⟨qN (bS.below hu bS.lt),HR1.out u (qf D hu)⟩
   clear bZ yF zx hV bS0 XD Kr bS;go_upto_region 4 with (first | (guard_target=ja 6;refine jb 45 6 12 wr.heap.size 0 s.cells.toArray (by rw [QJ.out];exact HT.out) (jG (wE _)) (qaf (qgY s)) ?_) | fail);rw [QJ.out,HV.out];clear QJ HV HT hix;have D0:qa V V.drew:=(qab _ _).drew;refine qaZ (S:=fun u=>u.rangeAt wr.heap.size 0 s.cells∧u.rangeAt (w.heap.size+1) (1+k*4) t.cells) (by kernel_rfl) (HR.out _ D0) (fun qc=>?_);generalize V.drew=d0 at*
   refine xB 0 (s.cells) (fun _ h=>h.1) underlying45 ((wE _)) ?_
   iterate 3 refine jv ?_
   refine xB 4 (t.cells) (fun _ h=>h.2) underlying45 ((wE _)) ?_;refine jc 5 (fun K hK=>?_);have RB:qa w d0:=hbW.trans ((qf D D0).mono hbW.size);go_simp;refine (J2 s t _ (jd.below R1 RB) (jd.below R2 RB) (fun x hx=>by obtain rfl:=qac.1 hx;exact F1) (fun x hx=>by obtain rfl:=qac.1 hx;exact F2)).mono ?_;rintro e d1 ⟨rfl,hb1⟩;have DV:=qf D0 hb1;have D1:=qf D DV;refine qX hK (HR.out _ DV) fun qc=>?_
   clear hK K hb1;try simp only [zz]
   obtain ⟨bb,hsm⟩:=qV (ym s.v t.v);rw [hsm.out];cases bb with
   | true=>
    refine jg 6 ?_;exact cz
   | false=>
    refine jg 6 ?_;exact cu
  exact bY
theorem FT {P:Prop} (h:P:=by
 rcases qaa.1 hr with hr | hr
 ·exact hold r hr
 ·obtain rfl:=qac.1 hr;exact hnew):P:=h
theorem FU {P:Prop} (h:P:=by
 have:=hin x hx;simp only [qaY,qdH,qcZ] at hy;have:=yJ y hy;omega):P:=h
theorem Nr {w:World} (ty:TypeId) (lo hi:Nat) (a:Option Addr) (c:Nat) (rs:List qh) (hown:OwnSts w lo hi a c rs)
  (b off:Nat) (sc:Nat) (q:qh) (hr:w.rangeAt b off q.cells) (l u:Nat) (hq:q.own w l u) (hl:hi≤l) (hu:u≤w.heap.size)
  (hb:rs.length+1≤68719476736) (hlo:lo≤hi):
  ∃ a' c' w',(Builtin.append_ #[50,50] ty #[.slice a rs.length c,.slice (some ⟨b,off,none⟩) 1 sc]).run prog w=.ok (.slice a' (rs++[q]).length c') w'∧OwnSts w' lo w'.heap.size a' c' (rs++[q])∧w.grownBy w' (Value.slice a rs.length c).ownBlock∧
   (∀ k,(Value.slice a' (rs++[q]).length c').ownBlock=some k→(Value.slice a rs.length c).ownBlock=some k∨k=w.heap.size):=by
 obtain ⟨i0,hi0,hz0,hz1,hz2⟩:=qft Tryz.VT;have yJ:=hq.qC;have htop:=hown.top;obtain ⟨v',w',hrun,h1,h2,_,h5⟩:=run_append_own_at (P:=prog) w lo 50 ty 121 i0 (.agg qi.cells.toArray) 20 280 underlying50 hi0 hz0 hz1 hz2 rfl (by decide) _ _ _ hown.row ⟨b,off,none⟩ 1 sc q.cells (by rfl) (by
  intro j v hj;rw [zI];exact hr j v hj) (Mw q) (by simp only [maxLen];omega) (by omega) (by omega)
 have e:jH rs++q.cells=jH (rs++[q]):=by rw [yX,yf];simp [jH]
 have e2:rs.length+1=(rs++[q]).length:=by simp
 rw [e,e2] at h1;have sh:∃ a' c',v'=.slice a' (rs++[q]).length c':=by
  rcases h1.2 with ⟨rfl,h0⟩ | ⟨g,cap,cur,rfl,_⟩
  ·simp at h0
  ·exact ⟨_,_,rfl⟩
 obtain ⟨a',c',rfl⟩:=sh;have hsz:=h2.size;have ht:Touch (Value.slice a rs.length c).ownBlock.toList w w':=Touch.jO h2 (fun k hk=>qad.2 hk);have hrow:=h1.lt;have hold:∀ r∈rs,r.own w' lo w'.heap.size:=fun r hr=>((hown.each r hr).touch ht (fun k hk hk'=>(qav.1 hown.apart).2.2 k hk' k (qag.2 ⟨r,hr,hk⟩) rfl)).widen qg (by omega) qg
 have hnew:q.own w' lo w'.heap.size:=(hq.touch ht (fun k hk hk'=>by have:=yJ k hk;have:=hown.blk k (qad.1 hk');omega)).widen (by omega) (by omega) qg;refine ⟨a',c',w',hrun,⟨h1,qcN _,fun k hk=>(hrow k hk).2,fun r hr=>?_,?_⟩,h2,fun k hk=>h5.elim (fun h5=>.inl (by rw [← h5];exact hk)) (fun h5=>by rw [h5] at hk;exact .inr (qfb hk).symm)⟩
 ·exact FT
 ·rw [qcy,qav,qav];have hap:=(qav.1 hown.apart).2.1;have hin:∀ x∈rs.flatMap qh.blocks,lo≤x∧x<hi:=fun x hx=>by
   obtain ⟨r,hr,hx⟩:=qag.1 hx;exact (hown.each r hr).qC x hx
  refine ⟨by cases (Value.slice a' (rs++[q]).length c').ownBlock<;>simp,⟨hap,by simpa using hq.apart,fun x hx y hy e=>?_⟩,fun x hx y hy e=>?_⟩
  ·exact FU
  ·have hx':=qad.1 hx;subst e;rcases qaa.1 hy with hy | hy
   ·obtain ⟨r,hr,hy⟩:=qag.1 hy;exact uw h1 (hold r hr) x hx' hy
   ·simp only [qaY,qdH,qcZ] at hy;exact uw h1 hnew x hx' hy
theorem FV {P:Prop} (h:P:=by
 unfold Oper.wp;simp [execOp,ho,resolve,invoke,builtin,hs,hx,hrun,Result.andThen];have:=h a' c' w' h2 h3 h4;rw [qai,qfD] at this;exact this):P:=h
theorem YQ {w:World} {ops:Array Oper} {o:Oper} {act:Act} {K:Act→World→Prop} {Q:Exit→Act→World→Prop} {E:Prop} (hgd:o.guard=none) (s x:Operand)
  (ho:o.op=.call { callee:=.builtin .append,args:=#[s,x],argTypes:=#[50,50] })
  (lo hi:Nat) (a:Option Addr) (c:Nat) (rs:List qh) (hs:act.eval s=.slice a rs.length c) (hown:OwnSts w lo hi a c rs)
  (b off:Nat) (sc:Nat) (q:qh) (hx:act.eval x=.slice (some ⟨b,off,none⟩) 1 sc) (hr:w.rangeAt b off q.cells) (l u:Nat) (hq:q.own w l u) (hl:hi≤l) (hu:u≤w.heap.size)
  (hb:rs.length+1≤68719476736) (hlo:lo≤hi)
  (h:∀ a' c' w',OwnSts w' lo w'.heap.size a' c' (rs++[q])→w.grownBy w' (Value.slice a rs.length c).ownBlock→(∀ k,(Value.slice a' (rs++[q]).length c').ownBlock=some k→(Value.slice a rs.length c).ownBlock=some k∨k=w.heap.size)→K (act.put o.dst (.slice a' (rs++[q]).length c')) w'):
  if Region.wanted o (yielded ops act.tmps)=true then Oper.wp prog o act w K Q else E:=by
 have hw:Region.wanted o (yielded ops act.tmps)=true:=by simp [Region.wanted,hgd]
 rw [qan hw];obtain ⟨a',c',w',hrun,h2,h3,h4⟩:=Nr (w:=w) o.type lo hi a c rs hown b off sc q hr l u hq hl hu hb hlo;exact FV
end Go.Proofs.YtnfdccldabbobaaGreatDoor
