/- Texts. -/
import Derived.Test.YtnfdccldabbobaaGreatDoorP20
import Derived.Test.YtnfdccldabbobaaGreatDoorP18
import Derived.Test.YtnfdccldabbobaaGreatDoorP19
import Derived.Deep.LoopGhost
import Derived.Laws.Tables
import Derived.Sort.CutIn
import Derived.WalkMore
import Derived.ScopeJumps
set_option maxHeartbeats 8000000
set_option maxRecDepth 100000
namespace Go.Proofs.YtnfdccldabbobaaGreatDoor
open Go.RowKit Go.Proofs.Tryz
theorem sS (B o:Nat) (cs:List Value) (T:TypeId) (a:Option Addr) (c n:Nat) (s x:Int) (w:World) (b:Box w B cs T) (h0:cs[o]? =some (.slice a n c)) (h1:cs[o+1]? =some (.int .i64 s)):
  Calls prog 213 #[.pointer (some ⟨B,o,none⟩),.int .i64 x] w fun e w'=>(∃ v,e=.returned v)∧Box w' B (cs.set (o+1) (.int .i64 (min (max s x) (n:Int)))) T∧Within B (B+1) w w'∧w'.heap.size=w.heap.size:=by
 have D0:qa w w.drew:=(qab _ _).drew;have b0:=b.below D0 b.lt;have c0:=b0.cell o _ h0;have c1:=b0.cell (o+1) _ h1;have f1:=b0.frozen (o+1);have HMM:Hid ((if (n:Int)<(if s<x then x else s) then (n:Int) else if s<x then x else s)=min (max s x) n):=by
  rw [Hid];split<;>split<;>omega
 obtain ⟨W,hW,bW,hw,hs⟩:=jZ b0 (o+1) (.int .i64 (if (n:Int)<(if s<x then x else s) then (n:Int) else if s<x then x else s));have HE:Hid (Box W B (cs.set (o+1) (.int .i64 (min (max s x) (n:Int)))) T∧Within B (B+1) w W∧W.heap.size=w.heap.size):=⟨by rw [← HMM.out];exact bW,(Within.of_below D0).trans hw,hs⟩;clear bW hw hs HMM b0 D0;go_enter func213,ntmps213;refine Vr (· == 15) (S:=fun u=>u.cell? ⟨B,o,none⟩=some (.slice a n c)∧u.cell? ⟨B,o+1,none⟩=some (.int .i64 s)) (by kernel_rfl) ⟨c0,c1⟩ (fun qc=>?_);generalize w.drew=d0 at*
 refine kr (i:=0) (v:=.pointer (some ⟨B,o,none⟩)) rfl (by kernel_rfl) (fun _ _ _ h=>h) (Or.inl ⟨by rfl,?_⟩) qc ?_
 ·intro w' hSw;go_simp<;>rfl
 try simp only [zz]
 refine kr (i:=1) (v:=.pointer (some ⟨B,o,none⟩)) rfl (by kernel_rfl) (fun _ _ _ h=>h) (Or.inl ⟨by rfl,?_⟩) qc ?_
 ·intro w' hSw;go_simp<;>rfl
 try simp only [zz]
 refine kr (i:=2) (v:=.pointer (some ⟨B,o,none⟩)) rfl (by kernel_rfl) (fun _ _ _ h=>h) (Or.inl ⟨by rfl,?_⟩) qc ?_
 ·intro w' hSw;go_simp<;>rfl
 try simp only [zz]
 refine kr (i:=3) (v:=.pointer (some ⟨B,o+1,none⟩)) rfl (by kernel_rfl) (fun _ _ _ h=>h) (Or.inl ⟨by rfl,?_⟩) qc ?_
 ·intro w' hSw;go_simp<;>rfl
 try simp only [zz]
 refine kr (i:=4) (v:=.int .i64 s) rfl (by kernel_rfl) (fun _ _ _ h=>h) (Or.inl ⟨by rfl,?_⟩) qc ?_
 ·intro w' hSw;have hx:=hSw.2;go_simp<;>rfl
 try simp only [zz]
 refine kr (i:=5) (v:=.int .i64 x) rfl (by kernel_rfl) (fun _ _ _ h=>h) (Or.inl ⟨by rfl,?_⟩) qc ?_
 ·intro w' hSw;go_simp<;>rfl
 try simp only [zz]
 refine kr (i:=6) (v:=.int .i64 (if s<x then x else s)) rfl (by kernel_rfl) (fun _ _ _ h=>h) (Or.inl ⟨by rfl,?_⟩) qc ?_
 ·intro w' hSw;go_simp<;>first|rfl|omega
 try simp only [zz]
 refine kr (i:=7) (v:=.pointer (some ⟨B,o,none⟩)) rfl (by kernel_rfl) (fun _ _ _ h=>h) (Or.inl ⟨by rfl,?_⟩) qc ?_
 ·intro w' hSw;go_simp<;>rfl
 try simp only [zz]
 refine kr (i:=8) (v:=.pointer (some ⟨B,o,none⟩)) rfl (by kernel_rfl) (fun _ _ _ h=>h) (Or.inl ⟨by rfl,?_⟩) qc ?_
 ·intro w' hSw;go_simp<;>rfl
 try simp only [zz]
 refine kr (i:=9) (v:=.pointer (some ⟨B,o,none⟩)) rfl (by kernel_rfl) (fun _ _ _ h=>h) (Or.inl ⟨by rfl,?_⟩) qc ?_
 ·intro w' hSw;go_simp<;>rfl
 try simp only [zz]
 refine kr (i:=10) (v:=.slice a n c) rfl (by kernel_rfl) (fun _ _ _ h=>h) (Or.inl ⟨by rfl,?_⟩) qc ?_
 ·intro w' hSw;have hx:=hSw.1;go_simp<;>rfl
 try simp only [zz]
 refine kr (i:=11) (v:=.int .i64 (n:Int)) rfl (by kernel_rfl) (fun _ _ _ h=>h) (Or.inl ⟨by rfl,?_⟩) qc ?_
 ·intro w' hSw;go_simp<;>rfl
 try simp only [zz]
 refine kr (i:=12) (v:=.int .i64 (if (n:Int)<(if s<x then x else s) then (n:Int) else if s<x then x else s)) rfl (by kernel_rfl) (fun _ _ _ h=>h) (Or.inl ⟨by rfl,?_⟩) qc ?_
 ·intro w' hSw;go_simp<;>first|rfl|omega
 try simp only [zz]
 refine JK 13 (by kernel_rfl) rfl (fun K hK=>?_);go_simp;refine hK.out _ _ (qc) (fun qc=>?_);clear hK K ;try simp only [zz]
 refine kr (i:=14) (v:=.pointer (some ⟨B,o+1,none⟩)) rfl (by kernel_rfl) (fun _ _ _ h=>h) (Or.inl ⟨by rfl,?_⟩) qc ?_
 ·intro w' hSw;go_simp<;>rfl
 try simp only [zz]
 refine nQ 15 (by kernel_rfl) rfl rfl (fun K hK=>?_);go_simp;rw [hW.out];refine hK.out _ _ ?_;clear hK K;refine nW (by kernel_rfl) ?_ _;clear hW qc;generalize (if (n:Int)<(if s<x then x else s) then (n:Int) else if s<x then x else s)=I1 at*
 generalize (if s<x then x else s)=I2 at*
 go_wp2;go_end0;exact ⟨⟨_,rfl⟩,HE.out⟩
theorem nX {P:Prop} (h:P:=by
 ·have HM:Hid (max s (min n (m:Int))=s):=by rw [Hid];omega
  go_enter func149,ntmps149;go_wp2;go_end0;exact ⟨⟨_,rfl⟩,.inl ⟨rfl,HM.out⟩⟩):P:=h
theorem nY {P:Prop} (h:P:=by
 go_enter func149,ntmps149;go_wp2;go_end0;exact ⟨⟨_,rfl⟩,.inr (by rw [HM.out])⟩):P:=h
theorem fU (B o:Nat) (a:Option Addr) (c m:Nat) (s n:Int) (w:World) (c0:w.cell? ⟨B,o,none⟩=some (.slice a m c)) (c1:w.cell? ⟨B,o+1,none⟩=some (.int .i64 s)) (f1:w.frozen? ⟨B,o+1,none⟩=false):
  Calls prog 149 #[.pointer (some ⟨B,o,none⟩),.int .i64 n] w fun e w'=>(∃ v,e=.returned v)∧((w'=w∧max s (min n (m:Int))=s)∨w'=w.setCell ⟨B,o+1,none⟩ (.int .i64 (max s (min n (m:Int))))):=by
 by_cases h1:n > m
 ·by_cases h2:(m:Int) > s
  ·have HM:Hid (max s (min n (m:Int))=m):=by rw [Hid];omega
   exact nY
  exact nX
 ·by_cases h2:n > s
  ·have HM:Hid (max s (min n (m:Int))=n):=by rw [Hid];omega
   exact nY
  exact nX
theorem Cv (A B:List qh) (z z':qh) (i:Nat) (v:Value) (hi:i<20) (hc:z'.cells=z.cells.set i v):(jH (A++z::B)).set (A.length*20+i) v=jH (A++z'::B):=by
 rw [yX,yf,yX,yf,qdh _ _ (by rw [uH];omega),uH,show A.length*20+i-A.length*20=i by omega,List.set_append_left _ _ (by rw [yn];omega),hc]
theorem Mv {P:Prop} (h:P:=by
 exact (h.each r (by simp [hr])).touch ht (fun k hk hk'=>U8 r (by simp [hr]) (by rw [← qac.1 hk'];exact hk))):P:=h
theorem OwnSts.Ke {w:World} {lo hi g c:Nat} {A B:List qh} {z z':qh} (h:OwnSts w lo hi (some ⟨g,0,none⟩) c (A++z::B)) (i:Nat) (v:Value) (hi':i<20) (hc:z'.cells=z.cells.set i v) (hss:z'.ss=z.ss):
  OwnSts (w.setCell ⟨g,A.length*20+i,none⟩ v) lo hi (some ⟨g,0,none⟩) c (A++z'::B)∧Touch [g] w (w.setCell ⟨g,A.length*20+i,none⟩ v):=by
 have hrow:=h.row;obtain ⟨h1,h2⟩:=hrow.stored (A.length*20+i) v;have ht:Touch [g] w (w.setCell ⟨g,A.length*20+i,none⟩ v):=Touch.jO h2 (fun k hk=>by cases hk;simp);have hbl:z'.blocks=z.blocks:=by unfold qh.blocks;rw [hss]
 have hap:=h.apart;have U8:∀ r∈A++z::B,g∉r.blocks:=fun r hr hk=>by
  have:=(qav.1 hap).2.2 g (by simp [Value.ownBlock]) g (qag.2 ⟨r,hr,hk⟩);exact this rfl
 have hlen:(A++z'::B).length=(A++z::B).length:=by simp
 have hz:z'.own w lo hi:=by
  have:=h.each z (by simp);unfold qh.own at this ⊢
  rwa [hss]
 refine ⟨⟨?_,?_,?_,fun r hr=>?_,?_⟩,ht⟩
 ·rw [hlen,← Cv A B z z' i v hi' hc];exact h1
 ·simpa using h.top
 ·rw [hlen];exact h.blk
 ·rcases qaa.1 hr with hr | hr
  ·exact Mv
  ·rcases qcv.1 hr with rfl | hr
   ·exact hz.touch ht (fun k hk hk'=>U8 z (by simp) (by rw [← hbl,← qac.1 hk'];exact hk))
   ·exact Mv
 ·rw [hlen]
  simpa [hbl] using hap
theorem Jw {A P P' C:List Nat} {n:Nat} (h:(A++(P++C)).Nodup) (hP:P'.Nodup) (hf:∀ k∈P',k∈P∨n≤k) (hA:∀ k∈A,k<n) (hC:∀ k∈C,k<n):(A++(P'++C)).Nodup:=by
 simp only [qav,qaa] at h ⊢;obtain ⟨h1,⟨_,h3,h4⟩,h5⟩:=h;refine ⟨h1,⟨hP,h3,fun a ha b hb e=>?_⟩,fun a ha b hb e=>?_⟩
 ·rcases hf a ha with h | h
  ·exact h4 a h b hb e
  ·have:=hC b hb;omega
 ·rcases hb with hb | hb
  ·rcases hf b hb with h | h
   ·exact h5 a ha b (.inl h) e
   ·have:=hA a ha;omega
  ·exact h5 a ha b (.inr hb) e
abbrev TE:TypeId:=59
structure j3 (f:qb→List Value) (T:TypeId) (w:World) (E:Nat) (e:qb):Prop where
 box:Box w E (f e) T
 shape:e.shape
 own:e.own w 0 w.heap.size
 off:E∉e.blocks
abbrev wu:=j3 qb.cells TE
theorem j3.below {f:qb→List Value} {T:TypeId} {w w':World} {E:Nat} {e:qb} (h:j3 f T w E e) (hb:qa w w'):j3 f T w' E e:=
 ⟨h.box.below hb h.box.lt,h.shape,(h.own.below hb).widen qg hb.size qg,h.off⟩
theorem j3.lt {f:qb→List Value} {T:TypeId} {w:World} {E:Nat} {e:qb} (h:j3 f T w E e):∀ k∈e.blocks,k<w.heap.size:=fun k hk=>(h.own.qC k hk).2
theorem j3.touch {f:qb→List Value} {T:TypeId} {w w':World} {E:Nat} {e:qb} {bl:List Nat} (h:j3 f T w E e) (ht:Touch bl w w') (hE:E∉bl) (hd:∀ k∈e.blocks,k∉bl):j3 f T w' E e:=
 ⟨h.box.touch ht hE,h.shape,(h.own.touch ht hd).widen qg ht.size qg,h.off⟩
theorem j3.within {f:qb→List Value} {T:TypeId} {w w':World} {E l r:Nat} {e:qb} (h:j3 f T w E e) (hw:Within l r w w') (hE:¬ (l≤E∧E<r)) (hd:∀ k∈e.blocks,¬ (l≤k∧k<r)):j3 f T w' E e:=
 h.touch (bl:=(List.range r).filter (fun k=>decide (l≤k))) ⟨hw.os,hw.tape,hw.output,hw.size,fun k hk hn=>hw.block k hk (fun hh=>hn (by simp [hh.1,hh.2]))⟩ (by simpa [and_comm] using hE) (fun k hk=>by have:=hd k hk;simpa [and_comm] using this)
def Off (E:Nat) (e:qb) (B:Nat):Prop:=B≠E∧B∉e.blocks
theorem j3.new {f:qb→List Value} {T:TypeId} {w:World} {E B:Nat} {e:qb} (h:j3 f T w E e) (hB:w.heap.size≤B):Off E e B:=
 ⟨by have:=h.box.lt;omega,fun hk=>by have:=h.lt B hk;omega⟩
structure ji (f:qb→List Value) (T:TypeId) (E:Nat) (e:qb) (w:World) (e':qb) (w':World):Prop where
 at':j3 f T w' E e'
 touch:Touch (E::e.blocks) w w'
 fresh:∀ k∈e'.blocks,k∈e.blocks∨w.heap.size≤k
abbrev kC:=ji qb.cells TE
theorem ji.size {f:qb→List Value} {T:TypeId} {E:Nat} {e e':qb} {w w':World} (s:ji f T E e w e' w'):w.heap.size≤w'.heap.size:=s.touch.size
theorem ji.refl {f:qb→List Value} {T:TypeId} {E:Nat} {e:qb} {w:World} (h:j3 f T w E e):ji f T E e w e w:=⟨h,Touch.refl _ _,fun _ hk=>.inl hk⟩
theorem ji.trans {f:qb→List Value} {T:TypeId} {E:Nat} {e e1 e2:qb} {w w1 w2:World} (s:ji f T E e w e1 w1) (t:ji f T E e1 w1 e2 w2):ji f T E e w e2 w2:=by
 refine ⟨t.at',⟨t.touch.os.trans s.touch.os,t.touch.tape.trans s.touch.tape,t.touch.output.trans s.touch.output,qcx s.size t.size,fun k hk hn=>?_⟩,fun k hk=>?_⟩
 ·have hn1:k∉E::e1.blocks:=fun h=>by
   rcases qcv.1 h with h | h
   ·exact hn (by simp [h])
   ·rcases s.fresh k h with h | h
    ·exact hn (qcO _ h)
    ·omega
  exact (t.touch.block k (qe2 hk s.size) hn1).trans (s.touch.block k hk hn)
 ·rcases t.fresh k hk with h | h
  ·exact s.fresh k h
  ·exact .inr (qcx s.size h)
theorem ji.below {f:qb→List Value} {T:TypeId} {E:Nat} {e e':qb} {w w' w'':World} (s:ji f T E e w e' w') (hb:Below w'.heap.size w' w''):ji f T E e w e' w'':=
 ⟨s.at'.below hb,s.touch.trans (Touch.of_below hb),s.fresh⟩
theorem ji.after {f:qb→List Value} {T:TypeId} {E:Nat} {e e':qb} {w0 w w':World} (hb:qa w0 w) (s:ji f T E e w e' w'):ji f T E e w0 e' w':=
 ⟨s.at',(Touch.of_below hb).trans s.touch,fun k hk=>(s.fresh k hk).imp id (qcx hb.size)⟩
theorem ji.off {f:qb→List Value} {T:TypeId} {E B:Nat} {e e':qb} {w w':World} (s:ji f T E e w e' w') (hB:B<w.heap.size) (ho:Off E e B):Off E e' B:=
 ⟨ho.1,fun hk=>(s.fresh B hk).elim ho.2 (fun h=>by omega)⟩
theorem ji.block {f:qb→List Value} {T:TypeId} {E B:Nat} {e e':qb} {w w':World} (s:ji f T E e w e' w') (hB:B<w.heap.size) (ho:Off E e B):w'.heap[B]? =w.heap[B]? :=
 s.touch.block B hB (fun h=>(qcv.1 h).elim ho.1 ho.2)
theorem ji.boxes {f:qb→List Value} {T:TypeId} {E B:Nat} {e e':qb} {w w':World} {vs:List Value} {t:TypeId} (s:ji f T E e w e' w') (b:Box w B vs t) (ho:Off E e B):Box w' B vs t:=b.block (s.block b.lt ho)
theorem qb.wZ {e:qb} {k:Nat} (h:k∈e.Kw):k∈e.blocks:=by simp only [qb.blocks,qaa];exact .inl h
theorem qb.xU {e:qb} {k:Nat} (h:k∈qF e.aS e.cS e.seats):k∈e.blocks:=by simp only [qb.blocks,qaa];exact .inr (.inl h)
theorem qb.wY {e:qb} {k:Nat} (h:k∈jw e.log.a e.log.c e.log.recs):k∈e.blocks:=by simp only [qb.blocks,qaa];exact .inr (.inr (.inl h))
theorem qb.zL {e:qb} {k:Nat} (h:k∈rowOf e.aT e.txs.length e.cT):k∈e.blocks:=by simp only [qb.blocks,qaa];exact .inr (.inr (.inr (.inl h)))
theorem qb.wJ {e:qb} {k:Nat} (h:k∈rowOf e.aH e.holds.length e.cH):k∈e.blocks:=by simp only [qb.blocks,qaa];exact .inr (.inr (.inr (.inr h)))
theorem nZ (a:Option Addr) (n c:Nat):(rowOf a n c).Nodup:=by unfold rowOf;cases (Value.slice a n c).ownBlock<;>simp
structure qb.Cw (e:qb):Prop where
 dp:∀ k∈e.Kw,k∉qF e.aS e.cS e.seats
 dl:∀ k∈e.Kw,k∉jw e.log.a e.log.c e.log.recs
 dt:∀ k∈e.Kw,k∉rowOf e.aT e.txs.length e.cT
 dh:∀ k∈e.Kw,k∉rowOf e.aH e.holds.length e.cH
 pl:∀ k∈qF e.aS e.cS e.seats,k∉jw e.log.a e.log.c e.log.recs
 pt:∀ k∈qF e.aS e.cS e.seats,k∉rowOf e.aT e.txs.length e.cT
 ph:∀ k∈qF e.aS e.cS e.seats,k∉rowOf e.aH e.holds.length e.cH
 lt:∀ k∈jw e.log.a e.log.c e.log.recs,k∉rowOf e.aT e.txs.length e.cT
 lh:∀ k∈jw e.log.a e.log.c e.log.recs,k∉rowOf e.aH e.holds.length e.cH
 th:∀ k∈rowOf e.aT e.txs.length e.cT,k∉rowOf e.aH e.holds.length e.cH
theorem qb.qbO {e:qb} (h:e.blocks.Nodup):e.Cw:=by
 simp only [qb.blocks,qav,qaa] at h;obtain ⟨_,⟨_,⟨_,⟨_,_,h4⟩,h3⟩,h2⟩,h1⟩:=h;exact ⟨fun k a b=>h1 k a k (.inl b) rfl,fun k a b=>h1 k a k (.inr (.inl b)) rfl,fun k a b=>h1 k a k (.inr (.inr (.inl b))) rfl,fun k a b=>h1 k a k (.inr (.inr (.inr b))) rfl,fun k a b=>h2 k a k (.inl b) rfl,fun k a b=>h2 k a k (.inr (.inl b)) rfl,fun k a b=>h2 k a k (.inr (.inr b)) rfl,fun k a b=>h3 k a k (.inl b) rfl,fun k a b=>h3 k a k (.inr b) rfl,fun k a b=>h4 k a k b rfl⟩
theorem j3.apart {f:qb→List Value} {T:TypeId} {w:World} {E:Nat} {e:qb} (h:j3 f T w E e):e.Cw:=qb.qbO h.own.apart
theorem xL {E k:Nat} {P:List Nat} (h1:k≠E) (h2:k∉P):k∉E::P:=fun h=>(qcv.1 h).elim h1 h2
def qb.jk (e:qb) (ss:List qh) (a:Option Addr) (c:Nat) (hand:Int):qb:={ e with seats:=ss,aS:=a,cS:=c,hand:=hand }
theorem j3.pool {f:qb→List Value} {T:TypeId} {w w':World} {E:Nat} {e:qb} (h:j3 f T w E e) (ss:List qh) (a:Option Addr) (c:Nat) (hand:Int) (bx:Box w' E (f (e.jk ss a c hand)) T) (ho:OwnSts w' 0 w'.heap.size a c ss)
  (ht:Touch (E::qF e.aS e.cS e.seats) w w') (hf:∀ k∈qF a c ss,k∈qF e.aS e.cS e.seats∨w.heap.size≤k):ji f T E e w (e.jk ss a c hand) w':=by
 have ap:=h.apart;have hE:∀ k∈e.blocks,k≠E:=fun k hk he=>h.off (he▸hk)
 have W:∀ {lo hi:Nat},hi≤w.heap.size→hi≤w'.heap.size:=fun hh=>qcx hh ht.size
 refine ⟨⟨bx,⟨h.shape.eight,h.shape.four⟩,⟨?_,ho,?_,?_,?_,?_⟩,?_⟩,?_,?_⟩
 ·exact (h.own.disk.touch ht (fun k hk=>xL (hE k (qb.wZ hk)) (ap.dp k hk))).widen qg ht.size qg
 ·exact (h.own.log.touch ht (fun k hk=>xL (hE k (qb.wY hk)) (fun hp=>ap.pl k hp hk))).widen qg ht.size qg
 ·exact (h.own.txs.touch ht (fun k hk=>xL (hE k (qb.zL (qad.2 hk))) (fun hp=>ap.pt k hp (qad.2 hk)))).widen qg ht.size qg
 ·exact (h.own.holds.touch ht (fun k hk=>xL (hE k (qb.wJ (qad.2 hk))) (fun hp=>ap.ph k hp (qad.2 hk)))).widen qg ht.size qg
 ·exact Jw h.own.apart ho.apart hf (fun k hk=>h.lt k (qb.wZ hk)) (fun k hk=>h.lt k (by simp only [qb.blocks,qaa] at hk ⊢;exact .inr (.inr hk)))
 ·intro hk;simp only [qb.blocks,qb.jk,qaa] at hk;have hlt:=h.box.lt;have hoff:=h.off;simp only [qb.blocks,qaa] at hoff;rcases hk with hk | hk | hk
  ·exact hoff (.inl hk)
  ·rcases hf E hk with hk | hk
   ·exact hoff (.inr (.inl hk))
   ·omega
  ·exact hoff (.inr (.inr hk))
 ·exact ht.mono (fun k hk=>(qcv.1 hk).elim (fun h=>by simp [h]) (fun h=>qcO _ (qb.xU h)))
 ·intro k hk;simp only [qb.blocks,qb.jk,qaa] at hk ⊢;rcases hk with hk | hk | hk
  ·exact .inl (.inl hk)
  ·rcases hf k hk with h | h
   ·exact .inl (.inr (.inl h))
   ·exact .inr h
  ·exact .inl (.inr (.inr hk))
def qb.jP (e:qb) (l:qI):qb:={ e with log:=l }
theorem j3.logs {f:qb→List Value} {T:TypeId} {w w':World} {E:Nat} {e:qb} (h:j3 f T w E e) (l:qI) (bx:Box w' E (f (e.jP l)) T) (ho:je w' 0 w'.heap.size l.a l.c l.recs)
  (ht:Touch (E::jw e.log.a e.log.c e.log.recs) w w') (hf:∀ k∈jw l.a l.c l.recs,k∈jw e.log.a e.log.c e.log.recs∨w.heap.size≤k):ji f T E e w (e.jP l) w':=by
 have ap:=h.apart;have hE:∀ k∈e.blocks,k≠E:=fun k hk he=>h.off (he▸hk)
 refine ⟨⟨bx,⟨h.shape.eight,h.shape.four⟩,⟨?_,?_,ho,?_,?_,?_⟩,?_⟩,?_,?_⟩
 ·exact (h.own.disk.touch ht (fun k hk=>xL (hE k (qb.wZ hk)) (ap.dl k hk))).widen qg ht.size qg
 ·exact (h.own.pool.touch ht (fun k hk=>xL (hE k (qb.xU hk)) (fun hp=>ap.pl k hk hp))).widen qg ht.size qg
 ·exact (h.own.txs.touch ht (fun k hk=>xL (hE k (qb.zL (qad.2 hk))) (fun hp=>ap.lt k hp (qad.2 hk)))).widen qg ht.size qg
 ·exact (h.own.holds.touch ht (fun k hk=>xL (hE k (qb.wJ (qad.2 hk))) (fun hp=>ap.lh k hp (qad.2 hk)))).widen qg ht.size qg
 ·have h1:=h.own.apart;simp only [qb.blocks,qb.jP] at h1 ⊢;rw [← qcJ] at h1 ⊢;exact Jw h1 ho.apart hf (fun k hk=>h.lt k (by simp only [qb.blocks,qaa] at hk ⊢;exact hk.elim .inl (fun h=>.inr (.inl h)))) (fun k hk=>h.lt k (by simp only [qb.blocks,qaa] at hk ⊢;exact .inr (.inr (.inr hk))))
 ·intro hk;simp only [qb.blocks,qb.jP,qaa] at hk;have hlt:=h.box.lt;have hoff:=h.off;simp only [qb.blocks,qaa] at hoff;rcases hk with hk | hk | hk | hk
  ·exact hoff (.inl hk)
  ·exact hoff (.inr (.inl hk))
  ·rcases hf E hk with hk | hk
   ·exact hoff (.inr (.inr (.inl hk)))
   ·omega
  ·exact hoff (.inr (.inr (.inr hk)))
 ·exact ht.mono (fun k hk=>(qcv.1 hk).elim (fun h=>by simp [h]) (fun h=>qcO _ (qb.wY h)))
 ·intro k hk;simp only [qb.blocks,qb.jP,qaa] at hk ⊢;rcases hk with hk | hk | hk | hk
  ·exact .inl (.inl hk)
  ·exact .inl (.inr (.inl hk))
  ·rcases hf k hk with h | h
   ·exact .inl (.inr (.inr (.inl h)))
   ·exact .inr h
  ·exact .inl (.inr (.inr (.inr hk)))
def qb.wG (e:qb) (ls:List qM) (a:Option Addr) (c:Nat):qb:={ e with txs:=ls,aT:=a,cT:=c }
theorem j3.lives {f:qb→List Value} {T:TypeId} {w w':World} {E:Nat} {e:qb} (h:j3 f T w E e) (ls:List qM) (a:Option Addr) (c:Nat) (bx:Box w' E (f (e.wG ls a c)) T) (ho:OwnL w' 0 w'.heap.size a c ls)
  (ht:Touch (E::rowOf e.aT e.txs.length e.cT) w w') (hf:∀ k∈rowOf a ls.length c,k∈rowOf e.aT e.txs.length e.cT∨w.heap.size≤k):ji f T E e w (e.wG ls a c) w':=by
 have ap:=h.apart;have hE:∀ k∈e.blocks,k≠E:=fun k hk he=>h.off (he▸hk)
 refine ⟨⟨bx,⟨h.shape.eight,h.shape.four⟩,⟨?_,?_,?_,ho,?_,?_⟩,?_⟩,?_,?_⟩
 ·exact (h.own.disk.touch ht (fun k hk=>xL (hE k (qb.wZ hk)) (ap.dt k hk))).widen qg ht.size qg
 ·exact (h.own.pool.touch ht (fun k hk=>xL (hE k (qb.xU hk)) (ap.pt k hk))).widen qg ht.size qg
 ·exact (h.own.log.touch ht (fun k hk=>xL (hE k (qb.wY hk)) (ap.lt k hk))).widen qg ht.size qg
 ·exact (h.own.holds.touch ht (fun k hk=>xL (hE k (qb.wJ (qad.2 hk))) (fun hp=>ap.th k hp (qad.2 hk)))).widen qg ht.size qg
 ·have h1:=h.own.apart;simp only [qb.blocks,qb.wG] at h1 ⊢;rw [← qcJ,← qcJ] at h1 ⊢;exact Jw h1 (nZ _ _ _) hf (fun k hk=>h.lt k (by simp only [qb.blocks,qaa] at hk ⊢;rcases hk with (hk | hk) | hk;exact .inl hk;exact .inr (.inl hk);exact .inr (.inr (.inl hk)))) (fun k hk=>h.lt k (qb.wJ hk))
 ·intro hk;simp only [qb.blocks,qb.wG,qaa] at hk;have hlt:=h.box.lt;have hoff:=h.off;simp only [qb.blocks,qaa] at hoff;rcases hk with hk | hk | hk | hk | hk
  ·exact hoff (.inl hk)
  ·exact hoff (.inr (.inl hk))
  ·exact hoff (.inr (.inr (.inl hk)))
  ·rcases hf E hk with hk | hk
   ·exact hoff (.inr (.inr (.inr (.inl hk))))
   ·omega
  ·exact hoff (.inr (.inr (.inr (.inr hk))))
 ·exact ht.mono (fun k hk=>(qcv.1 hk).elim (fun h=>by simp [h]) (fun h=>qcO _ (qb.zL h)))
 ·intro k hk;simp only [qb.blocks,qb.wG,qaa] at hk ⊢;rcases hk with hk | hk | hk | hk | hk
  ·exact .inl (.inl hk)
  ·exact .inl (.inr (.inl hk))
  ·exact .inl (.inr (.inr (.inl hk)))
  ·rcases hf k hk with h | h
   ·exact .inl (.inr (.inr (.inr (.inl h))))
   ·exact .inr h
  ·exact .inl (.inr (.inr (.inr (.inr hk))))
def qb.Qy (e:qb) (ls:List qU) (a:Option Addr) (c:Nat):qb:={ e with holds:=ls,aH:=a,cH:=c }
theorem j3.held {f:qb→List Value} {T:TypeId} {w w':World} {E:Nat} {e:qb} (h:j3 f T w E e) (ls:List qU) (a:Option Addr) (c:Nat) (bx:Box w' E (f (e.Qy ls a c)) T) (ho:OwnH w' 0 w'.heap.size a c ls)
  (ht:Touch (E::rowOf e.aH e.holds.length e.cH) w w') (hf:∀ k∈rowOf a ls.length c,k∈rowOf e.aH e.holds.length e.cH∨w.heap.size≤k):ji f T E e w (e.Qy ls a c) w':=by
 have ap:=h.apart;have hE:∀ k∈e.blocks,k≠E:=fun k hk he=>h.off (he▸hk)
 refine ⟨⟨bx,⟨h.shape.eight,h.shape.four⟩,⟨?_,?_,?_,?_,ho,?_⟩,?_⟩,?_,?_⟩
 ·exact (h.own.disk.touch ht (fun k hk=>xL (hE k (qb.wZ hk)) (ap.dh k hk))).widen qg ht.size qg
 ·exact (h.own.pool.touch ht (fun k hk=>xL (hE k (qb.xU hk)) (ap.ph k hk))).widen qg ht.size qg
 ·exact (h.own.log.touch ht (fun k hk=>xL (hE k (qb.wY hk)) (ap.lh k hk))).widen qg ht.size qg
 ·exact (h.own.txs.touch ht (fun k hk=>xL (hE k (qb.zL (qad.2 hk))) (ap.th k (qad.2 hk)))).widen qg ht.size qg
 ·have h1:=h.own.apart;simp only [qb.blocks,qb.Qy] at h1 ⊢;rw [← qcJ,← qcJ,← qcJ] at h1 ⊢;have h2:=Jw (C:=[]) (n:=w.heap.size) (by rw [qcZ];exact h1) (nZ a ls.length c) hf (fun k hk=>h.lt k (by simp only [qb.blocks,qaa] at hk ⊢;rcases hk with ((hk | hk) | hk) | hk;exact .inl hk;exact .inr (.inl hk);exact .inr (.inr (.inl hk));exact .inr (.inr (.inr (.inl hk))))) (by simp);rw [qcZ] at h2;exact h2
 ·intro hk;simp only [qb.blocks,qb.Qy,qaa] at hk;have hlt:=h.box.lt;have hoff:=h.off;simp only [qb.blocks,qaa] at hoff;rcases hk with hk | hk | hk | hk | hk
  ·exact hoff (.inl hk)
  ·exact hoff (.inr (.inl hk))
  ·exact hoff (.inr (.inr (.inl hk)))
  ·exact hoff (.inr (.inr (.inr (.inl hk))))
  ·rcases hf E hk with hk | hk
   ·exact hoff (.inr (.inr (.inr (.inr hk))))
   ·omega
 ·exact ht.mono (fun k hk=>(qcv.1 hk).elim (fun h=>by simp [h]) (fun h=>qcO _ (qb.wJ h)))
 ·intro k hk;simp only [qb.blocks,qb.Qy,qaa] at hk ⊢;rcases hk with hk | hk | hk | hk | hk
  ·exact .inl (.inl hk)
  ·exact .inl (.inr (.inl hk))
  ·exact .inl (.inr (.inr (.inl hk)))
  ·exact .inl (.inr (.inr (.inr (.inl hk))))
  ·rcases hf k hk with h | h
   ·exact .inl (.inr (.inr (.inr (.inr h))))
   ·exact .inr h
def qb.uZ (e:qb) (ps:List qA):qb:={ e with disk:=ps }
def qy:q9:=qi.v
def Xn (s:q9):q9:={ s with hot:=false }
def qW:Nat→List q9→Nat→List q9 × Nat × Nat
 | 0,ss,h=>(ss,h,0)
 | n+1,ss,h=>if (ss.getD h qy).hot=true then qW n (ss.set h (Xn (ss.getD h qy))) ((h+1) % 3) else (ss,(h+1) % 3,h)
def Jh (ss:List q9):Nat:=(ss.filter (·.hot)).length
def qh.cold (s:qh):qh:={ s with hot:=false }
theorem Wz (s:qh):s.cold.v=Xn s.v:=rfl
theorem kM (ls:List qh) (k:Nat):(ls.map qh.v).getD k qy=(ls.getD k qi).v:=by
 simp only [List.getD,qdy];cases ls[k]? <;>rfl
theorem Qa (ls:List qh) (k:Nat) (s:qh) (hk:k<ls.length):ls.set k s=ls.take k++s::ls.drop (k+1):=by
 rw [List.set_eq_take_append_cons_drop,qan hk]
theorem Cx (ls:List q9) (k:Nat) (hk:k<ls.length) (hh:(ls.getD k qy).hot=true):Jh (ls.set k (Xn (ls.getD k qy)))+1=Jh ls:=by
 induction ls generalizing k with
 | nil=>simp at hk
 | cons s r ih=>
  cases k with
  | zero=>
   simp only [qfp] at hh;simp [Jh,Xn,hh]
  | succ k=>
   simp only [List.getD_cons_succ] at hh ⊢;have:=ih k (by simpa using hk) hh;simp only [Jh,qe3,List.filter_cons] at this ⊢;split<;>simp_all<;>omega
theorem aC (ls:List q9):Jh ls≤ls.length:=List.length_filter_le _ _
theorem Yj (n:Nat) (ls:List q9) (h:Nat):(qW n ls h).1.length=ls.length:=by
 induction n generalizing ls h with
 | zero=>rfl
 | succ n ih=>
  rw [qW];split
  ·rw [ih];simp
  ·rfl
theorem JF (n:Nat) (ls:List q9) (h:Nat) (hh:h<3):(qW n ls h).2.1<3∧(qW n ls h).2.2<3:=by
 induction n generalizing ls h with
 | zero=>exact ⟨hh,by show 0<3;omega⟩
 | succ n ih=>
  rw [qW];split
  ·exact ih _ _ (qfc _ (by omega))
  ·exact ⟨qfc _ (by omega),hh⟩
theorem ZX (n:Nat) (ts:List qh) (k:Nat):qW (n+1) (ts.map qh.v) k=if (ts.getD k qi).hot=true then qW n ((ts.map qh.v).set k (Xn (ts.getD k qi).v)) ((k+1) % 3) else (ts.map qh.v,(k+1) % 3,k):=by
 rw [qW,kM];rfl
structure Ky (w:World) (lo hi B o:Nat) (vs:List Value) (t:TypeId) (a:Option Addr) (c:Nat) (ss:List qh) (hand:Int):Prop where
 box:Box w B vs t
 c0:vs[o]? =some (.slice a ss.length c)
 c1:vs[o+1]? =some (.int .i64 hand)
 own:OwnSts w lo hi a c ss
 off:B∉qF a c ss
theorem UB {a:Option Addr} {c n:Nat} {ss ts:List qh} (h:ss.length=n) (h2:ts.length=n) (hb:ss.flatMap qh.blocks=ts.flatMap qh.blocks):qF a c ss=qF a c ts:=by
 unfold qF;rw [h,h2,hb]
theorem Sk (ls:List qh) (k:Nat) (hk:k<ls.length):(ls.set k (ls.getD k qi).cold).flatMap qh.blocks=ls.flatMap qh.blocks:=by
 rw [Qa _ _ _ hk];conv=>rhs;rw [zu ls k hk]
 simp only [qcy,qaY];rfl
theorem Cy (lo hi B o:Nat) (vs:List Value) (t:TypeId) (a:Option Addr) (c:Nat) (ss:List qh) (h:Nat) (w:World) (hp:Ky w lo hi B o vs t a c ss h) (h3:ss.length=3) (hh:h<3):
  Calls prog 148 #[.pointer (some ⟨B,o,none⟩)] w fun r w'=>∃ (ts:List qh) (k hand:Nat),r=.returned (.int .i64 k)∧Hid (qW 4 (ss.map qh.v) h=(ts.map qh.v,hand,k))∧ts.length=3∧Ky w' lo hi B o (vs.set (o+1) (.int .i64 hand)) t a c ts hand∧Hid (qF a c ts=qF a c ss)∧Touch (B::qF a c ss) w w':=by
 have hv1:o+1<vs.length:=(qcL.1 hp.c1).1;go_enter func148,ntmps148;go_wp2_with fail;go_loopg [2] 4 (fun n v wr=>∃ (ts:List qh) (k:Nat),v=.int .i64 0∧k<3∧ts.length=3∧Ky wr lo hi B o (vs.set (o+1) (.int .i64 (k:Int))) t a c ts k∧Hid (qW 4 (ss.map qh.v) h=qW n (ts.map qh.v) k)∧Jh (ts.map qh.v)<n∧Hid (qF a c ts=qF a c ss)∧Touch (B::qF a c ss) w wr)
 case atStart=>
  have e:vs.set (o+1) (.int .i64 (h:Int))=vs:=by
   obtain ⟨_,hg⟩:=qcL.1 hp.c1;rw [← hg];simp
  refine ⟨ss,h,rfl,hh,h3,by rw [e];exact hp,rfl,?_,rfl,Touch.refl _ _⟩;have:=aC (ss.map qh.v);rw [qa4] at this;omega
 case round=>
  obtain ⟨ts,k,rfl,hk,hlen,pt,hv,Gi,hbl,htc⟩:=hrel;clear hp h3 hh;have qlW:(vs.set (o+1) (.int .i64 (k:Int))).length=vs.length:=by simp
  have x1:wr.cell? ⟨B,o+1,none⟩=some (.int .i64 (k:Int)):=pt.box.cell (o+1) _ pt.c1;have f1:=pt.box.frozen (o+1);obtain ⟨g,rfl⟩:∃ g,a=some ⟨g,0,none⟩:=by
   rcases pt.own.row.2 with ⟨_,h0⟩ | ⟨g,cap',cur,hv,_⟩
   ·omega
   ·simp only [qcK] at hv;exact ⟨g,hv.1⟩
  have hmem:g∈qF (some ⟨g,0,none⟩) c ts:=by simp [qF,Value.ownBlock]
  have hgB:B≠g:=fun e=>pt.off (e▸hmem)
  obtain ⟨W1,hW1,b1,hw1,hs1⟩:=jZ pt.box (o+1) (.int .i64 (((k+1) % 3:Nat):Int));rw [List.set_set] at b1;have t1:Touch [B] wr W1:=⟨hw1.os,hw1.tape,hw1.output,hw1.size,fun j hj hn=>hw1.block j hj (fun hh=>hn (by simp;omega))⟩;have o1:OwnSts W1 lo hi (some ⟨g,0,none⟩) c ts:=pt.own.touch t1 (fun j hj hh=>pt.off (by rw [← qac.1 hh];exact hj));have c0:(vs.set (o+1) (.int .i64 (((k+1) % 3:Nat):Int)))[o]? =some (.slice (some ⟨g,0,none⟩) ts.length c):=by
   have:=pt.c0;rw [qf4 (by omega)] at this ⊢;exact this
  have c1:(vs.set (o+1) (.int .i64 (((k+1) % 3:Nat):Int)))[o+1]? =some (.int .i64 (((k+1) % 3:Nat):Int)):=qfi hv1;have y0:=b1.cell o _ c0;have C0:Hid (_=_):=c0;have C1:Hid (_=_):=c1;have r1:=(zm o1.row rfl k (by omega)).1 19 _ (show (ts.getD k qi).cells[19]? =some (.bool (ts.getD k qi).hot) from rfl);have rf1:=o1.row.frozenAt (k*20+19);have HT1:Hid (Touch (B::qF (some ⟨g,0,none⟩) c ss) w W1):=htc.trans (t1.mono (by simp));have hoff:B∉qF (some ⟨g,0,none⟩) c ts:=pt.off;have HST:Hid (qW 4 (ss.map qh.v) h=qW gk (ts.map qh.v) k):=hv;have hkb:(k:Int)<(ts.length:Int):=by omega
  have hk0:(0:Int)≤(k:Int):=by omega
  have HM:Hid (wr.setCell ⟨B,o+1,none⟩ (.int .i64 (((k+1) % 3:Nat):Int))=W1):=hW1;have qfv:Hid (((k:Int)+1) % 3=(((k+1) % 3:Nat):Int)):=by rw [Hid];omega
  have hl1:ts.length≤3:=by omega
  have hl2:3≤ts.length:=by omega
  clear hW1 hw1 hs1 t1 pt hv htc qlW c0 c1 hlen hv1;cases gk with
  | zero=>exact absurd Gi (Nat.not_lt_zero _)
  | succ n=>
   have om:Hid (qW 4 (ss.map qh.v) h=if (ts.getD k qi).hot=true then qW n ((ts.map qh.v).set k (Xn (ts.getD k qi).v)) ((k+1) % 3) else (ts.map qh.v,(k+1) % 3,k)):=by
    rw [Hid,HST.out];exact ZX n ts k
   go_upto_region 3 with fail;rw [qfv.out,HM.out];clear HM qfv HST x1 f1;generalize hz:ts.getD k qi=z at*
   cases hht:z.hot with
   | true=>
    rw [hht] at r1;obtain ⟨o2,t2⟩:=OwnSts.Ke (A:=ts.take k) (z:=z) (B:=ts.drop (k+1)) (z':=z.cold) (by rw [← hz,← zu ts k (by omega)];exact o1) 19 (.bool false) (by omega) rfl rfl;have hkl:(ts.take k).length=k:=by rw [qdm];omega
    rw [hkl,← Qa ts k _ (by omega)] at o2;rw [hkl] at t2;obtain ⟨W2,hW2⟩:=qV (W1.setCell ⟨g,k*20+19,none⟩ (.bool false));rw [hW2.out] at o2 t2;have Od:Hid (_):=o2;have b2:=b1.touch t2 (by simpa using hgB);have qbP:Hid (qW 4 (ss.map qh.v) h=qW n ((ts.map qh.v).set k (Xn z.v)) ((k+1) % 3)):=by
     have:=om.out;rw [hht,qan rfl] at this;exact this
    have HH:Hid (Jh ((ts.set k z.cold).map qh.v)<n):=by
     have e:=Cx (ts.map qh.v) k (by rw [qa4];omega) (by rw [kM,hz];exact hht);rw [kM,hz] at e;rw [Hid,qeW,Wz];omega
    have HB2:Hid (qF (some ⟨g,0,none⟩) c (ts.set k z.cold)=qF (some ⟨g,0,none⟩) c ss):=by
     rw [Hid,← hbl.out];have e:=Sk ts k (by omega);rw [hz] at e;exact UB (n:=ts.length) (by simp) rfl e
    have HT2:Hid (Touch (B::qF (some ⟨g,0,none⟩) c ss) w W2):=HT1.out.trans (t2.mono (fun j hj=>qcO _ (by rw [← hbl.out,qac.1 hj];exact hmem)));clear o1 o2 t2 om hz HT1 Gi;go_wp2_with fail;rw [hW2.out]
    go_roundg n
    case measure=>omega
    case rel=>exact ⟨ts.set k z.cold,(k+1) % 3,rfl,qfc _ (by omega),by rw [qcP];omega,⟨b2,by rw [qcP];exact C0.out,C1.out,Od.out,by rw [HB2.out,← hbl.out];exact hoff⟩,by rw [Hid,qbP.out,qeW,Wz],HH.out,HB2,HT2.out⟩
   | false=>
    rw [hht] at r1;have qbP:Hid (qW 4 (ss.map qh.v) h=(ts.map qh.v,(k+1) % 3,k)):=by
     have:=om.out;rw [hht,qa2 (by decide)] at this;exact this
    have Vo:Hid (_):=o1;clear om hz o1;go_wp2_with fail;go_ret;exact ⟨ts,k,(k+1) % 3,rfl,qbP,by omega,⟨b1,C0.out,C1.out,Vo.out,hoff⟩,hbl,HT1.out⟩
theorem Ha {w:World} {ops:Array Oper} {rest:List Oper} {dst:Option Nat} {ty:TypeId} {pos:String} {XY:Array Edge} {act:Act} {Q:Exit→Act→World→Prop} (x y:Operand) (no lsn:Int) (a b c d:qj)
  (hx:act.eval x=.int .i64 no) (hy:act.eval y=.agg (qA.cells ⟨lsn,[a,b,c,d]⟩).toArray)
  (h:wpList prog ops Q rest (act.put dst (.agg (qh.cells ⟨no,lsn,a,b,c,d,false,true⟩).toArray)) w):
  wpList prog ops Q ({ dst:=dst,op:=.build 121 #[(0,x),(1,y),(3,.const (.bool true))],type:=ty,pos:=pos,after:=XY,guard:=none }::rest) act w:=by
 refine qgi rfl fun K hK=>?_
 unfold Oper.wp execOp;simp only [qe8,qdG,qfe,hx,hy];have e:(Instr.build 121 #[(0,Value.int .i64 no),(1,Value.agg (qA.cells ⟨lsn,[a,b,c,d]⟩).toArray),(3,Value.bool true)]).run prog w=.ok (.agg (qh.cells ⟨no,lsn,a,b,c,d,false,true⟩).toArray) w:=run_build w _ _ _ (by kernel_rfl);have ec:act.eval (.const (.bool true))=.bool true:=rfl;rw [ec];simp only [qdq,e,qdf,qeJ];exact hK _ _ h
theorem Kn {w:World} {ops:Array Oper} {rest:List Oper} {dst:Option Nat} {ty:TypeId} {pos:String} {XY:Array Edge} {act:Act} {Q:Exit→Act→World→Prop}
  (h:wpList prog ops Q rest (act.put dst (.agg qi.cells.toArray)) w):
  wpList prog ops Q ({ dst:=dst,op:=.build 121 #[],type:=ty,pos:=pos,after:=XY,guard:=none }::rest) act w:=by
 refine qgi rfl fun K hK=>?_
 unfold Oper.wp execOp;have e:(Instr.build 121 #[]).run prog w=.ok (.agg qi.cells.toArray) w:=run_build w _ _ _ (by kernel_rfl);simp only [qe8,qfe,qdq,e,qdf,qeJ];exact hK _ _ h
theorem Xe (q:qh):List.foldl (fun cs x=>cs.setIfInBounds x.snd x.fst) (#[.int .i64 0,.int .i64 0,.bool false,.int .i64 0,.slice none 0 0,.slice none 0 0,.bool false,.int .i64 0,.slice none 0 0,.slice none 0 0,.bool false,.int .i64 0,.slice none 0 0,.slice none 0 0,.bool false,.int .i64 0,.slice none 0 0,.slice none 0 0,.bool false,.bool false]:Array Value) q.cells.zipIdx=q.cells.toArray:=by simp [qh.cells,qj.cells,List.zipIdx]
theorem yh (q:qh):q.cells.toArray.all (·.oneCell')=true:=qaf (Mw q)
theorem xD (q:qh):(prog.info? 121).map (·.size)=some q.cells.length:=by show _=some 20;kernel_rfl
theorem Oe {w:World} {C:Nat} (q:qh) (b:Box w C q.cells 121):(loadVar 121 ⟨C,0,none⟩).run prog w=.ok (.agg q.cells.toArray) w:=
 qeI (P:=prog) w C 0 121 q.cells _ (qN b) underlying121 rfl (xD q)
theorem yx {w:World} {C:Nat} (q:qh) (old:List Value) (ho:old.length=20) (bC:Box w C old 121):
  ∃ WF,Hid (w.setCells C 0 q.cells=WF)∧Within C (C+1) w WF∧WF.heap.size=w.heap.size∧Hid (w.there C 0 q.cells.toArray.size)∧Hid ((loadVar 121 ⟨C,0,none⟩).run prog WF=.ok (.agg q.cells.toArray) WF)∧Box WF C q.cells 121:=by
 obtain ⟨WF,qK,bF,hwF,q8⟩:=jE [] old q.cells [] (by simpa using bC) (by rw [ho];rfl);have Jz:Box WF C q.cells 121:=by simpa using bF
 exact ⟨WF,qK,hwF,q8,bC.there 0 _ (by rw [ho];show 0+20≤20;decide),Oe q Jz,Jz⟩
theorem Tryz.JE (p:qA) (h:p.ss.length=4):(prog.info? 48).map (·.size)=some p.cells.length:=by rw [jJ p h];kernel_rfl
theorem Tryz.aG (p:qA) (h:p.ss.length=4):(prog.info? 29).map (·.size)=some p.cells.length:=by rw [jJ p h];kernel_rfl
theorem Gj (p:qA):p.cells.toArray.all (·.oneCell')=true:=qaf (uM p)
theorem uX {w:World} {B:Nat} {t:TypeId} (s:qh) (b:Box w B s.cells t):w.rangeAt B 1 s.page.cells:=by
 rw [qh.ui] at b;exact Box.range [.int .i64 s.no] s.page.cells [.bool s.dirty,.bool s.hot] b
theorem WA {w:World} {B:Nat} {t:TypeId} (s:qh) (b:Box w B s.cells t) (lsn:Int) (a b' c d:qj):
  ∃ W,Hid (w.setCells B 1 (qA.cells ⟨lsn,[a,b',c,d]⟩)=W)∧Box W B (qh.cells ⟨s.no,lsn,a,b',c,d,s.dirty,s.hot⟩) t∧Within B (B+1) w W∧W.heap.size=w.heap.size∧w.there B 1 (qA.cells ⟨lsn,[a,b',c,d]⟩).toArray.size:=by
 have hth:w.there B 1 (qA.cells ⟨lsn,[a,b',c,d]⟩).toArray.size:=b.there 1 _ (by rw [qcY];show 1+17≤20;decide);rw [qh.ui] at b;obtain ⟨W,hW,bW,hw,hs⟩:=jE [.int .i64 s.no] s.page.cells (qA.cells ⟨lsn,[a,b',c,d]⟩) [.bool s.dirty,.bool s.hot] b rfl;refine ⟨W,hW,?_,hw,hs,hth⟩;rw [qh.ui];exact bW
theorem oo (s:qh) (w:World) (hr:s.reads w) (hl:s.short 1048576):
  Calls prog 118 #[.agg s.cells.toArray] w fun e w'=>∃ t:qh,e=.returned (.agg t.cells.toArray)∧Hid (t.v=s.v)∧t.own w' w.heap.size w'.heap.size∧qa w w':=by
 obtain ⟨V,hV,a0,a1,a2,uo,Yy⟩:=yK w s.cells [.int .i64 0,.int .i64 0,.bool false,.int .i64 0,.slice none 0 0,.slice none 0 0,.bool false,.int .i64 0,.slice none 0 0,.slice none 0 0,.bool false,.int .i64 0,.slice none 0 0,.slice none 0 0,.bool false,.int .i64 0,.slice none 0 0,.slice none 0 0,.bool false,.bool false] [.int .i64 0,.int .i64 0,.bool false,.int .i64 0,.slice none 0 0,.slice none 0 0,.bool false,.int .i64 0,.slice none 0 0,.slice none 0 0,.bool false,.int .i64 0,.slice none 0 0,.slice none 0 0,.bool false,.int .i64 0,.slice none 0 0,.slice none 0 0,.bool false,.bool false] 160 121 121;have qlX:w.heap.size+1+1<V.heap.size:=by omega
 have b1V:Box V (w.heap.size+1) qi.cells 121:=a1;obtain ⟨W,hW,b2',mq,qD⟩:=jZ a2 0 (.int .i64 s.no);have b0:=a0.within mq (by omega);have b1':=b1V.within mq (by omega);have hbW:qa w W:=uo.trans (mq.below (by omega) (by omega));have hs0:w.heap.size+1+1<W.heap.size:=by omega
 have b2':Box W (w.heap.size+1+1) (qh.cells { qi with no:=s.no }) 121:=b2';have hc0:V.cell? ⟨w.heap.size,0,none⟩=some (.int .i64 s.no):=a0.cell 0 _ rfl;have hx0:=a2.cell 0 _ rfl;have hf0:=a2.frozen 0;have hrg0:W.rangeAt w.heap.size 1 s.page.cells:=uX s b0;have HL:=Tryz.aG s.page rfl;have C:=Mx s.page rfl W (hr.below hbW) (qdM hl);clear Yy qD mq b1V a0 a1 a2 uo qlX;go_enter func118,ntmps118;go_upto_region 2 with fail;rw [hV.out];clear hV;go_wp2_with (first | (guard_target=qp 8;rw [hW.out];refine qH 29 7 w.heap.size 1 s.page.cells hrg0 underlying29 HL ?_) | fail);clear hW hrg0 hc0 HL hx0 hf0;refine C.mono ?_;clear C;rintro e w1 ⟨ts,rfl,hv,ho,hb1⟩;obtain ⟨y0,y1,y2,y3,rfl⟩:=QP (ts:=ts) (by have:=qcz List.length hv.out;simpa [qh.page,qh.ss] using this);have hs1:=hb1.size;have b01:=b0.below hb1 b0.lt;have b11:=b1'.below hb1 b1'.lt;have wP:=b2'.below hb1 b2'.lt;obtain ⟨W2,hW2,JG,hw2,hs2,qbQ⟩:=WA _ wP s.page.lsn y0 y1 y2 y3;obtain ⟨W3,hW3,Jd,hw3,hs3⟩:=jZ JG 18 (.bool s.dirty);obtain ⟨W4,wL,b44,hw4,hs4⟩:=jZ Jd 19 (.bool s.hot);obtain ⟨q,hq⟩:∃ q:qh,Hid ((⟨s.no,s.page.lsn,y0,y1,y2,y3,s.dirty,s.hot⟩:qh)=q):=⟨_,rfl⟩;have b4q:Box W4 (w.heap.size+1+1) q.cells 121:=by rw [← hq.out];exact b44
 have b02:=b01.within hw2 (by omega);have b14:=((b11.within hw2 (by omega)).within hw3 (by omega)).within hw4 (by omega);obtain ⟨WF,qK,hwF,q8,jI,xA,bF⟩:=yx q _ rfl b14;have d18:W2.cell? ⟨w.heap.size,18,none⟩=some (.bool s.dirty):=b02.cell 18 _ rfl;have d19:W2.cell? ⟨w.heap.size,19,none⟩=some (.bool s.hot):=b02.cell 19 _ rfl;have x18:=JG.cell 18 _ rfl;have Vs:=JG.cell 19 _ rfl;have f18:=JG.frozen 18;have f19:=JG.frozen 19;have r4:W4.rangeAt (w.heap.size+1+1) 0 q.cells:=qN b4q;have oq:q.own w1 W.heap.size w1.heap.size:=by rw [← hq.out];exact ho
 have HV:Hid (q.v=s.v):=by rw [Hid,← hq.out];simp only [qh.v,qh.ss];rw [show List.map (fun x:qj=>x.v) [y0,y1,y2,y3]=s.page.ss.map (·.v) from hv.out];rfl
 have Qm:Hid (q.own WF w.heap.size WF.heap.size∧qa w WF):=⟨((((oq.within hw2 (.inr (by omega))).within hw3 (.inr (by omega))).within hw4 (.inr (by omega))).within hwF (.inr (by omega))).widen (by omega) (by omega) qg,((((hbW.trans (hb1.mono (by omega))).trans (hw2.below (by omega) (by omega))).trans (hw3.below (by omega) (by omega))).trans (hw4.below (by omega) (by omega))).trans (hwF.below (by omega) (by omega))⟩;have H34:Hid ((W2.setCell ⟨w.heap.size+1+1,18,none⟩ (.bool s.dirty)).setCell ⟨w.heap.size+1+1,19,none⟩ (.bool s.hot)=W4):=by rw [Hid,hW3.out,wL.out]
 have HI1:=Tryz.JE ⟨s.page.lsn,[y0,y1,y2,y3]⟩ rfl;have Vo:=Gj ⟨s.page.lsn,[y0,y1,y2,y3]⟩;have HI2:=xD q;have Od:=yh q;have HW2:Hid (w1.setCells (w.heap.size+1+1) 1 (qA.cells ⟨s.page.lsn,[y0,y1,y2,y3]⟩).toArray.toList=W2):=hW2.out;have Qw:Hid (W4.setCells (w.heap.size+1) 0 q.cells.toArray.toList=WF):=qK.out;have VL:W4.there (w.heap.size+1) 0 q.cells.toArray.size:=jI.out;clear hW2 hW3 wL qK jI hq hs1 hs2 hs3 hs4 q8 hw2 hw3 hw4 hwF b01 b11 wP JG Jd b44 b4q b02 b14 bF oq ho hv hb1 b0 b1' b2' hbW;generalize qA.cells ⟨s.page.lsn,[y0,y1,y2,y3]⟩=pc at*
 go_wp2_with (first | (guard_target=ja 10;refine jb 48 10 9 (w.heap.size+1+1) 1 pc.toArray qbQ (jG HI1) Vo ?_;rw [HW2.out]) | (guard_target=qp 17;rw [H34.out];refine qH 121 3 (w.heap.size+1+1) 0 q.cells r4 underlying121 HI2 ?_) | (guard_target=ja 2;refine jb 121 2 17 (w.heap.size+1) 0 q.cells.toArray VL (jG HI2) Od ?_;rw [Qw.out]) | fail);exact qa3 (v:=.agg q.cells.toArray) (jQ results118 rfl xA.out) rfl ⟨q,rfl,HV,Qm.out.1,Qm.out.2⟩
theorem oC (s:qh) (left:Int) (w:World) (hn:s.short 9223372036854775807) (h0:0≤left∧left≤1048576):
  Calls prog 104 #[.agg s.cells.toArray,.int .i64 left] w fun e w'=>∃ z,e=.returned (.int .i64 z)∧(z<0∨(0≤z∧z≤left∧s.short 1048576))∧qa w w':=by
 obtain ⟨W,hW,b0,hbW,qD⟩:=qB w s.cells 160;have hrg0:W.rangeAt w.heap.size 1 s.page.cells:=uX s b0;have HL:=Tryz.aG s.page rfl;have C:=Mc s.page rfl left W hn h0;clear qD b0;go_enter func104,ntmps104;go_wp2_with (first | (guard_target=qp 6;refine qH 29 5 w.heap.size 1 s.page.cells (by rw [hW.out];exact hrg0) underlying29 HL ?_) | fail);rw [hW.out];clear hW hrg0 HL;refine C.mono ?_;clear C;rintro e w1 ⟨z,rfl,hz,hb1⟩;have HZ:Hid (z<0∨(0≤z∧z≤left∧s.short 1048576)):=hz;clear hz;by_cases hneg:z<0
 ·go_wp2;go_ret;exact ⟨-1,rfl,.inl (by omega),qf hbW hb1⟩
 ·go_wp2;go_ret;exact ⟨z,rfl,HZ.out,qf hbW hb1⟩
theorem Sl (s t:qh) (he:t.v=s.v) (w:World) (hs:s.reads w) (ht:t.reads w) (hl:s.short 1099511627776):
  Calls prog 140 #[.agg s.cells.toArray,.agg t.cells.toArray] w fun e w'=>e=.returned (.bool true)∧qa w w':=by
 obtain ⟨W,hW,b0,b1,hbW,qD⟩:=jK w s.cells t.cells 121 121;have Mt:Hid (t.no=s.no∧t.lsn=s.lsn∧t.ss.map (·.v)=s.ss.map (·.v)∧t.dirty=s.dirty∧t.hot=s.hot):=by
  simp only [qh.v,q9.mk.injEq] at he;exact he
 have hrg0:W.rangeAt w.heap.size 1 s.page.cells:=uX s b0;have hrg1:W.rangeAt (w.heap.size+1) 1 t.page.cells:=uX t b1;have HI0:=Tryz.JE s.page rfl;have HI1:=Tryz.JE t.page rfl;have C:=nD s.lsn s.ss t.ss rfl Mt.out.2.2.1 W (hs.below hbW) (ht.below hbW) hl;have e1:qA.cells ⟨s.lsn,t.ss⟩=t.page.cells:=by rw [qh.page,Mt.out.2.1]
 rw [e1] at C;have c0:W.cell? ⟨w.heap.size,0,none⟩=some (.int .i64 s.no):=b0.cell 0 _ rfl;have c1:W.cell? ⟨w.heap.size+1,0,none⟩=some (.int .i64 s.no):=(b1.cell 0 _ rfl).trans (by rw [Mt.out.1]);have HC:Hid (∀ u,qa W u→u.cell? ⟨w.heap.size,18,none⟩=some (.bool s.dirty)∧u.cell? ⟨w.heap.size,19,none⟩=some (.bool s.hot)∧u.cell? ⟨w.heap.size+1,18,none⟩=some (.bool s.dirty)∧u.cell? ⟨w.heap.size+1,19,none⟩=some (.bool s.hot)):=fun u hu=>⟨(b0.below hu b0.lt).cell 18 _ rfl,(b0.below hu b0.lt).cell 19 _ rfl,((b1.below hu b1.lt).cell 18 _ rfl).trans (by rw [Mt.out.2.2.2.1]),((b1.below hu b1.lt).cell 19 _ rfl).trans (by rw [Mt.out.2.2.2.2])⟩
 clear qD b0 b1 he Mt e1;generalize hsc:s.cells=cs0 at*
 generalize htc:t.cells=cs1 at*
 clear hsc htc;go_enter func140,ntmps140;go_upto_region 1 with fail;rw [hW.out];clear hW;go_wp2_with (first | (guard_target=qp 11;refine qH 48 10 w.heap.size 1 s.page.cells hrg0 underlying48 HI0 ?_) | (guard_target=qp 13;refine qH 48 12 (w.heap.size+1) 1 t.page.cells hrg1 underlying48 HI1 ?_) | fail);refine C.mono ?_;clear C hrg0 hrg1 HI0 HI1 c0 c1;rintro e w1 ⟨rfl,hb1⟩;obtain ⟨d0,d1,d2,d3⟩:=HC.out w1 hb1;clear HC;generalize s.dirty=sd at*
 generalize s.hot=sh at*
 go_wp2;go_ret;exact ⟨rfl,qf hbW hb1⟩
theorem Og (n:Nat) (r:qh):(List.replicate n r).length=n:=by simp
theorem UC (n:Nat):(madeCells (Value.agg qi.cells.toArray).cells (n*20)).toList=jH (List.replicate n qi):=by
 apply qgc;intro i;by_cases h:i<n*20
 ·have e:=ZY (List.replicate n qi) (i / 20) (i % 20) (by simp;omega) (qfc _ (by omega));rw [show i / 20*20+i % 20=i by omega] at e;rw [e];have hg:(List.replicate n qi).getD (i / 20) qi=qi:=by simp [List.getD,show i / 20<n by omega]
  rw [hg];simp only [madeCells,Array.toList_map,qdy,Array.toList_range,List.getElem?_range h,qfS];have hm:i % 20<20:=qfc _ (by omega);have hz:∀ j,j<20→some ((Value.agg qi.cells.toArray).cells[j]!)=qi.cells[j]? :=by
   intro j hj;rcases (by omega:j=0∨j=1∨j=2∨j=3∨j=4∨j=5∨j=6∨j=7∨j=8∨j=9∨j=10∨j=11∨j=12∨j=13∨j=14∨j=15∨j=16∨j=17∨j=18∨j=19) with rfl | rfl | rfl | rfl | rfl | rfl | rfl | rfl | rfl | rfl | rfl | rfl | rfl | rfl | rfl | rfl | rfl | rfl | rfl | rfl<;>rfl
  exact hz _ hm
 ·rw [qeE (by simp [size_madeCells];omega),qeE (by rw [uH];simp;omega)]
theorem pq {w:World} {lo hi g c:Nat} (n:Nat) (h:w.ownsRow lo 121 20 (.slice (some ⟨g,0,none⟩) n c) n (jH (List.replicate n qi))) (ht:hi≤w.heap.size) (hg:g<hi):OwnSts w lo hi (some ⟨g,0,none⟩) c (List.replicate n qi):=by
 refine ⟨by rw [Og];exact h,ht,fun k hk=>by cases hk;exact hg,fun r hr=>?_,?_⟩
 ·rw [(List.mem_replicate.1 hr).2];exact ZN w lo hi ht
 ·have e:(List.replicate n qi).flatMap qh.blocks=[]:=by
   rw [List.flatMap_eq_nil_iff];intro r hr;rw [(List.mem_replicate.1 hr).2];rfl
  rw [e];simp [Value.ownBlock]
def QM (rs ts:List qh) (k:Nat):Prop:=ts.length=k∧ts.map qh.v=(rs.take k).map qh.v
theorem ZZ (rs:List qh):QM rs [] 0:=⟨rfl,by simp⟩
theorem QM.snoc {rs ts:List qh} {k:Nat} (h:QM rs ts k) (hk:k<rs.length) {q:qh} (hq:q.v=(rs.getD k qi).v):QM rs (ts++[q]) (k+1):=by
 refine ⟨by simp [h.1],?_⟩;have e:rs.getD k qi=rs[k]:=by simp [List.getD,hk]
 rw [qdd,h.2,qdb hk,qdd,qgp,qgp,hq,e]
theorem QM.all {rs ts:List qh} (h:QM rs ts rs.length):ts.map qh.v=rs.map qh.v:=by
 have:=h.2
 rwa [qfE] at this
theorem QN {w w':World} {b o:Nat} {r:qh} (h:w.rangeAt b o r.cells) (hb:qa w w'):w'.rangeAt b o r.cells:=yY h hb (Kz h)
theorem Sm (a:Option Addr) (cap:Nat) (rs:List qh) (w:World) (hr:xw w a rs) (hl:rs.length≤1048576) (hs:∀ r∈rs,r.short 1048576):
  Calls prog 72 #[.slice a rs.length cap] w fun e w'=>∃ a' c' ts,e=.returned (.slice a' ts.length c')∧Hid (ts.map qh.v=rs.map qh.v)∧OwnSts w' w.heap.size w'.heap.size a' c' ts∧qa w w':=by
 obtain ⟨i0,hi,hz0,hz1,hz2⟩:=qft Tryz.VT;have HI:Hid ((prog.info? 160).map (·.size)=some 20):=by rw [Hid];kernel_rfl
 have HJ:Hid ((prog.info? 121).map (·.size)=some 20):=by rw [Hid];kernel_rfl
 rcases hr.cases with rfl | ⟨b,off,rfl,hpos,hcell⟩
 ·go_enter func72,ntmps72;go_wp2_with (at_make;refine qe6 _ rfl _ _ 50 rfl w.heap.size 121 i0 (.agg qi.cells.toArray) 20 underlying50 hi hz0 hz1 _ _ _ _ 0 rfl rfl (by simp) (by simp) (by omega) (by simp [maxLen]) qg ?_);intro w0 hown0 xy;have hB:qa w w0:=(qab _ _).grown xy qg (fun k h=>by cases h);have ho:w0.ownsRow w.heap.size 121 20 (.slice (some ⟨w.heap.size,0,none⟩) 0 0) 0 (jH (List.replicate 0 qi)):=by
   rw [← UC];exact hown0
  have HO:Hid (OwnSts w0 w.heap.size w0.heap.size (some ⟨w.heap.size,0,none⟩) 0 []):=pq 0 ho qg (ho.lt _ rfl).2;clear hown0 xy ho;go_wp2;refine qdp 1 ?_;rw [qdC];go_wp2;go_ret;exact ⟨_,_,[],rfl,rfl,HO.out,hB⟩
 ·have KZ:b<w.heap.size:=Kz (hcell 0 hpos).1;go_enter func72,ntmps72;go_wp2_with (at_make;refine qe6 _ rfl _ _ 50 rfl w.heap.size 121 i0 (.agg qi.cells.toArray) 20 underlying50 hi hz0 hz1 _ _ _ _ rs.length rfl rfl rfl rfl (by rw [hz2];omega) (by simp [maxLen];omega) qg ?_);intro w0 hown0 xy;have hb0:qa w w0:=(qab _ _).grown xy qg (fun k h=>by cases h);have ho:w0.ownsRow w.heap.size 121 20 (.slice (some ⟨w.heap.size,0,none⟩) rs.length rs.length) rs.length (jH (List.replicate rs.length qi)):=by
   rw [← UC];exact hown0
  have HO:Hid (OwnSts w0 w.heap.size w0.heap.size (some ⟨w.heap.size,0,none⟩) rs.length (List.replicate rs.length qi)):=pq _ ho qg (ho.lt _ rfl).2;clear hown0 xy ho;go_wp2;go_loopw [4] (fun i wr=>∃ (k:Nat) (ts:List qh),k≤rs.length∧i=.int .i64 k∧Hid (QM rs ts k)∧Hid (OwnSts wr w.heap.size wr.heap.size (some ⟨w.heap.size,0,none⟩) rs.length (ts++List.replicate (rs.length-k) qi))∧qa w wr)
   (fun i _=>rs.length-(intOf i).toNat)
  case atStart=>exact ⟨0,[],qaw _,rfl,ZZ rs,HO,hb0⟩
  case round=>
   obtain ⟨k,ts,hk,rfl,hc,hown,hnx⟩:=hrel;by_cases hlt:k<rs.length
   ·obtain ⟨c0,c1⟩:=hcell k hlt;have HR:Hid (wr.rangeAt b (off+k*20) (rs.getD k qi).cells):=yY c0 hnx KZ;have hrd:(rs.getD k qi).reads wr:=c1.below hnx;have hsh:(rs.getD k qi).short 1048576:=hs _ (xE rs k hlt);have C:=oo (rs.getD k qi) wr hrd hsh;have HS:Hid (∀ q:qh,q.v=(rs.getD k qi).v→QM rs (ts++[q]) (k+1)):=fun q hq=>hc.out.snoc hlt hq
    have HP:Hid (ts++List.replicate (rs.length-k) qi=ts++qi::List.replicate (rs.length-(k+1)) qi∧(ts++qi::List.replicate (rs.length-(k+1)) qi).length=rs.length∧ts.length=k):=by
     have e:rs.length-k=(rs.length-(k+1))+1:=by omega
     refine ⟨by rw [e,qfl],?_,hc.out.1⟩;have:=hc.out.1;simp;omega
    clear c0 c1 hcell hb0 HO hs hrd hsh;generalize rs.getD k qi=z at*
    go_wp2_with (first | (guard_target=qp 19;refine qH 160 18 b (off+k*20) z.cells HR.out underlying160 HI.out ?_) | fail);refine C.mono ?_;clear C HR;rintro e w1 ⟨q,rfl,hq,hqo,hb1⟩;have hs1:=hb1.size;have ho1:=hown.out.below hb1;rw [HP.out.1] at ho1;obtain ⟨W2,hW2,ho2,ht2,hs2⟩:=ho1.fill q hqo qg (by have:=hnx.size;omega) qg;rw [HP.out.2.2] at hW2;have HT:Hid (w1.there w.heap.size (k*20) 20):=(zm ho1.row rfl k (by rw [HP.out.2.1];exact hlt)).2;have hB2:qa w W2:=(qf hnx hb1).trans ((ht2.within (lo:=w.heap.size) (hi:=w.heap.size+1) (fun j hj=>by obtain rfl:=qac.1 hj;omega)).below qg (by have:=hnx.size;omega));have HH:Hid (OwnSts W2 w.heap.size W2.heap.size (some ⟨w.heap.size,0,none⟩) rs.length ((ts++[q])++List.replicate (rs.length-(k+1)) qi)):=by
     have:=ho2.widen qg (show max wr.heap.size w1.heap.size≤W2.heap.size by omega) qg;rw [qcJ,qdr];exact this
    have HB:Hid _:=hB2;have HC:=HS.out q hq.out;have Vo:=Oh q;clear ho1 ho2 ht2 hs2 hB2 hqo hb1 hnx hown hq HS hs1;go_wp2_with (first | (guard_target=ja 21;refine jb 121 21 20 w.heap.size (k*20) q.cells.toArray HT.out HJ.out Vo ?_) | fail);rw [hW2.out];go_roundw
    case rel=>exact ⟨k+1,ts++[q],by omega,by go_num,HC,HH,HB.out⟩
    case measure=>simp [intOf];omega
   ·have HE:Hid (ts.map qh.v=rs.map qh.v∧OwnSts wr w.heap.size wr.heap.size (some ⟨w.heap.size,0,none⟩) rs.length ts∧ts.length=rs.length):=by
     have e:k=rs.length:=by omega
     rw [e] at hown hc;rw [qfV,qgm,qcZ] at hown;exact ⟨hc.out.all,hown.out,hc.out.1⟩
    go_wp2;go_ret;exact ⟨some ⟨w.heap.size,0,none⟩,rs.length,ts,by rw [HE.out.2.2];rfl,HE.out.1,HE.out.2.1,hnx⟩
theorem Oi {ts:List qh} (h:ts.map qh.v=([]:List qh).map qh.v):ts=[]:=by simpa using h
theorem oH (l:qo) (w:World) (hr:l.reads w) (hl:l.short 1048576):
  Calls prog 29 #[.agg l.cells.toArray] w fun e w'=>∃ t:qo,e=.returned (.agg t.cells.toArray)∧Hid (t.v=l.v)∧t.own w' w.heap.size w'.heap.size∧qa w w':=by
 obtain ⟨rs,s,a,c⟩:=l;obtain ⟨hl1,hl2⟩:=hl;simp only [qo.reads,qo.cells,qo.own] at*
 obtain ⟨W,hW,b0,b1,b2,hbW,qD⟩:=yK w [.slice a rs.length c,.int .i64 s] [.slice none 0 0,.int .i64 0] [.slice none 0 0,.int .i64 0] 33 52 52;have C:=Sm a c rs W (hr.below hbW) hl1 hl2;go_enter func29,ntmps29;go_wp2_with fail;rw [hW.out];clear hW;have hs0:w.heap.size+1+1<W.heap.size:=by omega
 clear qD;refine C.mono ?_;clear C;rintro e w1 ⟨a',c',ts,rfl,hv,ho1,hb1⟩;have hs1:=hb1.size;have b01:=b0.below hb1 b0.lt;have b11:=b1.below hb1 b1.lt;have wP:=b2.below hb1 b2.lt;have x1:=b01.cell 1 _ rfl;have y0:=wP.cell 0 _ rfl;have y1:=wP.cell 1 _ rfl;have f0:=wP.frozen 0;have f1:=wP.frozen 1;have z0:=b11.cell 0 _ rfl;have z1:=b11.cell 1 _ rfl;have g0:=b11.frozen 0;have g1:=b11.frozen 1;obtain ⟨W2,hW2,JG,hw2,hs2⟩:=jZ wP 0 (.slice a' ts.length c');obtain ⟨W3,hW3,vS,hw3,hs3⟩:=jZ JG 1 (.int .i64 s);have b13:=(b11.within hw2 (by omega)).within hw3 (by omega);obtain ⟨W4,wL,b14,hw4,hs4⟩:=jZ b13 0 (.slice a' ts.length c');obtain ⟨W5,zS,b15,Ya,hs5⟩:=jZ b14 1 (.int .i64 s);simp only [List.set] at b15;have q0:=b15.cell 0 _ rfl;have q1:=b15.cell 1 _ rfl;have Ut:qa w W5:=((((hbW.trans (hb1.mono (by omega))).trans (hw2.below (by omega) (by omega))).trans (hw3.below (by omega) (by omega))).trans (hw4.below (by omega) (by omega))).trans (Ya.below (by omega) (by omega));have GJ:=((((ho1.within hw2 (.inr (by omega))).within hw3 (.inr (by omega))).within hw4 (.inr (by omega))).within Ya (.inr (by omega))).widen (show w.heap.size≤W.heap.size by omega) (show w1.heap.size≤W5.heap.size by omega) qg;have HH:Hid (_∧_∧_):=⟨GJ,Ut,hv.out⟩;clear GJ Ut hv ho1 hb1 hw2 hw3 hw4 Ya hs2 hs3 hs4 hs5 b01 b11 wP JG vS b13 b14 b15 b0 b1 b2 hbW;have av:Hid (((((w1.setCell ⟨w.heap.size+1+1,0,none⟩ (.slice a' ts.length c')).setCell ⟨w.heap.size+1+1,1,none⟩ (.int .i64 s)).setCell ⟨w.heap.size+1,0,none⟩ (.slice a' ts.length c')).setCell ⟨w.heap.size+1,1,none⟩ (.int .i64 s))=W5):=by rw [Hid,hW2.out,hW3.out,wL.out,zS.out]
 clear hW2 hW3 wL zS;go_wp2;rw [av.out];exact qa3 (v:=.agg #[.slice a' ts.length c',.int .i64 s]) (by simp [results,results29,go_sem,q0,q1]) rfl ⟨⟨ts,s,a',c'⟩,rfl,by simp only [Hid,qo.v];rw [HH.out.2.2],HH.out.1,HH.out.2.1⟩
theorem Cz (a b:Option Addr) (ca cb:Nat) (rs ts:List qh) (he:ts.map qh.v=rs.map qh.v) (w:World) (ha:xw w a rs) (hb:xw w b ts) (hl:rs.length≤1099511627776) (hs:∀ r∈rs,r.short 1099511627776):
  Calls prog 91 #[.slice a rs.length ca,.slice b ts.length cb] w fun e w'=>e=.returned (.bool true)∧qa w w':=by
 rcases ha.cases with rfl | ⟨b1,o1,rfl,hpos,hc1⟩
 ·obtain rfl:=Oi he;go_enter func91,ntmps91;go_wp2;refine qdp 1 ?_;rw [qdC];go_wp2;go_ret;exact ⟨rfl,qab _ _⟩
 ·have hlen:=Zr he;rcases hb.cases with rfl | ⟨b2,o2,rfl,_,hc2⟩
  ·simp at hlen;omega
  ·have HV:Hid (∀ k,k<rs.length→(ts.getD k qi).v=(rs.getD k qi).v):=fun k hk=>CG he k hk
   have HS:Hid (∀ k,k<rs.length→(rs.getD k qi).short 1099511627776):=fun k hk=>hs _ (xE rs k hk)
   have HI:Hid ((prog.info? 121).map (·.size)=some 20):=by rw [Hid];kernel_rfl
   have hu:=underlying121;rw [hlen] at hc2 ⊢;clear he hs hlen;go_enter func91,ntmps91;go_wp2;go_loopw [5] (fun i wr=>∃ k:Nat,k≤rs.length∧i=.int .i64 k∧qa w wr) (fun i _=>rs.length-(intOf i).toNat)
   case atStart=>exact ⟨0,qaw _,rfl,qab _ _⟩
   case round=>
    obtain ⟨k,hk,rfl,hbl⟩:=hrel;by_cases hlt:k<rs.length
    ·obtain ⟨h1,r1⟩:=hc1 k hlt;obtain ⟨h2,r2⟩:=hc2 k hlt;have hv:=HV.out k hlt;have hsh:=HS.out k hlt;clear hc1 hc2;generalize rs.getD k qi=z at*
     generalize ts.getD k qi=y at*
     have HR:Hid (∀ w1,qa w w1→w1.rangeAt b1 (o1+k*20) z.cells∧w1.rangeAt b2 (o2+k*20) y.cells):=fun w1 hh=>⟨QN h1 hh,QN h2 hh⟩
     have HD:Hid (∀ w1,qa w w1→z.reads w1∧y.reads w1):=fun w1 hh=>⟨r1.below hh,r2.below hh⟩
     clear h1 h2 r1 r2;go_wp2_with fail;refine qaZ (S:=fun w'=>w'.rangeAt b1 (o1+k*20) z.cells∧w'.rangeAt b2 (o2+k*20) y.cells) (by kernel_rfl) ?_ (fun qc=>?_)
     ·exact HR.out _ hbl.drew
     iterate 3 refine jv ?_
     refine xB 3 z.cells (fun _ h=>h.1) underlying121 HI.out ?_
     iterate 3 refine jv ?_
     refine xB 7 y.cells (fun _ h=>h.2) underlying121 HI.out ?_;refine jc 8 (fun K hK=>?_);go_simp;refine (Sl z y hv _ (HD.out _ hbl.drew).1 (HD.out _ hbl.drew).2 hsh).mono ?_;rintro e w2 ⟨rfl,hb2⟩;have hw2:qa w w2:=(hbl.drew).trans (hb2.mono hbl.size);refine qX hK (HR.out _ hw2) fun qc=>?_
     clear hK K;try simp only [zz]
     refine jg 9 ?_;refine qau (by kernel_rfl) ?_ _;go_wp2_with fail;go_roundw
     case rel=>exact ⟨k+1,by omega,by go_num,hw2⟩
     case measure=>simp [intOf];omega
    ·go_wp2;go_ret;exact ⟨rfl,hbl⟩
theorem Sn (l t:qo) (he:t.v=l.v) (w:World) (hr:l.reads w) (ht:t.reads w) (hl:l.short 1099511627776):
  Calls prog 42 #[.agg l.cells.toArray,.agg t.cells.toArray] w fun e w'=>e=.returned (.bool true)∧qa w w':=by
 obtain ⟨rs,s,a,c⟩:=l;obtain ⟨ts,s',a',c'⟩:=t;obtain ⟨hl1,hl2⟩:=hl;simp only [qo.v,jM.mk.injEq] at he;obtain ⟨he,rfl⟩:=he;simp only [qo.reads,qo.cells] at*
 obtain ⟨W,hW,b0,b1,hbW,qD⟩:=jK w [.slice a rs.length c,.int .i64 s'] [.slice a' ts.length c',.int .i64 s'] 52 52;have C:=Cz a a' c c' rs ts he W (hr.below hbW) (ht.below hbW) hl1 hl2;clear qD he hl1 hl2 hr ht;go_enter func42,ntmps42;go_wp2_with fail;rw [hW.out];clear hW;refine C.mono ?_;clear C;rintro e w1 ⟨rfl,hb1⟩;have x1:=(b0.below hb1 b0.lt).cell 1 _ rfl;have y1:=(b1.below hb1 b1.lt).cell 1 _ rfl;clear b0 b1;go_wp2;go_ret;exact ⟨rfl,qf hbW hb1⟩
theorem Sq (a:Option Addr) (cap:Nat) (rs:List qh) (left:Int) (w:World) (hr:xw w a rs) (hn:rs.length≤9223372036854775807) (hs:∀ r∈rs,r.short 9223372036854775807) (hl:0≤left∧left≤1048576):
  Calls prog 59 #[.slice a rs.length cap,.int .i64 left] w fun e w'=>∃ z:Int,e=.returned (.int .i64 z)∧(z<0∨(0≤z∧z≤left∧rs.length≤1048576∧∀ r∈rs,r.short 1048576))∧qa w w':=by
 have HI:Hid ((prog.info? 160).map (·.size)=some 20):=by rw [Hid];kernel_rfl
 by_cases hle:left-rs.length<0
 ·go_enter func59,ntmps59;go_wp2;go_ret;exact ⟨-1,rfl,.inl (by omega),qab _ _⟩
 have HS:Hid (∀ k,k<rs.length→(rs.getD k qi).short 9223372036854775807):=fun k hk=>hs _ (xE rs k hk)
 have hlen:rs.length≤1048576:=by omega
 have HC:Hid (∀ k,k<rs.length→∃ b off,a=some ⟨b,off,none⟩∧w.rangeAt b (off+k*20) (rs.getD k qi).cells):=fun k hk=>by
  obtain ⟨b,off,ha,hc⟩:=hr (by intro e;rw [e] at hk;simp at hk);exact ⟨b,off,ha,(hc k hk).1⟩
 have HA:Hid ((∀ k,k<rs.length→(rs.getD k qi).short 1048576)→∀ r∈rs,r.short 1048576):=by
  intro h r hr;obtain ⟨k,hk,rfl⟩:=qfa hr;have:=h k hk
  simpa [List.getD,hk] using this
 clear hr hs;go_enter func59,ntmps59;go_wp2;go_loopw [1,5] (fun v i wr=>∃ (k:Nat) (z:Int),k≤rs.length∧i=.int .i64 k∧v=.int .i64 z∧0≤z∧z≤left∧Hid (∀ j,j<k→(rs.getD j qi).short 1048576)∧qa w wr) (fun _ i _=>rs.length-(intOf i).toNat)
 case atStart=>exact ⟨0,left-rs.length,qaw _,rfl,by go_num,by omega,by omega,fun j hj=>by omega,qab _ _⟩
 case round=>
  obtain ⟨k,z,hk,rfl,rfl,hz0,hz1,hsh,hbl⟩:=hrel;by_cases hlt:k<rs.length
  ·obtain ⟨b,off,rfl,hcell⟩:=HC.out k hlt;have HR:Hid (wr.rangeAt b (off+k*20) (rs.getD k qi).cells):=QN hcell hbl;have C:=oC (rs.getD k qi) z wr (HS.out k hlt) (by omega);clear hcell HC;have HN:Hid ((rs.getD k qi).short 1048576→∀ j,j<k+1→(rs.getD j qi).short 1048576):=fun h j hj=>by
    by_cases e:j=k
    ·rw [e];exact h
    ·exact hsh.out j (by omega)
   generalize rs.getD k qi=y at*
   go_wp2_with (first | (guard_target=qp 21;refine qH 160 20 b (off+k*20) y.cells HR.out underlying160 HI.out ?_) | fail);refine C.mono ?_;clear C HR;rintro e w1 ⟨z1,rfl,hz,hb1⟩;have hB1:=qf hbl hb1;rcases hz with hneg | ⟨g0,g1,g2⟩
   ·go_wp2;go_ret;exact ⟨-1,rfl,.inl (by omega),hB1⟩
   ·have hzn:¬ z1<0:=by omega
    have HH:=HN.out g2;go_wp2;go_roundw
    case rel=>exact ⟨k+1,z1,by omega,by go_num,rfl,g0,by omega,HH,hB1⟩
    case measure=>simp [intOf];omega
  ·have HE:Hid (∀ r∈rs,r.short 1048576):=HA.out (fun j hj=>hsh.out j (by omega));go_wp2;go_ret;exact ⟨z,rfl,.inr ⟨hz0,hz1,hlen,HE.out⟩,hbl⟩
theorem oI (l:qo) (left:Int) (w:World) (hr:l.reads w) (hs:l.short 9223372036854775807) (hl:0≤left∧left≤1048576):
  Calls prog 16 #[.agg l.cells.toArray,.int .i64 left] w fun e w'=>∃ z:Int,e=.returned (.int .i64 z)∧(z<0∨(0≤z∧z≤left∧l.short 1048576))∧qa w w':=by
 obtain ⟨rs,s,a,c⟩:=l;obtain ⟨hl1,hl2⟩:=hs;simp only [qo.reads,qo.cells] at*
 obtain ⟨W,hW,b0,hbW,qD⟩:=qB w [.slice a rs.length c,.int .i64 s] 33;have C:=Sq a c rs left W (hr.below hbW) hl1 hl2 hl;clear qD hr hl1 hl2;go_enter func16,ntmps16;go_wp2_with fail;rw [hW.out];clear hW;refine C.mono ?_;clear C;rintro e w1 ⟨z,rfl,hz,hb1⟩;have hB:=qf hbW hb1;rcases hz with hneg | ⟨h0,h1,h2,h3⟩
 ·go_wp2;go_ret;exact ⟨-1,rfl,.inl (by omega),hB⟩
 ·have hzn:¬ z<0:=by omega
  go_wp2;go_ret;exact ⟨z,rfl,.inr ⟨h0,h1,h2,h3⟩,hB⟩
theorem qo.reads.below {w w':World} {l:qo} (h:l.reads w) (hb:qa w w'):l.reads w':=xw.below h hb
theorem qo.own.below {w w':World} {lo hi:Nat} {l:qo} (h:l.own w lo hi) (hb:qa w w'):l.own w' lo hi:=OwnSts.below h hb
theorem qo.own.within {w w':World} {lo hi a b:Nat} {l:qo} (h:l.own w lo hi) (hw:Within a b w w') (hd:hi≤a∨b≤lo):l.own w' lo hi:=OwnSts.within h hw hd
theorem qo.own.widen {w:World} {lo hi lo' hi':Nat} {l:qo} (h:l.own w lo hi) (h1:lo'≤lo) (h2:hi≤hi') (h3:hi'≤w.heap.size):l.own w lo' hi':=OwnSts.widen h h1 h2 h3
def qo.blocks (l:qo):List Nat:=qF l.a l.c l.seats
theorem qo.own.touch {w w':World} {lo hi:Nat} {l:qo} {bl:List Nat} (h:l.own w lo hi) (ht:Touch bl w w') (hd:∀ k∈l.blocks,k∉bl):l.own w' lo hi:=OwnSts.touch h ht hd
theorem aJ (l:qo):∀ v∈l.cells,v.oneCell'=true:=by
 intro v hv;simp only [qo.cells,qcv,qdu,qfL] at hv;rcases hv with rfl | rfl<;>rfl
theorem K6 (q:qo):q.cells.toArray.all (·.oneCell')=true:=qaf (aJ q)
theorem xP (q:qo):(prog.info? 52).map (·.size)=some q.cells.length:=by show _=some 2;kernel_rfl
theorem Zg {w:World} {C:Nat} (q:qo) (b:Box w C q.cells 52):(loadVar 52 ⟨C,0,none⟩).run prog w=.ok (.agg q.cells.toArray) w:=
 qeI (P:=prog) w C 0 52 q.cells _ (qN b) underlying52 rfl (xP q)
theorem qbe {w:World} {C:Nat} (q:qo) (old:List Value) (ho:old.length=2) (bC:Box w C old 52):
  ∃ WF,Hid (w.setCells C 0 q.cells=WF)∧Within C (C+1) w WF∧WF.heap.size=w.heap.size∧Hid (w.there C 0 q.cells.toArray.size)∧Hid ((loadVar 52 ⟨C,0,none⟩).run prog WF=.ok (.agg q.cells.toArray) WF)∧Box WF C q.cells 52:=by
 obtain ⟨WF,qK,bF,hwF,q8⟩:=jE [] old q.cells [] (by simpa using bC) (by rw [ho];rfl);have Jz:Box WF C q.cells 52:=by simpa using bF
 exact ⟨WF,qK,hwF,q8,bC.there 0 _ (by rw [ho];show 0+2≤2;decide),Zg q Jz,Jz⟩
def MB (s:qh) (k:Int):qh:=⟨k,k+1,s.s0,s.s1,s.s2,s.s3,((k+1+1) % 3 == 0),((k+1+1+1) % 3 == 0)⟩
def kZ:List qh→Int→List qh
 | [],_=>[]
 | r::t,k=>MB r k::kZ t (k+4)
theorem fV (r:qh) (k:Int):(MB r k).blocks=r.blocks:=rfl
theorem Qe (rs:List qh):∀ k,(kZ rs k).length=rs.length:=by
 induction rs with
 | nil=>intro k;rfl
 | cons x r ih=>intro k;simp [kZ,ih]
theorem pz (A B:List qh):∀ k,kZ (A++B) k=kZ A k++kZ B (k+4*(A.length:Int)):=by
 induction A with
 | nil=>intro k;simp [kZ]
 | cons x r ih=>
  intro k;simp only [qfk,kZ,ih,qcS];congr 3;omega
theorem Jy (rs:List qh):∀ k,(kZ rs k).flatMap qh.blocks=rs.flatMap qh.blocks:=by
 induction rs with
 | nil=>intro k;rfl
 | cons x r ih=>intro k;simp only [kZ,qaY,ih,fV]
theorem Z0 (rs:List qh) (j:Nat) (h:j<rs.length):rs.drop j=rs.getD j qi::rs.drop (j+1)∧rs.take (j+1)=rs.take j++[rs.getD j qi]:=by
 have e:rs.getD j qi=rs[j]:=by simp [List.getD,h]
 exact ⟨by rw [qcX h,e],by rw [qdb h,e]⟩
def uQ (rs:List qh) (k:Int) (j:Nat):List qh:=kZ (rs.take j) k++rs.drop j
theorem oJ (rs:List qh) (k:Int) (j:Nat) (h:j<rs.length):uQ rs k j=kZ (rs.take j) k++rs.getD j qi::rs.drop (j+1):=by rw [uQ,(Z0 rs j h).1]
theorem CJ (rs:List qh) (k:Int) (j:Nat) (h:j<rs.length):uQ rs k (j+1)=kZ (rs.take j) k++MB (rs.getD j qi) (k+4*(j:Int))::rs.drop (j+1):=by
 rw [uQ,(Z0 rs j h).2,pz,qdm,qf1 (by omega)];simp [kZ]
theorem OwnSts.qh3 {w:World} {lo hi g c j:Nat} {A B:List qh} {z:qh} (h:OwnSts w lo hi (some ⟨g,0,none⟩) c (A++z::B)) (hj:A.length=j) (v0 v1:Int) (d t:Bool):
  ∃ W,Hid ((((w.setCell ⟨g,j*20,none⟩ (.int .i64 v0)).setCell ⟨g,j*20+1,none⟩ (.int .i64 v1)).setCell ⟨g,j*20+18,none⟩ (.bool d)).setCell ⟨g,j*20+19,none⟩ (.bool t)=W)∧OwnSts W lo hi (some ⟨g,0,none⟩) c (A++⟨v0,v1,z.s0,z.s1,z.s2,z.s3,d,t⟩::B)∧Touch [g] w W:=by
 subst hj;obtain ⟨h0,t0⟩:=h.Ke (z':=⟨v0,z.lsn,z.s0,z.s1,z.s2,z.s3,z.dirty,z.hot⟩) 0 (.int .i64 v0) (by omega) rfl rfl;obtain ⟨h1,t1⟩:=h0.Ke (z':=⟨v0,v1,z.s0,z.s1,z.s2,z.s3,z.dirty,z.hot⟩) 1 (.int .i64 v1) (by omega) rfl rfl;obtain ⟨h2,t2⟩:=h1.Ke (z':=⟨v0,v1,z.s0,z.s1,z.s2,z.s3,d,z.hot⟩) 18 (.bool d) (by omega) rfl rfl;obtain ⟨h3,t3⟩:=h2.Ke (z':=⟨v0,v1,z.s0,z.s1,z.s2,z.s3,d,t⟩) 19 (.bool t) (by omega) rfl rfl;exact ⟨_,rfl,h3,((t0.trans t1).trans t2).trans t3⟩
theorem MC (lo hi:Nat) (a:Option Addr) (cap:Nat) (k0:Int) (rs:List qh) (w:World) (ho:OwnSts w lo hi a cap rs) (h0:0≤k0) (hk:k0+4*(rs.length:Int)≤1152921504606846976):
  Calls prog 97 #[.slice a rs.length cap,.int .i64 k0] w fun e w'=>e=.returned (.int .i64 (k0+4*(rs.length:Int)))∧OwnSts w' lo hi a cap (kZ rs k0)∧Touch (qF a cap rs) w w':=by
 rcases ho.row.2 with ⟨hv,h00⟩ | ⟨g,cap',cur,hv,hg,hgg,hr⟩
 ·simp only [qcK] at hv;obtain ⟨rfl,_,rfl⟩:=hv;obtain rfl:=qcI.1 h00;go_enter func97,ntmps97;go_wp2;refine qdp 1 ?_;rw [qdC];go_wp2;go_ret;exact ⟨by simp,ho,Touch.refl _ _⟩
 ·simp only [qcK] at hv;obtain ⟨rfl,_,rfl⟩:=hv;have hlm:rs.length≤maxLen:=qcx hr.1 hr.2.1;simp only [maxLen] at hlm;clear hgg hr;have HH:Hid (uQ rs k0 0=rs∧uQ rs k0 rs.length=kZ rs k0):=⟨by simp [uQ,kZ],by simp [uQ]⟩;have HST:Hid (OwnSts w lo hi (some ⟨g,0,none⟩) cap (uQ rs k0 0)):=by rw [HH.out.1];exact ho
  have qbF:Hid (∀ k∈[g],k∈qF (some ⟨g,0,none⟩) cap rs):=fun k hk=>by
   obtain rfl:=qac.1 hk;exact qaa.2 (.inl (by simp [Value.ownBlock]))
  clear ho;go_enter func97,ntmps97;go_wp2;go_loopw [1,5] (fun kk i wr=>∃ j:Nat,j≤rs.length∧i=.int .i64 j∧kk=.int .i64 (k0+4*(j:Int))∧Hid (OwnSts wr lo hi (some ⟨g,0,none⟩) cap (uQ rs k0 j))∧Touch (qF (some ⟨g,0,none⟩) cap rs) w wr)
   (fun _ i _=>rs.length-(intOf i).toNat)
  case atStart=>exact ⟨0,qaw _,rfl,by simp,HST,Touch.refl _ _⟩
  case round=>
   obtain ⟨j,hj,rfl,rfl,hown,Cm⟩:=hrel;clear HST;by_cases hlt:j<rs.length
   ·have ho:=hown.out;rw [oJ rs k0 j hlt] at ho;have HN:Hid (uQ rs k0 (j+1)=_):=CJ rs k0 j hlt;have hA:(kZ (rs.take j) k0).length=j:=by rw [Qe,qdm];omega
    have hkb:0≤k0+4*(j:Int)∧k0+4*(j:Int)+4≤1152921504606846976:=⟨by omega,by omega⟩;have HKN:Hid (k0+4*((j+1:Nat):Int)=k0+4*(j:Int)+1+1+1+1):=by rw [Hid];omega
    have hjl:j<(kZ (rs.take j) k0++rs.getD j qi::rs.drop (j+1)).length:=by simp [hA]
    have hrow:=ho.row;have hat:=(zm ho.row rfl j hjl).1;have ez:(kZ (rs.take j) k0++rs.getD j qi::rs.drop (j+1)).getD j qi=rs.getD j qi:=by simp [List.getD,hA]
    rw [ez] at hat;have x0:wr.cell? ⟨g,j*20,none⟩=some (.int .i64 (rs.getD j qi).no):=hat 0 _ rfl;have x1:wr.cell? ⟨g,j*20+1,none⟩=some (.int .i64 (rs.getD j qi).lsn):=hat 1 _ rfl;have x18:wr.cell? ⟨g,j*20+18,none⟩=some (.bool (rs.getD j qi).dirty):=hat 18 _ rfl;have Vs:wr.cell? ⟨g,j*20+19,none⟩=some (.bool (rs.getD j qi).hot):=hat 19 _ rfl;have f0:wr.frozen? ⟨g,j*20,none⟩=false:=hrow.frozenAt _;have f1:=hrow.frozenAt (j*20+1);have f18:=hrow.frozenAt (j*20+18);have f19:=hrow.frozenAt (j*20+19);obtain ⟨W,hW,oW,tW⟩:=ho.qh3 hA (k0+4*(j:Int)) (k0+4*(j:Int)+1) ((k0+4*(j:Int)+1+1) % 3 == 0) ((k0+4*(j:Int)+1+1+1) % 3 == 0);have Qm:Hid (OwnSts W lo hi (some ⟨g,0,none⟩) cap (uQ rs k0 (j+1))∧Touch (qF (some ⟨g,0,none⟩) cap rs) w W):=by
     refine ⟨?_,Cm.trans (tW.mono qbF.out)⟩;rw [HN.out];exact oW
    clear ho hown Cm oW tW HN hat hrow hjl ez hA hk h0;generalize (rs.getD j qi).no=z0 at*
    generalize (rs.getD j qi).lsn=z1 at*
    generalize (rs.getD j qi).dirty=z2 at*
    generalize (rs.getD j qi).hot=z3 at*
    generalize k0+4*(j:Int)=kk at*
    go_wp2_with fail;rw [hW.out];go_roundw
    case rel=>exact ⟨j+1,by omega,by go_num,by rw [HKN.out],Qm.out.1,Qm.out.2⟩
    case measure=>simp [intOf];omega
   ·have HE:Hid (OwnSts wr lo hi (some ⟨g,0,none⟩) cap (kZ rs k0)∧k0+4*(j:Int)=k0+4*(rs.length:Int)):=by
     have e:j=rs.length:=by omega
     rw [e,HH.out.2] at hown;exact ⟨hown.out,by rw [e]⟩
    go_wp2;go_ret;exact ⟨jN HE.out.2,HE.out.1,Cm⟩
theorem oK (rs:List qh) (k:Int) (j:Nat) (h:j<rs.length):(kZ rs k).getD j qi=MB (rs.getD j qi) (k+4*(j:Int)):=by
 have e:kZ rs k=kZ (rs.take j) k++kZ (rs.drop j) (k+4*(j:Int)):=by
  have:=pz (rs.take j) (rs.drop j) k;rw [qdJ,qdm,qf1 (by omega)] at this;exact this
 have hl:(kZ (rs.take j) k).length=j:=by rw [Qe,qdm];omega
 rw [e,(Z0 rs j h).1,kZ];simp [List.getD,hl]
theorem fZ (a:Option Addr) (cap:Nat) (k0:Int) (rs:List qh) (w:World) (hr:xw w a (kZ rs k0)) (h0:0≤k0) (hk:k0+4*(rs.length:Int)≤1152921504606846976) (hlm:rs.length≤9223372036854775807):
  Calls prog 101 #[.slice a rs.length cap,.int .i64 k0] w fun e w'=>e=.returned (.int .i64 (k0+4*(rs.length:Int)))∧w'=w:=by
 have Vq:=Qe rs k0;rcases hr.cases with h | ⟨b,off,rfl,hpos,hcell⟩
 ·have h':=qcz List.length h;rw [Vq] at h';obtain rfl:=qcI.1 h';go_enter func101,ntmps101;go_wp2;refine qdp 1 ?_;rw [qdC];go_wp2;go_ret;exact ⟨by simp,rfl⟩
 ·rw [Vq] at hpos hcell;go_enter func101,ntmps101;go_wp2
  go_loop [1,5] (fun kk i=>∃ j:Nat,j≤rs.length∧i=.int .i64 j∧kk=.int .i64 (k0+4*(j:Int))) (fun _ i=>rs.length-(intOf i).toNat)
  case atStart=>exact ⟨0,qaw _,rfl,by simp⟩
  case round=>
   obtain ⟨j,hj,rfl,rfl⟩:=hrel;by_cases hlt:j<rs.length
   ·obtain ⟨hc,hrd⟩:=hcell j hlt;rw [oK rs k0 j hlt] at hc;have hkb:0≤k0+4*(j:Int)∧k0+4*(j:Int)+4≤1152921504606846976:=⟨by omega,by omega⟩;have HKN:Hid (k0+4*((j+1:Nat):Int)=k0+4*(j:Int)+1+1+1+1):=by rw [Hid];omega
    clear hk h0 hcell hpos hr Vq hrd;generalize k0+4*(j:Int)=kk at*
    generalize rs.getD j qi=z at*
    have x0:w.cell? ⟨b,off+j*20,none⟩=some (.int .i64 kk):=hc 0 _ rfl;have x1:w.cell? ⟨b,off+j*20+1,none⟩=some (.int .i64 (kk+1)):=hc 1 _ rfl;have x2:w.cell? ⟨b,off+j*20+18,none⟩=some (.bool ((kk+1+1) % 3 == 0)):=hc 18 _ rfl;have x3:w.cell? ⟨b,off+j*20+19,none⟩=some (.bool ((kk+1+1+1) % 3 == 0)):=hc 19 _ rfl;clear hc;go_wp2_with fail
    go_round
    case rel=>exact ⟨j+1,by omega,by go_num,by rw [HKN.out]⟩
    case measure=>simp [intOf];omega
   ·have HE:Hid (k0+4*(j:Int)=k0+4*(rs.length:Int)):=by
     have e:j=rs.length:=by omega
     rw [Hid,e]
    go_wp2;go_ret;exact ⟨jN HE.out,rfl⟩
def qo.mark (l:qo) (k:Int):qo:={ l with seats:=kZ l.seats k }
def qo.count (l:qo):Nat:=4*l.seats.length
theorem qfx (n:Nat):((4*n:Nat):Int)=4*(n:Int):=by omega
theorem Pf (l:qo) (lo hi:Nat) (k0:Int) (w:World) (ho:l.own w lo hi) (hl:l.short 1099511627776) (h0:0≤k0) (hk:k0+l.count≤1152921504606846976):
  Calls prog 48 #[.agg l.cells.toArray,.int .i64 k0] w fun e w'=>e=.returned (.int .i64 (k0+l.count))∧(l.mark k0).own w' lo hi∧Touch l.blocks w w':=by
 obtain ⟨rs,s,a,c⟩:=l;simp only [qo.cells,qo.own,qo.count,qo.mark,qo.blocks,qfx] at*
 obtain ⟨W,hW,b0,hbW,qD⟩:=qB w [.slice a rs.length c,.int .i64 s] 52;have c0:=b0.cell 0 _ rfl;have C:=MC lo hi a c k0 rs W (ho.below hbW) h0 hk;clear qD b0;go_enter func48,ntmps48;go_wp2_with fail;rw [hW.out];clear hW;refine C.mono ?_;rintro e w1 ⟨rfl,ho1,ht1⟩;go_wp2;go_ret;exact ⟨rfl,ho1,(Touch.of_below hbW).trans ht1⟩
theorem CK (l:qo) (lo hi:Nat) (k0:Int) (w:World) (ho:(l.mark k0).own w lo hi) (hl:l.seats.length≤1099511627776) (h0:0≤k0) (hk:k0+l.count≤1152921504606846976):
  Calls prog 54 #[.agg l.cells.toArray,.int .i64 k0] w fun e w'=>e=.returned (.int .i64 (k0+l.count))∧qa w w':=by
 obtain ⟨rs,s,a,c⟩:=l;simp only [qo.cells,qo.own,qo.count,qo.mark,qfx] at*
 obtain ⟨W,hW,b0,hbW,qD⟩:=qB w [.slice a rs.length c,.int .i64 s] 52;have c0:=b0.cell 0 _ rfl;have C:=fZ a c k0 rs W (ho.below hbW).reads h0 hk (by omega);have hnn:¬ (k0+4*(rs.length:Int)<0):=by omega
 clear qD b0;go_enter func54,ntmps54;go_wp2_with fail;rw [hW.out];clear hW;refine C.mono ?_;rintro e w1 ⟨rfl,rfl⟩;go_wp2;go_ret;exact ⟨rfl,hbW⟩
def qb.qQ (e:qb):qo:=⟨e.seats,e.hand,e.aS,e.cS⟩
theorem qb.shape.wy {e:qb} (h:e.shape):vT e.disk:=⟨h.eight,h.four⟩
structure qb.reads (w:World) (e:qb):Prop where
 disk:∀ p∈e.disk,jS w p.ss
 pool:e.qQ.reads w
 log:e.log.reads w
 txs:kQ w e.aT e.txs
 holds:yN w e.aH e.holds
structure qb.short (e:qb) (m:Nat):Prop where
 disk:∀ p∈e.disk,∀ x∈p.ss,x.v.o.ints.length≤m∧x.v.o.refs.length≤m
 pool:e.qQ.short m
 log:e.log.short m
 txs:e.txs.length≤m
 holds:e.holds.length≤m
theorem qb.short.fit {e:qb} (h:e.short 1099511627776):∀ p∈e.disk,Fit p.ss:=fun p hp s hs=>h.disk p hp s hs
theorem qb.reads.below {w w':World} {e:qb} (h:e.reads w) (hb:qa w w'):e.reads w':=
 ⟨fun p hp=>(h.disk p hp).below hb,h.pool.below hb,h.log.below hb,h.txs.below hb,h.holds.below hb⟩
theorem qP.qbR {w:World} {lo hi:Nat} {ps:List qA} (h:qP w lo hi (ps.flatMap (·.ss))):∀ p∈ps,jS w p.ss:=fun p hp s hs=>h.reads s (qag.2 ⟨p,hp,hs⟩)
theorem qb.own.reads {w:World} {lo hi:Nat} {e:qb} (h:e.own w lo hi):e.reads w:=⟨qP.qbR h.disk,OwnSts.reads h.pool,je.reads h.log,h.txs.reads,h.holds.reads⟩
theorem qY {w:World} {B:Nat} {t:TypeId} {e:qb} (h:e.shape) (b:Box w B e.cells t):
  w.rangeAt B 0 (qx e.disk)∧w.rangeAt B 136 e.qQ.cells∧w.rangeAt B 138 e.log.cells∧w.cell? ⟨B,140,none⟩=some (.slice e.aT e.txs.length e.cT)∧w.cell? ⟨B,141,none⟩=some (.slice e.aH e.holds.length e.cH)∧w.cell? ⟨B,142,none⟩=some (.int .i64 e.next)∧w.cell? ⟨B,143,none⟩=some (.bool e.down):=by
 have hl:=qb.yg h;refine ⟨?_,?_,?_,qb.xG h b 4 _ rfl,qb.xG h b 5 _ rfl,qb.xG h b 6 _ rfl,qb.xG h b 7 _ rfl⟩
 ·exact Box.range [] (qx e.disk) e.tail b
 ·have:=Box.range (qx e.disk) e.qQ.cells [.slice e.log.a e.log.recs.length e.log.c,.int .i64 e.log.sure,.slice e.aT e.txs.length e.cT,.slice e.aH e.holds.length e.cH,.int .i64 e.next,.bool e.down] b
  rwa [hl] at this
 ·have:=Box.range (qx e.disk++e.qQ.cells) e.log.cells [.slice e.aT e.txs.length e.cT,.slice e.aH e.holds.length e.cH,.int .i64 e.next,.bool e.down] (by rw [qcJ];exact b);rw [qai,hl] at this;exact this
theorem JV (e f:qb) (se:e.shape) (sf:f.shape) (he:f.v=e.v) (w:World) (re:e.reads w) (rf:f.reads w) (hl:e.short 1099511627776):
  Calls prog 10 #[.agg e.cells.toArray,.agg f.cells.toArray] w fun r w'=>r=.returned (.bool true)∧qa w w':=by
 simp only [qb.v,qR.mk.injEq] at he;obtain ⟨h1,h2,h3,h4,h5,h6,h7,h8⟩:=he;have HD:Hid (f.disk.map yO=e.disk.map yO):=h1;have ay:Hid (f.qQ.v=e.qQ.v):=by rw [Hid,qo.v,qo.v];simp only [qb.qQ,h2,h3]
 have Yb:Hid (f.log.v=e.log.v):=h4;obtain ⟨W,hW,b0,b1,hbW,qD⟩:=jK w e.cells f.cells 59 59;have HE:Hid (∀ u,qa W u→_):=fun u hu=>qY se (b0.below hu b0.lt)
 have HF:Hid (∀ u,qa W u→_):=fun u hu=>qY sf (b1.below hu b1.lt)
 have HR:Hid (∀ u,qa W u→e.reads u∧f.reads u):=fun u hu=>⟨(re.below hbW).below hu,(rf.below hbW).below hu⟩
 have hie:=um se.wy;have hif:=um sf.wy;clear h1 h2 h3 h4 qD b0 b1;have N:qa W W:=qab _ _;obtain ⟨p0,p1,p2,p3,p4,p5,p6⟩:=HE.out _ N;obtain ⟨q0,q1,q2,q3,q4,q5,q6⟩:=HF.out _ N;go_enter func10,ntmps10;go_wp2_with (first | (guard_target=qp 6;refine qH 49 5 w.heap.size 0 (qx e.disk) (by rw [hW.out];exact p0) underlying49 hie ?_) | (guard_target=qp 8;refine qH 49 7 (w.heap.size+1) 0 (qx f.disk) (by rw [hW.out];exact q0) underlying49 hif ?_) | fail);rw [hW.out];clear hW;refine (ru e.disk f.disk se.wy sf.wy HD.out W (HR.out _ N).1.disk (HR.out _ N).2.disk hl.fit).mono ?_;rintro r w1 ⟨rfl,qfy⟩;replace N:=qf N qfy;clear p0 p1 p2 p3 p4 p5 p6 q0 q1 q2 q3 q4 q5 q6 qfy;obtain ⟨p0,p1,p2,p3,p4,p5,p6⟩:=HE.out _ N;obtain ⟨q0,q1,q2,q3,q4,q5,q6⟩:=HF.out _ N;go_wp2_with (first | (guard_target=qp 12;refine qH 52 11 w.heap.size 136 (e.qQ.cells) p1 underlying52 (xP _) ?_) | (guard_target=qp 14;refine qH 52 13 (w.heap.size+1) 136 (f.qQ.cells) q1 underlying52 (xP _) ?_) | fail);refine (Sn e.qQ f.qQ ay.out w1 (HR.out _ N).1.pool (HR.out _ N).2.pool hl.pool).mono ?_;rintro r w2 ⟨rfl,hbw2⟩;replace N:=qf N hbw2;clear p0 p1 p2 p3 p4 p5 p6 q0 q1 q2 q3 q4 q5 q6 hbw2;obtain ⟨p0,p1,p2,p3,p4,p5,p6⟩:=HE.out _ N;obtain ⟨q0,q1,q2,q3,q4,q5,q6⟩:=HF.out _ N;go_wp2_with (first | (guard_target=qp 18;refine qH 55 17 w.heap.size 138 (e.log.cells) p2 underlying55 (yT _) ?_) | (guard_target=qp 20;refine qH 55 19 (w.heap.size+1) 138 (f.log.cells) q2 underlying55 (yT _) ?_) | fail);refine (oL e.log f.log Yb.out w2 (HR.out _ N).1.log (HR.out _ N).2.log hl.log).mono ?_;rintro r w3 ⟨rfl,qfz⟩;replace N:=qf N qfz;clear p0 p1 p2 p3 p4 p5 p6 q0 q1 q2 q3 q4 q5 q6 qfz;obtain ⟨p0,p1,p2,p3,p4,p5,p6⟩:=HE.out _ N;obtain ⟨q0,q1,q2,q3,q4,q5,q6⟩:=HF.out _ N;rw [h5] at q3;have C4:=Wn e.aT f.aT e.cT f.cT e.txs w3 (HR.out _ N).1.txs (by have:=(HR.out _ N).2.txs;rwa [h5] at this) hl.txs;go_wp2_with fail;refine (C4).mono ?_;rintro r w4 ⟨rfl,qfA⟩;replace N:=qf N qfA;clear p0 p1 p2 p3 p4 p5 p6 q0 q1 q2 q3 q4 q5 q6 qfA;obtain ⟨p0,p1,p2,p3,p4,p5,p6⟩:=HE.out _ N;obtain ⟨q0,q1,q2,q3,q4,q5,q6⟩:=HF.out _ N;clear C4;rw [h6] at q4;have C5:=CO e.aH f.aH e.cH f.cH e.holds w4 (HR.out _ N).1.holds (by have:=(HR.out _ N).2.holds;rwa [h6] at this) hl.holds;go_wp2_with fail;refine (C5).mono ?_;rintro r w5 ⟨rfl,qfB⟩;replace N:=qf N qfB;clear p0 p1 p2 p3 p4 p5 p6 q0 q1 q2 q3 q4 q5 q6 qfB;obtain ⟨p0,p1,p2,p3,p4,p5,p6⟩:=HE.out _ N;obtain ⟨q0,q1,q2,q3,q4,q5,q6⟩:=HF.out _ N;clear C5;rw [h7] at q5;rw [h8] at q6;have jr:Hid (qa w w5):=qf hbW N;clear h5 h6 h7 h8;go_wp2;go_ret;exact ⟨rfl,jr.out⟩
def qb.kP (e:qb) (k:Int):Int:=k+jm (qZ e.disk)
def qb.kL (e:qb) (k:Int):Int:=e.kP k+e.qQ.count
def qb.kT (e:qb) (k:Int):Int:=e.kL k+e.log.count
def qb.kH (e:qb) (k:Int):Int:=e.kT k+3*e.txs.length
def qb.kE (e:qb) (k:Int):Int:=e.kH k+2*e.holds.length
structure qb.marked (w:World) (lo hi:Nat) (e:qb) (k:Int):Prop where
 disk:qP w lo hi (kK (qZ e.disk) k)
 pool:(e.qQ.mark (e.kP k)).own w lo hi
 log:(e.log.mark (e.kL k)).own w lo hi
 txs:OwnL w lo hi e.aT e.cT (marksL (e.kT k) e.txs.length)
 holds:OwnH w lo hi e.aH e.cH (uI (e.kH k) e.holds.length)
theorem qb.marked.touch {w w':World} {lo hi:Nat} {e:qb} {k:Int} {bl:List Nat} (h:e.marked w lo hi k) (ht:Touch bl w w') (hd:∀ j∈e.blocks,j∉bl):e.marked w' lo hi k:=by
 simp only [qb.blocks,qaa] at hd;refine ⟨h.disk.touch ht (fun j hj=>hd j (.inl (by rw [uR] at hj;exact hj))),h.pool.touch ht (fun j hj=>hd j (.inr (.inl ?_))),h.log.touch ht (fun j hj=>hd j (.inr (.inr (.inl ?_)))),h.txs.touch ht (fun j hj=>hd j (.inr (.inr (.inr (.inl ?_))))),h.holds.touch ht (fun j hj=>hd j (.inr (.inr (.inr (.inr ?_)))))⟩
 ·simpa [qo.blocks,qo.mark,qF,Qe,Jy,qb.qQ] using hj
 ·simpa [qI.blocks,qI.mark,jw,QC,XQ] using hj
 ·rw [zH] at hj;exact qad.2 hj
 ·rw [uY] at hj;exact qad.2 hj
theorem qb.marked.below {w w':World} {lo hi:Nat} {e:qb} {k:Int} (h:e.marked w lo hi k) (hb:qa w w'):e.marked w' lo hi k:=
 ⟨h.disk.below hb,h.pool.below hb,h.log.below hb,h.txs.below hb,h.holds.below hb⟩
theorem YP (e:qb) (se:e.shape) (lo hi:Nat) (k0:Int) (w:World) (ho:e.own w lo hi) (hl:e.short 1099511627776) (h0:0≤k0) (hk:e.kP k0≤10995116277760∧e.kE k0≤1152921504606846976) (hhi:hi≤w.heap.size):
  Calls prog 12 #[.agg e.cells.toArray,.int .i64 k0] w fun r w'=>r=.returned (.int .i64 (e.kE k0))∧e.marked w' lo hi k0∧Touch e.blocks w w':=by
 have hbl:=ho.qC;have vU:=ho.apart;obtain ⟨W,hW,b0,hbW,qD⟩:=qB w e.cells 59;have hs0:w.heap.size<W.heap.size:=by omega
 have hwB:w.heap.size∉e.blocks:=fun h=>by have:=(hbl _ h).2;omega
 have HE:Hid (∀ u,Touch e.blocks W u→_):=fun u hu=>qY se (b0.touch hu hwB)
 have hie:=um se.wy;have hb1:0≤e.kP k0∧e.kP k0≤10995116277760∧0≤e.kL k0∧e.kL k0≤1152921504606846976∧0≤e.kT k0∧e.kT k0≤1152921504606846976∧0≤e.kH k0∧e.kH k0≤1152921504606846976:=by unfold qb.kE qb.kH qb.kT qb.kL qb.kP at *;omega
 simp only [qb.blocks,qav,qaa] at vU;obtain ⟨_,⟨_,⟨_,⟨_,_,a45⟩,a3⟩,a2⟩,a1⟩:=vU;have od:=ho.disk.below hbW;have op:e.qQ.own W lo hi:=OwnSts.below ho.pool hbW;have ol:e.log.own W lo hi:=je.below ho.log hbW;have ot:=ho.txs.below hbW;have oh:=ho.holds.below hbW;have N:Touch e.blocks W W:=Touch.refl _ _;obtain ⟨p0,p1,p2,p3,p4,_,_⟩:=HE.out _ N;have C1:=Gl e.disk se.wy lo hi k0 W od hl.fit h0 (by have:=hb1.2.1;unfold qb.kP at this;exact this) (by omega);go_enter func12,ntmps12;go_wp2_with (first | (guard_target=qp 6;refine qH 49 5 w.heap.size 0 (qx e.disk) (by rw [hW.out];exact p0) underlying49 hie ?_) | fail);rw [hW.out];clear hW qD;refine C1.mono ?_;clear C1 p0 p1 p2 p3 p4 od;rintro r w1 ⟨rfl,od,t1⟩;have T1:Touch e.blocks W w1:=t1.mono (fun k hk=>qaa.2 (.inl hk));replace op:e.qQ.own w1 lo hi:=op.touch t1 (fun k hk hk'=>a1 k hk' k (.inl hk) rfl);replace ol:e.log.own w1 lo hi:=ol.touch t1 (fun k hk hk'=>a1 k hk' k (.inr (.inl hk)) rfl);replace ot:=ot.touch t1 (fun k hk hk'=>a1 k hk' k (.inr (.inr (.inl (qad.2 hk)))) rfl);replace oh:=oh.touch t1 (fun k hk hk'=>a1 k hk' k (.inr (.inr (.inr (qad.2 hk)))) rfl);obtain ⟨p0,p1,p2,p3,p4,_,_⟩:=HE.out _ T1;have C2:=Pf e.qQ lo hi (e.kP k0) w1 op hl.pool hb1.1 (by have:=hb1.2.2.2.1;unfold qb.kL at this;omega);go_wp2_with (first | (guard_target=qp 10;refine qH 52 9 w.heap.size 136 (e.qQ.cells) p1 underlying52 (xP _) ?_) | fail);refine C2.mono ?_;clear C2 p0 p1 p2 p3 p4 op t1;rintro r w2 ⟨rfl,op,t2⟩;have hpb:e.qQ.blocks=qF e.aS e.cS e.seats:=rfl;have T2:Touch e.blocks W w2:=T1.trans (t2.mono (fun k hk=>qaa.2 (.inr (qaa.2 (.inl hk)))));replace od:=od.touch t2 (fun k hk hk'=>a1 k (by rw [uR] at hk;exact hk) k (.inl hk') rfl);replace ol:e.log.own w2 lo hi:=ol.touch t2 (fun k hk hk'=>a2 k hk' k (.inl hk) rfl);replace ot:=ot.touch t2 (fun k hk hk'=>a2 k hk' k (.inr (.inl (qad.2 hk))) rfl);replace oh:=oh.touch t2 (fun k hk hk'=>a2 k hk' k (.inr (.inr (qad.2 hk))) rfl);obtain ⟨p0,p1,p2,p3,p4,_,_⟩:=HE.out _ T2;have C3:=fO e.log lo hi (e.kL k0) w2 ol hl.log hb1.2.2.1 (by have:=hb1.2.2.2.2.2.1;unfold qb.kT at this;omega);go_wp2_with (first | (guard_target=qp 14;refine qH 55 13 w.heap.size 138 (e.log.cells) p2 underlying55 (yT _) ?_) | fail);refine C3.mono ?_;clear C3 p0 p1 p2 p3 p4 ol t2;rintro r w3 ⟨rfl,ol,t3⟩;have T3:Touch e.blocks W w3:=T2.trans (t3.mono (fun k hk=>qaa.2 (.inr (qaa.2 (.inr (qaa.2 (.inl hk)))))));replace od:=od.touch t3 (fun k hk hk'=>a1 k (by rw [uR] at hk;exact hk) k (.inr (.inl hk')) rfl);replace op:(e.qQ.mark (e.kP k0)).own w3 lo hi:=op.touch t3 (fun k hk hk'=>a2 k (by simpa [qo.blocks,qo.mark,qF,Qe,Jy,qb.qQ] using hk) k (.inl hk') rfl);replace ot:=ot.touch t3 (fun k hk hk'=>a3 k hk' k (.inl (qad.2 hk)) rfl);replace oh:=oh.touch t3 (fun k hk hk'=>a3 k hk' k (.inr (qad.2 hk)) rfl);obtain ⟨p0,p1,p2,p3,p4,_,_⟩:=HE.out _ T3;have C4:=Uu lo hi e.aT e.cT (e.kT k0) e.txs w3 ot hb1.2.2.2.2.1 (by have:=hb1.2.2.2.2.2.2.2;unfold qb.kH at this;omega);have E3:Hid (e.kL k0+(e.log.count:Int)=e.kT k0):=rfl;rw [E3.out];go_wp2_with fail
 refine C4.mono ?_;clear C4 p0 p1 p2 p3 p4 ot t3 E3;rintro r w4 ⟨rfl,ot,t4⟩;have T4:Touch e.blocks W w4:=T3.trans (t4.mono (fun k hk=>qaa.2 (.inr (qaa.2 (.inr (qaa.2 (.inr (qaa.2 (.inl hk)))))))));replace od:=od.touch t4 (fun k hk hk'=>a1 k (by rw [uR] at hk;exact hk) k (.inr (.inr (.inl hk'))) rfl);replace op:(e.qQ.mark (e.kP k0)).own w4 lo hi:=op.touch t4 (fun k hk hk'=>a2 k (by simpa [qo.blocks,qo.mark,qF,Qe,Jy,qb.qQ] using hk) k (.inr (.inl hk')) rfl);replace ol:(e.log.mark (e.kL k0)).own w4 lo hi:=ol.touch t4 (fun k hk hk'=>a3 k (by simpa [qI.blocks,qI.mark,jw,QC,XQ] using hk) k (.inl hk') rfl);replace oh:=oh.touch t4 (fun k hk hk'=>a45 k hk' k (qad.2 hk) rfl);obtain ⟨p0,p1,p2,p3,p4,_,_⟩:=HE.out _ T4;have C5:=rz lo hi e.aH e.cH (e.kH k0) e.holds w4 oh hb1.2.2.2.2.2.2.1 (by unfold qb.kE at hk;omega);have E4:Hid (e.kT k0+3*(e.txs.length:Int)=e.kH k0):=rfl;rw [E4.out];go_wp2_with fail;refine C5.mono ?_;clear C5 p0 p1 p2 p3 p4 oh E4;rintro r w5 ⟨rfl,oh,t5⟩;have T5:Touch e.blocks W w5:=T4.trans (t5.mono (fun k hk=>qaa.2 (.inr (qaa.2 (.inr (qaa.2 (.inr (qaa.2 (.inr hk)))))))));replace od:=od.touch t5 (fun k hk hk'=>a1 k (by rw [uR] at hk;exact hk) k (.inr (.inr (.inr hk'))) rfl);replace op:(e.qQ.mark (e.kP k0)).own w5 lo hi:=op.touch t5 (fun k hk hk'=>a2 k (by simpa [qo.blocks,qo.mark,qF,Qe,Jy,qb.qQ] using hk) k (.inr (.inr hk')) rfl);replace ol:(e.log.mark (e.kL k0)).own w5 lo hi:=ol.touch t5 (fun k hk hk'=>a3 k (by simpa [qI.blocks,qI.mark,jw,QC,XQ] using hk) k (.inr hk') rfl);replace ot:=ot.touch t5 (fun k hk hk'=>a45 k (by rw [zH] at hk;exact qad.2 hk) k hk' rfl);have jr:Hid (e.marked w5 lo hi k0∧Touch e.blocks w w5):=⟨⟨od,op,ol,ot,oh⟩,(Touch.of_below hbW).trans T5⟩;go_wp2;go_ret;exact ⟨rfl,jr.out.1,jr.out.2⟩
theorem Vt (e:qb) (se:e.shape) (lo hi:Nat) (k0:Int) (w:World) (ho:e.marked w lo hi k0) (hl:e.short 1099511627776) (h0:0≤k0) (hk:e.kP k0≤10995116277760∧e.kE k0≤1152921504606846976):
  Calls prog 14 #[.agg e.cells.toArray,.int .i64 k0] w fun r w'=>r=.returned (.int .i64 (e.kE k0))∧qa w w':=by
 obtain ⟨W,hW,b0,hbW,qD⟩:=qB w e.cells 59;have HE:Hid (∀ u,qa W u→_):=fun u hu=>qY se (b0.below hu b0.lt)
 have hie:=um se.wy;have hb1:0≤e.kP k0∧e.kP k0≤10995116277760∧0≤e.kL k0∧e.kL k0≤1152921504606846976∧0≤e.kT k0∧e.kT k0≤1152921504606846976∧0≤e.kH k0∧e.kH k0≤1152921504606846976∧0≤e.kE k0:=by unfold qb.kE qb.kH qb.kT qb.kL qb.kP at *;omega
 have HM:Hid (∀ u,qa W u→e.marked u lo hi k0):=fun u hu=>(ho.below hbW).below hu
 have N:qa W W:=qab _ _;obtain ⟨p0,p1,p2,p3,p4,_,_⟩:=HE.out _ N;have C1:=Pg e.disk se.wy lo hi k0 W (HM.out _ N).disk hl.fit h0 (by have:=hb1.2.1;unfold qb.kP at this;exact this);go_enter func14,ntmps14;go_wp2_with (first | (guard_target=qp 6;refine qH 49 5 w.heap.size 0 (qx e.disk) (by rw [hW.out];exact p0) underlying49 hie ?_) | fail);rw [hW.out];clear hW qD;refine C1.mono ?_;clear C1 p0 p1 p2 p3 p4;rintro r w1 ⟨rfl,hb⟩;replace N:=qf N hb;obtain ⟨p0,p1,p2,p3,p4,_,_⟩:=HE.out _ N;have E1:Hid (k0+(jm (qZ e.disk):Int)=e.kP k0):=rfl;rw [E1.out];have n1:¬ e.kP k0<0:=by omega
 have C2:=CK e.qQ lo hi (e.kP k0) w1 (HM.out _ N).pool hl.pool.len hb1.1 (by have:=hb1.2.2.2.1;unfold qb.kL at this;omega);clear hb E1;go_wp2_with (first | (guard_target=qp 12;refine qH 52 11 w.heap.size 136 (e.qQ.cells) p1 underlying52 (xP _) ?_) | fail);refine C2.mono ?_;clear C2 p0 p1 p2 p3 p4;rintro r w2 ⟨rfl,hb⟩;replace N:=qf N hb;obtain ⟨p0,p1,p2,p3,p4,_,_⟩:=HE.out _ N;have E1:Hid (e.kP k0+(e.qQ.count:Int)=e.kL k0):=rfl;rw [E1.out];have n2:¬ e.kL k0<0:=by omega
 have C3:=Sg e.log lo hi (e.kL k0) w2 (HM.out _ N).log hl.log.len hb1.2.2.1 (by have:=hb1.2.2.2.2.2.1;unfold qb.kT at this;omega);clear hb E1;go_wp2_with (first | (guard_target=qp 18;refine qH 55 17 w.heap.size 138 (e.log.cells) p2 underlying55 (yT _) ?_) | fail);refine C3.mono ?_;clear C3 p0 p1 p2 p3 p4;rintro r w3 ⟨rfl,hb⟩;replace N:=qf N hb;obtain ⟨p0,p1,p2,p3,p4,_,_⟩:=HE.out _ N;have E1:Hid (e.kL k0+(e.log.count:Int)=e.kT k0):=rfl;rw [E1.out];have n3:¬ e.kT k0<0:=by omega
 have C4:=Uw e.aT e.cT (e.kT k0) e.txs.length w3 (HM.out _ N).txs.reads hb1.2.2.2.2.1 (by have:=hb1.2.2.2.2.2.2.2.1;unfold qb.kH at this;omega);clear hb E1;go_wp2_with fail;refine C4.mono ?_;clear C4;rintro r w4 ⟨rfl,rfl⟩;have E1:Hid (e.kT k0+3*(e.txs.length:Int)=e.kH k0):=rfl;rw [E1.out];have n4:¬ e.kH k0<0:=by omega
 have C5:=rC e.aH e.cH (e.kH k0) e.holds.length w4 (HM.out _ N).holds.reads hb1.2.2.2.2.2.2.1 (by unfold qb.kE at hk;omega);clear E1;go_wp2_with fail;refine C5.mono ?_;clear C5;rintro r w5 ⟨rfl,rfl⟩;have E1:Hid (e.kH k0+2*(e.holds.length:Int)=e.kE k0):=rfl;rw [E1.out];have n5:¬ e.kE k0<0:=by omega
 have jr:Hid (qa w w5):=qf hbW N;go_wp2;go_ret;exact ⟨rfl,jr.out⟩
theorem j6 {e:qb} (h:e.shape):(prog.info? 59).map (·.size)=some e.cells.length:=by rw [qb.yc h];exact Tryz.gW
theorem QD (e:qb):∀ v∈e.cells,v.oneCell'=true:=by
 intro v hv;simp only [qb.cells,qaa] at hv;rcases hv with hv | hv
 ·obtain ⟨p,_,hp⟩:=qag.1 hv;exact uM p v hp
 ·simp only [qb.tail,qcv,qdu,qfL] at hv;rcases hv with rfl | rfl | rfl | rfl | rfl | rfl | rfl | rfl<;>rfl
theorem zT:zeroE.shape:=⟨rfl,fun p hp=>by
 simp only [zeroE,qcv,qdu,qfL] at hp;have:p=jh:=by rcases hp with h | h | h | h | h | h | h | h<;>exact h
 rw [this];rfl⟩
theorem zq {w:World} {C:Nat} {q old:qb} (hq:q.shape) (ho:old.shape) (bC:Box w C old.cells TE):
  ∃ WF,Hid (w.setCells C 0 q.cells.toArray.toList=WF)∧Within C (C+1) w WF∧WF.heap.size=w.heap.size∧Hid (w.there C 0 q.cells.toArray.size)∧Box WF C q.cells TE:=by
 obtain ⟨WF,qK,bF,hwF,q8⟩:=jE [] old.cells q.cells [] (by simpa using bC) (by rw [qb.yc hq,qb.yc ho]);refine ⟨WF,qK,hwF,q8,bC.there 0 _ (by rw [qcY,qb.yc hq,qb.yc ho];omega),by simpa using bF⟩
theorem Xf {w:World} {C:Nat} {q:qb} (hq:q.shape) (b:Box w C q.cells TE):(loadVar 59 ⟨C,0,none⟩).run prog w=.ok (.agg q.cells.toArray) w:=
 qeI (P:=prog) w C 0 59 q.cells _ (qN b) underlying59 rfl (j6 hq)
section
attribute [local go_sem ↓] Go.wp_at_zero Go.wp_at_succ
theorem oM {ts:List qj} (h:ts.length=4):∃ a b c d,ts=[a,b,c,d]:=by
 match ts,h with
 | [a,b,c,d],_=>exact ⟨a,b,c,d,rfl⟩
def kY (ss:List q9) (h:Nat) (new:q9):List q9 × Nat × q9 × Bool:=
 if ss.length<3 then (ss++[new],h,qy,false) else ((qW 4 ss h).1.set (qW 4 ss h).2.2 new,(qW 4 ss h).2.1,(qW 4 ss h).1.getD (qW 4 ss h).2.2 qy,true)
structure Vu (lo B o:Nat) (vs:List Value) (t:TypeId) (a:Option Addr) (c:Nat) (ss:List qh) (w w':World) (ts:List qh) (a':Option Addr) (c' hand':Nat) (old:qh):Prop where
 pool:Ky w' lo w'.heap.size B o ((vs.set o (.slice a' ts.length c')).set (o+1) (.int .i64 hand')) t a' c' ts hand'
 fresh:∀ k∈qF a' c' ts,k∈qF a c ss∨w.heap.size≤k
 touch:Touch (B::qF a c ss) w w'
 went:old.own w' lo w'.heap.size
 wentB:∀ k∈old.blocks,k∈qF a c ss
def qbS (lo B o:Nat) (vs:List Value) (t:TypeId) (a:Option Addr) (c:Nat) (ss:List qh) (h:Nat) (new:q9) (w:World) (r:Ending) (w':World):Prop:=
 ∃ (ts:List qh) (a':Option Addr) (c' hand':Nat) (old:qh) (went:Bool),r=.returned (.tuple #[.agg old.cells.toArray,.bool went])∧Hid (kY (ss.map qh.v) h new=(ts.map qh.v,hand',old.v,went))∧Vu lo B o vs t a c ss w w' ts a' c' hand' old
theorem Ky.below {w w':World} {lo hi B o:Nat} {vs:List Value} {t:TypeId} {a:Option Addr} {c:Nat} {ss:List qh} {hand:Int} (h:Ky w lo hi B o vs t a c ss hand) (hb:qa w w'):Ky w' lo hi B o vs t a c ss hand:=
 ⟨h.box.below hb h.box.lt,h.c0,h.c1,h.own.below hb,h.off⟩
theorem Oj (w:World) (lo hi:Nat) (h:hi≤w.heap.size):qw.own w lo hi:=⟨J3 w lo hi h,J3 w lo hi h,fun k h1 _=>by cases h1⟩
theorem rD:qi.blocks=[]:=rfl
theorem oN (w:World) (lo hi:Nat) (h:hi≤w.heap.size):qi.own w lo hi:=⟨fun s hs=>by
 simp only [qh.ss,qi,qcv,qdu,qfL] at hs;have:s=qw:=by rcases hs with h | h | h | h<;>exact h
 subst this;exact Oj w lo hi h,by show ([]:List Nat).Nodup;simp⟩
theorem oO {vs:List Value} {o:Nat} {x y:Value} (h:vs[o+1]? =some y):(vs.set o x).set (o+1) y=vs.set o x:=by
 have h1:(vs.set o x)[o+1]? =some y:=by rw [qf4 (by omega)];exact h
 obtain ⟨_,h2⟩:=qcL.1 h1;rw [← h2,List.set_getElem_self]
theorem CQ {P:Prop} (h:P:=by
 clear hK K;try simp only [zz]
 refine jc 7 (fun K hK=>?_);refine YQ rfl (.tmp 25) (.tmp 27) rfl lo hi a c ss rfl p5.own W4.heap.size 0 1 q rfl r5 W.heap.size w2.heap.size UD (by omega) (by omega) (by omega) hlo ?_;intro a9 c9 w9 o9 g9 f9;obtain ⟨ys,hys⟩:=qV (ss++[q]);have Zt:Hid (∀ k∈qF a9 c9 (ss++[q]),k∈qF a c ss∨W.heap.size≤k):=fun k hk=>by
  simp only [qF,qaa,qad,qcy,qaY,qdH,qcZ] at hk ⊢;rcases hk with hk | hk | hk
  ·rcases f9 k hk with h | h
   ·exact .inl (.inl h)
   ·exact .inr (by have:=ND.size;omega)
  ·exact .inl (.inr hk)
  ·exact .inr (by have:=(UD.qC k hk).1;omega)
 rw [hys.out] at o9 Zt ⊢;have t9:Touch (qF a c ss) W5 w9:=Touch.jO g9 (fun k hk=>qaa.2 (.inl (qad.2 hk)));have K5:∀ k∈qF a c ss,k<w.heap.size:=fun k hk=>by have:=(p5.own.qC k hk).2;omega
 have k9:=p5.box.touch t9 p5.off;have Hd:=X0.touch t9 (fun hk=>by have:=K5 _ hk;omega);have Un:=t9.size;have qlY:w2.heap.size∉qF a c ss:=fun hk=>by have:=K5 _ hk;omega
 have r49:w9.rangeAt w2.heap.size 0 q.cells:=JW r45 (t9.block _ (by omega) qlY);have T9:Touch (B::qF a c ss) w w9:=(Touch.of_below N5).trans (t9.mono (fun k hk=>qcO _ hk));refine qX hK (⟨r49,trivial⟩) fun qc=>?_
 clear hK K g9 f9;try simp only [zz]
 refine jg 8 ?_;refine jg 9 ?_;have m0:=k9.cell o _ p4.c0;have Kl:=k9.frozen o;obtain ⟨WF,qK,kF,hwF,q8⟩:=jZ k9 o (.slice a9 ys.length c9);have Gb:=qcF q8;have ZU:=qcF q8.symm;clear q8;have tF:Touch [B] w9 WF:=⟨hwF.os,hwF.tape,hwF.output,hwF.size,fun j hj hn=>hwF.block j hj (fun hh=>hn (by simp;omega))⟩;have hBw:B<w.heap.size:=by have:=p4.box.lt;exact hBlt
 have hBy:B∉qF a9 c9 ys:=fun hk=>(Zt.out B hk).elim p4.off (fun h=>by omega)
 have oF:=o9.touch tF (fun k hk hk'=>hBy (by rw [← qac.1 hk'];exact hk));have JA:=Hd.touch tF (by simp;omega);have r4F:WF.rangeAt w2.heap.size 0 q.cells:=JW r49 (tF.block _ (by omega) (by simp;omega));have TF:Touch (B::qF a c ss) w WF:=T9.trans (tF.mono (by simp));refine jc 10 (fun K hK=>?_);go_simp;rw [qK.out];refine qX hK (⟨r4F,trivial⟩) fun qc=>?_
 clear hK K;try simp only [zz]
 refine qau (by kernel_rfl) ?_ _;clear m0 Kl qK;obtain ⟨WG,hWG,WB,CR,HTG,ME,bG⟩:=yx qi _ rfl JA;have qlZ:=qcF CR;have ql0:=qcF CR.symm;clear CR;have oP:Hid (WF.setCells (w.heap.size+1) 0 qi.cells.toArray.toList=WG):=hWG.out;have tG:Touch [w.heap.size+1] WF WG:=⟨WB.os,WB.tape,WB.output,WB.size,fun j hj hn=>WB.block j hj (fun hh=>hn (by simp;omega))⟩;have hn1:w.heap.size+1∉qF a9 c9 ys:=fun hk=>(Zt.out _ hk).elim (fun h=>by have:=K5 _ h;omega) (fun h=>by omega)
 have kG:=kF.touch tG (by simp;omega);have oG:=(oF.touch tG (fun k hk hk'=>hn1 (by rw [← qac.1 hk'];exact hk))).widen qg (show w9.heap.size≤WG.heap.size by omega) qg;have TG:Touch (B::qF a c ss) w WG:=⟨tG.os.trans TF.os,tG.tape.trans TF.tape,tG.output.trans TF.output,qcx TF.size tG.size,fun j hj hn=>(tG.block j (by have:=TF.size;omega) (by simp;omega)).trans (TF.block j hj hn)⟩;have jr:Hid (kY (ss.map qh.v) h ⟨no,pg.lsn,pg.ss.map (·.v),false,true⟩=(ys.map qh.v,h,qi.v,false)):=by
  rw [Hid,kY,qan (by rw [qa4];exact hlt),← hys.out,qdd,← KV.out];rfl
 have XJ:Hid (Vu lo B o vs t a c ss w WG ys a9 c9 h qi):=by
  refine ⟨⟨?_,?_,?_,oG,hBy⟩,fun k hk=>(Zt.out k hk).imp id (fun h=>by omega),TG,oN _ _ _ qg,fun k hk=>by simp [rD] at hk⟩
  ·rw [oO p4.c1];exact kG
  ·rw [qf4 (by omega),qfi (qcL.1 p4.c0).1]
  ·rw [qfi (by rw [qcP];exact (qcL.1 p4.c1).1)]
 have oQ:WF.there (w.heap.size+1) 0 qi.cells.toArray.size:=HTG.out;have PZ:(prog.info? 121).map (·.size)=some qi.cells.toArray.size:=xD qi;have mM:=yh qi;clear kG oG TG kF oF JA TF tG tF;obtain ⟨Zs,hZs⟩:=qV qi;rw [hZs.out] at oQ PZ mM oP ME XJ jr;go_wp2_with (first | (guard_target=qp 31;refine Kn ?_;rw [hZs.out]) | (guard_target=ja 6;refine jb 121 6 31 (w.heap.size+1) 0 Zs.cells.toArray oQ PZ mM ?_;rw [oP.out]) | fail);exact qa3 (v:=.tuple #[.agg Zs.cells.toArray,.bool false]) (wH results114 rfl ME.out rfl) rfl ⟨ys,a9,c9,h,Zs,false,rfl,jr,XJ.out⟩):P:=h
theorem pE (lo hi B o:Nat) (vs:List Value) (t:TypeId) (a:Option Addr) (c:Nat) (ss:List qh) (h:Nat) (no:Int) (pg:qA) (w:World) (hp:Ky w lo hi B o vs t a c ss h) (hlo:lo≤hi) (h3:ss.length≤3) (hh:h<3) (h4:pg.ss.length=4) (hr:jS w pg.ss) (hl:Fit pg.ss):
  Calls prog 114 #[.pointer (some ⟨B,o,none⟩),.int .i64 no,.agg pg.cells.toArray] w fun r w'=>qbS lo B o vs t a c ss h ⟨no,pg.lsn,pg.ss.map (·.v),false,true⟩ w r w':=by
 obtain ⟨W,hW,b0,b1,hbW,qD⟩:=jK w pg.cells qi.cells 48 121;have KY:Hid ((prog.info? 48).map (·.size)=some pg.cells.length):=by rw [Hid,jJ pg h4];kernel_rfl
 have jY:Hid (W.rangeAt w.heap.size 0 pg.cells):=qN b0;have hws:w.heap.size+1<W.heap.size:=by omega
 have hW':Hid ((w.alloc (.cells pg.cells.toArray 48)).alloc (.cells #[.int .i64 0,.int .i64 0,.bool false,.int .i64 0,.slice none 0 0,.slice none 0 0,.bool false,.int .i64 0,.slice none 0 0,.slice none 0 0,.bool false,.int .i64 0,.slice none 0 0,.slice none 0 0,.bool false,.int .i64 0,.slice none 0 0,.slice none 0 0,.bool false,.bool false] 121)=W):=hW.out;have htop:=hp.own.top;have hBlt:=hp.box.lt;clear qD hW b0;go_enter func114,ntmps114;go_upto_region 1 with fail;rw [hW'.out];clear hW';go_wp2_with (first | (guard_target=qp 12;refine qH 48 5 w.heap.size 0 pg.cells jY.out underlying48 KY.out ?_) | fail);refine (Ye pg h4 W (hr.below hbW) hl).mono ?_;rintro e w2 ⟨ts,rfl,hts,ho2,hb2⟩;obtain ⟨x0,x1,x2,x3,rfl⟩:=oM (ts:=ts) (by have:=qcz List.length hts.out;simpa [h4] using this);obtain ⟨q,hq⟩:∃ q:qh,Hid ((⟨no,pg.lsn,x0,x1,x2,x3,false,true⟩:qh)=q):=⟨_,rfl⟩;have KV:Hid (q.v=⟨no,pg.lsn,pg.ss.map (·.v),false,true⟩):=by rw [Hid,← hq.out,← hts.out];rfl
 have oq2:q.own w2 W.heap.size w2.heap.size:=by rw [← hq.out];exact ho2
 have hs2:=hb2.size;obtain ⟨W3,hW3,b3,hb3,hs3⟩:=qB w2 qi.cells 121;obtain ⟨W4,wL,hw4,hs4,Cn,_,b4⟩:=yx q _ rfl b3;have HO4:=yh q;have HI:Hid ((prog.info? 121).map (·.size)=some q.cells.length):=xD q;have N34:qa w2 W4:=hb3.trans (hw4.below qg (by omega));have Ph:Hid (w2.alloc (.cells #[.int .i64 0,.int .i64 0,.bool false,.int .i64 0,.slice none 0 0,.slice none 0 0,.bool false,.int .i64 0,.slice none 0 0,.slice none 0 0,.bool false,.int .i64 0,.slice none 0 0,.slice none 0 0,.bool false,.int .i64 0,.slice none 0 0,.slice none 0 0,.bool false,.bool false] 121)=W3):=hW3.out;have Pj:Hid (W3.setCells w2.heap.size 0 q.cells.toArray.toList=W4):=wL.out;have N2:=qf hbW hb2;have N4:=qf N2 N34;have b6:Box W4 (w.heap.size+1) qi.cells 121:=(b1.below hb2 b1.lt).below N34 (by omega);have Dw:=oq2.below N34;have p4:=hp.below N4;have hz4:=b4.lt;clear hW3 wL hs3 hs4 hw4 hb3 b3 ho2 hts b1 oq2 hp;go_upto_region 2 with (first | (guard_target=qp 14;refine Ha (.tmp 11) (.tmp 13) no pg.lsn x0 x1 x2 x3 rfl rfl ?_;rw [hq.out]) | (guard_target=ja 8;refine jb 121 8 14 w2.heap.size 0 q.cells.toArray (by rw [Ph.out];exact Cn.out) HI.out HO4 ?_;rw [Ph.out,Pj.out]) | fail);clear hq Ph Pj Cn;have y0:=p4.box.cell o _ p4.c0;by_cases hlt:ss.length<3
 ·have K5:(ss.length:Int)<3:=by omega
  go_upto_region 3 with fail;clear y0;have d4:Box W4.drew B vs t:=p4.box.drewN 1;have e4:Box W4.drew w2.heap.size q.cells 121:=b4.drewN 1;have y0:=d4.cell o _ p4.c0;have r4:W4.drew.rangeAt w2.heap.size 0 q.cells:=qN e4;refine qaZ (S:=fun w'=>w'.rangeAt w2.heap.size 0 q.cells∧True) (by kernel_rfl) ?_ (fun qc=>?_)
  ·exact ⟨r4,trivial⟩
  iterate 4 refine jv ?_
  refine xB 5 q.cells (fun _ h=>h.1) underlying121 HI.out ?_;refine qde (rs:=[4,6]) (by kernel_rfl) (by simp) ?_;refine qcE rfl (fun K hK=>?_) (qcE rfl (fun K hK=>?_) qc9)
  ·go_simp;refine qX hK qc fun qc=>?_
   clear hK K;try simp only [zz]
   refine jc 6 (fun K hK=>?_);go_simp;simp only [yn,Xe,qeV,qfF,or_self,qf7];go_simp;obtain ⟨V5,WC,Zk,hb5,hs5⟩:=qB W4 q.cells 121;rw [WC.out];obtain ⟨W5,zS⟩:=qV V5.drew;rw [zS.out];have b5:Box W5 W4.heap.size q.cells 121:=by rw [← zS.out];exact Zk.drewN 1
   have ND:qa W4 W5:=by rw [← zS.out];exact hb5.drew
   have p5:=p4.below ND;have UD:=Dw.below ND;have X0:=b6.below ND b6.lt;have MF:=b4.below ND b4.lt;have r5:W5.rangeAt W4.heap.size 0 q.cells:=qN b5;have r45:W5.rangeAt w2.heap.size 0 q.cells:=qN MF;have N5:=qf N4 ND;have ql1:=ND.size;clear hs5 hb5 zS WC b5 Zk MF;refine qX hK (⟨r45,trivial⟩) fun qc=>?_
   exact CQ
  ·go_simp;simp only [yn,Xe,qeV,qfF,or_self,qf7];go_simp;obtain ⟨V5,WC,Zk,hb5,hs5⟩:=qB W4 q.cells 121;rw [WC.out];obtain ⟨W5,zS⟩:=qV V5.drew;rw [zS.out];have b5:Box W5 W4.heap.size q.cells 121:=by rw [← zS.out];exact Zk.drewN 1
   have ND:qa W4 W5:=by rw [← zS.out];exact hb5.drew
   have p5:=p4.below ND;have UD:=Dw.below ND;have X0:=b6.below ND b6.lt;have MF:=b4.below ND b4.lt;have r5:W5.rangeAt W4.heap.size 0 q.cells:=qN b5;have r45:W5.rangeAt w2.heap.size 0 q.cells:=qN MF;have N5:=qf N4 ND;have ql1:=ND.size;clear hs5 hb5 zS WC b5 Zk MF;refine qX hK (⟨r45,trivial⟩) fun qc=>?_
   clear hK K;try simp only [zz]
   clear y0;have y0:=p5.box.cell o _ p4.c0;refine jc 4 (fun K hK=>?_);go_simp;refine qX hK qc fun qc=>?_
   exact CQ
 ·have h33:ss.length=3:=by omega
  have C:=Cy lo hi B o vs t a c ss h W4 p4 h33 hh;have hge:¬ (ss.length:Int)<3:=by omega
  clear h33;go_wp2_with fail;refine C.mono ?_;clear C y0;rintro e w5 ⟨us,k,hand',rfl,qbT,hul,p5,hbl,t5⟩;have HN4:Hid (∀ j,W4.heap.size≤j→j∉qF a c us):=fun j hj hk=>by have:=(p5.own.qC j hk).2;have:=N4.size;omega
  have K5:∀ j∈qF a c us,j<w.heap.size:=fun j hk=>by have:=(p5.own.qC j hk).2;omega
  have hk3:k<3:=by have h:=(JF 4 (ss.map qh.v) h hh).2;rw [qbT.out] at h;exact h
  obtain ⟨g,rfl⟩:∃ g,a=some ⟨g,0,none⟩:=by
   rcases p5.own.row.2 with ⟨_,h0⟩ | ⟨g,cap',cur,hv,_⟩
   ·omega
   ·simp only [qcK] at hv;exact ⟨g,hv.1⟩
  have hmem:g∈qF (some ⟨g,0,none⟩) c us:=by simp [qF,Value.ownBlock]
  have hgB:B≠g:=fun e=>p5.off (e▸hmem)
  have hgw:=K5 g hmem;have r5:=(zm p5.own.row rfl k (by omega)).1;have X0:=b6.touch t5 (by rw [← hbl.out];exact xL (by omega) (fun hk=>by have:=K5 _ hk;omega));have MF:=b4.touch t5 (by rw [← hbl.out];exact xL (by omega) (fun hk=>by have:=K5 _ hk;have:=N2.size;omega));have UD:=Dw.touch t5 (fun j hj hk=>by have hj1:=(Dw.qC j hj).1;rcases qcv.1 hk with rfl | hk;omega;rw [← hbl.out] at hk;have:=K5 _ hk;omega);have dS:=p5.own.each (us.getD k qi) (xE us k (by omega));have HOV:Hid (us.map qh.v=(qW 4 (ss.map qh.v) h).1∧hand'=(qW 4 (ss.map qh.v) h).2.1∧k=(qW 4 (ss.map qh.v) h).2.2):=by rw [Hid,qbT.out];exact ⟨rfl,rfl,rfl⟩
  obtain ⟨old,hold⟩:=qV (us.getD k qi);rw [hold.out] at r5 dS;have T5:Touch (B::qF (some ⟨g,0,none⟩) c ss) w w5:=(Touch.of_below N4).trans t5;have hs5:=t5.size;have z5:=p5.box.cell o _ p5.c0;obtain ⟨W6,KA,b10,hb6,hs6⟩:=qB w5 qi.cells 121;obtain ⟨W7,J9,hw7,hs7,P5,_,b7⟩:=yx old _ rfl b10;have Pk:Hid (w5.alloc (.cells #[.int .i64 0,.int .i64 0,.bool false,.int .i64 0,.slice none 0 0,.slice none 0 0,.bool false,.int .i64 0,.slice none 0 0,.slice none 0 0,.bool false,.int .i64 0,.slice none 0 0,.slice none 0 0,.bool false,.int .i64 0,.slice none 0 0,.slice none 0 0,.bool false,.bool false] 121)=W6):=KA.out;have qfG:Hid (W6.setCells w5.heap.size 0 old.cells.toArray.toList=W7):=J9.out;have KW:qa w5 W7:=hb6.trans (hw7.below qg (by omega));have HO7:=yh old;have HI7:Hid ((prog.info? 121).map (·.size)=some old.cells.length):=xD old;have p7:=p5.below KW;have mO:=X0.below KW X0.lt;have b47:=MF.below KW MF.lt;have Bh:=UD.below KW;have qcR:=dS.below KW;have T7:=T5.trans (Touch.of_below KW);have qbU:=KW.size;have qo0:=b7.lt;have hkb:(k:Int)<(us.length:Int):=by omega
  have hk0:(0:Int)≤(k:Int):=by omega
  have qo1:us.length≤3:=by omega
  have qo2:3≤us.length:=by omega
  clear KA J9 hs6 hs7 hw7 hb6 b10 hul p4 p5 b6 b4 Dw X0 MF UD dS T5 t5 KW qbT;go_upto_region 7 with (first | (guard_target=qp 40;refine qH 121 39 g (k*20) old.cells r5 underlying121 HI7.out ?_) | (guard_target=ja 10;refine jb 121 10 40 w5.heap.size 0 old.cells.toArray (by rw [Pk.out];exact P5.out) HI7.out HO7 ?_;rw [Pk.out,qfG.out]) | fail);simp only [Act.put];clear r5 z5 Pk qfG P5 HO7;have ND:qa W7 W7.drew:=(qab _ _).drew;have p8:=p7.below ND;have b68:=mO.below ND mO.lt;have b48:=b47.below ND b47.lt;have Ol:=b7.below ND b7.lt;have WE:=Bh.below ND;have sM:=qcR.below ND;have T8:=T7.trans (Touch.of_below ND);have qfJ:=ND.size;clear p7 mO b47 b7 Bh qcR T7;have hkl:(us.take k).length=k:=by rw [qdm];omega
  obtain ⟨WF,qK,oF,tF,q8⟩:=OwnSts.fill (A:=us.take k) (z:=us.getD k qi) (B:=us.drop (k+1)) (by rw [← zu us k (by omega)];exact p8.own) q WE (by omega) hlo (by omega);rw [hkl] at qK;rw [← Qa us k q (by omega)] at oF;have Gb:=qcF q8;have ZU:=qcF q8.symm;clear q8 hkl;have hgn:g<w.heap.size:=hgw;have Qw:Hid (W7.drew.setCells g (k*20) q.cells.toArray.toList=WF):=qK.out;have Y8:Hid (W7.drew.there g (k*20) q.cells.toArray.size):=(zm p8.own.row rfl k (by omega)).2;have S8:W7.drew.cell? ⟨B,o,none⟩=some (.slice (some ⟨g,0,none⟩) us.length c):=p8.box.cell o _ p8.c0;have R8:W7.drew.rangeAt w2.heap.size 0 q.cells:=qN b48;have bBF:=p8.box.touch tF (by simpa using hgB);have SF:WF.cell? ⟨B,o,none⟩=some (.slice (some ⟨g,0,none⟩) us.length c):=bBF.cell o _ p8.c0;have b4F:=b48.touch tF (by simp;have:=N2.size;omega);have RF:WF.rangeAt w2.heap.size 0 q.cells:=qN b4F;have JA:=b68.touch tF (by simp;omega);have Ir:=Ol.touch tF (by simp;omega);have TF:Touch (B::qF (some ⟨g,0,none⟩) c ss) w WF:=T8.trans (tF.mono (fun j hj=>qcO _ (by rw [← hbl.out,qac.1 hj];exact hmem)));have U8:g∉old.blocks:=fun hk=>uw p8.own.row sM g rfl hk
  have Zt:Hid (∀ j∈qF (some ⟨g,0,none⟩) c (us.set k q),j∈qF (some ⟨g,0,none⟩) c ss∨W.heap.size≤j):=fun j hj=>by
   simp only [qF,qaa,qad,qcP] at hj;rcases hj with hj | hj
   ·exact .inl (by rw [← hbl.out];exact qaa.2 (.inl (qad.2 hj)))
   ·obtain ⟨r,hr,hj2⟩:=qag.1 hj;rcases qcV hr with hr | rfl
    ·exact .inl (by rw [← hbl.out];exact qaa.2 (.inr (qag.2 ⟨r,hr,hj2⟩)))
    ·exact .inr (WE.qC j hj2).1
  refine qaZ (S:=fun w'=>w'.cell? ⟨B,o,none⟩=some (.slice (some ⟨g,0,none⟩) us.length c)∧w'.rangeAt w2.heap.size 0 q.cells) (by kernel_rfl) ?_ (fun qc=>?_)
  ·exact ⟨S8,R8⟩
  iterate 5 refine jv ?_
  refine xB 5 q.cells (fun _ h=>h.2) underlying121 HI.out ?_;refine jg 6 ?_;refine jc 7 (fun K hK=>?_);rw [qan (by rfl)];refine qc7 121 (.tmp 47) (.tmp 46) rfl g (k*20) q.cells.toArray rfl rfl Y8.out HI.out (yh q) ?_;rw [Qw.out];refine qX hK (⟨SF,RF⟩) fun qc=>?_
  clear hK K;try simp only [Act.put,zA,zB,zC]
  refine qau (by kernel_rfl) ?_ _;clear Qw Y8 S8 R8 SF RF qc;obtain ⟨WG,hWG,WB,CR,HTG,ME,bG⟩:=yx old _ rfl JA;have qlZ:=qcF CR;have ql0:=qcF CR.symm;clear CR;have oP:Hid (WF.setCells (w.heap.size+1) 0 old.cells.toArray.toList=WG):=hWG.out;have tG:Touch [w.heap.size+1] WF WG:=⟨WB.os,WB.tape,WB.output,WB.size,fun j hj hn=>WB.block j hj (fun hh=>hn (by simp;omega))⟩;have hBy:B∉qF (some ⟨g,0,none⟩) c (us.set k q):=fun hk=>(Zt.out B hk).elim (fun h=>p8.off (by rw [hbl.out];exact h)) (fun h=>by omega)
  have hn1:w.heap.size+1∉qF (some ⟨g,0,none⟩) c (us.set k q):=fun hk=>(Zt.out _ hk).elim (fun h=>by rw [← hbl.out] at h;have:=K5 _ h;omega) (fun h=>by omega)
  have kG:=bBF.touch tG (by simp;omega);have oG:=(oF.touch tG (fun j hk hk'=>hn1 (by rw [← qac.1 hk'];exact hk))).widen qg (show max hi w2.heap.size≤WG.heap.size by omega) qg;have TG:Touch (B::qF (some ⟨g,0,none⟩) c ss) w WG:=⟨tG.os.trans TF.os,tG.tape.trans TF.tape,tG.output.trans TF.output,qcx TF.size tG.size,fun j hj hn=>(tG.block j (by have:=TF.size;omega) (by simp;omega)).trans (TF.block j hj hn)⟩;have qh4:∀ j∈old.blocks,j∉[w.heap.size+1]:=fun j hj hk=>by have h1:=(sM.qC j hj).2;have h2:=qac.1 hk;omega
  have oG2:=((sM.touch tF (fun j hj hk=>U8 (by rw [← qac.1 hk];exact hj))).touch tG qh4).widen (qcN lo) (show hi≤WG.heap.size by omega) qg;have hoB:∀ j∈old.blocks,j∈qF (some ⟨g,0,none⟩) c ss:=fun j hj=>by rw [← hbl.out];exact qaa.2 (.inr (qag.2 ⟨old,by rw [← hold.out];exact xE us k (by omega),hj⟩))
  have jr:Hid (kY (ss.map qh.v) h ⟨no,pg.lsn,pg.ss.map (·.v),false,true⟩=((us.set k q).map qh.v,hand',old.v,true)):=by
   obtain ⟨e1,e2,e3⟩:=HOV.out;rw [Hid,kY,qa2 (by rw [qa4];exact hlt),← e1,← e2,← e3,kM,hold.out,qeW,KV.out]
  have XJ:Hid (Vu lo B o vs t (some ⟨g,0,none⟩) c ss w WG (us.set k q) (some ⟨g,0,none⟩) c hand' old):=by
   refine ⟨⟨?_,?_,?_,oG,hBy⟩,fun j hk=>(Zt.out j hk).imp id (fun h=>by omega),TG,oG2,hoB⟩
   ·have e:vs.set o (.slice (some ⟨g,0,none⟩) (us.set k q).length c)=vs:=by
     have hc:=p8.c0;rw [qf4 (by omega)] at hc;obtain ⟨_,h2⟩:=qcL.1 hc;rw [qcP,← h2,List.set_getElem_self]
    rw [e];exact kG
   ·have hc:=p8.c0;rw [qf4 (by omega)] at hc ⊢;rw [qfi (qcL.1 hc).1]
   ·have hc:=(qcL.1 p8.c1).1;rw [qcP] at hc;rw [qfi (by rw [qcP];exact hc)]
  have oQ:WF.there (w.heap.size+1) 0 old.cells.toArray.size:=HTG.out;have mM:=yh old;have rL:WF.rangeAt w5.heap.size 0 old.cells:=qN Ir;clear kG oG TG bBF oF JA b4F Ir TF tG tF T8 p8 WE sM b68 b48 Ol;go_wp2_with (first | (guard_target=qp 48;refine qH 121 10 w5.heap.size 0 old.cells rL underlying121 HI7.out ?_) | (guard_target=ja 6;refine jb 121 6 48 (w.heap.size+1) 0 old.cells.toArray oQ HI7.out mM ?_;rw [oP.out]) | fail);exact qa3 (v:=.tuple #[.agg old.cells.toArray,.bool true]) (wH results114 rfl ME.out rfl) rfl ⟨us.set k q,some ⟨g,0,none⟩,c,hand',old,true,rfl,jr,XJ.out⟩
end
theorem Sr (ss:List q9):∀ (no:Int) (b k:Nat),k<ss.length→(ss.getD k qy).no=no→(∀ j,j<k→(ss.getD j qy).no≠no)→kN no ss b=((b+k:Nat):Int):=by
 induction ss with
 | nil=>intro no b k h;simp at h
 | cons s r ih=>
  intro no b k hk he hn;rw [kN];cases k with
  | zero=>simp only [qfp] at he;rw [qan he];simp
  | succ k=>
   have h0:=hn 0 (by omega);simp only [qfp] at h0;simp only [List.getD_cons_succ] at he;rw [qa2 h0,ih no (b+1) k (by simpa using hk) he (fun j hj=>by have:=hn (j+1) (by omega);simpa using this)];omega
theorem rG (ss:List q9):∀ (no:Int) (b:Nat),(∀ j,j<ss.length→(ss.getD j qy).no≠no)→kN no ss b= -1:=by
 induction ss with
 | nil=>intro no b _;rfl
 | cons s r ih=>
  intro no b hn;have h0:=hn 0 (by simp);simp only [qfp] at h0;rw [kN,qa2 h0,ih no (b+1) (fun j hj=>by have:=hn (j+1) (by simpa using hj);simpa using this)]
theorem Zu {ss:List q9} {no:Int} {k:Nat} (hk:k<ss.length) (he:(ss.getD k qy).no=no) (hn:∀ j,j<k→(ss.getD j qy).no≠no):qG ss no=k:=by
 have:=Sr ss no 0 k hk he hn
 simpa [qG] using this
theorem pF {ss:List q9} {no:Int} (hn:∀ j,j<ss.length→(ss.getD j qy).no≠no):qG ss no= -1:=rG ss no 0 hn
theorem Qp (ss:List q9) (no:Int):(∃ k:Nat,k<ss.length∧(ss.getD k qy).no=no∧(∀ j,j<k→(ss.getD j qy).no≠no)∧qG ss no=k)∨((∀ j,j<ss.length→(ss.getD j qy).no≠no)∧qG ss no= -1):=by
 by_cases h:∃ k,k<ss.length∧(ss.getD k qy).no=no
 ·have hm:∃ k,(k<ss.length∧(ss.getD k qy).no=no)∧∀ j,j<k→¬ (j<ss.length∧(ss.getD j qy).no=no):=by
   obtain ⟨k,hk⟩:=h
   induction k using Nat.strongRecOn with
   | _ k ih=>
    by_cases h2:∃ j,j<k∧(j<ss.length∧(ss.getD j qy).no=no)
    ·obtain ⟨j,hj,hp⟩:=h2;exact ih j hj hp
    ·exact ⟨k,hk,fun j hj hp=>h2 ⟨j,hj,hp⟩⟩
  obtain ⟨k,⟨h1,h2⟩,h3⟩:=hm;have h4:∀ j,j<k→(ss.getD j qy).no≠no:=fun j hj e=>h3 j hj ⟨by omega,e⟩
  exact .inl ⟨k,h1,h2,h4,Zu h1 h2 h4⟩
 ·have h2:∀ j,j<ss.length→(ss.getD j qy).no≠no:=fun j hj e=>h ⟨j,hj,e⟩
  exact .inr ⟨h2,pF h2⟩
def yM (s:q9):Bool:=inB s.no 0 7 && xZ s.lsn s.ss
def yH (ss:List q9) (i:Nat):Bool:=yM (ss.getD i qy) && decide (qG ss (ss.getD i qy).no=i)
def okPool (p:jM):Bool:=decide (p.seats.length≤3) && (inB p.hand 0 2 && (List.range p.seats.length).all (yH p.seats))
theorem pG {p:jM} (h:¬ p.seats.length≤3):okPool p=false:=by simp [okPool,h]
theorem pJ {p:jM} (h:inB p.hand 0 2=false):okPool p=false:=by simp [okPool,h]
theorem WH {p:jM} (k:Nat) (hk:k<p.seats.length) (h:yH p.seats k=false):okPool p=false:=by
 have:(List.range p.seats.length).all (yH p.seats)=false:=by
  rw [qfw];exact ⟨k,qds.2 hk,by simp [h]⟩
 simp [okPool,this]
theorem KC {p:jM} (h1:p.seats.length≤3) (h2:inB p.hand 0 2=true) (h:∀ k,k<p.seats.length→yH p.seats k=true):okPool p=true:=by
 have:(List.range p.seats.length).all (yH p.seats)=true:=by
  rw [qdt];exact fun k hk=>h k (qds.1 hk)
 simp [okPool,this,h1,h2]
theorem uj {p:jM} (h:okPool p=true):p.seats.length≤3∧inB p.hand 0 2=true∧∀ k,k<p.seats.length→yH p.seats k=true:=by
 simp only [okPool,qam,qcB,qdt] at h;exact ⟨h.1,h.2.1,fun k hk=>h.2.2 k (qds.2 hk)⟩
theorem Om {ss:List q9} {i:Nat} (h:yM (ss.getD i qy)=false):yH ss i=false:=by simp only [yH,h,qgg]
theorem Dx {ss:List q9} {i k:Nat} (hk:k<i) (hi:i<ss.length) (he:(ss.getD k qy).no=(ss.getD i qy).no):yH ss i=false:=by
 have:qG ss (ss.getD i qy).no≠(i:Int):=by
  rcases Qp ss (ss.getD i qy).no with ⟨j,h1,h2,h3,h4⟩ | ⟨h1,_⟩
  ·rw [h4];intro e;have:j=i:=by omega
   subst this;exact h3 k hk he
  ·exact absurd rfl (h1 i hi)
 rw [yH,qa0 this,Bool.and_false]
theorem Zv {ss:List q9} {i:Nat} (hi:i<ss.length) (hb:yM (ss.getD i qy)=true) (h:∀ k,k<i→(ss.getD k qy).no≠(ss.getD i qy).no):yH ss i=true:=by
 have:=Zu hi rfl h;rw [yH,hb,qaC this];rfl
def yj (p:jM) (k:Nat) (f:q9→q9):jM:=⟨p.seats.set k (f (p.seats.getD k qy)),p.hand⟩
def JX (s:q9):q9:={ s with hot:=true }
def yP (p:jM) (no:Int):jM:=if 0≤qG p.seats no then yj p (qG p.seats no).toNat JX else p
def yI (p:jM) (no lsn:Int) (ss:List qO):Bool:=okPool p && (decide (0≤qG p.seats no) && (xZ lsn ss && decide ((p.seats.getD (qG p.seats no).toNat qy).lsn≤lsn)))
def yV (p:jM) (no lsn:Int) (ss:List qO):jM × Bool:=
 if yI p no lsn ss=true then (yj p (qG p.seats no).toNat (fun _=>⟨no,lsn,ss,true,true⟩),true) else (p,false)
def wB (p:jM):jM × Int:=
 if okPool p=true∧p.seats.length=3 then (⟨(qW 4 p.seats p.hand.toNat).1,(qW 4 p.seats p.hand.toNat).2.1⟩,(qW 4 p.seats p.hand.toNat).2.2) else (p,-1)
def xC (p:jM) (no lsn:Int) (ss:List qO):Bool:=okPool p && (inB no 0 7 && (xZ lsn ss && decide (qG p.seats no<0)))
def zb (p:jM) (no lsn:Int) (ss:List qO):jM × q9 × Bool:=
 if xC p no lsn ss=true then (⟨(kY p.seats p.hand.toNat ⟨no,lsn,ss,false,true⟩).1,(kY p.seats p.hand.toNat ⟨no,lsn,ss,false,true⟩).2.1⟩,(kY p.seats p.hand.toNat ⟨no,lsn,ss,false,true⟩).2.2.1,(kY p.seats p.hand.toNat ⟨no,lsn,ss,false,true⟩).2.2.2) else (p,qy,false)
def YR (tx:Int) (r:xS):Bool:=(r.tx == tx) && (r.kind != 6)
def wQ (tx:Int) (rs:List xS):Nat→List Int
 | 0=>[]
 | k+1=>(if YR tx (rs.getD k qE.v)=true then [(rs.getD k qE.v).lsn] else [])++wQ tx rs k
def chainOf (l:Xd) (tx:Int):List Int:=wQ tx l.recs l.recs.length
theorem Hw (rs:List ql) (k:Nat):(rs.map ql.v).getD k qE.v=(rs.getD k qE).v:=by
 simp only [List.getD,qdy];cases rs[k]? <;>rfl
theorem oZ (tx:Int) (rs:List ql) (k:Nat) (L R:List Int) (h:L++wQ tx (rs.map ql.v) (k+1)=R):
  (if YR tx (rs.getD k qE).v=true then L++[(rs.getD k qE).lsn] else L)++wQ tx (rs.map ql.v) k=R:=by
 rw [wQ,Hw] at h;by_cases hq:YR tx (rs.getD k qE).v=true
 ·rw [qan hq] at h ⊢;rw [← h,qcJ];rfl
 ·rw [qa2 hq] at h ⊢;rw [← h];rfl
theorem Su (w:World) (m:Int) (t:TypeId):xH (w.alloc (.cells #[.int .i64 m] t)) (some ⟨w.heap.size,0,none⟩) [m]:=by
 intro _;refine ⟨w.heap.size,0,rfl,fun i hi=>?_⟩;have hi0:i=0:=by simp at hi;omega
 subst hi0;exact (wF w [.int .i64 m] t).cell 0 _ rfl
theorem Q7 {n:Nat} {f:Nat→Bool} (k:Nat) (hk:k<n) (h:f k=false):(List.range n).all f=false:=by
 rw [qfw];exact ⟨k,qds.2 hk,by rw [h];decide⟩
theorem uP {n:Nat} {f:Nat→Bool} (h:∀ k,k<n→f k=true):(List.range n).all f=true:=by
 rw [qdt];exact fun k hk=>h k (qds.1 hk)
theorem Xx {n:Nat} {f:Nat→Bool} (h:(List.range n).all f=true) (k:Nat) (hk:k<n):f k=true:=by
 rw [qdt] at h;exact h k (qds.2 hk)
def Gm:Int × List qO:=(0,[])
def wW (e:qR) (i:Nat):Bool:=xZ (e.disk.getD i Gm).1 (e.disk.getD i Gm).2 && decide ((e.disk.getD i Gm).1≤e.log.sure)
def uJ (e:qR):Bool:=(List.range 8).all (wW e)
def wC (e:qR) (i:Nat):Bool:=decide ((e.seats.getD i qy).lsn≤(e.log.recs.length:Int)) && ((e.seats.getD i qy).dirty || wD ((e.seats.getD i qy).lsn,(e.seats.getD i qy).ss) (e.disk.getD (e.seats.getD i qy).no.toNat Gm))
def vI (e:qR):Bool:=(List.range e.seats.length).all (wC e)
def uV (e:qR) (i:Nat):Bool:=decide ((e.log.recs.getD i qE.v).tx<e.next)
def uK (e:qR):Bool:=(List.range e.log.recs.length).all (uV e)
def vJ (e:qR) (i:Nat):Bool:=inB (e.txs.getD i qz).tx 1 (e.next-1) && (!(e.txs.getD i qz).aborts && (decide ((e.txs.getD i qz).last=lastOf e.log.recs (e.txs.getD i qz).tx) && (decide (i=0) || decide ((e.txs.getD (i-1) qz).tx<(e.txs.getD i qz).tx))))
def Q8 (e:qR):Bool:=(List.range e.txs.length).all (vJ e)
def Vg (hs:List qU) (i:Nat):Bool:=(List.range i).all fun k=>decide ((hs.getD k jy).oid≠(hs.getD i jy).oid)
def zY (e:qR) (i:Nat):Bool:=inB (e.holds.getD i jy).oid 1 31 && (decide (0≤jC e.txs (e.holds.getD i jy).tx) && Vg e.holds i)
def wT (e:qR):Bool:=(List.range e.holds.length).all (zY e)
def Yh (e:qR):Bool:=decide (e.seats.length=0) && (decide (e.txs.length=0) && decide (e.holds.length=0))
def zQ (e:qR):Bool:=Q8 e && (wT e && decide (e.txs.length≤6))
def qR.j4 (e:qR):jM:=⟨e.seats,e.hand⟩
def jF (e:qR):Bool:=xJ e.log && (okPool e.j4 && (inB e.next 1 1001 && (zQ e && (uK e && (uJ e && (vI e && (!e.down || Yh e)))))))
theorem VU {e:qb} (h:e.shape) (i:Nat) (hi:i<8):e.v.disk.getD i Gm=((e.disk.getD i jh).lsn,(e.disk.getD i jh).ss.map (·.v)):=by
 have hi':i<e.disk.length:=by rw [h.eight];exact hi
 simp [qb.v,List.getD,hi']
theorem qbV {r:xS} (h:xx r=true) (hk:r.kind=6):r.tx=0:=by
 by_cases hz:r.tx=0
 ·exact hz
 ·exfalso;simp [xx,hk,kX,hz] at h
theorem o8 {l:Xd} (hl:xJ l=true) (tx:Int) (ht:1≤tx):∀ k,k≤l.recs.length→(wQ tx l.recs k).headD 0=vk tx l.recs k:=by
 obtain ⟨_,_,_,hall⟩:=L9 hl;intro k
 induction k with
 | zero=>intro _;rfl
 | succ k ih=>
  intro hk;obtain ⟨h1,h2⟩:=hall k (by omega);have e:l.recs.getD k qE.v=l.recs.getD k UX:=rfl;rw [wQ,vk,e];by_cases hx:(l.recs.getD k UX).tx=tx
  ·have Q6:(l.recs.getD k UX).kind≠6:=fun h6=>by have:=qbV h2 h6;omega
   have ho:YR tx (l.recs.getD k UX)=true:=by simp only [YR,qam,qfu,bne_iff_ne];exact ⟨hx,Q6⟩
   rw [qan ho,qan hx];exact h1
  ·have ho:¬ YR tx (l.recs.getD k UX)=true:=by simp only [YR,qam,qfu];exact fun h=>hx h.1
   rw [qa2 ho,qa2 hx,qfU];exact ih (by omega)
theorem Lc {l:Xd} (hl:xJ l=true) (tx:Int) (ht:1≤tx):(chainOf l tx).headD 0=lastOf l.recs tx:=o8 hl tx ht _ qg
theorem Aa {e:qR} {k:Nat} (hk:k<e.log.recs.length) (h:uV e k=false):jF e=false:=by
 have:uK e=false:=Q7 k hk h;simp [jF,this]
theorem Ab {e:qR} {k:Nat} (hk:k<8) (h:wW e k=false):jF e=false:=by
 have:uJ e=false:=Q7 k hk h;simp [jF,this]
theorem Ac {e:qR} {k:Nat} (hk:k<e.seats.length) (h:wC e k=false):jF e=false:=by
 have:vI e=false:=Q7 k hk h;simp [jF,this]
theorem Oo {e:qR} (h1:xJ e.log=true) (h2:okPool e.j4=true) (h3:inB e.next 1 1001=true) (h4:zQ e=true) (h5:∀ k,k<e.log.recs.length→uV e k=true) (h6:∀ k,k<8→wW e k=true) (h7:∀ k,k<e.seats.length→wC e k=true):jF e=(!e.down || Yh e):=by
 have a:uK e=true:=uP h5;have b:uJ e=true:=uP h6;have c:vI e=true:=uP h7;simp [jF,h1,h2,h3,h4,a,b,c]
theorem TA {e:qR} (h:okPool e.j4=true) (k:Nat) (hk:k<e.seats.length):∃ n:Nat,(e.seats.getD k qy).no=n∧n<8:=by
 obtain ⟨_,_,h3⟩:=uj h;have:=h3 k hk;simp only [yH,yM,qam] at this;have hb:=this.1.1;simp only [inB,qcB] at hb;exact ⟨(e.seats.getD k qy).no.toNat,(Int.toNat_of_nonneg hb.1).symm,by have h2:=hb.2;have h1:=hb.1;show (e.j4.seats.getD k qy).no.toNat<8;omega⟩
theorem Zw {w:World} {a:Option Addr} {ss:List qh} (h:xw w a ss) (k:Nat) (hk:k<ss.length):∃ b off,a=some ⟨b,off,none⟩∧(∀ j,j<ss.length→w.rangeAt b (off+j*20) (ss.getD j qi).cells∧jS w (ss.getD j qi).ss):=by
 obtain ⟨b,off,ha,hh⟩:=h (by intro e;rw [e] at hk;simp at hk);exact ⟨b,off,ha,fun j hj=>hh j hj⟩
theorem uC (p:qo) (no:Int) (w:World) (hr:p.reads w) (hl:p.short 1099511627776):
  Calls prog 152 #[.agg p.cells.toArray,.int .i64 no] w fun r w'=>r=.returned (.int .i64 (qG p.v.seats no))∧qa w w':=by
 obtain ⟨ls,hand,a,c⟩:=p;have hlen:=hl.len;simp only [qo.cells,qo.reads,qo.v] at*
 obtain ⟨W,hW,b0,hbW,qD⟩:=qB w [.slice a ls.length c,.int .i64 hand] 52;have HR:Hid (∀ u,qa W u→xw u a ls):=fun u hu=>hr.below (qf hbW hu)
 have HF:Hid (kN no ((ls.map qh.v).drop 0) 0=qG (ls.map qh.v) no):=rfl;have HJ:Hid ((prog.info? 121).map (·.size)=some 20):=by rw [Hid];kernel_rfl
 generalize qG (ls.map qh.v) no=R at*
 clear qD hr hl;have x0:=b0.cell 0 _ rfl;go_enter func152,ntmps152;go_upto_region 1 with fail;rw [hW.out];clear hW;go_wp2_with fail;clear x0 b0;go_loopw [10] (fun i wr=>∃ (k:Nat),i=.int .i64 k∧k≤ls.length∧Hid (kN no ((ls.map qh.v).drop k) k=R)∧qa W wr)
  (fun i _=>ls.length-(intOf i).toNat)
 case atStart=>exact ⟨0,rfl,by omega,HF,qab _ _⟩
 case round=>
  obtain ⟨k,rfl,hk,hR,hbl⟩:=hrel;have hrr:=HR.out wr hbl;have Ka:=qf hbW hbl;by_cases hlt:k<ls.length
  ·obtain ⟨b,off,rfl,hcell⟩:=hrr (by rintro rfl;simp at hlt);have jY:Hid (wr.rangeAt b (off+k*20) (ls.getD k qi).cells):=(hcell k hlt).1;clear hcell;have hkk:(k:Int)<(ls.length:Int):=by omega
   have hi0:(0:Int)≤(k:Int):=by omega
   have HR2:Hid ((if (ls.getD k qi).no=no then (k:Int) else kN no ((ls.map qh.v).drop (k+1)) (k+1))=R):=by
    have h:=hR.out;rw [Dy ls k hlt,kN] at h;exact h
   generalize ls.getD k qi=z at*
   obtain ⟨W1,hW1,b1,hb1,hs1⟩:=qB wr [.int .i64 0,.int .i64 0,.bool false,.int .i64 0,.slice none 0 0,.slice none 0 0,.bool false,.int .i64 0,.slice none 0 0,.slice none 0 0,.bool false,.int .i64 0,.slice none 0 0,.slice none 0 0,.bool false,.int .i64 0,.slice none 0 0,.slice none 0 0,.bool false,.bool false] 121;obtain ⟨W2,hW2,hw2,hs2,HT2,_,b2⟩:=yx z _ rfl b1;have hB2:qa W W2:=(qf hbl hb1).trans (hw2.below hbl.size (by have:=hbl.size;omega));have Pm:=qf hbW hB2;have x0:W2.cell? ⟨wr.heap.size,0,none⟩=some (.int .i64 z.no):=b2.cell 0 _ rfl;have HW2:Hid (W1.setCells wr.heap.size 0 z.cells.toArray.toList=W2):=hW2.out;have Wu:=yh z;clear hs1 hs2 b1 b2 hb1 hw2 hW2 hR hbl Ka;by_cases hq:z.no=no
   ·have HR3:Hid ((k:Int)=R):=by have h:=HR2.out;rw [qan hq] at h;exact h
    have yJ:(z.no == no)=true:=by simpa using hq
    clear hq HR2;go_wp2_with (first | (guard_target=qp 14;refine qH 121 13 b (off+k*20) z.cells jY.out underlying121 HJ.out ?_) | (guard_target=ja 6;refine jb 121 6 14 wr.heap.size 0 z.cells.toArray (by rw [hW1.out];exact HT2.out) HJ.out Wu ?_;rw [hW1.out,HW2.out]) | fail);go_ret;exact ⟨jN HR3.out,Pm⟩
   ·have HR3:Hid (kN no ((ls.map qh.v).drop (k+1)) (k+1)=R):=by have h:=HR2.out;rw [qa2 hq] at h;exact h
    have yJ:(z.no == no)=false:=by simpa using hq
    clear hq HR2;go_wp2_with (first | (guard_target=qp 14;refine qH 121 13 b (off+k*20) z.cells jY.out underlying121 HJ.out ?_) | (guard_target=ja 6;refine jb 121 6 14 wr.heap.size 0 z.cells.toArray (by rw [hW1.out];exact HT2.out) HJ.out Wu ?_;rw [hW1.out,HW2.out]) | fail);go_roundw
    case rel=>exact ⟨k+1,by go_num,by omega,HR3,hB2⟩
    case measure=>simp [intOf];omega
  ·have hkk:¬ (k:Int)<(ls.length:Int):=by omega
   have MG:Hid (-1=R):=by
    have h:=hR.out;rw [qe5 (by rw [qa4];omega),kN] at h;exact h
   clear hR;go_wp2;go_ret;exact ⟨jN MG.out,Ka⟩
theorem WI {P:Prop} (h:P:=by
 go_enter func150,ntmps150;go_wp2;go_ret;exact ⟨qm HB.out.symm,rfl⟩):P:=h
theorem U2 (no:Int) (w:World):Calls prog 150 #[.int .i64 no] w fun e w'=>e=.returned (.bool (inB no 0 7))∧w'=w:=by
 by_cases h1:0≤no
 ·by_cases h2:no<8
  ·have HB:Hid (inB no 0 7=true):=by simp [Hid,inB];omega
   exact WI
  ·have HB:Hid (inB no 0 7=false):=by simp [Hid,inB];omega
   exact WI
 ·have HB:Hid (inB no 0 7=false):=by simp [Hid,inB];omega
  exact WI
theorem aK (p:qo) (k:Nat):yH p.v.seats k=(inB (p.seats.getD k qi).no 0 7 && xZ (p.seats.getD k qi).lsn ((p.seats.getD k qi).ss.map (·.v)) && decide (qG p.v.seats (p.seats.getD k qi).no=k)):=by
 rw [yH,qo.v,kM];rfl
theorem Dz {P:Prop} (h:P:=by
 go_enter func120,ntmps120;go_upto_region 1 with fail;rw [hW.out];go_wp2_with fail;go_ret;exact ⟨qm HR.out.symm,hbW⟩):P:=h
theorem vg (p:qo) (w:World) (hg:jR w) (hr:p.reads w) (hl:p.short 1099511627776):
  Calls prog 120 #[.agg p.cells.toArray] w fun e w'=>e=.returned (.bool (okPool p.v))∧qa w w':=by
 have HLEN:Hid (¬ p.seats.length≤3→okPool p.v=false):=fun h=>pG (by simpa [qo.v] using h)
 have KD:Hid (inB p.hand 0 2=false→okPool p.v=false):=fun h=>pJ h
 have kI:Hid (∀ k,k<p.seats.length→(inB (p.seats.getD k qi).no 0 7 && xZ (p.seats.getD k qi).lsn ((p.seats.getD k qi).ss.map (·.v)) && decide (qG p.v.seats (p.seats.getD k qi).no=k))=false→okPool p.v=false):=fun k hk h=>WH k (by simpa [qo.v] using hk) (by rw [aK];exact h)
 have zw:Hid (p.seats.length≤3→inB p.hand 0 2=true→(∀ k,k<p.seats.length→(inB (p.seats.getD k qi).no 0 7 && xZ (p.seats.getD k qi).lsn ((p.seats.getD k qi).ss.map (·.v)) && decide (qG p.v.seats (p.seats.getD k qi).no=k))=true)→okPool p.v=true):=fun h0 h1 h=>KC (by simpa [qo.v] using h0) h1 (fun k hk=>by rw [aK];exact h k (by simpa [qo.v] using hk))
 have HST:Hid (∀ no u,qa w u→Calls prog 152 #[.agg p.cells.toArray,.int .i64 no] u fun r w'=>r=.returned (.int .i64 (qG p.v.seats no))∧qa u w'):=fun no u hu=>uC p no u (hr.below hu) hl
 generalize okPool p.v=R at*
 generalize qG p.v.seats=SD at*
 have HS:Hid (∀ k,k<p.seats.length→(p.seats.getD k qi).short 1099511627776):=fun k hk=>hl.at k hk
 have hlen:=hl.len;obtain ⟨rs,s,a,c⟩:=p;simp only [qo.reads,qo.cells] at*
 obtain ⟨W,hW,b0,hbW,qD⟩:=qB w [.slice a rs.length c,.int .i64 s] 52;have c0:=b0.cell 0 _ rfl;have c1:=b0.cell 1 _ rfl;have HJ:Hid ((prog.info? 121).map (·.size)=some 20):=by rw [Hid];kernel_rfl
 clear hl qD;have HC:Hid (∀ k,k<rs.length→∃ b off,a=some ⟨b,off,none⟩∧W.rangeAt b (off+k*20) (rs.getD k qi).cells∧(rs.getD k qi).reads W):=fun k hk=>by
  obtain ⟨b,off,ha,hc⟩:=(xw.below hr hbW) (by intro e;rw [e] at hk;simp at hk);exact ⟨b,off,ha,(hc k hk).1,(hc k hk).2⟩
 clear hr;by_cases h4:rs.length≤3
 case neg=>
  have HR:Hid (R=false):=HLEN.out h4;clear HLEN KD kI zw;go_enter func120,ntmps120;go_wp2_with fail;rw [hW.out];go_ret;exact ⟨qm HR.out.symm,hbW⟩
 case pos=>
  by_cases h5:s<0
  ·have HR:Hid (R=false):=KD.out (by simp [inB];omega);clear HLEN KD kI zw;exact Dz
  by_cases h6:s<3
  case neg=>
   have HR:Hid (R=false):=KD.out (by simp [inB];omega);clear HLEN KD kI zw;have Wy:3≤s:=by omega
   exact Dz
  case pos=>
   have MH:=zw.out h4 (by simp [inB];omega);have MI:Hid _:=MH;clear MH zw HLEN KD;go_enter func120,ntmps120;go_upto_region 1 with fail;rw [hW.out];clear hW;go_wp2_with fail;go_loopw [22] (fun i wr=>∃ k:Nat,k≤rs.length∧i=.int .i64 k∧Hid (∀ m,m<k→(inB (rs.getD m qi).no 0 7 && xZ (rs.getD m qi).lsn ((rs.getD m qi).ss.map (·.v)) && decide (SD (rs.getD m qi).no=m))=true)∧qa W wr) (fun i _=>rs.length-(intOf i).toNat)
   case atStart=>exact ⟨0,qaw _,rfl,fun j hj=>by omega,qab _ _⟩
   case round=>
    obtain ⟨k,hk,rfl,hall,hbl⟩:=hrel;have Kv:=qf hbW hbl;have HP:Hid (∀ u,qa W u→u.cell? ⟨w.heap.size,0,none⟩=some (.slice a rs.length c)∧u.cell? ⟨w.heap.size,1,none⟩=some (.int .i64 s)):=fun u hu=>⟨(hu.cell (block_lt c0)).trans c0,(hu.cell (block_lt c1)).trans c1⟩
    clear c0 c1;by_cases hlt:k<rs.length
    ·obtain ⟨b,off,rfl,hcell,hrd⟩:=HC.out k hlt;have jY:Hid (wr.rangeAt b (off+k*20) (rs.getD k qi).cells):=QN hcell hbl;have CU:=hrd.below hbl;have hsh:=HS.out k hlt;have HN:Hid ((inB (rs.getD k qi).no 0 7 && xZ (rs.getD k qi).lsn ((rs.getD k qi).ss.map (·.v)) && decide (SD (rs.getD k qi).no=k))=false→R=false):=kI.out k hlt;have HY:Hid ((inB (rs.getD k qi).no 0 7 && xZ (rs.getD k qi).lsn ((rs.getD k qi).ss.map (·.v)) && decide (SD (rs.getD k qi).no=k))=true→∀ m,m<k+1→(inB (rs.getD m qi).no 0 7 && xZ (rs.getD m qi).lsn ((rs.getD m qi).ss.map (·.v)) && decide (SD (rs.getD m qi).no=m))=true):=fun h m hm=>by
      by_cases e:m=k
      ·rw [e];exact h
      ·exact hall.out m (by omega)
     have hkk:(k:Int)<(rs.length:Int):=by omega
     have hk0:(0:Int)≤(k:Int):=by omega
     clear hcell HC kI hall HS hrd;generalize rs.getD k qi=y at*
     obtain ⟨W1,hW1,b1,hb1,hs1⟩:=qB wr [.int .i64 0,.int .i64 0,.bool false,.int .i64 0,.slice none 0 0,.slice none 0 0,.bool false,.int .i64 0,.slice none 0 0,.slice none 0 0,.bool false,.int .i64 0,.slice none 0 0,.slice none 0 0,.bool false,.int .i64 0,.slice none 0 0,.slice none 0 0,.bool false,.bool false] 121;obtain ⟨W2,hW2,hw2,hs2,HT2,_,b2⟩:=yx y _ rfl b1;have hB2':qa wr W2:=hb1.trans (hw2.below qg (by omega));have hB2:qa W W2:=qf hbl hB2';have Pm:=qf hbW hB2;have HX:Hid (∀ u,qa W2 u→u.cell? ⟨wr.heap.size,0,none⟩=some (.int .i64 y.no)∧u.rangeAt wr.heap.size 1 y.page.cells):=fun u hu=>⟨(b2.below hu b2.lt).cell 0 _ rfl,uX y (b2.below hu b2.lt)⟩
     have x0:=(HX.out W2 (qab _ _)).1;have xp:=(HX.out W2 (qab _ _)).2;have KY:=Tryz.JE y.page rfl;have C:=vo y.page rfl W2 (hg.keep Pm) (CU.below hB2') hsh;have e2:y.page.lsn=y.lsn:=rfl;have e3:y.page.ss=y.ss:=rfl;rw [e2,e3] at C;have CN:=U2 y.no W2;have HW2:Hid (W1.setCells wr.heap.size 0 y.cells.toArray.toList=W2):=hW2.out;have Wu:=yh y;clear hs1 hs2 b1 b2 hb1 hw2 hW2 hbl Kv e2 e3 CU hsh hB2';cases h6:inB y.no 0 7 with
     | false=>
      have HR2:Hid (R=false):=HN.out (by rw [h6];rfl);rw [h6] at CN;clear HN HY C h6 xp;go_wp2_with (first | (guard_target=qp 26;refine qH 121 25 b (off+k*20) y.cells jY.out underlying121 HJ.out ?_) | (guard_target=ja 4;refine jb 121 4 26 wr.heap.size 0 y.cells.toArray (by rw [hW1.out];exact HT2.out) HJ.out Wu ?_;rw [hW1.out,HW2.out]) | fail);refine CN.mono ?_;rintro e u ⟨rfl,hu⟩;rw [hu];clear hu u CN;go_wp2_with fail;go_ret;exact ⟨qm HR2.out.symm,Pm⟩
     | true=>
      rw [h6,qfH] at HN HY;rw [h6] at CN;clear h6;cases h7:xZ y.lsn (y.ss.map (·.v)) with
      | false=>
       have HR2:Hid (R=false):=HN.out (by rw [h7];rfl);rw [h7] at C;clear HN HY h7;generalize y.page.cells=pc at*
       go_wp2_with (first | (guard_target=qp 26;refine qH 121 25 b (off+k*20) y.cells jY.out underlying121 HJ.out ?_) | (guard_target=ja 4;refine jb 121 4 26 wr.heap.size 0 y.cells.toArray (by rw [hW1.out];exact HT2.out) HJ.out Wu ?_;rw [hW1.out,HW2.out]) | fail);refine CN.mono ?_;rintro e u ⟨rfl,hu⟩;rw [hu];clear hu u CN;go_wp2_with (first | (guard_target=qp 33;refine jD (by rfl) 48 (.tmp 32) rfl wr.heap.size 1 rfl pc _ xp underlying48 rfl KY ?_) | fail);refine C.mono ?_;rintro e w1 ⟨rfl,hb1⟩;go_wp2_with fail;go_ret;exact ⟨qm HR2.out.symm,qf Pm hb1⟩
      | true=>
       rw [h7,qfH] at HN HY;rw [h7] at C;clear h7;generalize y.page.cells=pc at*
       go_wp2_with (first | (guard_target=qp 26;refine qH 121 25 b (off+k*20) y.cells jY.out underlying121 HJ.out ?_) | (guard_target=ja 4;refine jb 121 4 26 wr.heap.size 0 y.cells.toArray (by rw [hW1.out];exact HT2.out) HJ.out Wu ?_;rw [hW1.out,HW2.out]) | fail);refine CN.mono ?_;rintro e u ⟨rfl,hu⟩;rw [hu];clear hu u CN;go_wp2_with (first | (guard_target=qp 33;refine jD (by rfl) 48 (.tmp 32) rfl wr.heap.size 1 rfl pc _ xp underlying48 rfl KY ?_) | fail);refine C.mono ?_;rintro e w1 ⟨rfl,hb1⟩;have B1:=qf hB2 hb1;have B1':=qf hbW B1;have CS:=HST.out y.no w1 B1';have p0:=(HP.out w1 B1).1;have p1:=(HP.out w1 B1).2;clear x0 xp C;have x0:=(HX.out w1 hb1).1;clear HX HP HST hB2 Pm hb1;by_cases h8:SD y.no=(k:Int)
       ·have HR2:=HY.out (by simpa using h8);have HR3:Hid _:=HR2;rw [h8] at CS;have hne:((k:Int) != (k:Int))=false:=by simp
        clear HN HY HR2 h8;go_wp2_with fail;refine CS.mono ?_;rintro e w2 ⟨rfl,hb2⟩;have B2:=qf B1 hb2;go_wp2_with fail;go_roundw
        case rel=>exact ⟨k+1,by omega,by go_num,HR3,B2⟩
        case measure=>simp [intOf];omega
       ·have HR2:Hid (R=false):=HN.out (by simpa using h8);have hne:(SD y.no != (k:Int))=true:=by simpa using h8
        clear HN HY h8;generalize SD y.no=sd at*
        go_wp2_with fail;refine CS.mono ?_;rintro e w2 ⟨rfl,hb2⟩;go_wp2_with fail;go_ret;exact ⟨qm HR2.out.symm,B1'.trans (hb2.mono B1'.size)⟩
    ·have HE:Hid (true=R):=(MI.out (fun m hm=>hall.out m (by omega))).symm;clear hall MI;go_wp2;go_ret;exact ⟨qm HE.out,Kv⟩
section
open Go.RowKit Go.Shelf
attribute [local go_sem] Oper.semAt_some
theorem rH {F:Fence} {n:Nat} {w:World} {ops:Array Oper} {rest:List Oper} {o:Oper} {act:Act} {Q:Exit→Act→World→Prop} (hgd:o.guard=none) (hF:∀ f,F.fn f) (hsm:o.semAt F.round act.eval=execOp act.eval o) (s x:Operand)
  (ho:o.op=.call { callee:=.builtin .append,args:=#[s,x],argTypes:=#[22,22] })
  (lo hi:Nat) (a:Option Addr) (c:Nat) (xs:List Int) (hs:act.eval s=.slice a xs.length c) (hown:kD w lo hi a c xs)
  (sa:Option Addr) (sc:Nat) (zs:List Int) (hx:act.eval x=.slice sa zs.length sc) (hr:xH w sa zs) (hc:sa=none→sc=0)
  (hb:xs.length+zs.length≤1099511627776) (hlo:lo≤w.heap.size)
  (h:∀ a' c' ys w',Hid (ys=xs++zs)→kD w' lo w'.heap.size a' c' ys→w.grownBy w' (Value.slice a xs.length c).ownBlock→(∀ k,(Value.slice a' ys.length c').ownBlock=some k→(Value.slice a xs.length c).ownBlock=some k∨k=w.heap.size)→wpListIn F n prog ops Q rest (act.put o.dst (.slice a' ys.length c')) w'):
  wpListIn F n prog ops Q (o::rest) act w:=by
 obtain ⟨a',c',ys,w',hrun,h1,h2,h3,h4⟩:=Y3 (w:=w) o.type lo hi a c xs hown sa sc zs hr hc hb hlo;refine UN hgd hF hsm ?_ (h a' c' ys w' h1 h2 h3 h4);unfold execOp;simp only [ho,resolve,invoke,builtin,qdq,qeJ,qdf,qe8,qdG,qfe,hs,hx,hrun]
theorem CV (a:Option Addr) (n c:Nat) (w:World):
  Calls prog 208 #[.slice a n c] w fun e w'=>e=.returned (.func (.func 220) #[] #[.pointer (some ⟨w.heap.size,0,none⟩)])∧w'=w.alloc (.cells #[.slice a n c] 53):=by
 have hmf:∀ (fn:Fn) (first cap:Array Value) (w:World),(Instr.makeFunc fn first cap).run prog w=.ok (.func fn first cap) w:=fun _ _ _ _=>rfl
 go_enter func208,ntmps208;go_wp2;go_ret;exact ⟨rfl,rfl⟩
theorem Sv (m L B3:Nat) (a:Option Addr) (c:Nat) (rs:List ql) (hl:rs.length≤1099511627776) (J:Nat→World→Prop)
  (hJ:∀ k W,J k W→Box W B3 [.slice a rs.length c] 53∧yl W a rs)
  (hY:∀ k W,k<rs.length→J (k+1) W→YieldAt Fence.wide m prog L #[.int .i64 (k:Int),.agg (rs.getD k qE).cells.toArray] W fun e W'=>e=.returned (.bool true)∧J k W')
  (W:World) (h0:J rs.length W):
  CallsIn Fence.wide (m+1) prog 220 #[.func (.yield L) #[] #[],.pointer (some ⟨B3,0,none⟩)] W fun e W'=>(∃ v,e=.returned v)∧J 0 W':=by
 have HI:Hid ((prog.info? 124).map (·.size)=some 15):=by rw [Hid];kernel_rfl
 refine callsIn_of_wp func220 rfl trivial ?_ rfl;simp only [ntmps220,qcY,qcS,qdo,Nat.reduceAdd,Nat.reduceSub,Array.replicate_succ,Array.replicate_zero,List.push_toArray,List.append_toArray,qfU,qfk];have x0:=(hJ _ _ h0).1.cell 0 _ rfl
 gi_wp2
 clear x0
 gi_loopw [3] (fun i wr=>∃ k:Nat,i=.int .i64 ((k:Int)-1)∧k≤rs.length∧J k wr) (fun i _=>(intOf i+1).toNat)
 case atStart=>exact ⟨rs.length,by go_num,qcN _,h0⟩
 case round=>
  obtain ⟨k,rfl,hk,hj⟩:=hrel;obtain ⟨bx,hrd⟩:=hJ k wr hj;cases k with
  | zero=>
   gi_wp2
   exact bodyPost_end (results_none rfl _ _ _) rfl ⟨⟨_,rfl⟩,hj⟩
  | succ k=>
   have x0:=bx.cell 0 _ rfl;obtain ⟨b,off,rfl,hcell⟩:=hrd (by rintro rfl;simp at hk);have R3:=(hcell k (by omega)).1;obtain ⟨fn,tmps,assign,body,hy,hR⟩:=hY k wr (by omega) hj;have hkk:(k:Int)<(rs.length:Int):=by omega
   have hi0:(0:Int)≤(k:Int):=by omega
   have hk1:((k+1:Nat):Int)-1=(k:Int):=by omega
   rw [hk1];clear hcell bx hrd hj;generalize rs.getD k qE=z at*
   gi_wp2_with (first | (guard_target=wpListIn _ _ _ _ _ (Oper.mk (some 16) _ _ _ _ _::_) _ _;refine iq rfl (fun _=>trivial) rfl 124 (.tmp 15) rfl b (off+k*15) rfl z.cells _ R3 underlying124 rfl HI.out ?_) | fail)
   refine hR.mono ?_;rintro e W4 ⟨rfl,WJ⟩
   gi_wp2
   go_roundw
   case rel=>exact ⟨k,by go_num,by omega,WJ⟩
   case measure=>simp [intOf]
end
section
open Go.RowKit Go.Shelf
attribute [local go_sem] Oper.semAt_some
theorem kD.Vv {w w':World} {lo hi:Nat} {a:Option Addr} {c:Nat} {ns:List Int} (h:kD w lo hi a c ns) (hs:w.heap.size≤w'.heap.size) (hb:∀ k,(Value.slice a ns.length c).ownBlock=some k→w'.heap[k]? =w.heap[k]?):kD w' lo hi a c ns:=
 ⟨xk h.1 hb,qcx h.2.1 hs,h.2.2⟩
theorem Pn {w V w3:World} {B T:Nat} {r:Loop} {x:Int} {a:Option Addr} {c n lc ln:Nat} {la:Option Addr} {tx:Int} (hg:(V.alloc (.cells #[.int .i64 x] 3)).grownBy w3 (Value.slice a n c).ownBlock)
  (kV:Box V (B+1+1+1) [.slice a n c] 22) (tV:Box V (B+1) [.int .i64 tx] 3) (rV:Box V (B+1+1+1+1) [.slice la ln lc] 53)
  (hL:V.heap[B+1+1+1+1+1+1]? =some (.loop r)) (hD:V.heap[B+1+1+1+1+1]? =some (.deferred (some []))) (BV:qa w V) (hB:w.heap.size≤B) (hT:B+1+1+1+1+1+1<T)
  (oB:∀ k,(Value.slice a n c).ownBlock=some k→k=B+1+1∨T≤k):
  Box w3 (B+1+1+1) [.slice a n c] 22∧Box w3 (B+1) [.int .i64 tx] 3∧Box w3 (B+1+1+1+1) [.slice la ln lc] 53∧w3.heap[B+1+1+1+1+1+1]? =some (.loop r)∧w3.heap[B+1+1+1+1+1]? =some (.deferred (some []))∧qa w w3∧V.heap.size<w3.heap.size:=by
 have hA:qa V (V.alloc (.cells #[.int .i64 x] 3)):=(qab _ _).alloc qg _;have hs:(V.alloc (.cells #[.int .i64 x] 3)).heap.size=V.heap.size+1:=by simp
 have hb:∀ k,k<V.heap.size→k≠B+1+1→k<T→w3.heap[k]? =V.heap[k]? :=fun k hk h2 h3=>(hg.block k (by omega) (fun e=>by have:=oB k e.symm;omega)).trans (hA.block k hk)
 have hl1:=(qc0.1 hL).1;have hl2:=(qc0.1 hD).1;have k1:=kV.lt;have k2:=tV.lt;have k3:=rV.lt;refine ⟨kV.block (hb _ k1 (by omega) (by omega)),tV.block (hb _ k2 (by omega) (by omega)),rV.block (hb _ k3 (by omega) (by omega)),(hb _ hl1 (by omega) (by omega)).trans hL,(hb _ hl2 (by omega) (by omega)).trans hD,?_,by have:=hg.size;omega⟩;exact ⟨hg.os.trans BV.os,hg.tape.trans BV.tape,hg.output.trans BV.output,qcx BV.size (by have:=hg.size;omega),fun k hk=>(hb k (by have:=BV.size;omega) (by omega) (by omega)).trans (BV.block k hk)⟩
structure ChJ (w:World) (B L D T:Nat) (r:Loop) (la:Option Addr) (lc:Nat) (rs:List ql) (tx:Int) (R:List Int) (k:Nat) (W:World):Prop where
 own:∃ a c,∃ ys:List Int,Box W (B+1+1+1) [.slice a ys.length c] 22∧kD W (B+1+1) W.heap.size a c ys∧(∀ k,(Value.slice a ys.length c).ownBlock=some k→k=B+1+1∨T≤k)∧ys++wQ tx (rs.map ql.v) k=R∧ys.length+k≤rs.length
 tx:Box W (B+1) [.int .i64 tx] 3
 row:Box W (B+1+1+1+1) [.slice la rs.length lc] 53
 loop:W.heap[L]? =some (.loop r)
 dfr:W.heap[D]? =some (.deferred (some []))
 bel:qa w W
 top:T≤W.heap.size
theorem WK {P:Prop} (h:P:=by
 obtain ⟨Y,hrun,hYL,KE,hYs⟩:=E8 (P:=prog) (V:=V) (r:=r) HST.out HPD.out hVL;refine ⟨_,Y,hrun,rfl,⟨a,c,ys,kV.within KE (by omega),?_,oB,HS'.out,by omega⟩,tV.within KE (by omega),rV.within KE (by omega),hYL,(KE.block _ (qc0.1 dV).1 (by omega)).trans dV,BV.trans (KE.below (by omega) (by omega)),by omega⟩;exact (oV.Vv KE.size (fun k hk=>KE.block k (by have:=oV.2.2 k hk;omega) (by have:=oB k hk;omega))).widen qg (by omega) qg):P:=h
theorem fI (l:qI) (tx:Int) (w:World) (hr:l.reads w) (hl:l.recs.length≤1048576):
  Calls prog 178 #[.agg l.cells.toArray,.int .i64 tx] w fun e w'=>∃ a c,∃ ys:List Int,e=.returned (.slice a ys.length c)∧Hid (ys=chainOf l.v tx)∧kD w' w.heap.size w'.heap.size a c ys∧qa w w':=by
 obtain ⟨rs,sure,la,lc⟩:=l;simp only [qI.cells,qI.reads,qI.v] at*
 have HF:Hid ([]++wQ tx (rs.map ql.v) rs.length=chainOf ⟨rs.map ql.v,sure⟩ tx):=by rw [Hid];simp [chainOf]
 generalize chainOf ⟨rs.map ql.v,sure⟩ tx=R at*
 refine (callsIn_wide (n:=4)).1 ?_;refine callsIn_of_wp_marks func178 rfl trivial ?_ rfl;simp only [ntmps178,qcY,qcS,qdo,Nat.reduceAdd,Nat.reduceSub,Array.replicate_succ,Array.replicate_zero,List.push_toArray,List.append_toArray,qfU,qfk];obtain ⟨W0,hW0,b0,b1,b2,hbW0,qfP⟩:=yK w [.slice la rs.length lc,.int .i64 sure] [.int .i64 tx] [] 55 3 3;obtain ⟨W,hW,b3,hb1,hs1⟩:=qB W0 [.slice (some ⟨w.heap.size+1+1,0,none⟩) 0 0] 22;rw [qfP] at b3;have hbW:=qf hbW0 hb1;have k0:=b0.below hb1 b0.lt;have k1:=b1.below hb1 b1.lt;have k2:=b2.below hb1 b2.lt;have k3:Box W (w.heap.size+1+1+1) [.slice (some ⟨w.heap.size+1+1,0,none⟩) 0 0] 22:=b3;have HSW:Hid (W.heap.size=w.heap.size+1+1+1+1):=by rw [Hid];omega
 have qo3:W.heap.size≤w.heap.size+1+1+1+1:=by omega
 have qo4:w.heap.size+1+1+1+1≤W.heap.size:=by omega
 have o2:kD W (w.heap.size+1+1) W.heap.size (some ⟨w.heap.size+1+1,0,none⟩) 0 []:=by
  have h:=IK ((w.alloc (.cells #[.slice la rs.length lc,.int .i64 sure] 55)).alloc (.cells #[.int .i64 tx] 3));have e:(((w.alloc (.cells #[.slice la rs.length lc,.int .i64 sure] 55)).alloc (.cells #[.int .i64 tx] 3)).alloc (.cells #[] 3))=W0:=hW0.out;rw [e,World.size_alloc,World.size_alloc] at h;exact (h.below hb1).widen (by omega) (by omega) (by omega)
 clear qfP hs1 b0 b1 b2 b3 hb1 hbW0 k2;have x0:=k0.cell 0 _ rfl;have HI:Hid ((prog.info? 124).map (·.size)=some 15):=by rw [Hid];kernel_rfl
 have hW':(((w.alloc (.cells #[.slice la rs.length lc,.int .i64 sure] 55)).alloc (.cells #[.int .i64 tx] 3)).alloc (.cells #[] 3)).alloc (.cells #[.slice (some ⟨w.heap.size+1+1,0,none⟩) 0 0] 22)=W:=by rw [← hW.out,← hW0.out]
 have HW':Hid (_=W):=hW';clear hW' hW hW0
 gi_upto_region 2 with fail
 rw [HW'.out];clear HW'
 gi_wp2_with fail
 refine ⟨trivial,?_⟩
 gi_at_call 208
 refine (callsIn_wide.2 (CV la rs.length lc W)).mono ?_;rintro e w1 ⟨rfl,h1⟩;obtain ⟨W3,hW3,b4,hb3,hs3⟩:=qB W [.slice la rs.length lc] 53;have Ph:W.alloc (.cells #[.slice la rs.length lc] 53)=W3:=hW3.out;rw [Ph] at h1;subst h1;have HS3:Hid (w1.heap.size=w.heap.size+1+1+1+1+1):=by rw [Hid,hs3,HSW.out]
 have k13:=k1.below hb3 k1.lt;have k33:=k3.below hb3 k3.lt;have o23:=o2.below hb3;have D3:=qf hbW hb3;clear hW3 Ph hs3 k0 k1 k3 x0 o2;rw [HSW.out] at b4
 gi_wp2_with fail
 refine NM (gf:=220) (lb:=#[.pointer (some ⟨W.heap.size,0,none⟩)]) rfl (enters_of func220 (by kernel_rfl) rfl) ?_;intro r W4 hst E9 TK hps has hbd hL hD hB4 hS4;have HBD:Hid (r.body=_):=hbd;have HAS:Hid (r.assign=_):=has;have HTM:Hid (r.tmps=_):=TK;have HPS:Hid (r.params=_):=hps;have HST:Hid (r.state=_):=hst;have HPD:Hid (r.pending=none):=E9;clear hst E9 TK hps has hbd;rw [HS3.out] at hL hD hS4;have qo5:w.heap.size+1+1+1+1+1+1<W4.heap.size:=by omega
 clear hS4;rw [show #[Value.func (.yield (w1.heap.size+1)) #[] #[]]++#[Value.pointer (some ⟨W.heap.size,0,none⟩)]=#[Value.func (.yield (w1.heap.size+1)) #[] #[],Value.pointer (some ⟨W.heap.size,0,none⟩)] from rfl,HS3.out,HSW.out];have hJ0:ChJ w w.heap.size (w.heap.size+1+1+1+1+1+1) (w.heap.size+1+1+1+1+1) W4.heap.size r la lc rs tx R rs.length W4:=
  ⟨⟨some ⟨w.heap.size+1+1,0,none⟩,0,[],k33.below hB4 k33.lt,(o23.below hB4).widen qg (by have:=hB4.size;have:=hb3.size;omega) qg,fun k hk=>by cases hk;exact .inl rfl,HF.out,by simp⟩,k13.below hB4 k13.lt,b4.below hB4 b4.lt,hL,hD,qf D3 hB4,qcN _⟩
 refine (Sv 2 (w.heap.size+1+1+1+1+1+1) (w.heap.size+1+1+1+1) la lc rs (by omega) (ChJ w w.heap.size (w.heap.size+1+1+1+1+1+1) (w.heap.size+1+1+1+1+1) W4.heap.size r la lc rs tx R) ?_ ?_ W4 hJ0).mono ?_
 ·intro k X j;exact ⟨j.row,hr.below j.bel⟩
 ·intro k X hk j;obtain ⟨a,c,ys,kR,oR,oB,hEq,hLen⟩:=j.own;have DC:Hid (_=R):=oZ tx rs k ys R hEq;clear hEq;generalize rs.getD k qE=z at*
  obtain ⟨X1,hX1,z1,hb1,hs1⟩:=qB X [.int .i64 0,.int .i64 0,.int .i64 0,.int .i64 0,.int .i64 0,.bool false,.int .i64 0,.slice none 0 0,.slice none 0 0,.bool false,.int .i64 0,.slice none 0 0,.slice none 0 0,.int .i64 0,.slice none 0 0] 124;obtain ⟨X2,hX2,hw2,hs2,HT2,_,z2⟩:=K4 z _ rfl z1;have N2:qa X X2:=hb1.trans (hw2.below qg (by omega));have hT:=j.top;have hlt2:=z2.lt;have BP:=N2.size;have kR2:=kR.below N2 kR.lt;have oR2:=oR.below N2;have tx2:=j.tx.below N2 j.tx.lt;have Pd:=j.row.below N2 j.row.lt;have L2:=(N2.block _ (qc0.1 j.loop).1).trans j.loop;have d2:=(N2.block _ (qc0.1 j.dfr).1).trans j.dfr;have B2:=j.bel.trans (N2.mono j.bel.size);have hOt:=Jq z;clear z1 hb1 hw2 hs1 hs2 kR oR;refine iw j.loop (by rw [HPS.out];rfl) HST.out ?_;rw [HAS.out,HPS.out,HTM.out];simp only [List.zip_toArray,List.zip_cons_cons,List.zip_nil_right,List.foldl_toArray',List.foldl_cons,List.foldl_nil,qf8,qdL,qe3]
  gi_wp2_with (first | (guard_target=wpListIn _ _ _ _ _ (Oper.mk none (Op.store _ (Operand.tmp 7) _) _ _ _ _::_) _ _;refine Rv rfl (fun _=>trivial) rfl 124 (.tmp 7) (.tmp 13) rfl X.heap.size 0 z.cells.toArray rfl rfl (by rw [hX1.out];exact HT2.out) HI.out hOt ?_;rw [hX1.out,show X1.setCells X.heap.size 0 z.cells.toArray.toList=X2 from hX2.out]) | fail)
  clear hX1 hX2 HT2 hOt;intro V qfT MJ hVs;have hVL:V.heap[w.heap.size+1+1+1+1+1+1]? =some (.loop { r with state:=.busy }):=qfT.trans (by rw [HAS.out,HPS.out,HTM.out]);clear qfT;rw [HBD.out];have qo6:=qcF hVs;have qo7:=qcF hVs.symm;clear hVs;have kV:=kR2.within MJ (by omega);have zV:=z2.within MJ (by omega);have tV:=tx2.within MJ (by omega);have rV:=Pd.within MJ (by omega);have oV:kD V (w.heap.size+1+1) X.heap.size a c ys:=oR2.Vv MJ.size (fun k hk=>MJ.block k (by have:=oR2.2.2 k hk;omega) (by have:=oB k hk;omega));have dV:=(MJ.block _ (qc0.1 d2).1 (by omega)).trans d2;have BV:qa w V:=B2.trans (MJ.below (by omega) (by have:=B2.size;omega));have hbl:=j.bel.size;clear MJ j kR2 oR2 z2 tx2 Pd L2 d2 B2 N2;have x0:=kV.cell 0 _ rfl;have xf:=kV.frozen 0;have t0:=tV.cell 0 _ rfl;have z0:V.cell? ⟨X.heap.size,0,none⟩=some (.int .i64 z.lsn):=zV.cell 0 _ rfl;have z1:V.cell? ⟨X.heap.size,1,none⟩=some (.int .i64 z.tx):=zV.cell 1 _ rfl;have z3:V.cell? ⟨X.heap.size,3,none⟩=some (.int .i64 z.kind):=zV.cell 3 _ rfl;clear zV;have HS:=DC.out;clear DC;by_cases hq:YR tx z.v=true
  ·have HS':Hid ((ys++[z.lsn])++wQ tx (rs.map ql.v) k=R):=by rw [qan hq] at HS;exact HS
   have Wy:(z.kind != 6)=true:=by simp [YR,ql.v] at hq;simpa using hq.2
   have yJ:(z.tx == tx)=true:=by simp [YR,ql.v] at hq;simpa using hq.1
   clear HS hq;have hA:qa V (V.alloc (.cells #[.int .i64 z.lsn] 3)):=(qab _ _).alloc qg _;have oA:=oV.below hA
   gi_wp2_with (first | (guard_target=wpListIn _ _ _ _ _ (Oper.mk (some 27) _ _ _ _ _::_) _ _;refine rH rfl (fun _=>trivial) rfl _ _ rfl (w.heap.size+1+1) X.heap.size a c ys rfl oA _ _ [z.lsn] rfl (Su V z.lsn _) (fun h=>by cases h) (by simp;omega) (by simp;omega) ?_;intro a3 c3 y3 w3 hy3 ho3 hg3 hk3;have HA:=Pn (B:=w.heap.size) (T:=W4.heap.size) hg3 kV tV rV hVL dV BV (by omega) (by omega) oB;obtain ⟨kA,tA,rA,LA,dA,BA,hsA⟩:=HA;have m0:=kA.cell 0 _ rfl;have mf:=kA.frozen 0) | fail)
   obtain ⟨U,hU,kU,DF,hsU⟩:=jZ kA 0 (.slice a3 y3.length c3);simp only [List.set] at kU;rw [hU.out];have oB3:∀ k,(Value.slice a3 y3.length c3).ownBlock=some k→k=w.heap.size+1+1∨W4.heap.size≤k:=fun k hk=>(hk3 k hk).elim (fun h=>oB k h) (fun h=>.inr (by rw [World.size_alloc] at h;omega))
   have LU:=(DF.block _ (qc0.1 LA).1 (by omega)).trans LA;have dU:=(DF.block _ (qc0.1 dA).1 (by omega)).trans dA;have oU:kD U (w.heap.size+1+1) w3.heap.size a3 c3 y3:=ho3.Vv DF.size (fun k hk=>DF.block k (ho3.2.2 k hk) (by have:=oB3 k hk;omega));have BU:qa w U:=BA.trans (DF.below (by omega) (by omega));have tU:=tA.within DF (by omega);have rU:=rA.within DF (by omega);obtain ⟨Y,hrun,hYL,KE,hYs⟩:=E8 (P:=prog) (V:=U) (r:=r) HST.out HPD.out LU;refine ⟨_,Y,hrun,rfl,⟨a3,c3,y3,kU.within KE (by omega),?_,oB3,by rw [hy3.out];exact HS'.out,by rw [hy3.out];simp;omega⟩,tU.within KE (by omega),rU.within KE (by omega),hYL,(KE.block _ (qc0.1 dU).1 (by omega)).trans dU,BU.trans (KE.below (by omega) (by omega)),by omega⟩;exact (oU.Vv KE.size (fun k hk=>KE.block k (by have:=oU.2.2 k hk;have:=DF.size;omega) (by have:=oB3 k hk;omega))).widen qg (by omega) qg
  ·have HS':Hid (ys++wQ tx (rs.map ql.v) k=R):=by rw [qa2 hq] at HS;exact HS
   clear HS;by_cases h6:z.kind=6
   ·have Wy:(z.kind != 6)=false:=by simpa using h6
    clear h6 hq
    gi_wp2_with fail
    exact WK
   ·have Wy:(z.kind != 6)=true:=by simpa using h6
    have yJ:(z.tx == tx)=false:=by simp [YR,ql.v,h6] at hq;simpa using hq
    clear h6 hq
    gi_wp2_with fail
    exact WK
 ·rintro e W5 ⟨⟨v,rfl⟩,j⟩;obtain ⟨a,c,ys,k5,o5,oB,hEq,hLen⟩:=j.own;have HE:Hid (ys=R):=by rw [Hid];simpa [wQ] using hEq
  have L5:=j.loop;have D5:=j.dfr;have B5:=j.bel;have hT:=j.top;have hs5:=B5.size;clear hEq j;obtain ⟨W6,KA⟩:∃ W6,Hid (W5.putObj (w.heap.size+1+1+1+1+1+1) (.loop { r with state:=.exhausted })=W6):=⟨_,rfl⟩;have Jg:Within (w.heap.size+1+1+1+1+1+1) (w.heap.size+1+1+1+1+1+1+1) W5 W6:=by rw [← KA.out];exact (uO _ _ _).1
  have hs6:=Jg.size;have qcT:(Instr.endLoop (w.heap.size+1+1+1+1+1+1)).run prog W5=.ok none W6:=by rw [← KA.out,← HPD.out];exact run_endLoop L5 (by rw [HST.out];simp)
  refine ⟨none,W6,qcT,?_⟩;clear qcT KA L5;have k6:=k5.within Jg (by omega);have o6:kD W6 (w.heap.size+1+1) W5.heap.size a c ys:=o5.Vv Jg.size (fun k hk=>Jg.block k (by have:=o5.2.2 k hk;omega) (by have:=oB k hk;omega));have d6:=(Jg.block _ (qc0.1 D5).1 (by omega)).trans D5;have B6:qa w W6:=B5.trans (Jg.below (by omega) (by omega));clear k5 o5 D5 B5 Jg;have x6:=k6.cell 0 _ rfl;show Exit.inBlock _ _ _ _ _
  gi_wp2_with fail
  obtain ⟨Y,hY⟩:=qV (W6.putObj (w.heap.size+1+1+1+1+1) (.deferred none));have KE:Within (w.heap.size+1+1+1+1+1) (w.heap.size+1+1+1+1+1+1) W6 Y:=by rw [← hY.out];exact (uO _ _ _).1
  have hYs:=KE.size;have oY:kD Y (w.heap.size+1+1) W5.heap.size a c ys:=o6.Vv hYs (fun k hk=>KE.block k (by have:=o6.2.2 k hk;omega) (by have:=oB k hk;omega));have oY':=oY.widen (show w.heap.size≤w.heap.size+1+1 by omega) (show W5.heap.size≤Y.heap.size by omega) qg;have BY:qa w Y:=B6.trans (KE.below (by omega) (by omega));refine ⟨by simp,.inl ⟨_,_,rfl,run_takeDeferred d6,?_⟩⟩;rw [hY.out];exact ⟨.slice a ys.length c,by simp [results,results178,go_sem],a,c,ys,rfl,HE,oY',BY⟩
end
theorem U6 {w:World} {ops:Array Oper} {rest:List Oper} {dst:Option Nat} {ty:TypeId} {pos:String} {XY:Array Edge} {act:Act} {Q:Exit→Act→World→Prop} (x:Operand)
  (q:qh) (hx:act.eval x=.agg q.cells.toArray)
  (h:wpList prog ops Q rest (act.put dst (.slice (some ⟨w.heap.size,0,none⟩) 1 1)) (w.alloc (.cells q.cells.toArray 121))):
  wpList prog ops Q ({ dst:=dst,op:=.buildSlice 50 1 #[(0,x)],type:=ty,pos:=pos,after:=XY,guard:=none }::rest) act w:=by
 refine qgi rfl fun K hK=>?_
 unfold Oper.wp execOp;simp only [qe8,qdG,qfe,hx];go_simp;simp only [yn,Xe,qeV,qfF,or_self,qf7];go_simp;exact hK _ _ h
theorem Ql (l:qo) (w:World) (hr:l.reads w) (hl:l.short 1048576):
  Calls prog 81 #[.agg l.cells.toArray] w fun e w'=>∃ t:qo,e=.returned (.agg t.cells.toArray)∧Hid (t.v=l.v)∧t.own w' w.heap.size w'.heap.size∧qa w w':=by
 obtain ⟨rs,s,a,c⟩:=l;have hl2:=(qo.jB hl).each;have hl0:=hl.len;simp only [qo.reads,qo.cells,qo.own] at*
 obtain ⟨W,hW,b0,b1,b2,hbW,qD⟩:=yK w [.slice a rs.length c,.int .i64 s] [.slice none 0 0,.int .i64 0] [.slice none 0 0,.int .i64 s] 52 52 52;have hs0:w.heap.size+1+1<W.heap.size:=by omega
 clear qD;have x0:=b0.cell 0 _ rfl;have HC:Hid (∀ k,k<rs.length→∃ b off,a=some ⟨b,off,none⟩∧w.rangeAt b (off+k*20) (rs.getD k qi).cells∧(rs.getD k qi).reads w∧(rs.getD k qi).short 1099511627776):=fun k hk=>by
  obtain ⟨b,off,ha,hc⟩:=hr (by intro e;rw [e] at hk;simp at hk);exact ⟨b,off,ha,(hc k hk).1,(hc k hk).2,hl2 _ (xE rs k hk)⟩
 have HJ:Hid ((prog.info? 121).map (·.size)=some 20):=by rw [Hid];kernel_rfl
 clear hr hl hl2;go_enter func81,ntmps81;go_wp2_with fail;rw [hW.out];clear hW x0;go_loopw [12] (fun i wr=>∃ (k:Nat) (ts:List qh) (a':Option Addr) (c':Nat),k≤rs.length∧i=.int .i64 k∧Hid (QM rs ts k)∧Box wr (w.heap.size+1+1) [.slice a' ts.length c',.int .i64 s] 52∧Box wr (w.heap.size+1) [.slice none 0 0,.int .i64 0] 52∧OwnSts wr W.heap.size wr.heap.size a' c' ts∧qa w wr∧W.heap.size≤wr.heap.size)
  (fun i _=>rs.length-(intOf i).toNat)
 case atStart=>exact ⟨0,[],none,0,qaw _,rfl,ZZ rs,b2,b1,MK _ _ _ qg,hbW,qcN _⟩
 case round=>
  obtain ⟨k,ts,a',c',hk,rfl,hc,k2,k1,hown,hnx,hsz⟩:=hrel;clear b0 b1 b2 hbW;by_cases hlt:k<rs.length
  ·obtain ⟨b,off,rfl,hcell,hrd,hsh⟩:=HC.out k hlt;have hnw:=hnx.size;have jY:Hid (wr.rangeAt b (off+k*20) (rs.getD k qi).cells):=yY hcell hnx (Kz hcell);have HS:Hid (∀ q:qh,q.v=(rs.getD k qi).v→QM rs (ts++[q]) (k+1)):=fun q hq=>hc.out.snoc hlt hq
   have hll:ts.length+1≤68719476736:=by have:=hc.out.1;omega
   have CU:=hrd.below hnx;have hkk:(k:Int)<(rs.length:Int):=by omega
   have hk0:(0:Int)≤(k:Int):=by omega
   clear hcell HC hrd hc;generalize rs.getD k qi=z at*
   obtain ⟨W1,hW1,d1,hb1,hs1⟩:=qB wr [.int .i64 0,.int .i64 0,.bool false,.int .i64 0,.slice none 0 0,.slice none 0 0,.bool false,.int .i64 0,.slice none 0 0,.slice none 0 0,.bool false,.int .i64 0,.slice none 0 0,.slice none 0 0,.bool false,.int .i64 0,.slice none 0 0,.slice none 0 0,.bool false,.bool false] 121;obtain ⟨W2,hW2,hw2,hs2,HT2,_,d2⟩:=yx z _ rfl d1;have hB2:qa wr W2:=hb1.trans (hw2.below qg (by omega));have xp:W2.rangeAt wr.heap.size 1 z.page.cells:=uX z d2;have KY:=Tryz.JE z.page rfl;have C:=zU z.page rfl W2 (CU.below hB2) hsh;have HW2:Hid (W1.setCells wr.heap.size 0 z.cells.toArray.toList=W2):=hW2.out;have Wu:=yh z;have k22:=k2.below hB2 k2.lt;have k12:=k1.below hB2 k1.lt;have o2:=hown.below hB2;have hn2:qa w W2:=hnx.trans (hB2.mono hnw);have BP:=hB2.size;have hd2:=d2.lt;clear hs1 hs2 d1 hb1 hw2 hW2 CU hsh k2 k1 hown hnx;generalize hpc:z.page.cells=pc at*
   go_wp2_with (first | (guard_target=qp 15;refine qH 121 14 b (off+k*20) z.cells jY.out underlying121 HJ.out ?_) | (guard_target=ja 5;refine jb 121 5 15 wr.heap.size 0 z.cells.toArray (by rw [hW1.out];exact HT2.out) HJ.out Wu ?_;rw [hW1.out,HW2.out]) | (guard_target=qp 17;refine qH 48 16 wr.heap.size 1 pc xp underlying48 KY ?_) | fail);refine C.mono ?_;clear C xp KY jY hW1 HW2 HT2 hpc;rintro e w3 ⟨us,rfl,hv,ho,hb3⟩;obtain ⟨y0,y1,y2,y3,rfl⟩:=QP (ts:=us) (by have:=qcz List.length hv.out;simpa [qh.page,qh.ss] using this);have hs3:=hb3.size;have d3:=d2.below hb3 d2.lt;obtain ⟨W4,wL,d4,hw4,hs4,ql2⟩:=WA z d3 z.page.lsn y0 y1 y2 y3;obtain ⟨q,hq⟩:∃ q:qh,Hid ((⟨z.no,z.page.lsn,y0,y1,y2,y3,z.dirty,z.hot⟩:qh)=q):=⟨_,rfl⟩;rw [hq.out] at d4;have oq:q.own w3 W2.heap.size w3.heap.size:=by rw [← hq.out];exact ho
   have HV:Hid (q.v=z.v):=by rw [Hid,← hq.out];simp only [qh.v,qh.ss];rw [show List.map (fun x:qj=>x.v) [y0,y1,y2,y3]=z.page.ss.map (·.v) from hv.out];rfl
   have k24:=(k22.below hb3 k22.lt).within hw4 (by omega);have k14:=(k12.below hb3 k12.lt).within hw4 (by omega);have o4:=(o2.below hb3).within hw4 (.inl (by omega));have Dw:=oq.within hw4 (.inr (by omega));have hn4:qa w W4:=(qf hn2 hb3).trans (hw4.below (by omega) (by omega));have rq:W4.rangeAt wr.heap.size 0 q.cells:=qN d4;have HI1:=Tryz.JE ⟨z.page.lsn,[y0,y1,y2,y3]⟩ rfl;have Vo:=Gj ⟨z.page.lsn,[y0,y1,y2,y3]⟩;have HI2:=xD q;have Oq:Hid (w3.setCells wr.heap.size 1 (qA.cells ⟨z.page.lsn,[y0,y1,y2,y3]⟩).toArray.toList=W4):=wL.out;have e0:=k24.cell 0 _ rfl;have qfW:=qcF hs4;have qfX:=qcF hs4.symm;obtain ⟨W5,zS,d5,hb5,hs5⟩:=qB W4 q.cells 121;have k25:=k24.below hb5 k24.lt;have k15:=k14.below hb5 k14.lt;have o5:=o4.below hb5;have UD:=Dw.below hb5;have hn5:=qf hn4 hb5;have r5:W5.rangeAt W4.heap.size 0 q.cells:=qN d5;have ql3:=hb5.size;clear wL hq hs4 hw4 d3 d4 d2 oq ho hv hb3 k22 k12 o2 k24 k14 o4 Dw hn2 hn4 hb5 d5 hs5;generalize qA.cells ⟨z.page.lsn,[y0,y1,y2,y3]⟩=pc2 at*
   go_wp2_with (first | (guard_target=ja 19;refine jb 48 19 18 wr.heap.size 1 pc2.toArray ql2 (jG HI1) Vo ?_;rw [Oq.out]) | (guard_target=qp 22;refine qH 121 5 wr.heap.size 0 q.cells rq underlying121 HI2 ?_) | (guard_target=qp 23;refine U6 (.tmp 22) q rfl ?_;rw [zS.out]) | (guard_target=qp 24;refine Sw rfl _ _ rfl W.heap.size wr.heap.size a' c' ts rfl o5 W4.heap.size 0 1 q rfl r5 W2.heap.size w3.heap.size UD (by omega) (by omega) hll (by omega) ?_) | fail);intro a9 c9 w9 o9 g9;have HCM:=HS.out q HV.out;obtain ⟨ys,hys⟩:=qV (ts++[q]);have hyl:ts.length+1=ys.length:=by rw [← hys.out];simp
   rw [hys.out] at o9 HCM;rw [hyl];clear hyl;have QZ:Within W.heap.size wr.heap.size W5 w9:=Within.jO g9 (fun j hj=>⟨(o5.row.lt j hj).1,o5.blk j hj⟩);have Un:=QZ.size;have Cj:qa w w9:=hn5.trans (QZ.below (by omega) (by omega));have Zq:=k25.within QZ (by omega);have k19:=k15.within QZ (by omega);have m0:=Zq.cell 0 _ rfl;have Kl:=Zq.frozen 0;obtain ⟨WF,qK,kF,hwF,q8⟩:=jZ Zq 0 (.slice a9 ys.length c9);simp only [List.set] at kF;have Gb:=qcF q8;have ZU:=qcF q8.symm;have LK:=k19.within hwF (by omega);have oF:=(o9.within hwF (.inr (by omega))).widen qg ZU qg;have hnF:qa w WF:=Cj.trans (hwF.below (by omega) (by omega));clear hwF Zq k19 o9 q8 g9 QZ e0 k25 k15 o5 UD r5 rq Oq zS;go_wp2_with fail;rw [qK.out];go_roundw
   case rel=>exact ⟨k+1,ys,a9,c9,by omega,by go_num,HCM,kF,LK,oF,hnF,by omega⟩
   case measure=>simp [intOf];omega
  ·have HE:Hid (ts.map qh.v=rs.map qh.v):=by
    have e:k=rs.length:=by omega
    rw [e] at hc;exact hc.out.all
   have e0:=k2.cell 0 _ rfl;have e1:=k2.cell 1 _ rfl;have m0:=k1.cell 0 _ rfl;have m1:=k1.cell 1 _ rfl;have Kl:=k1.frozen 0;have mJ:=k1.frozen 1;obtain ⟨WF,qK,bF,hwF,q8⟩:=zM k1 (.slice a' ts.length c') (.int .i64 s);have q0:=bF.cell 0 _ rfl;have q1:=bF.cell 1 _ rfl;have wh:=(hown.within hwF (.inr (by omega))).widen (show w.heap.size≤W.heap.size by omega) (show wr.heap.size≤WF.heap.size by omega) qg;have zN:qa w WF:=hnx.trans (hwF.below (by omega) (by have:=hnx.size;omega));clear hwF q8 bF;go_wp2;rw [qK.out];exact qa3 (v:=.agg #[.slice a' ts.length c',.int .i64 s]) (by simp [results,results81,go_sem,q0,q1]) rfl ⟨⟨ts,s,a',c'⟩,rfl,by simp only [Hid,qo.v];rw [HE.out],wh,zN⟩
theorem qd6 (s:qh):yM s.v=(inB s.no 0 7 && xZ s.lsn (s.ss.map (·.v))):=rfl
theorem Po (p:qo) (w:World) (hr:p.reads w) (hl:p.short 1099511627776):
  Calls prog 109 #[.agg p.cells.toArray] w fun e w'=>e=.returned (.bool (okPool p.v))∧qa w w':=by
 have HLEN:Hid (¬ p.seats.length≤3→okPool p.v=false):=fun h=>pG (by simpa [qo.v] using h)
 have KD:Hid (inB p.hand 0 2=false→okPool p.v=false):=fun h=>pJ h
 have kI:Hid (∀ k,k<p.seats.length→yM (p.seats.getD k qi).v=false→okPool p.v=false):=fun k hk h=>WH k (by simpa [qo.v] using hk) (Om (by rw [qo.v,kM];exact h))
 have Ad:Hid (∀ k j,k<p.seats.length→j<k→(p.seats.getD j qi).no=(p.seats.getD k qi).no→okPool p.v=false):=fun k j hk hj h=>WH k (by simpa [qo.v] using hk) (Dx hj (by simpa [qo.v] using hk) (by rw [qo.v,kM,kM];exact h))
 have zw:Hid (p.seats.length≤3→inB p.hand 0 2=true→(∀ k,k<p.seats.length→yM (p.seats.getD k qi).v=true∧∀ j,j<k→(p.seats.getD j qi).no≠(p.seats.getD k qi).no)→okPool p.v=true):=fun h0 h1 h=>KC (by simpa [qo.v] using h0) h1 (fun k hk=>by
  have hk':k<p.seats.length:=by simpa [qo.v] using hk
  refine Zv hk (by rw [qo.v,kM];exact (h k hk').1) (fun j hj=>?_);rw [qo.v,kM,kM];exact (h k hk').2 j hj)
 generalize okPool p.v=R at*
 have HS:Hid (∀ k,k<p.seats.length→(p.seats.getD k qi).short 1099511627776):=fun k hk=>hl.at k hk
 have hlen:=hl.len;obtain ⟨rs,s,a,c⟩:=p;simp only [qo.reads,qo.cells] at*
 obtain ⟨W,hW,b0,hbW,qD⟩:=qB w [.slice a rs.length c,.int .i64 s] 52;have c0:=b0.cell 0 _ rfl;have c1:=b0.cell 1 _ rfl;clear hl qD;have HC:Hid (∀ k,k<rs.length→∃ b off,a=some ⟨b,off,none⟩∧(∀ j,j<rs.length→W.rangeAt b (off+j*20) (rs.getD j qi).cells)∧(rs.getD k qi).reads W):=fun k hk=>by
  obtain ⟨b,off,ha,hc⟩:=(xw.below hr hbW) (by intro e;rw [e] at hk;simp at hk);exact ⟨b,off,ha,fun j hj=>(hc j hj).1,(hc k hk).2⟩
 clear hr;by_cases h4:rs.length≤3
 case neg=>
  have HR:Hid (R=false):=HLEN.out h4;clear HLEN KD kI zw Ad;go_enter func109,ntmps109;go_wp2_with fail;rw [hW.out];go_ret;exact ⟨qm HR.out.symm,hbW⟩
 case pos=>
  cases h5:inB s 0 2 with
  | false=>
   have HR:Hid (R=false):=KD.out h5;clear HLEN KD kI zw Ad;have C:=j5 s 0 2 W;rw [h5] at C;clear h5;go_enter func109,ntmps109;go_wp2_with fail;rw [hW.out];refine C.mono ?_;rintro e u ⟨rfl,hu⟩;rw [hu];clear hu u;go_wp2;go_ret;exact ⟨qm HR.out.symm,hbW⟩
  | true=>
   have MH:=zw.out h4 h5;have MI:Hid _:=MH;have C:=j5 s 0 2 W;rw [h5] at C;clear h5 MH zw HLEN KD;go_enter func109,ntmps109;go_wp2_with fail;rw [hW.out];refine C.mono ?_;rintro e u ⟨rfl,hu⟩;rw [hu];clear hu u hW C;go_wp2_with fail;go_loopw [3,4] (fun i _ wr=>∃ k:Nat,k≤rs.length∧i=.int .i64 k∧Hid (∀ m,m<k→yM (rs.getD m qi).v=true∧∀ j,j<m→(rs.getD j qi).no≠(rs.getD m qi).no)∧qa W wr) (fun i _ _=>rs.length-(intOf i).toNat)
   case atStart=>exact ⟨0,qaw _,rfl,fun j hj=>by omega,qab _ _⟩
   case round=>
    obtain ⟨k,hk,rfl,hall,hbl⟩:=hrel;have Kv:=qf hbW hbl;have HP:Hid (∀ u,qa W u→u.cell? ⟨w.heap.size,0,none⟩=some (.slice a rs.length c)):=fun u hu=>(hu.cell (block_lt c0)).trans c0
    have r0:=HP.out wr hbl;clear c0 c1;by_cases hlt:k<rs.length
    ·obtain ⟨b,off,rfl,hcell,hrd⟩:=HC.out k hlt;have HCL:Hid (∀ u,qa W u→∀ j,j<rs.length→u.rangeAt b (off+j*20) (rs.getD j qi).cells):=fun u hu j hj=>QN (hcell j hj) hu
     have hyr:=HCL.out wr hbl k hlt;have x0:wr.cell? ⟨b,off+k*20,none⟩=some (.int .i64 (rs.getD k qi).no):=hyr 0 _ rfl;have mV:Hid (wr.rangeAt b (off+k*20+1) (rs.getD k qi).page.cells):=by
      intro j v hj;have hjl:=(qcL.1 hj).1;have:=hyr (1+j) v (by rw [qh.ui,Nat.add_comm,qdI,qdx hjl];exact hj);rw [show off+k*20+1+j=off+k*20+(1+j) by omega];exact this
     have KY:=(by show _=some 17;kernel_rfl:(prog.info? 48).map (·.size)=some (rs.getD k qi).page.cells.length);have C:=Xb (rs.getD k qi).page rfl wr (hrd.below hbl) (HS.out k hlt);have CI:=j5 (rs.getD k qi).no 0 7 wr;have HN:Hid (yM (rs.getD k qi).v=false→R=false):=kI.out k hlt;have HD:Hid (∀ j,j<k→(rs.getD j qi).no=(rs.getD k qi).no→R=false):=fun j hj h=>Ad.out k j hlt hj h
     have HY:Hid (yM (rs.getD k qi).v=true→(∀ j,j<k→(rs.getD j qi).no≠(rs.getD k qi).no)→∀ m,m<k+1→yM (rs.getD m qi).v=true∧∀ j,j<m→(rs.getD j qi).no≠(rs.getD m qi).no):=fun h h' m hm=>by
      by_cases e:m=k
      ·rw [e];exact ⟨h,h'⟩
      ·exact hall.out m (by omega)
     have hkk:(k:Int)<(rs.length:Int):=by omega
     have hk0:(0:Int)≤(k:Int):=by omega
     have HX0:Hid (∀ u,qa W u→∀ j,j<rs.length→u.cell? ⟨b,off+j*20,none⟩=some (.int .i64 (rs.getD j qi).no)):=fun u hu j hj=>HCL.out u hu j hj 0 _ rfl
     have e1:qA.cells (rs.getD k qi).page=(rs.getD k qi).page.cells:=rfl;rw [qd6] at HN HY;have e2:(rs.getD k qi).page.lsn=(rs.getD k qi).lsn:=rfl;have e3:(rs.getD k qi).page.ss=(rs.getD k qi).ss:=rfl;rw [e2,e3] at C;clear hcell HC kI Ad hall HS hrd hyr HCL e1 e2 e3;generalize hy:rs.getD k qi=y at*
     have Mr:Hid (rs.getD k qi=y):=hy;clear hy;cases h6:inB y.no 0 7 with
     | false=>
      have HR2:Hid (R=false):=HN.out (by rw [h6];rfl);rw [h6] at CI;clear HN HY HD C h6;go_wp2_with fail;refine CI.mono ?_;rintro e u ⟨rfl,hu⟩;rw [hu];clear hu u CI;go_wp2_with fail;go_ret;exact ⟨qm HR2.out.symm,Kv⟩
     | true=>
      rw [h6,qfH] at HN HY;rw [h6] at CI;clear h6;cases h7:xZ y.lsn (y.ss.map (·.v)) with
      | false=>
       have HR2:Hid (R=false):=HN.out h7;rw [h7] at C;clear HN HY HD h7;generalize y.page.cells=pc at*
       go_wp2_with fail;refine CI.mono ?_;rintro e u ⟨rfl,hu⟩;rw [hu];clear hu u CI;go_wp2_with (first | (guard_target=qp 36;refine jD (by rfl) 48 (.tmp 35) rfl b (off+k*20+1) rfl pc _ mV.out underlying48 rfl KY ?_) | fail);refine C.mono ?_;rintro e w1 ⟨rfl,hb1⟩;go_wp2_with fail;go_ret;exact ⟨qm HR2.out.symm,qf Kv hb1⟩
      | true=>
       have Dj:=HY.out h7;have HY3:Hid _:=Dj;rw [h7] at C;clear HN HY h7 Dj;generalize y.page.cells=pc at*
       go_wp2_with fail;refine CI.mono ?_;rintro e u ⟨rfl,hu⟩;rw [hu];clear hu u CI;go_wp2_with (first | (guard_target=qp 36;refine jD (by rfl) 48 (.tmp 35) rfl b (off+k*20+1) rfl pc _ mV.out underlying48 rfl KY ?_) | fail);refine C.mono ?_;rintro e w1 ⟨rfl,hb1⟩;have qf0:=qf hbl hb1;clear C hb1 x0 r0 mV KY hbl Kv;have HZK:Hid (∀ u,qa W u→u.cell? ⟨b,off+k*20,none⟩=some (.int .i64 y.no)):=fun u hu=>by rw [← Mr.out];exact HX0.out u hu k hlt
       generalize y.no=zk at*
       go_wp2_with fail;go_loopw [4] (fun i wr=>∃ j:Nat,j≤k∧i=.int .i64 j∧Hid (∀ m,m<j→(rs.getD m qi).no≠zk)∧qa W wr) (fun i _=>k-(intOf i).toNat)
       case atStart=>exact ⟨0,qaw _,rfl,fun j hj=>by omega,qf0⟩
       case round=>
        obtain ⟨j,hj,rfl,hal,Pp⟩:=hrel;have ql4:=qf hbW Pp;by_cases hjk:j<k
        ·have hjl:j<rs.length:=by omega
         have hjj:(j:Int)<(rs.length:Int):=by omega
         have hj0:(0:Int)≤(j:Int):=by omega
         have r1:=HP.out wr Pp;have y0:=HZK.out wr Pp;have y1:=HX0.out wr Pp j hjl;have HD2:Hid ((rs.getD j qi).no=zk→R=false):=HD.out j hjk;have HN2:Hid ((rs.getD j qi).no≠zk→∀ m,m<j+1→(rs.getD m qi).no≠zk):=fun h m hm=>by
          by_cases e:m=j
          ·rw [e];exact h
          ·exact hal.out m (by omega)
         clear HD hal qf0;generalize (rs.getD j qi).no=zj at*
         by_cases hq:zj=zk
         ·have HR2:Hid (R=false):=HD2.out hq;have yJ:(zj == zk)=true:=by simpa using hq
          clear hq HD2 HN2;go_wp2_with fail
          go_quiet (fail)
          go_wp2_with fail;go_ret;exact ⟨qm HR2.out.symm,qfI ql4 _⟩
         ·have HN3:=HN2.out hq;have HN4:Hid _:=HN3;have yJ:(zj == zk)=false:=by simpa using hq
          clear hq HD2 HN2 HN3;go_wp2_with fail
          go_quiet (fail)
          go_wp2_with fail;go_roundw
          case rel=>exact ⟨j+1,by omega,by go_num,HN4,qfI Pp _⟩
          case measure=>simp [intOf];omega
        ·have Ze:Hid (∀ m,m<k→(rs.getD m qi).no≠zk):=fun m hm=>hal.out m (by omega)
         have HZ:=HY3.out Ze.out;have HZ2:Hid _:=HZ;clear HZ HY3 Ze hal HD;go_wp2_with fail;go_roundw
         case rel=>exact ⟨k+1,by omega,by go_num,HZ2,Pp⟩
         case measure=>simp [intOf];omega
    ·have HE:Hid (true=R):=(MI.out (fun m hm=>hall.out m (by omega))).symm;clear hall MI;go_wp2;go_ret;exact ⟨qm HE.out,Kv⟩
theorem Pq (s:qh) (w:World) (hr:s.reads w) (hl:s.short 1099511627776):
  Calls prog 106 #[.agg s.cells.toArray] w fun e w'=>∃ t:qh,e=.returned (.agg t.cells.toArray)∧Hid (t.v=s.v)∧t.own w' w.heap.size w'.heap.size∧qa w w':=by
 obtain ⟨W,hW,b0,b1,hbW,qD⟩:=jK w s.cells [.int .i64 0,.int .i64 0,.bool false,.int .i64 0,.slice none 0 0,.slice none 0 0,.bool false,.int .i64 0,.slice none 0 0,.slice none 0 0,.bool false,.int .i64 0,.slice none 0 0,.slice none 0 0,.bool false,.int .i64 0,.slice none 0 0,.slice none 0 0,.bool false,.bool false] 121 121;have b1':Box W (w.heap.size+1) qi.cells 121:=b1;have hs0:w.heap.size+1<W.heap.size:=by omega
 have hrg0:W.rangeAt w.heap.size 1 s.page.cells:=uX s b0;have HL:=Tryz.JE s.page rfl;have C:=Ye s.page rfl W (hr.below hbW) hl;clear qD b1;go_enter func106,ntmps106;go_upto_region 1 with fail;rw [hW.out];clear hW;go_wp2_with (first | (guard_target=qp 4;refine qH 48 3 w.heap.size 1 s.page.cells hrg0 underlying48 HL ?_) | fail);clear hrg0 HL;refine C.mono ?_;clear C;rintro e w1 ⟨ts,rfl,hv,ho,hb1⟩;obtain ⟨y0,y1,y2,y3,rfl⟩:=QP (ts:=ts) (by have:=qcz List.length hv.out;simpa [qh.page,qh.ss] using this);have hs1:=hb1.size;have b01:=b0.below hb1 b0.lt;have b11:=b1'.below hb1 b1'.lt;obtain ⟨W2,hW2,b02,hw2,hs2,qbQ⟩:=WA s b01 s.page.lsn y0 y1 y2 y3;obtain ⟨q,hq⟩:∃ q:qh,Hid ((⟨s.no,s.page.lsn,y0,y1,y2,y3,s.dirty,s.hot⟩:qh)=q):=⟨_,rfl⟩;rw [hq.out] at b02;have b12:=b11.within hw2 (by omega);obtain ⟨WF,qK,hwF,q8,jI,xA,bF⟩:=yx q _ rfl b12;have r4:W2.rangeAt w.heap.size 0 q.cells:=qN b02;have oq:q.own w1 W.heap.size w1.heap.size:=by rw [← hq.out];exact ho
 have HV:Hid (q.v=s.v):=by rw [Hid,← hq.out];simp only [qh.v,qh.ss];rw [show List.map (fun x:qj=>x.v) [y0,y1,y2,y3]=s.page.ss.map (·.v) from hv.out];rfl
 have Qm:Hid (q.own WF w.heap.size WF.heap.size∧qa w WF):=⟨((oq.within hw2 (.inr (by omega))).within hwF (.inr (by omega))).widen (by omega) (by omega) qg,((hbW.trans (hb1.mono (by omega))).trans (hw2.below (by omega) (by omega))).trans (hwF.below (by omega) (by omega))⟩;have HI1:=Tryz.JE ⟨s.page.lsn,[y0,y1,y2,y3]⟩ rfl;have Vo:=Gj ⟨s.page.lsn,[y0,y1,y2,y3]⟩;have HI2:=xD q;have Od:=yh q;have HW2:Hid (w1.setCells w.heap.size 1 (qA.cells ⟨s.page.lsn,[y0,y1,y2,y3]⟩).toArray.toList=W2):=hW2.out;have Qw:Hid (W2.setCells (w.heap.size+1) 0 q.cells.toArray.toList=WF):=qK.out;have VL:W2.there (w.heap.size+1) 0 q.cells.toArray.size:=jI.out;clear hW2 qK jI hq hs1 hs2 q8 hw2 hwF b01 b11 b02 b12 bF oq ho hv hb1 b0 b1' hbW;generalize qA.cells ⟨s.page.lsn,[y0,y1,y2,y3]⟩=pc at*
 go_wp2_with (first | (guard_target=ja 6;refine jb 48 6 5 w.heap.size 1 pc.toArray qbQ (jG HI1) Vo ?_;rw [HW2.out]) | (guard_target=qp 7;refine qH 121 1 w.heap.size 0 q.cells r4 underlying121 HI2 ?_) | (guard_target=ja 2;refine jb 121 2 7 (w.heap.size+1) 0 q.cells.toArray VL (jG HI2) Od ?_;rw [Qw.out]) | fail);exact qa3 (v:=.agg q.cells.toArray) (jQ results106 rfl xA.out) rfl ⟨q,rfl,HV,Qm.out.1,Qm.out.2⟩
section
attribute [local go_sem ↓] Go.wp_at_zero Go.wp_at_succ
theorem KH {P:Prop} (h:P:=by
 clear hK K;try simp only [zz]
 have hll:ts.length+1≤68719476736:=by have:=HL.out;omega
 refine jc 9 (fun K hK=>?_);refine YQ rfl (.tmp 16) (.tmp 23) rfl W.heap.size wr.heap.size a' c' ts rfl o3 u2.heap.size 0 1 q rfl r3 wr.heap.size u2.heap.size VS qg (by omega) hll hsz ?_;intro a9 c9 w9 o9 g9 _;have HCM:=HS.out q hq.out;obtain ⟨ys,hys⟩:=qV (ts++[q]);rw [hys.out] at o9 HCM ⊢;have QZ:Within W.heap.size wr.heap.size W3 w9:=Within.jO g9 (fun j hj=>⟨(o3.row.lt j hj).1,o3.blk j hj⟩);have Un:=QZ.size;have Cj:qa w w9:=Vp.trans (QZ.below (by omega) (by omega));have Zq:=k23.within QZ (by omega);have Ck:=YL.within QZ (by omega);have k19:=k13.within QZ (by omega);refine qX hK (kJ.out _ Cj Ck) fun qc=>?_
 clear hK K QZ g9 o3 r3 VS k23 YL k13;try simp only [zz]
 refine jg 10 ?_;have m0:=Zq.cell 0 _ rfl;have Kl:=Zq.frozen 0;obtain ⟨WF,qK,kF,hwF,q8⟩:=jZ Zq 0 (.slice a9 ys.length c9);simp only [List.set] at kF;have Gb:=qcF q8;have ZU:=qcF q8.symm;clear q8;have LJ:=Ck.within hwF (by omega);have LK:=k19.within hwF (by omega);have oF:=(o9.within hwF (.inr (by omega))).widen qg ZU qg;have hnF:qa w WF:=Cj.trans (hwF.below (by omega) (by omega));clear hwF Zq Ck k19 o9;refine jc 11 (fun K hK=>?_);go_simp;rw [qK.out];refine qX hK (kJ.out _ hnF LJ) fun qc=>?_
 clear hK K;try simp only [zz]
 refine qau (by kernel_rfl) ?_ _;clear m0 Kl qK;go_wp2_with fail;go_roundw
 case rel=>exact ⟨k+1,ys,a9,c9,by omega,by go_num,HCM,kF,LJ,LK,oF,hnF,by omega⟩
 case measure=>simp [intOf];omega):P:=h
theorem Ae (l:qo) (w:World) (hr:l.reads w) (hl:l.short 1048576):
  Calls prog 62 #[.agg l.cells.toArray] w fun e w'=>∃ t:qo,e=.returned (.agg t.cells.toArray)∧Hid (t.v=l.v)∧t.own w' w.heap.size w'.heap.size∧qa w w':=by
 obtain ⟨rs,s,a,c⟩:=l;have hl2:=(qo.jB hl).each;have hl0:=hl.len;simp only [qo.reads,qo.cells,qo.own] at*
 obtain ⟨W,hW,b0,b1,b2,hbW,qD⟩:=yK w [.slice a rs.length c,.int .i64 s] [.slice none 0 0,.int .i64 0] [.slice none 0 0,.int .i64 s] 52 52 52;have hs0:w.heap.size+1+1<W.heap.size:=by omega
 clear qD;have x0:=b0.cell 0 _ rfl;have x1:=b0.cell 1 _ rfl;have HC:Hid (∀ k,k<rs.length→∃ b off,a=some ⟨b,off,none⟩∧w.rangeAt b (off+k*20) (rs.getD k qi).cells∧(rs.getD k qi).reads w∧(rs.getD k qi).short 1099511627776):=fun k hk=>by
  obtain ⟨b,off,ha,hc⟩:=hr (by intro e;rw [e] at hk;simp at hk);exact ⟨b,off,ha,(hc k hk).1,(hc k hk).2,hl2 _ (xE rs k hk)⟩
 have HI:Hid ((prog.info? 121).map (·.size)=some 20):=by rw [Hid];kernel_rfl
 clear hr hl hl2;go_enter func62,ntmps62;go_wp2_with fail;rw [hW.out];clear hW x0 x1;go_loopw [4] (fun i wr=>∃ (k:Nat) (ts:List qh) (a':Option Addr) (c':Nat),k≤rs.length∧i=.int .i64 k∧Hid (QM rs ts k)∧Box wr (w.heap.size+1+1) [.slice a' ts.length c',.int .i64 s] 52∧Box wr w.heap.size [.slice a rs.length c,.int .i64 s] 52∧Box wr (w.heap.size+1) [.slice none 0 0,.int .i64 0] 52∧OwnSts wr W.heap.size wr.heap.size a' c' ts∧qa w wr∧W.heap.size≤wr.heap.size)
  (fun i _=>rs.length-(intOf i).toNat)
 case atStart=>exact ⟨0,[],none,0,qaw _,rfl,ZZ rs,b2,b0,b1,MK _ _ _ qg,hbW,qcN _⟩
 case round=>
  obtain ⟨k,ts,a',c',hk,rfl,hc,k2,k0,k1,hown,hnx,hsz⟩:=hrel;clear b0 b1 b2 hbW;have x0:=k0.cell 0 _ rfl;by_cases hlt:k<rs.length
  ·obtain ⟨b,off,rfl,hcell,hrd,hsh⟩:=HC.out k hlt;have KZ:=Kz hcell;have hnw:=hnx.size;have HR:Hid (∀ u,qa w u→u.rangeAt b (off+k*20) (rs.getD k qi).cells):=fun u hu=>yY hcell hu KZ
   have HS:Hid (∀ q:qh,q.v=(rs.getD k qi).v→QM rs (ts++[q]) (k+1)):=fun q hq=>hc.out.snoc hlt hq
   have HL:Hid (ts.length=k):=hc.out.1;clear hcell HC;generalize rs.getD k qi=z at*
   have e0:=k2.cell 0 _ rfl;have kJ:Hid (∀ u,qa w u→Box u w.heap.size [.slice (some ⟨b,off,none⟩) rs.length c,.int .i64 s] 52→u.rangeAt b (off+k*20) z.cells∧u.cell? ⟨w.heap.size,0,none⟩=some (.slice (some ⟨b,off,none⟩) rs.length c)):=fun u h1 h2=>⟨HR.out u h1,h2.cell 0 _ rfl⟩
   go_wp2_with fail;refine qaZ (S:=fun w'=>w'.rangeAt b (off+k*20) z.cells∧w'.cell? ⟨w.heap.size,0,none⟩=some (.slice (some ⟨b,off,none⟩) rs.length c)) (by kernel_rfl) ?_ (fun qc=>?_)
   ·exact kJ.out _ hnx.drew (k0.drewN 1)
   refine jg 0 ?_;refine jg 2 ?_;refine jg 3 ?_;refine jg 4 ?_;refine jg 5 ?_;refine xB 6 z.cells (fun _ h=>h.1) underlying121 HI.out ?_;have hnd:qa wr wr.drew:=(qab _ _).drew;have C:=Pq z wr.drew (hrd.below hnx.drew) hsh;refine qde (rs:=[1,7]) (by kernel_rfl) (by simp) ?_;refine qcE rfl (fun K hK=>?_) (qcE rfl (fun K hK=>?_) qc9)
   ·go_simp;refine qX hK qc fun qc=>?_
    clear hK K;try simp only [zz]
    refine jc 7 (fun K hK=>?_);go_simp;refine C.mono ?_;clear C;rintro e u2 ⟨q,rfl,hq,hqo,hb2⟩;have hb2':qa wr u2:=hnd.trans hb2;have hn2:qa w u2:=hnx.trans (hb2'.mono hnw);have k22:=k2.below hb2' k2.lt;have QK:=k0.below hb2' k0.lt;have k12:=k1.below hb2' k1.lt;have o2:=hown.below hb2';have J5:q.own u2 wr.heap.size u2.heap.size:=hqo;have hs2:=hb2'.size;refine qX hK (kJ.out _ hn2 QK) fun qc=>?_
    clear hK K;try simp only [zz]
    refine jc 8 (fun K hK=>?_);go_simp;simp only [yn,Xe,qeV,qfF,or_self,qf7];go_simp;obtain ⟨W3,hW3,b3,hb3,hs3⟩:=qB u2 q.cells 121;rw [hW3.out];have Vp:=qf hn2 hb3;have k23:=k22.below hb3 k22.lt;have YL:=QK.below hb3 QK.lt;have k13:=k12.below hb3 k12.lt;have o3:=o2.below hb3;have VS:=J5.below hb3;have r3:W3.rangeAt u2.heap.size 0 q.cells:=qN b3;have dG:=b3.lt;clear hs3 hb3 hW3 b3 QK k12 o2 J5;refine qX hK (kJ.out _ Vp YL) fun qc=>?_
    exact KH
   ·go_simp;refine C.mono ?_;clear C;rintro e u2 ⟨q,rfl,hq,hqo,hb2⟩;have hb2':qa wr u2:=hnd.trans hb2;have hn2:qa w u2:=hnx.trans (hb2'.mono hnw);have k22:=k2.below hb2' k2.lt;have QK:=k0.below hb2' k0.lt;have k12:=k1.below hb2' k1.lt;have o2:=hown.below hb2';have J5:q.own u2 wr.heap.size u2.heap.size:=hqo;have hs2:=hb2'.size;refine qX hK (kJ.out _ hn2 QK) fun qc=>?_
    clear hK K;try simp only [zz]
    refine qde (rs:=[1,8]) (by kernel_rfl) (by simp) ?_;refine qcE rfl (fun K hK=>?_) (qcE rfl (fun K hK=>?_) qc9)
    ·have d0:=k22.cell 0 _ rfl;go_simp;refine qX hK qc fun qc=>?_
     clear hK K;try simp only [zz]
     refine jc 8 (fun K hK=>?_);go_simp;simp only [yn,Xe,qeV,qfF,or_self,qf7];go_simp;obtain ⟨W3,hW3,b3,hb3,hs3⟩:=qB u2 q.cells 121;rw [hW3.out];have Vp:=qf hn2 hb3;have k23:=k22.below hb3 k22.lt;have YL:=QK.below hb3 QK.lt;have k13:=k12.below hb3 k12.lt;have o3:=o2.below hb3;have VS:=J5.below hb3;have r3:W3.rangeAt u2.heap.size 0 q.cells:=qN b3;have dG:=b3.lt;clear hs3 hb3 hW3 b3 QK k12 o2 J5;refine qX hK (kJ.out _ Vp YL) fun qc=>?_
     exact KH
    ·go_simp;simp only [yn,Xe,qeV,qfF,or_self,qf7];go_simp;obtain ⟨W3,hW3,b3,hb3,hs3⟩:=qB u2 q.cells 121;rw [hW3.out];have Vp:=qf hn2 hb3;have k23:=k22.below hb3 k22.lt;have YL:=QK.below hb3 QK.lt;have k13:=k12.below hb3 k12.lt;have o3:=o2.below hb3;have VS:=J5.below hb3;have r3:W3.rangeAt u2.heap.size 0 q.cells:=qN b3;have dG:=b3.lt;clear hs3 hb3 hW3 b3 QK k12 o2 J5;refine qX hK (kJ.out _ Vp YL) fun qc=>?_
     clear hK K;try simp only [zz]
     have d0:=k23.cell 0 _ rfl;refine jc 1 (fun K hK=>?_);go_simp;refine qX hK qc fun qc=>?_
     exact KH
  ·have HE:Hid (ts.map qh.v=rs.map qh.v):=by
    have e:k=rs.length:=by omega
    rw [e] at hc;exact hc.out.all
   have e0:=k2.cell 0 _ rfl;have e1:=k2.cell 1 _ rfl;have m0:=k1.cell 0 _ rfl;have m1:=k1.cell 1 _ rfl;have Kl:=k1.frozen 0;have mJ:=k1.frozen 1;obtain ⟨WF,qK,bF,hwF,q8⟩:=zM k1 (.slice a' ts.length c') (.int .i64 s);have q0:=bF.cell 0 _ rfl;have q1:=bF.cell 1 _ rfl;have wh:=(hown.within hwF (.inr (by omega))).widen (show w.heap.size≤W.heap.size by omega) (show wr.heap.size≤WF.heap.size by omega) qg;have zN:qa w WF:=hnx.trans (hwF.below (by omega) (by have:=hnx.size;omega));clear hwF q8 bF;go_wp2;rw [qK.out];exact qa3 (v:=.agg #[.slice a' ts.length c',.int .i64 s]) (by simp [results,results62,go_sem,q0,q1]) rfl ⟨⟨ts,s,a',c'⟩,rfl,by simp only [Hid,qo.v];rw [HE.out],wh,zN⟩
end
def P6 (p:qo) (w:World) (e:Ending) (w':World):Prop:=
 ∃ (t:qo) (k:Int),e=.returned (.tuple #[.agg t.cells.toArray,.int .i64 k])∧Hid (wB p.v=(t.v,k))∧t.own w' w.heap.size w'.heap.size∧qa w w'
theorem Sy {p:jM} (h:¬ (okPool p=true∧p.seats.length=3)):wB p=(p,-1):=by rw [wB,qa2 h]
theorem U7 {p:jM} {h:Nat} (h1:okPool p=true) (h2:p.seats.length=3) (hh:p.hand=h):wB p=(jM.mk (qW 4 p.seats h).1 ((qW 4 p.seats h).2.1:Int),((qW 4 p.seats h).2.2:Int)):=by
 rw [wB,qan ⟨h1,h2⟩,hh];rfl
theorem Vh {p:jM} (h:okPool p=true):∃ n:Nat,p.hand=n∧n<3:=by
 have h2:=(uj h).2.1;simp only [inB,qcB] at h2;exact ⟨p.hand.toNat,by omega,by omega⟩
theorem Af {P:Prop} (h:P:=by
 have e:=qcz (fun v=>v.seats.length) HV.out;simp only [qo.v,qa4] at e;omega):P:=h
def ML (w:World) (g k:Nat):Nat:=match w.cell? ⟨g,k*20+19,none⟩ with
 | some (.bool true)=>1
 | _=>0
theorem qbW {α:Type} {ts:List α} (h:ts.length=3):∃ x y z,ts=[x,y,z]:=by
 match ts,h with
 | [x,y,z],_=>exact ⟨x,y,z,rfl⟩
def J6 (g:Nat) (w:World):Nat:=ML w g 0+ML w g 1+ML w g 2
theorem Gn {w:World} {lo hi g c:Nat} {ts:List qh} (h:OwnSts w lo hi (some ⟨g,0,none⟩) c ts) (k:Nat) (hk:k<ts.length):ML w g k=if (ts.getD k qi).hot=true then 1 else 0:=by
 have hx:w.cell? ⟨g,k*20+19,none⟩=some (.bool (ts.getD k qi).hot):=(zm h.row rfl k hk).1 19 _ rfl;rw [ML,hx];cases (ts.getD k qi).hot<;>rfl
theorem Xo {w:World} {lo hi g c:Nat} {ts:List qh} (h:OwnSts w lo hi (some ⟨g,0,none⟩) c ts) (hl:ts.length=3):J6 g w=Jh (ts.map qh.v):=by
 rw [J6,Gn h 0 (by omega),Gn h 1 (by omega),Gn h 2 (by omega)];obtain ⟨x,y,z,rfl⟩:=qbW hl;simp only [qfp,List.getD_cons_succ,Jh,qdG,qfe,List.filter_cons,List.filter_nil];have e:∀ s:qh,s.v.hot=s.hot:=fun _=>rfl
 rw [e,e,e];cases x.hot<;>cases y.hot<;>cases z.hot<;>rfl
def UE (a:Act) (w:World):Nat:=
 match a.tmps.getD 4 undef with
 | .pointer (some ad)=>match w.cell? ⟨ad.block,0,none⟩ with
  | some (.slice (some b) _ _)=>J6 b.block w
  | _=>0
 | _=>0
structure MM (w:World) (lo B g c:Nat) (ts:List qh) (hand:Int) (w':World):Prop where
 out:Box w' B [.slice (some ⟨g,0,none⟩) ts.length c,.int .i64 hand] 52
 res:Box w' (w.heap.size+1) [.slice none 0 0,.int .i64 0] 52
 own:OwnSts w' lo B (some ⟨g,0,none⟩) c ts
 lo1:w.heap.size+1<lo
 loB:lo≤B
 len:ts.length=3
 bel:qa w w'
theorem MM.cold {w wr:World} {lo B g c:Nat} {ts:List qh} {hand:Int} (st:MM w lo B g c ts hand wr) (k:Nat) (hk:k<3):
  ∃ W1,Hid (wr.setCell ⟨g,k*20+19,none⟩ (.bool false)=W1)∧MM w lo B g c (ts.set k (ts.getD k qi).cold) hand W1:=by
 have hkt:k<ts.length:=by rw [st.len];exact hk
 have hgl:=st.own.qC g (by simp [qF,Value.ownBlock]);have hkl:(ts.take k).length=k:=by rw [qdm];omega
 have aM:=st.own;rw [zu ts k hkt] at aM;obtain ⟨o4,t4⟩:=aM.Ke (z':=(ts.getD k qi).cold) 19 (.bool false) (by omega) rfl rfl;rw [hkl,← Qa ts k _ hkt] at o4;rw [hkl] at t4;have h1:=st.lo1;have h2:=st.loB;refine ⟨_,rfl,?_,st.res.touch t4 (by simp;omega),o4,h1,h2,by simp [st.len],st.bel.trans ((t4.within (lo:=lo) (hi:=B) (fun j hj=>by obtain rfl:=qac.1 hj;exact hgl)).below (by omega) (by have:=st.bel.size;omega))⟩;have:=st.out.touch t4 (by simp;omega);rw [qcP];exact this
theorem KI (k:Nat) (hk:k<3) (w:World):Calls prog 221 #[.int .i64 (k:Int)] w fun e w'=>e=.returned (.int .i64 (((k+1) % 3:Nat):Int))∧w'=w:=by
 have HM:Hid (((k:Int)+1) % 3=(((k+1) % 3:Nat):Int)):=by rw [Hid];omega
 go_enter func221,ntmps221;go_wp2;go_ret;exact ⟨jN (by first | exact HM.out | omega),rfl⟩
theorem MN {P:Prop} (h:P:=by
 rw [qa2 hot] at hvv;have qf2:(ts.getD k qi).hot=false:=by simpa using hot
 rw [qf2] at Vs;have C:=KI k hk3 wr;have Qm:Hid (wB p.v=(qo.v ⟨ts,(((k+1) % 3:Nat):Int),some ⟨g,0,none⟩,c⟩,(k:Int))):=hvv.out;have y1:=st.out.cell 1 _ rfl;have yf1:=st.out.frozen 1;have hl1:=st.lo1;have hl2:=st.loB;obtain ⟨W1,hW1,Ot,hw1,hs1⟩:=jZ st.out 1 (.int .i64 (((k+1) % 3:Nat):Int));simp only [List.set] at Ot;have aN:=st.res.within hw1 (by omega);have ow1:=st.own.within hw1 (.inl qg);have n1:qa w W1:=st.bel.trans (hw1.below (by omega) (by have:=st.bel.size;omega));have e0:=Ot.cell 0 _ rfl;have e1:=Ot.cell 1 _ rfl;have m0:=aN.cell 0 _ rfl;have m1:=aN.cell 1 _ rfl;have Kl:=aN.frozen 0;have mJ:=aN.frozen 1;obtain ⟨WF,qK,bF,hwF,q8⟩:=zM aN (.slice (some ⟨g,0,none⟩) ts.length c) (.int .i64 (((k+1) % 3:Nat):Int));have q0:=bF.cell 0 _ rfl;have q1:=bF.cell 1 _ rfl;have hBW:=Ot.lt;have wh:=(ow1.within hwF (.inr (by omega))).widen (show w.heap.size≤lo by omega) (show B≤WF.heap.size by omega) qg;have zN:qa w WF:=n1.trans (hwF.below (by omega) (by have:=n1.size;omega));clear hvv hot qf2 Gi st Ot aN ow1 n1 hwF q8 bF hw1 hs1;generalize (((k+1) % 3:Nat):Int)=k1 at*
 go_wp2_with fail;refine C.mono ?_;clear C x0 Vs f19;rintro e u ⟨rfl,hu⟩;rw [hu];clear hu u;go_upto_region 9 with fail;rw [hW1.out];clear hW1;go_wp2_with fail;rw [qK.out];simp only [Exit.jump];exact qa3 (v:=.tuple #[.agg #[.slice (some ⟨g,0,none⟩) ts.length c,.int .i64 k1],.int .i64 (k:Int)]) (by simp [results,results212,go_sem,q0,q1]) rfl ⟨⟨ts,k1,some ⟨g,0,none⟩,c⟩,k,rfl,Qm,wh,zN⟩):P:=h
theorem MO {P:Prop} (h:P:=by
 clear Ag HV h1;have e0:=vS.cell 0 _ rfl;have e1:=vS.cell 1 _ rfl;have m0:=b13.cell 0 _ rfl;have m1:=b13.cell 1 _ rfl;have Kl:=b13.frozen 0;have mJ:=b13.frozen 1;obtain ⟨WF,qK,bF,hwF,q8⟩:=zM b13 (.slice t.a t.seats.length t.c) (.int .i64 t.hand);have q0:=bF.cell 0 _ rfl;have q1:=bF.cell 1 _ rfl;have wh:=(qo.own.within o3 hwF (.inr (by omega))).widen (show w.heap.size≤W.heap.size by omega) (show w1.heap.size≤WF.heap.size by omega) qg;have zN:qa w WF:=n3.trans (hwF.below (by omega) (by omega));clear hwF q8 bF o3 b13 vS;go_wp2_with fail;rw [qK.out];simp only [Exit.jump];exact qa3 (v:=.tuple #[.agg #[.slice t.a t.seats.length t.c,.int .i64 t.hand],.int .i64 (-1)]) (by simp [results,results212,go_sem,q0,q1]) rfl ⟨t,-1,rfl,aO,wh,zN⟩):P:=h
theorem MP {P:Prop} (h:P:=by
 have h:=Cx (ts.map qh.v) k (by simpa using hkt) (by rw [kM];exact hot);rw [kM] at h;rw [qeW,Wz];exact h):P:=h
theorem NT (p:qo) (w:World) (hg:jR w) (hr:p.reads w) (hl:p.short 1048576):
  Calls prog 212 #[.agg p.cells.toArray] w fun e w'=>P6 p w e w':=by
 obtain ⟨W,hW,b0,b1,hbW,qD⟩:=jK w [.slice p.a p.seats.length p.c,.int .i64 p.hand] [.slice none 0 0,.int .i64 0] 52 52;have hs0:w.heap.size+1<W.heap.size:=by omega
 have p0:=b0.cell 0 _ rfl;have p1:=b0.cell 1 _ rfl;have C:=Ql p W (qo.reads.below hr hbW) hl;simp only [qo.cells] at*
 clear qD;go_enter func212,ntmps212;go_wp2;refine wp_scope_jumps 0 (fun a' w'=>∃ (lo B g c k n:Nat) (ts:List qh) (hand:Int) (x0 x3 x6 x7 x8 x9 xO yA yE yQ yC x15 x16 x17 x18 Vs x20 x21 x22 x23 x24 x25 x26 x27 x28 x29 x30 x31 x32 x33 x34 x35 x36 x37:Value),a'={ tmps:=#[x0,.pointer (some ⟨w.heap.size,0,none⟩),.pointer (some ⟨w.heap.size+1,0,none⟩),x3,.pointer (some ⟨B,0,none⟩),.int .i64 (k:Int),x6,x7,x8,x9,xO,yA,yE,yQ,yC,x15,x16,x17,x18,Vs,x20,x21,x22,x23,x24,x25,x26,x27,x28,x29,x30,x31,x32,x33,x34,x35,x36,x37],defers:=[] }∧MM w lo B g c ts hand w'∧k<3∧Hid (wB p.v=(jM.mk (qW n (ts.map qh.v) k).1 ((qW n (ts.map qh.v) k).2.1:Int),((qW n (ts.map qh.v) k).2.2:Int)))∧Jh (ts.map qh.v)<n) UE rfl ?_ ?_
 ·go_upto_region 1 with fail;rw [hW.out];clear hW;go_wp2_with fail;refine C.mono ?_;clear C p0 p1;rintro e w1 ⟨t,rfl,hv,ho,hb1⟩;have hs1:=hb1.size;have b01:=b0.below hb1 b0.lt;have b11:=b1.below hb1 b1.lt;obtain ⟨W2,hW2,b2,hb2,hs2⟩:=qB w1 [.slice t.a t.seats.length t.c,.int .i64 t.hand] 52;have b02:=b01.below hb2 b01.lt;have b12:=b11.below hb2 b11.lt;have o2:=ho.below hb2;have n2:qa w W2:=(hbW.trans (hb1.mono (by omega))).trans (hb2.mono (by omega));have BP:=b2.lt;clear b0 b1 b01 b11 ho hb1 hb2 hs2 hbW;go_upto_region 2 with fail;rw [hW2.out];clear hW2;have p0:=b02.cell 0 _ rfl;have p1:=b02.cell 1 _ rfl;have HV:Hid (t.v=p.v):=hv.out;clear hv;have C:=vg p W2 (hg.keep n2) (qo.reads.below hr n2) (qo.jB hl);simp only [qo.cells] at C;go_wp2_with fail;refine C.mono ?_;clear C p0 p1;rintro e w3 ⟨rfl,hb3⟩;have hs3:=hb3.size;have K3:=b02.below hb3 b02.lt;have b13:=b12.below hb3 b12.lt;have vS:=b2.below hb3 b2.lt;have o3:=o2.below hb3;have n3:=qf n2 hb3;have p0:=K3.cell 0 _ rfl;have p1:=K3.cell 1 _ rfl;clear b02 b12 b2 o2 n2 hb3;by_cases Ag:okPool p.v=true∧p.seats.length=3
  ·obtain ⟨h1,h2⟩:=Ag;obtain ⟨k,hh,hk3⟩:=Vh h1;have TJ:=U7 (h:=k) h1 (by simpa [qo.v] using h2) hh;have hne:((p.seats.length:Int) != 3)=false:=by rw [h2];rfl
   rw [h1];clear h1;have hph:p.hand=(k:Int):=hh;rw [hph] at p1;obtain ⟨ts,hand,a,c⟩:=t;simp only [qo.own] at*
   have htl:ts.length=3:=by
    exact Af
   obtain ⟨g,rfl⟩:∃ g,a=some ⟨g,0,none⟩:=by
    rcases o3.row.2 with ⟨_,h0⟩ | ⟨g,cap',cur,hv,_⟩
    ·omega
    ·simp only [qcK] at hv;exact ⟨g,hv.1⟩
   have st:MM w W.heap.size w1.heap.size g c ts hand w3:=⟨vS,b13,o3,hs0,hs1,htl,n3⟩;have eps:p.v.seats=ts.map qh.v:=by rw [← HV.out];rfl
   rw [eps] at TJ;have qf3:Hid (wB p.v=(jM.mk (qW 4 (ts.map qh.v) k).1 ((qW 4 (ts.map qh.v) k).2.1:Int),((qW 4 (ts.map qh.v) k).2.2:Int))):=TJ;obtain ⟨n,hvv,Gi⟩:∃ n,Hid (wB p.v=(jM.mk (qW n (ts.map qh.v) k).1 ((qW n (ts.map qh.v) k).2.1:Int),((qW n (ts.map qh.v) k).2.2:Int)))∧Jh (ts.map qh.v)<n:=⟨4,qf3,by have:=aC (ts.map qh.v);rw [qa4] at this;omega⟩;obtain ⟨lo,hlo⟩:=qV W.heap.size;obtain ⟨B,hB⟩:=qV w1.heap.size;rw [hlo.out,hB.out] at st;have qo8:Hid (p.seats.length=3):=h2;clear qf3 TJ eps vS b13 o3 htl n3 K3 hh h2 hph hlo hs0 hs1 BP hs3 HV;rw [hB.out];clear hB;generalize p.hand=hp at*
   obtain ⟨wr,hwr⟩:=qV w3;rw [hwr.out] at st p0 p1 ⊢;clear hwr w3;go_wp2_with fail
   go_step3
   clear p0 p1;have hkt:k<ts.length:=by rw [st.len];exact hk3
   have x0:=st.out.cell 0 _ rfl;have Vs:wr.cell? ⟨g,k*20+19,none⟩=some (.bool (ts.getD k qi).hot):=(zm st.own.row rfl k hkt).1 19 _ rfl;have f19:=st.own.row.frozenAt (k*20+19);have hkk:(k:Int)<(ts.length:Int):=by omega
   have hk0:(0:Int)≤(k:Int):=by omega
   obtain ⟨m,rfl⟩:∃ m,n=m+1:=⟨n-1,by omega⟩;have hlm:ts.length≤3:=by rw [st.len];omega
   rw [ZX] at hvv;by_cases hot:(ts.getD k qi).hot=true
   ·
    rw [qan hot] at hvv;rw [hot] at Vs;obtain ⟨W1,hW1,st1⟩:=st.cold k hk3;have C:=KI k hk3 W1;have HV1:Hid (wB p.v=(jM.mk (qW m ((ts.set k (ts.getD k qi).cold).map qh.v) ((k+1) % 3)).1 ((qW m ((ts.set k (ts.getD k qi).cold).map qh.v) ((k+1) % 3)).2.1:Int),((qW m ((ts.set k (ts.getD k qi).cold).map qh.v) ((k+1) % 3)).2.2:Int))):=by
     rw [qeW,Wz];exact hvv
    have L8:Jh ((ts.set k (ts.getD k qi).cold).map qh.v)+1=Jh (ts.map qh.v):=by
     exact MP
    have HMS:Hid (J6 g W1<J6 g wr):=by rw [Hid,Xo st1.own st1.len,Xo st.own st.len];omega
    have HK:Hid ((k+1) % 3<3):=qfc _ (by omega);have HCW:Hid (W1.cell? ⟨B,0,none⟩=some (.slice (some ⟨g,0,none⟩) ts.length c)∧wr.cell? ⟨B,0,none⟩=some (.slice (some ⟨g,0,none⟩) ts.length c)):=⟨by have:=st1.out.cell 0 _ rfl;rw [qcP] at this;exact this,x0⟩;have HHM:Hid (Jh ((ts.set k (ts.getD k qi).cold).map qh.v)<m):=by rw [Hid];omega
    clear hvv hot L8 Gi st;generalize hts:ts.set k (ts.getD k qi).cold=ts1 at*
    clear hts;generalize (k+1) % 3=k1 at*
    go_wp2_with fail;rw [hW1.out];refine C.mono ?_;clear C x0 Vs f19 hW1;rintro e u ⟨rfl,hu⟩;rw [hu];clear hu u;go_wp2
    go_step3
    exact ⟨rfl,lo,B,g,c,k1,m,ts1,hand,_,_,_,_,_,_,_,_,_,_,_,_,_,_,_,_,_,_,_,_,_,_,_,_,_,_,_,_,_,_,_,_,_,_,rfl,st1,HK.out,HV1,HHM.out⟩
   ·
    exact MN
  ·have aO:Hid (wB p.v=(t.v,-1)):=by
    rw [Hid,Sy (by simpa [qo.v] using Ag),HV.out]
   cases h1:okPool p.v with
   | true=>
    have hne:((p.seats.length:Int) != 3)=true:=by
     have:¬ p.seats.length=3:=fun h=>Ag ⟨h1,h⟩
     simp only [bne_iff_ne,ne_eq];omega
    exact MO
   | false=>
    exact MO
 ·clear C hW b0 b1 p0 p1 hr hl hg hbW hs0;rintro a' wr ⟨lo,B,g,c,k,n,ts,hand,z0,x3,x6,x7,x8,x9,xO,yA,yE,yQ,yC,x15,x16,x17,x18,z19,x20,x21,x22,x23,x24,x25,x26,x27,x28,x29,x30,x31,x32,x33,x34,x35,x36,x37,rfl,st,hk3,hvv,Gi⟩;have hkt:k<ts.length:=by rw [st.len];exact hk3
  have x0:=st.out.cell 0 _ rfl;have Vs:wr.cell? ⟨g,k*20+19,none⟩=some (.bool (ts.getD k qi).hot):=(zm st.own.row rfl k hkt).1 19 _ rfl;have f19:=st.own.row.frozenAt (k*20+19);have hkk:(k:Int)<(ts.length:Int):=by omega
  have hk0:(0:Int)≤(k:Int):=by omega
  obtain ⟨m,rfl⟩:∃ m,n=m+1:=⟨n-1,by omega⟩;have hlm:ts.length≤3:=by rw [st.len];omega
  rw [ZX] at hvv;by_cases hot:(ts.getD k qi).hot=true
  ·
   rw [qan hot] at hvv;rw [hot] at Vs;obtain ⟨W1,hW1,st1⟩:=st.cold k hk3;have C:=KI k hk3 W1;have HV1:Hid (wB p.v=(jM.mk (qW m ((ts.set k (ts.getD k qi).cold).map qh.v) ((k+1) % 3)).1 ((qW m ((ts.set k (ts.getD k qi).cold).map qh.v) ((k+1) % 3)).2.1:Int),((qW m ((ts.set k (ts.getD k qi).cold).map qh.v) ((k+1) % 3)).2.2:Int))):=by
    rw [qeW,Wz];exact hvv
   have L8:Jh ((ts.set k (ts.getD k qi).cold).map qh.v)+1=Jh (ts.map qh.v):=by
    exact MP
   have HMS:Hid (J6 g W1<J6 g wr):=by rw [Hid,Xo st1.own st1.len,Xo st.own st.len];omega
   have HK:Hid ((k+1) % 3<3):=qfc _ (by omega);have HCW:Hid (W1.cell? ⟨B,0,none⟩=some (.slice (some ⟨g,0,none⟩) ts.length c)∧wr.cell? ⟨B,0,none⟩=some (.slice (some ⟨g,0,none⟩) ts.length c)):=⟨by have:=st1.out.cell 0 _ rfl;rw [qcP] at this;exact this,x0⟩;have HHM:Hid (Jh ((ts.set k (ts.getD k qi).cold).map qh.v)<m):=by rw [Hid];omega
   clear hvv hot L8 Gi st;generalize hts:ts.set k (ts.getD k qi).cold=ts1 at*
   clear hts;generalize (k+1) % 3=k1 at*
   go_wp2_with fail;rw [hW1.out];refine C.mono ?_;clear C x0 Vs f19 hW1;rintro e u ⟨rfl,hu⟩;rw [hu];clear hu u;go_wp2
   go_step3
   refine ⟨rfl,⟨lo,B,g,c,k1,m,ts1,hand,_,_,_,_,_,_,_,_,_,_,_,_,_,_,_,_,_,_,_,_,_,_,_,_,_,_,_,_,_,_,_,_,_,_,rfl,st1,HK.out,HV1,HHM.out⟩,?_⟩;have h1:=HMS.out;have e1:=HCW.out.1;have e2:=HCW.out.2;simp only [UE]
   simpa [e1,e2] using h1
  ·
   exact MN
end Go.Proofs.YtnfdccldabbobaaGreatDoor
