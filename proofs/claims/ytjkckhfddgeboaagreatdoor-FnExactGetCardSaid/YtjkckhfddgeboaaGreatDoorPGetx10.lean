/- Several texts in one, in their order. -/
import Derived.Test.YtjkckhfddgeboaaGreatDoorPGetx9
import Derived.Deep.Cut
import Derived.Test.YtjkckhfddgeboaaGreatDoorPGetx4
import Derived.Test.YtjkckhfddgeboaaGreatDoorPGetx8
import Derived.Deep.CutRange
import Derived.Deep.LoopGhost
import Derived.Test.YtjkckhfddgeboaaGreatDoorPGetx7
import Derived.Deep.MidRow
import Derived.Laws.Tables
import Derived.Test.YtjkckhfddgeboaaGreatDoorPGetx2
import Derived.Deep.RegionHeld3
import Derived.Test.YtjkckhfddgeboaaGreatDoorPGetx6
import Derived.Test.YtjkckhfddgeboaaGreatDoorPGetx1
set_option maxHeartbeats 8000000
set_option maxRecDepth 100000
namespace Go.Proofs.YtjkckhfddgeboaaGreatDoor
open Go.RowKit
theorem N9 (B o:Nat) (cs:List Value) (T:TypeId) (a:Option Addr) (c n:Nat) (s x:Int) (w:World) (b:Box w B cs T) (h0:cs[o]? =some (.slice a n c)) (h1:cs[o+1]? =some (.int .i64 s)):
  Calls Tryz.prog 179 #[.pointer (some ⟨B,o,none⟩),.int .i64 x] w fun e w'=>(∃ v,e=.returned v)∧Box w' B (cs.set (o+1) (.int .i64 (min (max s x) (n:Int)))) T∧Within B (B+1) w w'∧w'.heap.size=w.heap.size:=by
 have D0:Below w.heap.size w w.drew:=(Below.refl _ _).drew;have b0:=b.below D0 b.lt;have c0:=b0.cell o _ h0;have c1:=b0.cell (o+1) _ h1;have f1:=b0.frozen (o+1);have HMM:Hid ((if (n:Int)<(if s<x then x else s) then (n:Int) else if s<x then x else s)=min (max s x) n):=by
  rw [Hid];split<;>split<;>omega
 obtain ⟨W,hW,bW,hw,hs⟩:=jB b0 (o+1) (.int .i64 (if (n:Int)<(if s<x then x else s) then (n:Int) else if s<x then x else s));have HE:Hid (Box W B (cs.set (o+1) (.int .i64 (min (max s x) (n:Int)))) T∧Within B (B+1) w W∧W.heap.size=w.heap.size):=⟨by rw [← HMM.out];exact bW,(Within.of_below D0).trans hw,hs⟩;clear bW hw hs HMM b0 D0;go_enter Tryz.func179,Tryz.ntmps179;refine dM (· == 15) (S:=fun u=>u.cell? ⟨B,o,none⟩=some (.slice a n c)∧u.cell? ⟨B,o+1,none⟩=some (.int .i64 s)) (by kernel_rfl) ⟨c0,c1⟩ (fun hHeld=>?_);generalize w.drew=d0 at*
 refine xh (i:=0) (v:=.pointer (some ⟨B,o,none⟩)) rfl (by kernel_rfl) (fun _ _ _ h=>h) (Or.inl ⟨by rfl,?_⟩) hHeld ?_
 ·intro w' hSw;go_simp<;>rfl
 try simp only [zz]
 refine xh (i:=1) (v:=.pointer (some ⟨B,o,none⟩)) rfl (by kernel_rfl) (fun _ _ _ h=>h) (Or.inl ⟨by rfl,?_⟩) hHeld ?_
 ·intro w' hSw;go_simp<;>rfl
 try simp only [zz]
 refine xh (i:=2) (v:=.pointer (some ⟨B,o,none⟩)) rfl (by kernel_rfl) (fun _ _ _ h=>h) (Or.inl ⟨by rfl,?_⟩) hHeld ?_
 ·intro w' hSw;go_simp<;>rfl
 try simp only [zz]
 refine xh (i:=3) (v:=.pointer (some ⟨B,o+1,none⟩)) rfl (by kernel_rfl) (fun _ _ _ h=>h) (Or.inl ⟨by rfl,?_⟩) hHeld ?_
 ·intro w' hSw;go_simp<;>rfl
 try simp only [zz]
 refine xh (i:=4) (v:=.int .i64 s) rfl (by kernel_rfl) (fun _ _ _ h=>h) (Or.inl ⟨by rfl,?_⟩) hHeld ?_
 ·intro w' hSw;have hx:=hSw.2;go_simp<;>rfl
 try simp only [zz]
 refine xh (i:=5) (v:=.int .i64 x) rfl (by kernel_rfl) (fun _ _ _ h=>h) (Or.inl ⟨by rfl,?_⟩) hHeld ?_
 ·intro w' hSw;go_simp<;>rfl
 try simp only [zz]
 refine xh (i:=6) (v:=.int .i64 (if s<x then x else s)) rfl (by kernel_rfl) (fun _ _ _ h=>h) (Or.inl ⟨by rfl,?_⟩) hHeld ?_
 ·intro w' hSw;go_simp<;>rfl
 try simp only [zz]
 refine xh (i:=7) (v:=.pointer (some ⟨B,o,none⟩)) rfl (by kernel_rfl) (fun _ _ _ h=>h) (Or.inl ⟨by rfl,?_⟩) hHeld ?_
 ·intro w' hSw;go_simp<;>rfl
 try simp only [zz]
 refine xh (i:=8) (v:=.pointer (some ⟨B,o,none⟩)) rfl (by kernel_rfl) (fun _ _ _ h=>h) (Or.inl ⟨by rfl,?_⟩) hHeld ?_
 ·intro w' hSw;go_simp<;>rfl
 try simp only [zz]
 refine xh (i:=9) (v:=.pointer (some ⟨B,o,none⟩)) rfl (by kernel_rfl) (fun _ _ _ h=>h) (Or.inl ⟨by rfl,?_⟩) hHeld ?_
 ·intro w' hSw;go_simp<;>rfl
 try simp only [zz]
 refine xh (i:=10) (v:=.slice a n c) rfl (by kernel_rfl) (fun _ _ _ h=>h) (Or.inl ⟨by rfl,?_⟩) hHeld ?_
 ·intro w' hSw;have hx:=hSw.1;go_simp<;>rfl
 try simp only [zz]
 refine xh (i:=11) (v:=.int .i64 (n:Int)) rfl (by kernel_rfl) (fun _ _ _ h=>h) (Or.inl ⟨by rfl,?_⟩) hHeld ?_
 ·intro w' hSw;go_simp<;>rfl
 try simp only [zz]
 refine xh (i:=12) (v:=.int .i64 (if (n:Int)<(if s<x then x else s) then (n:Int) else if s<x then x else s)) rfl (by kernel_rfl) (fun _ _ _ h=>h) (Or.inl ⟨by rfl,?_⟩) hHeld ?_
 ·intro w' hSw;go_simp<;>rfl
 try simp only [zz]
 refine DN 13 (by kernel_rfl) rfl (fun K hK=>?_);go_simp;refine hK.out _ _ (hHeld) (fun hHeld=>?_);clear hK K ;try simp only [zz]
 refine xh (i:=14) (v:=.pointer (some ⟨B,o+1,none⟩)) rfl (by kernel_rfl) (fun _ _ _ h=>h) (Or.inl ⟨by rfl,?_⟩) hHeld ?_
 ·intro w' hSw;go_simp<;>rfl
 try simp only [zz]
 refine DR 15 (by kernel_rfl) rfl rfl (fun K hK=>?_);go_simp;rw [hW.out];refine hK.out _ _ ?_;clear hK K;refine DT (by kernel_rfl) ?_ _;clear hW hHeld;generalize (if (n:Int)<(if s<x then x else s) then (n:Int) else if s<x then x else s)=I1 at*
 generalize (if s<x then x else s)=I2 at*
 go_wp2;go_end0;exact ⟨⟨_,rfl⟩,HE.out⟩
theorem Hl (B o:Nat) (a:Option Addr) (c m:Nat) (s n:Int) (w:World) (c0:w.cell? ⟨B,o,none⟩=some (.slice a m c)) (c1:w.cell? ⟨B,o+1,none⟩=some (.int .i64 s)) (f1:w.frozen? ⟨B,o+1,none⟩=false):
  Calls Tryz.prog 173 #[.pointer (some ⟨B,o,none⟩),.int .i64 n] w fun e w'=>(∃ v,e=.returned v)∧((w'=w∧max s (min n (m:Int))=s)∨w'=w.setCell ⟨B,o+1,none⟩ (.int .i64 (max s (min n (m:Int))))):=by
 by_cases h1:n > m
 ·by_cases h2:(m:Int) > s
  ·have HM:Hid (max s (min n (m:Int))=m):=by rw [Hid];omega
   go_enter Tryz.func173,Tryz.ntmps173;go_wp2;go_end0;exact ⟨⟨_,rfl⟩,.inr (by rw [HM.out])⟩
  ·have HM:Hid (max s (min n (m:Int))=s):=by rw [Hid];omega
   go_enter Tryz.func173,Tryz.ntmps173;go_wp2;go_end0;exact ⟨⟨_,rfl⟩,.inl ⟨rfl,HM.out⟩⟩
 ·by_cases h2:n > s
  ·have HM:Hid (max s (min n (m:Int))=n):=by rw [Hid];omega
   go_enter Tryz.func173,Tryz.ntmps173;go_wp2;go_end0;exact ⟨⟨_,rfl⟩,.inr (by rw [HM.out])⟩
  ·have HM:Hid (max s (min n (m:Int))=s):=by rw [Hid];omega
   go_enter Tryz.func173,Tryz.ntmps173;go_wp2;go_end0;exact ⟨⟨_,rfl⟩,.inl ⟨rfl,HM.out⟩⟩
theorem Pw (A B:List qb) (z z':qb) (i:Nat) (v:Value) (hi:i<20) (hc:z'.cells=z.cells.set i v):(jr (A++z::B)).set (A.length*20+i) v=jr (A++z'::B):=by
 rw [yU,xV,yU,xV,List.set_append_right _ _ (by rw [Qe];omega),Qe,show A.length*20+i-A.length*20=i by omega,List.set_append_left _ _ (by rw [xg];omega),hc]
theorem OwnSts.Jb {w:World} {lo hi g c:Nat} {A B:List qb} {z z':qb} (h:OwnSts w lo hi (some ⟨g,0,none⟩) c (A++z::B)) (i:Nat) (v:Value) (hi':i<20) (hc:z'.cells=z.cells.set i v) (hss:z'.ss=z.ss):
  OwnSts (w.setCell ⟨g,A.length*20+i,none⟩ v) lo hi (some ⟨g,0,none⟩) c (A++z'::B)∧Touch [g] w (w.setCell ⟨g,A.length*20+i,none⟩ v):=by
 have hrow:=h.row;obtain ⟨h1,h2⟩:=hrow.stored (A.length*20+i) v;have ht:Touch [g] w (w.setCell ⟨g,A.length*20+i,none⟩ v):=Touch.jw h2 (fun k hk=>by cases hk;simp);have hbl:z'.blocks=z.blocks:=by unfold qb.blocks;rw [hss]
 have hap:=h.apart;have Gs:∀ r∈A++z::B,g∉r.blocks:=fun r hr hk=>by
  have:=(List.nodup_append.1 hap).2.2 g (by simp [Value.ownBlock]) g (List.mem_flatMap.2 ⟨r,hr,hk⟩);exact this rfl
 have hlen:(A++z'::B).length=(A++z::B).length:=by simp
 have hz:z'.own w lo hi:=by
  have:=h.each z (by simp);unfold qb.own at this ⊢
  rwa [hss]
 refine ⟨⟨?_,?_,?_,fun r hr=>?_,?_⟩,ht⟩
 ·rw [hlen,← Pw A B z z' i v hi' hc];exact h1
 ·simpa using h.top
 ·rw [hlen];exact h.blk
 ·rcases List.mem_append.1 hr with hr | hr
  ·exact (h.each r (by simp [hr])).touch ht (fun k hk hk'=>Gs r (by simp [hr]) (by rw [← List.mem_singleton.1 hk'];exact hk))
  ·rcases List.mem_cons.1 hr with rfl | hr
   ·exact hz.touch ht (fun k hk hk'=>Gs z (by simp) (by rw [← hbl,← List.mem_singleton.1 hk'];exact hk))
   ·exact (h.each r (by simp [hr])).touch ht (fun k hk hk'=>Gs r (by simp [hr]) (by rw [← List.mem_singleton.1 hk'];exact hk))
 ·rw [hlen]
  simpa [hbl] using hap
theorem K5 {A P P' C:List Nat} {n:Nat} (h:(A++(P++C)).Nodup) (hP:P'.Nodup) (hf:∀ k∈P',k∈P∨n≤k) (hA:∀ k∈A,k<n) (hC:∀ k∈C,k<n):(A++(P'++C)).Nodup:=by
 simp only [List.nodup_append,List.mem_append] at h ⊢;obtain ⟨h1,⟨_,h3,h4⟩,h5⟩:=h;refine ⟨h1,⟨hP,h3,fun a ha b hb e=>?_⟩,fun a ha b hb e=>?_⟩
 ·rcases hf a ha with h | h
  ·exact h4 a h b hb e
  ·have:=hC b hb;omega
 ·rcases hb with hb | hb
  ·rcases hf b hb with h | h
   ·exact h5 a ha b (.inl h) e
   ·have:=hA a ha;omega
  ·exact h5 a ha b (.inr hb) e
abbrev TE:TypeId:=42
structure j6 (f:qa→List Value) (T:TypeId) (w:World) (E:Nat) (e:qa):Prop where
 box:Box w E (f e) T
 shape:e.shape
 own:e.own w 0 w.heap.size
 off:E∉e.blocks
abbrev wH:=j6 qa.cells TE
theorem j6.below {f:qa→List Value} {T:TypeId} {w w':World} {E:Nat} {e:qa} (h:j6 f T w E e) (hb:Below w.heap.size w w'):j6 f T w' E e:=
 ⟨h.box.below hb h.box.lt,h.shape,(h.own.below hb).widen (Nat.le_refl _) hb.size (Nat.le_refl _),h.off⟩
theorem j6.lt {f:qa→List Value} {T:TypeId} {w:World} {E:Nat} {e:qa} (h:j6 f T w E e):∀ k∈e.blocks,k<w.heap.size:=fun k hk=>(h.own.ql k hk).2
theorem j6.touch {f:qa→List Value} {T:TypeId} {w w':World} {E:Nat} {e:qa} {bl:List Nat} (h:j6 f T w E e) (ht:Touch bl w w') (hE:E∉bl) (hd:∀ k∈e.blocks,k∉bl):j6 f T w' E e:=
 ⟨h.box.touch ht hE,h.shape,(h.own.touch ht hd).widen (Nat.le_refl _) ht.size (Nat.le_refl _),h.off⟩
theorem j6.within {f:qa→List Value} {T:TypeId} {w w':World} {E l r:Nat} {e:qa} (h:j6 f T w E e) (hw:Within l r w w') (hE:¬ (l≤E∧E<r)) (hd:∀ k∈e.blocks,¬ (l≤k∧k<r)):j6 f T w' E e:=
 h.touch (bl:=(List.range r).filter (fun k=>decide (l≤k))) ⟨hw.os,hw.tape,hw.output,hw.size,fun k hk hn=>hw.block k hk (fun hh=>hn (by simp [hh.1,hh.2]))⟩ (by simpa [and_comm] using hE) (fun k hk=>by have:=hd k hk;simpa [and_comm] using this)
def Off (E:Nat) (e:qa) (B:Nat):Prop:=B≠E∧B∉e.blocks
theorem j6.new {f:qa→List Value} {T:TypeId} {w:World} {E B:Nat} {e:qa} (h:j6 f T w E e) (hB:w.heap.size≤B):Off E e B:=
 ⟨by have:=h.box.lt;omega,fun hk=>by have:=h.lt B hk;omega⟩
structure q8 (f:qa→List Value) (T:TypeId) (E:Nat) (e:qa) (w:World) (e':qa) (w':World):Prop where
 at':j6 f T w' E e'
 touch:Touch (E::e.blocks) w w'
 fresh:∀ k∈e'.blocks,k∈e.blocks∨w.heap.size≤k
abbrev yH:=q8 qa.cells TE
theorem q8.size {f:qa→List Value} {T:TypeId} {E:Nat} {e e':qa} {w w':World} (s:q8 f T E e w e' w'):w.heap.size≤w'.heap.size:=s.touch.size
theorem q8.refl {f:qa→List Value} {T:TypeId} {E:Nat} {e:qa} {w:World} (h:j6 f T w E e):q8 f T E e w e w:=⟨h,Touch.refl _ _,fun _ hk=>.inl hk⟩
theorem q8.trans {f:qa→List Value} {T:TypeId} {E:Nat} {e e1 e2:qa} {w w1 w2:World} (s:q8 f T E e w e1 w1) (t:q8 f T E e1 w1 e2 w2):q8 f T E e w e2 w2:=by
 refine ⟨t.at',⟨t.touch.os.trans s.touch.os,t.touch.tape.trans s.touch.tape,t.touch.output.trans s.touch.output,Nat.le_trans s.size t.size,fun k hk hn=>?_⟩,fun k hk=>?_⟩
 ·have hn1:k∉E::e1.blocks:=fun h=>by
   rcases List.mem_cons.1 h with h | h
   ·exact hn (by simp [h])
   ·rcases s.fresh k h with h | h
    ·exact hn (List.mem_cons_of_mem _ h)
    ·omega
  exact (t.touch.block k (Nat.lt_of_lt_of_le hk s.size) hn1).trans (s.touch.block k hk hn)
 ·rcases t.fresh k hk with h | h
  ·exact s.fresh k h
  ·exact .inr (Nat.le_trans s.size h)
theorem q8.below {f:qa→List Value} {T:TypeId} {E:Nat} {e e':qa} {w w' w'':World} (s:q8 f T E e w e' w') (hb:Below w'.heap.size w' w''):q8 f T E e w e' w'':=
 ⟨s.at'.below hb,s.touch.trans (Touch.of_below hb),s.fresh⟩
theorem q8.after {f:qa→List Value} {T:TypeId} {E:Nat} {e e':qa} {w0 w w':World} (hb:Below w0.heap.size w0 w) (s:q8 f T E e w e' w'):q8 f T E e w0 e' w':=
 ⟨s.at',(Touch.of_below hb).trans s.touch,fun k hk=>(s.fresh k hk).imp id (Nat.le_trans hb.size)⟩
theorem q8.off {f:qa→List Value} {T:TypeId} {E B:Nat} {e e':qa} {w w':World} (s:q8 f T E e w e' w') (hB:B<w.heap.size) (ho:Off E e B):Off E e' B:=
 ⟨ho.1,fun hk=>(s.fresh B hk).elim ho.2 (fun h=>by omega)⟩
theorem q8.block {f:qa→List Value} {T:TypeId} {E B:Nat} {e e':qa} {w w':World} (s:q8 f T E e w e' w') (hB:B<w.heap.size) (ho:Off E e B):w'.heap[B]? =w.heap[B]? :=
 s.touch.block B hB (fun h=>(List.mem_cons.1 h).elim ho.1 ho.2)
theorem q8.boxes {f:qa→List Value} {T:TypeId} {E B:Nat} {e e':qa} {w w':World} {vs:List Value} {t:TypeId} (s:q8 f T E e w e' w') (b:Box w B vs t) (ho:Off E e B):Box w' B vs t:=b.block (s.block b.lt ho)
theorem qa.J4 {e:qa} {k:Nat} (h:k∈e.JA):k∈e.blocks:=by simp only [qa.blocks,List.mem_append];exact .inl h
theorem qa.wW {e:qa} {k:Nat} (h:k∈qo e.aS e.cS e.seats):k∈e.blocks:=by simp only [qa.blocks,List.mem_append];exact .inr (.inl h)
theorem qa.J3 {e:qa} {k:Nat} (h:k∈kr e.log.a e.log.c e.log.recs):k∈e.blocks:=by simp only [qa.blocks,List.mem_append];exact .inr (.inr (.inl h))
theorem qa.Uq {e:qa} {k:Nat} (h:k∈rowOf e.aT e.txs.length e.cT):k∈e.blocks:=by simp only [qa.blocks,List.mem_append];exact .inr (.inr (.inr (.inl h)))
theorem qa.Ym {e:qa} {k:Nat} (h:k∈rowOf e.aH e.holds.length e.cH):k∈e.blocks:=by simp only [qa.blocks,List.mem_append];exact .inr (.inr (.inr (.inr h)))
structure qa.Px (e:qa):Prop where
 dp:∀ k∈e.JA,k∉qo e.aS e.cS e.seats
 dl:∀ k∈e.JA,k∉kr e.log.a e.log.c e.log.recs
 dt:∀ k∈e.JA,k∉rowOf e.aT e.txs.length e.cT
 dh:∀ k∈e.JA,k∉rowOf e.aH e.holds.length e.cH
 pl:∀ k∈qo e.aS e.cS e.seats,k∉kr e.log.a e.log.c e.log.recs
 pt:∀ k∈qo e.aS e.cS e.seats,k∉rowOf e.aT e.txs.length e.cT
 ph:∀ k∈qo e.aS e.cS e.seats,k∉rowOf e.aH e.holds.length e.cH
 lt:∀ k∈kr e.log.a e.log.c e.log.recs,k∉rowOf e.aT e.txs.length e.cT
 lh:∀ k∈kr e.log.a e.log.c e.log.recs,k∉rowOf e.aH e.holds.length e.cH
 th:∀ k∈rowOf e.aT e.txs.length e.cT,k∉rowOf e.aH e.holds.length e.cH
theorem qa.iX {e:qa} (h:e.blocks.Nodup):e.Px:=by
 simp only [qa.blocks,List.nodup_append,List.mem_append] at h;obtain ⟨_,⟨_,⟨_,⟨_,_,h4⟩,h3⟩,h2⟩,h1⟩:=h;exact ⟨fun k a b=>h1 k a k (.inl b) rfl,fun k a b=>h1 k a k (.inr (.inl b)) rfl,fun k a b=>h1 k a k (.inr (.inr (.inl b))) rfl,fun k a b=>h1 k a k (.inr (.inr (.inr b))) rfl,fun k a b=>h2 k a k (.inl b) rfl,fun k a b=>h2 k a k (.inr (.inl b)) rfl,fun k a b=>h2 k a k (.inr (.inr b)) rfl,fun k a b=>h3 k a k (.inl b) rfl,fun k a b=>h3 k a k (.inr b) rfl,fun k a b=>h4 k a k b rfl⟩
theorem j6.apart {f:qa→List Value} {T:TypeId} {w:World} {E:Nat} {e:qa} (h:j6 f T w E e):e.Px:=qa.iX h.own.apart
theorem vT {E k:Nat} {P:List Nat} (h1:k≠E) (h2:k∉P):k∉E::P:=fun h=>(List.mem_cons.1 h).elim h1 h2
def qa.qX (e:qa) (ss:List qb) (a:Option Addr) (c:Nat) (hand:Int):qa:={ e with seats:=ss,aS:=a,cS:=c,hand:=hand }
theorem j6.pool {f:qa→List Value} {T:TypeId} {w w':World} {E:Nat} {e:qa} (h:j6 f T w E e) (ss:List qb) (a:Option Addr) (c:Nat) (hand:Int) (bx:Box w' E (f (e.qX ss a c hand)) T) (ho:OwnSts w' 0 w'.heap.size a c ss)
  (ht:Touch (E::qo e.aS e.cS e.seats) w w') (hf:∀ k∈qo a c ss,k∈qo e.aS e.cS e.seats∨w.heap.size≤k):q8 f T E e w (e.qX ss a c hand) w':=by
 have ap:=h.apart;have hE:∀ k∈e.blocks,k≠E:=fun k hk he=>h.off (he▸hk)
 have W:∀ {lo hi:Nat},hi≤w.heap.size→hi≤w'.heap.size:=fun hh=>Nat.le_trans hh ht.size
 refine ⟨⟨bx,⟨h.shape.eight,h.shape.four⟩,⟨?_,ho,?_,?_,?_,?_⟩,?_⟩,?_,?_⟩
 ·exact (h.own.disk.touch ht (fun k hk=>vT (hE k (qa.J4 hk)) (ap.dp k hk))).widen (Nat.le_refl _) ht.size (Nat.le_refl _)
 ·exact (h.own.log.touch ht (fun k hk=>vT (hE k (qa.J3 hk)) (fun hp=>ap.pl k hp hk))).widen (Nat.le_refl _) ht.size (Nat.le_refl _)
 ·exact (h.own.txs.touch ht (fun k hk=>vT (hE k (qa.Uq (Option.mem_toList.2 hk))) (fun hp=>ap.pt k hp (Option.mem_toList.2 hk)))).widen (Nat.le_refl _) ht.size (Nat.le_refl _)
 ·exact (h.own.holds.touch ht (fun k hk=>vT (hE k (qa.Ym (Option.mem_toList.2 hk))) (fun hp=>ap.ph k hp (Option.mem_toList.2 hk)))).widen (Nat.le_refl _) ht.size (Nat.le_refl _)
 ·exact K5 h.own.apart ho.apart hf (fun k hk=>h.lt k (qa.J4 hk)) (fun k hk=>h.lt k (by simp only [qa.blocks,List.mem_append] at hk ⊢;exact .inr (.inr hk)))
 ·intro hk;simp only [qa.blocks,qa.qX,List.mem_append] at hk;have hlt:=h.box.lt;have hoff:=h.off;simp only [qa.blocks,List.mem_append] at hoff;rcases hk with hk | hk | hk
  ·exact hoff (.inl hk)
  ·rcases hf E hk with hk | hk
   ·exact hoff (.inr (.inl hk))
   ·omega
  ·exact hoff (.inr (.inr hk))
 ·exact ht.mono (fun k hk=>(List.mem_cons.1 hk).elim (fun h=>by simp [h]) (fun h=>List.mem_cons_of_mem _ (qa.wW h)))
 ·intro k hk;simp only [qa.blocks,qa.qX,List.mem_append] at hk ⊢;rcases hk with hk | hk | hk
  ·exact .inl (.inl hk)
  ·rcases hf k hk with h | h
   ·exact .inl (.inr (.inl h))
   ·exact .inr h
  ·exact .inl (.inr (.inr hk))
def qa.zo (e:qa) (l:qz):qa:={ e with log:=l }
theorem j6.logs {f:qa→List Value} {T:TypeId} {w w':World} {E:Nat} {e:qa} (h:j6 f T w E e) (l:qz) (bx:Box w' E (f (e.zo l)) T) (ho:qV w' 0 w'.heap.size l.a l.c l.recs)
  (ht:Touch (E::kr e.log.a e.log.c e.log.recs) w w') (hf:∀ k∈kr l.a l.c l.recs,k∈kr e.log.a e.log.c e.log.recs∨w.heap.size≤k):q8 f T E e w (e.zo l) w':=by
 have ap:=h.apart;have hE:∀ k∈e.blocks,k≠E:=fun k hk he=>h.off (he▸hk)
 refine ⟨⟨bx,⟨h.shape.eight,h.shape.four⟩,⟨?_,?_,ho,?_,?_,?_⟩,?_⟩,?_,?_⟩
 ·exact (h.own.disk.touch ht (fun k hk=>vT (hE k (qa.J4 hk)) (ap.dl k hk))).widen (Nat.le_refl _) ht.size (Nat.le_refl _)
 ·exact (h.own.pool.touch ht (fun k hk=>vT (hE k (qa.wW hk)) (fun hp=>ap.pl k hk hp))).widen (Nat.le_refl _) ht.size (Nat.le_refl _)
 ·exact (h.own.txs.touch ht (fun k hk=>vT (hE k (qa.Uq (Option.mem_toList.2 hk))) (fun hp=>ap.lt k hp (Option.mem_toList.2 hk)))).widen (Nat.le_refl _) ht.size (Nat.le_refl _)
 ·exact (h.own.holds.touch ht (fun k hk=>vT (hE k (qa.Ym (Option.mem_toList.2 hk))) (fun hp=>ap.lh k hp (Option.mem_toList.2 hk)))).widen (Nat.le_refl _) ht.size (Nat.le_refl _)
 ·have h1:=h.own.apart;simp only [qa.blocks,qa.zo] at h1 ⊢;rw [← List.append_assoc] at h1 ⊢;exact K5 h1 ho.apart hf (fun k hk=>h.lt k (by simp only [qa.blocks,List.mem_append] at hk ⊢;exact hk.elim .inl (fun h=>.inr (.inl h)))) (fun k hk=>h.lt k (by simp only [qa.blocks,List.mem_append] at hk ⊢;exact .inr (.inr (.inr hk))))
 ·intro hk;simp only [qa.blocks,qa.zo,List.mem_append] at hk;have hlt:=h.box.lt;have hoff:=h.off;simp only [qa.blocks,List.mem_append] at hoff;rcases hk with hk | hk | hk | hk
  ·exact hoff (.inl hk)
  ·exact hoff (.inr (.inl hk))
  ·rcases hf E hk with hk | hk
   ·exact hoff (.inr (.inr (.inl hk)))
   ·omega
  ·exact hoff (.inr (.inr (.inr hk)))
 ·exact ht.mono (fun k hk=>(List.mem_cons.1 hk).elim (fun h=>by simp [h]) (fun h=>List.mem_cons_of_mem _ (qa.J3 h)))
 ·intro k hk;simp only [qa.blocks,qa.zo,List.mem_append] at hk ⊢;rcases hk with hk | hk | hk | hk
  ·exact .inl (.inl hk)
  ·exact .inl (.inr (.inl hk))
  ·rcases hf k hk with h | h
   ·exact .inl (.inr (.inr (.inl h)))
   ·exact .inr h
  ·exact .inl (.inr (.inr (.inr hk)))
def qa.vQ (e:qa) (ps:List qw):qa:={ e with disk:=ps }
def qD:jc:=qc.v
def ZJ (s:jc):jc:={ s with hot:=false }
def qL:Nat→List jc→Nat→List jc × Nat × Nat
 | 0,ss,h=>(ss,h,0)
 | n+1,ss,h=>if (ss.getD h qD).hot=true then qL n (ss.set h (ZJ (ss.getD h qD))) ((h+1) % 3) else (ss,(h+1) % 3,h)
def Qf (ss:List jc):Nat:=(ss.filter (·.hot)).length
def qb.cold (s:qb):qb:={ s with hot:=false }
theorem Zi (s:qb):s.cold.v=ZJ s.v:=rfl
theorem jZ (ls:List qb) (k:Nat):(ls.map qb.v).getD k qD=(ls.getD k qc).v:=by
 simp only [List.getD,List.getElem?_map];cases ls[k]? <;>rfl
theorem Qc (ls:List qb) (k:Nat) (s:qb) (hk:k<ls.length):ls.set k s=ls.take k++s::ls.drop (k+1):=by
 rw [List.set_eq_take_append_cons_drop,if_pos hk]
theorem Wx (ls:List jc) (k:Nat) (hk:k<ls.length) (hh:(ls.getD k qD).hot=true):Qf (ls.set k (ZJ (ls.getD k qD)))+1=Qf ls:=by
 induction ls generalizing k with
 | nil=>simp at hk
 | cons s r ih=>
  cases k with
  | zero=>
   simp only [List.getD_cons_zero] at hh;simp [Qf,ZJ,hh]
  | succ k=>
   simp only [List.getD_cons_succ] at hh ⊢;have:=ih k (by simpa using hk) hh;simp only [Qf,List.set_cons_succ,List.filter_cons] at this ⊢;split<;>simp_all<;>omega
theorem fQ (ls:List jc):Qf ls≤ls.length:=List.length_filter_le _ _
theorem KY (n:Nat) (ls:List jc) (h:Nat):(qL n ls h).1.length=ls.length:=by
 induction n generalizing ls h with
 | zero=>rfl
 | succ n ih=>
  rw [qL];split
  ·rw [ih];simp
  ·rfl
theorem QE (n:Nat) (ls:List jc) (h:Nat) (hh:h<3):(qL n ls h).2.1<3∧(qL n ls h).2.2<3:=by
 induction n generalizing ls h with
 | zero=>exact ⟨hh,by show 0<3;omega⟩
 | succ n ih=>
  rw [qL];split
  ·exact ih _ _ (Nat.mod_lt _ (by omega))
  ·exact ⟨Nat.mod_lt _ (by omega),hh⟩
theorem YL (n:Nat) (ts:List qb) (k:Nat):qL (n+1) (ts.map qb.v) k=if (ts.getD k qc).hot=true then qL n ((ts.map qb.v).set k (ZJ (ts.getD k qc).v)) ((k+1) % 3) else (ts.map qb.v,(k+1) % 3,k):=by
 rw [qL,jZ];rfl
structure JB (w:World) (lo hi B o:Nat) (vs:List Value) (t:TypeId) (a:Option Addr) (c:Nat) (ss:List qb) (hand:Int):Prop where
 box:Box w B vs t
 c0:vs[o]? =some (.slice a ss.length c)
 c1:vs[o+1]? =some (.int .i64 hand)
 own:OwnSts w lo hi a c ss
 off:B∉qo a c ss
theorem ZW {a:Option Addr} {c n:Nat} {ss ts:List qb} (h:ss.length=n) (h2:ts.length=n) (hb:ss.flatMap qb.blocks=ts.flatMap qb.blocks):qo a c ss=qo a c ts:=by
 unfold qo;rw [h,h2,hb]
theorem DU (ls:List qb) (k:Nat) (hk:k<ls.length):(ls.set k (ls.getD k qc).cold).flatMap qb.blocks=ls.flatMap qb.blocks:=by
 rw [Qc _ _ _ hk];conv=>rhs;rw [wL ls k hk]
 simp only [List.flatMap_append,List.flatMap_cons];rfl
theorem Pv (lo hi B o:Nat) (vs:List Value) (t:TypeId) (a:Option Addr) (c:Nat) (ss:List qb) (h:Nat) (w:World) (hp:JB w lo hi B o vs t a c ss h) (h3:ss.length=3) (hh:h<3):
  Calls Tryz.prog 293 #[.pointer (some ⟨B,o,none⟩)] w fun r w'=>∃ (ts:List qb) (k hand:Nat),r=.returned (.int .i64 k)∧Hid (qL 4 (ss.map qb.v) h=(ts.map qb.v,hand,k))∧ts.length=3∧JB w' lo hi B o (vs.set (o+1) (.int .i64 hand)) t a c ts hand∧Hid (qo a c ts=qo a c ss)∧Touch (B::qo a c ss) w w':=by
 have hv1:o+1<vs.length:=(List.getElem?_eq_some_iff.1 hp.c1).1;go_enter Tryz.func293,Tryz.ntmps293;go_wp2_with fail;go_loopg [2] 4 (fun n v wr=>∃ (ts:List qb) (k:Nat),v=.int .i64 0∧k<3∧ts.length=3∧JB wr lo hi B o (vs.set (o+1) (.int .i64 (k:Int))) t a c ts k∧Hid (qL 4 (ss.map qb.v) h=qL n (ts.map qb.v) k)∧Qf (ts.map qb.v)<n∧Hid (qo a c ts=qo a c ss)∧Touch (B::qo a c ss) w wr)
 case atStart=>
  have e:vs.set (o+1) (.int .i64 (h:Int))=vs:=by
   obtain ⟨_,hg⟩:=List.getElem?_eq_some_iff.1 hp.c1;rw [← hg];simp
  refine ⟨ss,h,rfl,hh,h3,by rw [e];exact hp,rfl,?_,rfl,Touch.refl _ _⟩;have:=fQ (ss.map qb.v);rw [List.length_map] at this;omega
 case round=>
  obtain ⟨ts,k,rfl,hk,hlen,pt,hv,Ud,hbl,htc⟩:=hrel;clear hp h3 hh;have qd0:(vs.set (o+1) (.int .i64 (k:Int))).length=vs.length:=by simp
  have x1:wr.cell? ⟨B,o+1,none⟩=some (.int .i64 (k:Int)):=pt.box.cell (o+1) _ pt.c1;have f1:=pt.box.frozen (o+1);obtain ⟨g,rfl⟩:∃ g,a=some ⟨g,0,none⟩:=by
   rcases pt.own.row.2 with ⟨_,h0⟩ | ⟨g,cap',cur,hv,_⟩
   ·omega
   ·simp only [Value.slice.injEq] at hv;exact ⟨g,hv.1⟩
  have hmem:g∈qo (some ⟨g,0,none⟩) c ts:=by simp [qo,Value.ownBlock]
  have hgB:B≠g:=fun e=>pt.off (e▸hmem)
  obtain ⟨W1,hW1,b1,hw1,hs1⟩:=jB pt.box (o+1) (.int .i64 (((k+1) % 3:Nat):Int));rw [List.set_set] at b1;have t1:Touch [B] wr W1:=⟨hw1.os,hw1.tape,hw1.output,hw1.size,fun j hj hn=>hw1.block j hj (fun hh=>hn (by simp;omega))⟩;have o1:OwnSts W1 lo hi (some ⟨g,0,none⟩) c ts:=pt.own.touch t1 (fun j hj hh=>pt.off (by rw [← List.mem_singleton.1 hh];exact hj));have c0:(vs.set (o+1) (.int .i64 (((k+1) % 3:Nat):Int)))[o]? =some (.slice (some ⟨g,0,none⟩) ts.length c):=by
   have:=pt.c0;rw [List.getElem?_set_ne (by omega)] at this ⊢;exact this
  have c1:(vs.set (o+1) (.int .i64 (((k+1) % 3:Nat):Int)))[o+1]? =some (.int .i64 (((k+1) % 3:Nat):Int)):=List.getElem?_set_self hv1;have y0:=b1.cell o _ c0;have C0:Hid (_=_):=c0;have C1:Hid (_=_):=c1;have r1:=(yf o1.row rfl k (by omega)).1 19 _ (show (ts.getD k qc).cells[19]? =some (.bool (ts.getD k qc).hot) from rfl);have rf1:=o1.row.frozenAt (k*20+19);have HT1:Hid (Touch (B::qo (some ⟨g,0,none⟩) c ss) w W1):=htc.trans (t1.mono (by simp));have hoff:B∉qo (some ⟨g,0,none⟩) c ts:=pt.off;have HST:Hid (qL 4 (ss.map qb.v) h=qL gk (ts.map qb.v) k):=hv;have hkb:(k:Int)<(ts.length:Int):=by omega
  have hk0:(0:Int)≤(k:Int):=by omega
  have HM:Hid (wr.setCell ⟨B,o+1,none⟩ (.int .i64 (((k+1) % 3:Nat):Int))=W1):=hW1;have OT:Hid (((k:Int)+1) % 3=(((k+1) % 3:Nat):Int)):=by rw [Hid];omega
  have hl1:ts.length≤3:=by omega
  have hl2:3≤ts.length:=by omega
  clear hW1 hw1 hs1 t1 pt hv htc qd0 c0 c1 hlen hv1;cases gk with
  | zero=>exact absurd Ud (Nat.not_lt_zero _)
  | succ n=>
   have CX:Hid (qL 4 (ss.map qb.v) h=if (ts.getD k qc).hot=true then qL n ((ts.map qb.v).set k (ZJ (ts.getD k qc).v)) ((k+1) % 3) else (ts.map qb.v,(k+1) % 3,k)):=by
    rw [Hid,HST.out];exact YL n ts k
   go_upto_region 3 with fail;rw [OT.out,HM.out];clear HM OT HST x1 f1;generalize hz:ts.getD k qc=z at*
   cases hht:z.hot with
   | true=>
    rw [hht] at r1;obtain ⟨o2,t2⟩:=OwnSts.Jb (A:=ts.take k) (z:=z) (B:=ts.drop (k+1)) (z':=z.cold) (by rw [← hz,← wL ts k (by omega)];exact o1) 19 (.bool false) (by omega) rfl rfl;have hkl:(ts.take k).length=k:=by rw [List.length_take];omega
    rw [hkl,← Qc ts k _ (by omega)] at o2;rw [hkl] at t2;obtain ⟨W2,hW2⟩:∃ W2,Hid (W1.setCell ⟨g,k*20+19,none⟩ (.bool false)=W2):=⟨_,rfl⟩;rw [hW2.out] at o2 t2;have Tc:Hid (_):=o2;have b2:=b1.touch t2 (by simpa using hgB);have iY:Hid (qL 4 (ss.map qb.v) h=qL n ((ts.map qb.v).set k (ZJ z.v)) ((k+1) % 3)):=by
     have:=CX.out;rw [hht,if_pos rfl] at this;exact this
    have HH:Hid (Qf ((ts.set k z.cold).map qb.v)<n):=by
     have e:=Wx (ts.map qb.v) k (by rw [List.length_map];omega) (by rw [jZ,hz];exact hht);rw [jZ,hz] at e;rw [Hid,List.map_set,Zi];omega
    have HB2:Hid (qo (some ⟨g,0,none⟩) c (ts.set k z.cold)=qo (some ⟨g,0,none⟩) c ss):=by
     rw [Hid,← hbl.out];have e:=DU ts k (by omega);rw [hz] at e;exact ZW (n:=ts.length) (by simp) rfl e
    have HT2:Hid (Touch (B::qo (some ⟨g,0,none⟩) c ss) w W2):=HT1.out.trans (t2.mono (fun j hj=>List.mem_cons_of_mem _ (by rw [← hbl.out,List.mem_singleton.1 hj];exact hmem)));clear o1 o2 t2 CX hz HT1 Ud;go_wp2_with fail;rw [hW2.out]
    go_roundg n
    case measure=>omega
    case rel=>exact ⟨ts.set k z.cold,(k+1) % 3,rfl,Nat.mod_lt _ (by omega),by rw [List.length_set];omega,⟨b2,by rw [List.length_set];exact C0.out,C1.out,Tc.out,by rw [HB2.out,← hbl.out];exact hoff⟩,by rw [Hid,iY.out,List.map_set,Zi],HH.out,HB2,HT2.out⟩
   | false=>
    rw [hht] at r1;have iY:Hid (qL 4 (ss.map qb.v) h=(ts.map qb.v,(k+1) % 3,k)):=by
     have:=CX.out;rw [hht,if_neg (by decide)] at this;exact this
    have YY:Hid (_):=o1;clear CX hz o1;go_wp2_with fail;go_ret;exact ⟨ts,k,(k+1) % 3,rfl,iY,by omega,⟨b1,C0.out,C1.out,YY.out,hoff⟩,hbl,HT1.out⟩
theorem gW {w:World} {ops:Array Oper} {rest:List Oper} {dst:Option Nat} {ty:TypeId} {pos:String} {KN:Array Edge} {act:Act} {Q:Exit→Act→World→Prop} (x y:Operand) (no lsn:Int) (a b c d:qf)
  (hx:act.eval x=.int .i64 no) (hy:act.eval y=.agg (qw.cells ⟨lsn,[a,b,c,d]⟩).toArray)
  (h:wpList Tryz.prog ops Q rest (act.put dst (.agg (qb.cells ⟨no,lsn,a,b,c,d,false,true⟩).toArray)) w):
  wpList Tryz.prog ops Q ({ dst:=dst,op:=.build 167 #[(0,x),(1,y),(3,.const (.bool true))],type:=ty,pos:=pos,after:=KN,guard:=none }::rest) act w:=by
 refine wpList_plain rfl fun K hK=>?_
 unfold Oper.wp execOp;simp only [List.map_toArray,List.map_cons,List.map_nil,hx,hy];have e:(Instr.build 167 #[(0,Value.int .i64 no),(1,Value.agg (qw.cells ⟨lsn,[a,b,c,d]⟩).toArray),(3,Value.bool true)]).run Tryz.prog w=.ok (.agg (qb.cells ⟨no,lsn,a,b,c,d,false,true⟩).toArray) w:=run_build w _ _ _ (by kernel_rfl);have ec:act.eval (.const (.bool true))=.bool true:=rfl;rw [ec];simp only [Sem.run_bind,e,Result.andThen_ok,Sem.run_pure];exact hK _ _ h
theorem yT {w:World} {ops:Array Oper} {rest:List Oper} {dst:Option Nat} {ty:TypeId} {pos:String} {KN:Array Edge} {act:Act} {Q:Exit→Act→World→Prop}
  (h:wpList Tryz.prog ops Q rest (act.put dst (.agg qc.cells.toArray)) w):
  wpList Tryz.prog ops Q ({ dst:=dst,op:=.build 167 #[],type:=ty,pos:=pos,after:=KN,guard:=none }::rest) act w:=by
 refine wpList_plain rfl fun K hK=>?_
 unfold Oper.wp execOp;have e:(Instr.build 167 #[]).run Tryz.prog w=.ok (.agg qc.cells.toArray) w:=run_build w _ _ _ (by kernel_rfl);simp only [List.map_toArray,List.map_nil,Sem.run_bind,e,Result.andThen_ok,Sem.run_pure];exact hK _ _ h
theorem JU (q:qb):List.foldl (fun cs x=>cs.setIfInBounds x.snd x.fst) (#[.int .i64 0,.int .i64 0,.bool false,.int .i64 0,.slice none 0 0,.slice none 0 0,.bool false,.int .i64 0,.slice none 0 0,.slice none 0 0,.bool false,.int .i64 0,.slice none 0 0,.slice none 0 0,.bool false,.int .i64 0,.slice none 0 0,.slice none 0 0,.bool false,.bool false]:Array Value) q.cells.zipIdx=q.cells.toArray:=by simp [qb.cells,qf.cells,List.zipIdx]
theorem ko (q:qb):q.cells.toArray.all (·.oneCell')=true:=all_oneCell_toArray (gQ q)
theorem jI (q:qb):(Tryz.prog.info? 167).map (·.size)=some q.cells.length:=by show _=some 20;kernel_rfl
theorem TD {w:World} {C:Nat} (q:qb) (b:Box w C q.cells 167):(loadVar 167 ⟨C,0,none⟩).run Tryz.prog w=.ok (.agg q.cells.toArray) w:=
 run_loadVar_mid (P:=Tryz.prog) w C 0 167 q.cells _ (Box.range [] q.cells [] (by simpa using b)) Tryz.underlying167 rfl (jI q)
theorem kg {w:World} {C:Nat} (q:qb) (old:List Value) (ho:old.length=20) (bC:Box w C old 167):
  ∃ WF,Hid (w.setCells C 0 q.cells=WF)∧Within C (C+1) w WF∧WF.heap.size=w.heap.size∧Hid (w.there C 0 q.cells.toArray.size)∧Hid ((loadVar 167 ⟨C,0,none⟩).run Tryz.prog WF=.ok (.agg q.cells.toArray) WF)∧Box WF C q.cells 167:=by
 obtain ⟨WF,qF,bF,hwF,qN⟩:=jb [] old q.cells [] (by simpa using bC) (by rw [ho];rfl);have Jp:Box WF C q.cells 167:=by simpa using bF
 exact ⟨WF,qF,hwF,qN,bC.there 0 _ (by rw [ho];show 0+20≤20;decide),TD q Jp,Jp⟩
theorem Tryz.Jm (p:qw) (h:p.ss.length=4):(Tryz.prog.info? 31).map (·.size)=some p.cells.length:=by rw [jo p h];kernel_rfl
theorem Tryz.rG (p:qw) (h:p.ss.length=4):(Tryz.prog.info? 66).map (·.size)=some p.cells.length:=by rw [jo p h];kernel_rfl
theorem U5 (p:qw):p.cells.toArray.all (·.oneCell')=true:=all_oneCell_toArray (Qx p)
theorem vH {w:World} {B:Nat} {t:TypeId} (s:qb) (b:Box w B s.cells t):w.rangeAt B 1 s.page.cells:=by
 rw [qb.zG] at b;exact Box.range [.int .i64 s.no] s.page.cells [.bool s.dirty,.bool s.hot] b
theorem Vp {w:World} {B:Nat} {t:TypeId} (s:qb) (b:Box w B s.cells t) (lsn:Int) (a b' c d:qf):
  ∃ W,Hid (w.setCells B 1 (qw.cells ⟨lsn,[a,b',c,d]⟩)=W)∧Box W B (qb.cells ⟨s.no,lsn,a,b',c,d,s.dirty,s.hot⟩) t∧Within B (B+1) w W∧W.heap.size=w.heap.size∧w.there B 1 (qw.cells ⟨lsn,[a,b',c,d]⟩).toArray.size:=by
 have hth:w.there B 1 (qw.cells ⟨lsn,[a,b',c,d]⟩).toArray.size:=b.there 1 _ (by rw [List.size_toArray];show 1+17≤20;decide);rw [qb.zG] at b;obtain ⟨W,hW,bW,hw,hs⟩:=jb [.int .i64 s.no] s.page.cells (qw.cells ⟨lsn,[a,b',c,d]⟩) [.bool s.dirty,.bool s.hot] b rfl;refine ⟨W,hW,?_,hw,hs,hth⟩;rw [qb.zG];exact bW
theorem CY (s:qb) (w:World) (hr:s.reads w) (hl:s.short 1048576):
  Calls Tryz.prog 286 #[.agg s.cells.toArray] w fun e w'=>∃ t:qb,e=.returned (.agg t.cells.toArray)∧Hid (t.v=s.v)∧t.own w' w.heap.size w'.heap.size∧Below w.heap.size w w':=by
 obtain ⟨V,hV,a0,a1,a2,wB,Xu⟩:=yn w s.cells [.int .i64 0,.int .i64 0,.bool false,.int .i64 0,.slice none 0 0,.slice none 0 0,.bool false,.int .i64 0,.slice none 0 0,.slice none 0 0,.bool false,.int .i64 0,.slice none 0 0,.slice none 0 0,.bool false,.int .i64 0,.slice none 0 0,.slice none 0 0,.bool false,.bool false] [.int .i64 0,.int .i64 0,.bool false,.int .i64 0,.slice none 0 0,.slice none 0 0,.bool false,.int .i64 0,.slice none 0 0,.slice none 0 0,.bool false,.int .i64 0,.slice none 0 0,.slice none 0 0,.bool false,.int .i64 0,.slice none 0 0,.slice none 0 0,.bool false,.bool false] 303 167 167;have qd1:w.heap.size+1+1<V.heap.size:=by omega
 have b1V:Box V (w.heap.size+1) qc.cells 167:=a1;obtain ⟨W,hW,b2',Py,qp⟩:=jB a2 0 (.int .i64 s.no);have b0:=a0.within Py (by omega);have b1':=b1V.within Py (by omega);have hbW:Below w.heap.size w W:=wB.trans (Py.below (by omega) (by omega));have hs0:w.heap.size+1+1<W.heap.size:=by omega
 have b2':Box W (w.heap.size+1+1) (qb.cells { qc with no:=s.no }) 167:=b2';have hc0:V.cell? ⟨w.heap.size,0,none⟩=some (.int .i64 s.no):=a0.cell 0 _ rfl;have hx0:=a2.cell 0 _ rfl;have hf0:=a2.frozen 0;have hrg0:W.rangeAt w.heap.size 1 s.page.cells:=vH s b0;have HL:=Tryz.rG s.page rfl;have C:=mG s.page rfl W (hr.below hbW) (Au hl);clear Xu qp Py b1V a0 a1 a2 wB qd1;go_enter Tryz.func286,Tryz.ntmps286;go_upto_region 2 with fail;rw [hV.out];clear hV;go_wp2_with (first | (guard_target=wpList _ _ _ (Oper.mk (some 8) _ _ _ _ _::_) _ _;rw [hW.out];refine wpList_load_mid rfl 66 (.tmp 7) rfl w.heap.size 1 rfl s.page.cells _ hrg0 Tryz.underlying66 rfl HL ?_) | fail);clear hW hrg0 hc0 HL hx0 hf0;refine C.mono ?_;clear C;rintro e w1 ⟨ts,rfl,hv,ho,hb1⟩;obtain ⟨y0,y1,y2,y3,rfl⟩:=QB (ts:=ts) (by have:=congrArg List.length hv.out;simpa [qb.page,qb.ss] using this);have hs1:=hb1.size;have b01:=b0.below hb1 b0.lt;have b11:=b1'.below hb1 b1'.lt;have zU:=b2'.below hb1 b2'.lt;obtain ⟨W2,hW2,QH,hw2,hs2,iB⟩:=Vp _ zU s.page.lsn y0 y1 y2 y3;obtain ⟨W3,hW3,b33,hw3,hs3⟩:=jB QH 18 (.bool s.dirty);obtain ⟨W4,vg,b44,hw4,hs4⟩:=jB b33 19 (.bool s.hot);obtain ⟨q,hq⟩:∃ q:qb,Hid ((⟨s.no,s.page.lsn,y0,y1,y2,y3,s.dirty,s.hot⟩:qb)=q):=⟨_,rfl⟩;have b4q:Box W4 (w.heap.size+1+1) q.cells 167:=by rw [← hq.out];exact b44
 have b02:=b01.within hw2 (by omega);have b14:=((b11.within hw2 (by omega)).within hw3 (by omega)).within hw4 (by omega);obtain ⟨WF,qF,hwF,qN,kz,yG,bF⟩:=kg q _ rfl b14;have d18:W2.cell? ⟨w.heap.size,18,none⟩=some (.bool s.dirty):=b02.cell 18 _ rfl;have d19:W2.cell? ⟨w.heap.size,19,none⟩=some (.bool s.hot):=b02.cell 19 _ rfl;have o8:=QH.cell 18 _ rfl;have XK:=QH.cell 19 _ rfl;have f18:=QH.frozen 18;have f19:=QH.frozen 19;have r4:W4.rangeAt (w.heap.size+1+1) 0 q.cells:=Box.range [] q.cells [] (by simpa using b4q);have oq:q.own w1 W.heap.size w1.heap.size:=by rw [← hq.out];exact ho
 have HV:Hid (q.v=s.v):=by rw [Hid,← hq.out];simp only [qb.v,qb.ss];rw [show List.map (fun x:qf=>x.v) [y0,y1,y2,y3]=s.page.ss.map (·.v) from hv.out];rfl
 have vX:Hid (q.own WF w.heap.size WF.heap.size∧Below w.heap.size w WF):=⟨((((oq.within hw2 (.inr (by omega))).within hw3 (.inr (by omega))).within hw4 (.inr (by omega))).within hwF (.inr (by omega))).widen (by omega) (by omega) (Nat.le_refl _),((((hbW.trans (hb1.mono (by omega))).trans (hw2.below (by omega) (by omega))).trans (hw3.below (by omega) (by omega))).trans (hw4.below (by omega) (by omega))).trans (hwF.below (by omega) (by omega))⟩;have H34:Hid ((W2.setCell ⟨w.heap.size+1+1,18,none⟩ (.bool s.dirty)).setCell ⟨w.heap.size+1+1,19,none⟩ (.bool s.hot)=W4):=by rw [Hid,hW3.out,vg.out]
 have HI1:=Tryz.Jm ⟨s.page.lsn,[y0,y1,y2,y3]⟩ rfl;have YY:=U5 ⟨s.page.lsn,[y0,y1,y2,y3]⟩;have HI2:=jI q;have Tc:=ko q;have HW2:Hid (w1.setCells (w.heap.size+1+1) 1 (qw.cells ⟨s.page.lsn,[y0,y1,y2,y3]⟩).toArray.toList=W2):=hW2.out;have zK:Hid (W4.setCells (w.heap.size+1) 0 q.cells.toArray.toList=WF):=qF.out;have uL:W4.there (w.heap.size+1) 0 q.cells.toArray.size:=kz.out;clear hW2 hW3 vg qF kz hq hs1 hs2 hs3 hs4 qN hw2 hw3 hw4 hwF b01 b11 zU QH b33 b44 b4q b02 b14 bF oq ho hv hb1 b0 b1' b2' hbW;generalize qw.cells ⟨s.page.lsn,[y0,y1,y2,y3]⟩=pc at*
 go_wp2_with (first | (guard_target=wpList _ _ _ (Oper.mk none (Op.store _ (Operand.tmp 10) _) _ _ _ _::_) _ _;refine wpList_store_mid rfl 31 (.tmp 10) (.tmp 9) rfl (w.heap.size+1+1) 1 pc.toArray rfl rfl iB (by rw [List.size_toArray];exact HI1) YY ?_;rw [HW2.out]) | (guard_target=wpList _ _ _ (Oper.mk (some 17) _ _ _ _ _::_) _ _;rw [H34.out];refine wpList_load_mid rfl 167 (.tmp 3) rfl (w.heap.size+1+1) 0 rfl q.cells _ r4 Tryz.underlying167 rfl HI2 ?_) | (guard_target=wpList _ _ _ (Oper.mk none (Op.store _ (Operand.tmp 2) _) _ _ _ _::_) _ _;refine wpList_store_mid rfl 167 (.tmp 2) (.tmp 17) rfl (w.heap.size+1) 0 q.cells.toArray rfl rfl uL (by rw [List.size_toArray];exact HI2) Tc ?_;rw [zK.out]) | fail);exact bodyPost_ret (v:=.agg q.cells.toArray) (jk Tryz.results286 rfl yG.out) rfl ⟨q,rfl,HV,vX.out.1,vX.out.2⟩
theorem C8 (s:qb) (left:Int) (w:World) (hn:s.short 9223372036854775807) (h0:0≤left∧left≤1048576):
  Calls Tryz.prog 283 #[.agg s.cells.toArray,.int .i64 left] w fun e w'=>∃ z,e=.returned (.int .i64 z)∧(z<0∨(0≤z∧z≤left∧s.short 1048576))∧Below w.heap.size w w':=by
 obtain ⟨W,hW,b0,hbW,qp⟩:=qx w s.cells 303;have hrg0:W.rangeAt w.heap.size 1 s.page.cells:=vH s b0;have HL:=Tryz.rG s.page rfl;have C:=mH s.page rfl left W hn h0;clear qp b0;go_enter Tryz.func283,Tryz.ntmps283;go_wp2_with (first | (guard_target=wpList _ _ _ (Oper.mk (some 6) _ _ _ _ _::_) _ _;refine wpList_load_mid rfl 66 (.tmp 5) rfl w.heap.size 1 rfl s.page.cells _ (by rw [hW.out];exact hrg0) Tryz.underlying66 rfl HL ?_) | fail);rw [hW.out];clear hW hrg0 HL;refine C.mono ?_;clear C;rintro e w1 ⟨z,rfl,hz,hb1⟩;have HZ:Hid (z<0∨(0≤z∧z≤left∧s.short 1048576)):=hz;clear hz;by_cases hneg:z<0
 ·go_wp2;go_ret;exact ⟨-1,rfl,.inl (by omega),hbW.trans (hb1.mono hbW.size)⟩
 ·go_wp2;go_ret;exact ⟨z,rfl,HZ.out,hbW.trans (hb1.mono hbW.size)⟩
theorem DW (s t:qb) (he:t.v=s.v) (w:World) (hs:s.reads w) (ht:t.reads w) (hl:s.short 1099511627776):
  Calls Tryz.prog 289 #[.agg s.cells.toArray,.agg t.cells.toArray] w fun e w'=>e=.returned (.bool true)∧Below w.heap.size w w':=by
 obtain ⟨W,hW,b0,b1,hbW,qp⟩:=jf w s.cells t.cells 167 167;have rH:Hid (t.no=s.no∧t.lsn=s.lsn∧t.ss.map (·.v)=s.ss.map (·.v)∧t.dirty=s.dirty∧t.hot=s.hot):=by
  simp only [qb.v,jc.mk.injEq] at he;exact he
 have hrg0:W.rangeAt w.heap.size 1 s.page.cells:=vH s b0;have hrg1:W.rangeAt (w.heap.size+1) 1 t.page.cells:=vH t b1;have HI0:=Tryz.Jm s.page rfl;have HI1:=Tryz.Jm t.page rfl;have C:=UB s.lsn s.ss t.ss rfl rH.out.2.2.1 W (hs.below hbW) (ht.below hbW) hl;have e1:qw.cells ⟨s.lsn,t.ss⟩=t.page.cells:=by rw [qb.page,rH.out.2.1]
 rw [e1] at C;have c0:W.cell? ⟨w.heap.size,0,none⟩=some (.int .i64 s.no):=b0.cell 0 _ rfl;have c1:W.cell? ⟨w.heap.size+1,0,none⟩=some (.int .i64 s.no):=(b1.cell 0 _ rfl).trans (by rw [rH.out.1]);have HC:Hid (∀ u,Below W.heap.size W u→u.cell? ⟨w.heap.size,18,none⟩=some (.bool s.dirty)∧u.cell? ⟨w.heap.size,19,none⟩=some (.bool s.hot)∧u.cell? ⟨w.heap.size+1,18,none⟩=some (.bool s.dirty)∧u.cell? ⟨w.heap.size+1,19,none⟩=some (.bool s.hot)):=fun u hu=>⟨(b0.below hu b0.lt).cell 18 _ rfl,(b0.below hu b0.lt).cell 19 _ rfl,((b1.below hu b1.lt).cell 18 _ rfl).trans (by rw [rH.out.2.2.2.1]),((b1.below hu b1.lt).cell 19 _ rfl).trans (by rw [rH.out.2.2.2.2])⟩
 clear qp b0 b1 he rH e1;generalize hsc:s.cells=cs0 at*
 generalize htc:t.cells=cs1 at*
 clear hsc htc;go_enter Tryz.func289,Tryz.ntmps289;go_upto_region 1 with fail;rw [hW.out];clear hW;go_wp2_with (first | (guard_target=wpList _ _ _ (Oper.mk (some 11) _ _ _ _ _::_) _ _;refine wpList_load_mid rfl 31 (.tmp 10) rfl w.heap.size 1 rfl s.page.cells _ hrg0 Tryz.underlying31 rfl HI0 ?_) | (guard_target=wpList _ _ _ (Oper.mk (some 13) _ _ _ _ _::_) _ _;refine wpList_load_mid rfl 31 (.tmp 12) rfl (w.heap.size+1) 1 rfl t.page.cells _ hrg1 Tryz.underlying31 rfl HI1 ?_) | fail);refine C.mono ?_;clear C hrg0 hrg1 HI0 HI1 c0 c1;rintro e w1 ⟨rfl,hb1⟩;obtain ⟨d0,d1,d2,d3⟩:=HC.out w1 hb1;clear HC;generalize s.dirty=sd at*
 generalize s.hot=sh at*
 go_wp2;go_ret;exact ⟨rfl,hbW.trans (hb1.mono hbW.size)⟩
theorem TH (n:Nat) (r:qb):(List.replicate n r).length=n:=by simp
theorem Va (n:Nat):(madeCells (Value.agg qc.cells.toArray).cells (n*20)).toList=jr (List.replicate n qc):=by
 apply List.ext_getElem?
 intro i;by_cases h:i<n*20
 ·have e:=YK (List.replicate n qc) (i / 20) (i % 20) (by simp;omega) (Nat.mod_lt _ (by omega));rw [show i / 20*20+i % 20=i by omega] at e;rw [e];have hg:(List.replicate n qc).getD (i / 20) qc=qc:=by simp [List.getD,show i / 20<n by omega]
  rw [hg];simp only [madeCells,Array.toList_map,List.getElem?_map,Array.toList_range,List.getElem?_range h,Option.map_some];have hm:i % 20<20:=Nat.mod_lt _ (by omega);have hz:∀ j,j<20→some ((Value.agg qc.cells.toArray).cells[j]!)=qc.cells[j]? :=by
   intro j hj;rcases (by omega:j=0∨j=1∨j=2∨j=3∨j=4∨j=5∨j=6∨j=7∨j=8∨j=9∨j=10∨j=11∨j=12∨j=13∨j=14∨j=15∨j=16∨j=17∨j=18∨j=19) with rfl | rfl | rfl | rfl | rfl | rfl | rfl | rfl | rfl | rfl | rfl | rfl | rfl | rfl | rfl | rfl | rfl | rfl | rfl | rfl<;>rfl
  exact hz _ hm
 ·rw [List.getElem?_eq_none (by simp [size_madeCells];omega),List.getElem?_eq_none (by rw [Qe];simp;omega)]
theorem U1 {w:World} {lo hi g c:Nat} (n:Nat) (h:w.ownsRow lo 167 20 (.slice (some ⟨g,0,none⟩) n c) n (jr (List.replicate n qc))) (ht:hi≤w.heap.size) (hg:g<hi):OwnSts w lo hi (some ⟨g,0,none⟩) c (List.replicate n qc):=by
 refine ⟨by rw [TH];exact h,ht,fun k hk=>by cases hk;exact hg,fun r hr=>?_,?_⟩
 ·rw [(List.mem_replicate.1 hr).2];exact uI w lo hi ht
 ·have e:(List.replicate n qc).flatMap qb.blocks=[]:=by
   rw [List.flatMap_eq_nil_iff];intro r hr;rw [(List.mem_replicate.1 hr).2];rfl
  rw [e];simp [Value.ownBlock]
def uC (rs ts:List qb) (k:Nat):Prop:=ts.length=k∧ts.map qb.v=(rs.take k).map qb.v
theorem YD (rs:List qb):uC rs [] 0:=⟨rfl,by simp⟩
theorem uC.snoc {rs ts:List qb} {k:Nat} (h:uC rs ts k) (hk:k<rs.length) {q:qb} (hq:q.v=(rs.getD k qc).v):uC rs (ts++[q]) (k+1):=by
 refine ⟨by simp [h.1],?_⟩;have e:rs.getD k qc=rs[k]:=by simp [List.getD,hk]
 rw [List.map_append,h.2,List.take_succ_eq_append_getElem hk,List.map_append,List.map_singleton,List.map_singleton,hq,e]
theorem uC.all {rs ts:List qb} (h:uC rs ts rs.length):ts.map qb.v=rs.map qb.v:=by
 have:=h.2
 rwa [List.take_length] at this
theorem uF {w w':World} {b o:Nat} {r:qb} (h:w.rangeAt b o r.cells) (hb:Below w.heap.size w w'):w'.rangeAt b o r.cells:=xU h hb (Jk h)
theorem DX (a:Option Addr) (cap:Nat) (rs:List qb) (w:World) (hr:j3 w a rs) (hl:rs.length≤1048576) (hs:∀ r∈rs,r.short 1048576):
  Calls Tryz.prog 215 #[.slice a rs.length cap] w fun e w'=>∃ a' c' ts,e=.returned (.slice a' ts.length c')∧Hid (ts.map qb.v=rs.map qb.v)∧OwnSts w' w.heap.size w'.heap.size a' c' ts∧Below w.heap.size w w':=by
 obtain ⟨i0,hi,hz0,hz1,hz2⟩:=info_parts Tryz.ZH;have HI:Hid ((Tryz.prog.info? 303).map (·.size)=some 20):=by rw [Hid];kernel_rfl
 have HJ:Hid ((Tryz.prog.info? 167).map (·.size)=some 20):=by rw [Hid];kernel_rfl
 rcases hr.cases with rfl | ⟨b,off,rfl,hpos,hcell⟩
 ·go_enter Tryz.func215,Tryz.ntmps215;go_wp2_with (at_make;refine wpList_make_full _ rfl _ _ 33 rfl w.heap.size 167 i0 (.agg qc.cells.toArray) 20 Tryz.underlying33 hi hz0 hz1 _ _ _ _ 0 rfl rfl (by simp) (by simp) (by omega) (by simp [maxLen]) (Nat.le_refl _) ?_);intro w0 hown0 j5;have hB:Below w.heap.size w w0:=(Below.refl _ _).grown j5 (Nat.le_refl _) (fun k h=>by cases h);have ho:w0.ownsRow w.heap.size 167 20 (.slice (some ⟨w.heap.size,0,none⟩) 0 0) 0 (jr (List.replicate 0 qc)):=by
   rw [← Va];exact hown0
  have HO:Hid (OwnSts w0 w.heap.size w0.heap.size (some ⟨w.heap.size,0,none⟩) 0 []):=U1 0 ho (Nat.le_refl _) (ho.lt _ rfl).2;clear hown0 j5 ho;go_wp2;refine wp_loop_rounds 1 ?_;rw [rounds_succ];go_wp2;go_ret;exact ⟨_,_,[],rfl,rfl,HO.out,hB⟩
 ·have JJ:b<w.heap.size:=Jk (hcell 0 hpos).1;go_enter Tryz.func215,Tryz.ntmps215;go_wp2_with (at_make;refine wpList_make_full _ rfl _ _ 33 rfl w.heap.size 167 i0 (.agg qc.cells.toArray) 20 Tryz.underlying33 hi hz0 hz1 _ _ _ _ rs.length rfl rfl rfl rfl (by rw [hz2];omega) (by simp [maxLen];omega) (Nat.le_refl _) ?_);intro w0 hown0 j5;have hb0:Below w.heap.size w w0:=(Below.refl _ _).grown j5 (Nat.le_refl _) (fun k h=>by cases h);have ho:w0.ownsRow w.heap.size 167 20 (.slice (some ⟨w.heap.size,0,none⟩) rs.length rs.length) rs.length (jr (List.replicate rs.length qc)):=by
   rw [← Va];exact hown0
  have HO:Hid (OwnSts w0 w.heap.size w0.heap.size (some ⟨w.heap.size,0,none⟩) rs.length (List.replicate rs.length qc)):=U1 _ ho (Nat.le_refl _) (ho.lt _ rfl).2;clear hown0 j5 ho;go_wp2;go_loopw [4] (fun i wr=>∃ (k:Nat) (ts:List qb),k≤rs.length∧i=.int .i64 k∧Hid (uC rs ts k)∧Hid (OwnSts wr w.heap.size wr.heap.size (some ⟨w.heap.size,0,none⟩) rs.length (ts++List.replicate (rs.length-k) qc))∧Below w.heap.size w wr)
   (fun i _=>rs.length-(intOf i).toNat)
  case atStart=>exact ⟨0,[],Nat.zero_le _,rfl,YD rs,HO,hb0⟩
  case round=>
   obtain ⟨k,ts,hk,rfl,hc,hown,hnx⟩:=hrel;by_cases hlt:k<rs.length
   ·obtain ⟨c0,c1⟩:=hcell k hlt;have HR:Hid (wr.rangeAt b (off+k*20) (rs.getD k qc).cells):=xU c0 hnx JJ;have hrd:(rs.getD k qc).reads wr:=c1.below hnx;have hsh:(rs.getD k qc).short 1048576:=hs _ (xE rs k hlt);have C:=CY (rs.getD k qc) wr hrd hsh;have HS:Hid (∀ q:qb,q.v=(rs.getD k qc).v→uC rs (ts++[q]) (k+1)):=fun q hq=>hc.out.snoc hlt hq
    have HP:Hid (ts++List.replicate (rs.length-k) qc=ts++qc::List.replicate (rs.length-(k+1)) qc∧(ts++qc::List.replicate (rs.length-(k+1)) qc).length=rs.length∧ts.length=k):=by
     have e:rs.length-k=(rs.length-(k+1))+1:=by omega
     refine ⟨by rw [e,List.replicate_succ],?_,hc.out.1⟩;have:=hc.out.1;simp;omega
    clear c0 c1 hcell hb0 HO hs hrd hsh;generalize rs.getD k qc=z at*
    go_wp2_with (first | (guard_target=wpList _ _ _ (Oper.mk (some 19) _ _ _ _ _::_) _ _;refine wpList_load_mid rfl 303 (.tmp 18) rfl b (off+k*20) rfl z.cells _ HR.out Tryz.underlying303 rfl HI.out ?_) | fail);refine C.mono ?_;clear C HR;rintro e w1 ⟨q,rfl,hq,hqo,hb1⟩;have hs1:=hb1.size;have ho1:=hown.out.below hb1;rw [HP.out.1] at ho1;obtain ⟨W2,hW2,ho2,ht2,hs2⟩:=ho1.fill q hqo (Nat.le_refl _) (by have:=hnx.size;omega) (Nat.le_refl _);rw [HP.out.2.2] at hW2;have HT:Hid (w1.there w.heap.size (k*20) 20):=(yf ho1.row rfl k (by rw [HP.out.2.1];exact hlt)).2;have hB2:Below w.heap.size w W2:=(hnx.trans (hb1.mono hnx.size)).trans ((ht2.within (lo:=w.heap.size) (hi:=w.heap.size+1) (fun j hj=>by obtain rfl:=List.mem_singleton.1 hj;omega)).below (Nat.le_refl _) (by have:=hnx.size;omega));have HH:Hid (OwnSts W2 w.heap.size W2.heap.size (some ⟨w.heap.size,0,none⟩) rs.length ((ts++[q])++List.replicate (rs.length-(k+1)) qc)):=by
     have:=ho2.widen (Nat.le_refl _) (show max wr.heap.size w1.heap.size≤W2.heap.size by omega) (Nat.le_refl _);rw [List.append_assoc,List.singleton_append];exact this
    have HB:Hid _:=hB2;have HC:=HS.out q hq.out;have YY:=Rm q;clear ho1 ho2 ht2 hs2 hB2 hqo hb1 hnx hown hq HS hs1;go_wp2_with (first | (guard_target=wpList _ _ _ (Oper.mk none (Op.store _ (Operand.tmp 21) _) _ _ _ _::_) _ _;refine wpList_store_mid rfl 167 (.tmp 21) (.tmp 20) rfl w.heap.size (k*20) q.cells.toArray rfl rfl HT.out HJ.out YY ?_) | fail);rw [hW2.out];go_roundw
    case rel=>exact ⟨k+1,ts++[q],by omega,by go_num,HC,HH,HB.out⟩
    case measure=>simp [intOf];omega
   ·have HE:Hid (ts.map qb.v=rs.map qb.v∧OwnSts wr w.heap.size wr.heap.size (some ⟨w.heap.size,0,none⟩) rs.length ts∧ts.length=rs.length):=by
     have e:k=rs.length:=by omega
     rw [e] at hown hc;rw [Nat.sub_self,List.replicate_zero,List.append_nil] at hown;exact ⟨hc.out.all,hown.out,hc.out.1⟩
    go_wp2;go_ret;exact ⟨some ⟨w.heap.size,0,none⟩,rs.length,ts,by rw [HE.out.2.2];rfl,HE.out.1,HE.out.2.1,hnx⟩
theorem TI {ts:List qb} (h:ts.map qb.v=([]:List qb).map qb.v):ts=[]:=by simpa using h
theorem BR (l:qi) (w:World) (hr:l.reads w) (hl:l.short 1048576):
  Calls Tryz.prog 111 #[.agg l.cells.toArray] w fun e w'=>∃ t:qi,e=.returned (.agg t.cells.toArray)∧Hid (t.v=l.v)∧t.own w' w.heap.size w'.heap.size∧Below w.heap.size w w':=by
 obtain ⟨rs,s,a,c⟩:=l;obtain ⟨hl1,hl2⟩:=hl;simp only [qi.reads,qi.cells,qi.own] at*
 obtain ⟨W,hW,b0,b1,b2,hbW,qp⟩:=yn w [.slice a rs.length c,.int .i64 s] [.slice none 0 0,.int .i64 0] [.slice none 0 0,.int .i64 0] 70 35 35;have C:=DX a c rs W (hr.below hbW) hl1 hl2;go_enter Tryz.func111,Tryz.ntmps111;go_wp2_with fail;rw [hW.out];clear hW;have hs0:w.heap.size+1+1<W.heap.size:=by omega
 clear qp;refine C.mono ?_;clear C;rintro e w1 ⟨a',c',ts,rfl,hv,ho1,hb1⟩;have hs1:=hb1.size;have b01:=b0.below hb1 b0.lt;have b11:=b1.below hb1 b1.lt;have zU:=b2.below hb1 b2.lt;have x1:=b01.cell 1 _ rfl;have y0:=zU.cell 0 _ rfl;have y1:=zU.cell 1 _ rfl;have f0:=zU.frozen 0;have f1:=zU.frozen 1;have z0:=b11.cell 0 _ rfl;have z1:=b11.cell 1 _ rfl;have g0:=b11.frozen 0;have g1:=b11.frozen 1;obtain ⟨W2,hW2,QH,hw2,hs2⟩:=jB zU 0 (.slice a' ts.length c');obtain ⟨W3,hW3,zh,hw3,hs3⟩:=jB QH 1 (.int .i64 s);have b13:=(b11.within hw2 (by omega)).within hw3 (by omega);obtain ⟨W4,vg,b14,hw4,hs4⟩:=jB b13 0 (.slice a' ts.length c');obtain ⟨W5,uM,b15,Kq,hs5⟩:=jB b14 1 (.int .i64 s);simp only [List.set] at b15;have q0:=b15.cell 0 _ rfl;have q1:=b15.cell 1 _ rfl;have ZR:Below w.heap.size w W5:=((((hbW.trans (hb1.mono (by omega))).trans (hw2.below (by omega) (by omega))).trans (hw3.below (by omega) (by omega))).trans (hw4.below (by omega) (by omega))).trans (Kq.below (by omega) (by omega));have gU:=((((ho1.within hw2 (.inr (by omega))).within hw3 (.inr (by omega))).within hw4 (.inr (by omega))).within Kq (.inr (by omega))).widen (show w.heap.size≤W.heap.size by omega) (show w1.heap.size≤W5.heap.size by omega) (Nat.le_refl _);have HH:Hid (_∧_∧_):=⟨gU,ZR,hv.out⟩;clear gU ZR hv ho1 hb1 hw2 hw3 hw4 Kq hs2 hs3 hs4 hs5 b01 b11 zU QH zh b13 b14 b15 b0 b1 b2 hbW;have fu:Hid (((((w1.setCell ⟨w.heap.size+1+1,0,none⟩ (.slice a' ts.length c')).setCell ⟨w.heap.size+1+1,1,none⟩ (.int .i64 s)).setCell ⟨w.heap.size+1,0,none⟩ (.slice a' ts.length c')).setCell ⟨w.heap.size+1,1,none⟩ (.int .i64 s))=W5):=by rw [Hid,hW2.out,hW3.out,vg.out,uM.out]
 clear hW2 hW3 vg uM;go_wp2;rw [fu.out];exact bodyPost_ret (v:=.agg #[.slice a' ts.length c',.int .i64 s]) (by simp [results,Tryz.results111,go_sem,q0,q1]) rfl ⟨⟨ts,s,a',c'⟩,rfl,by simp only [Hid,qi.v];rw [HH.out.2.2],HH.out.1,HH.out.2.1⟩
theorem Pz (a b:Option Addr) (ca cb:Nat) (rs ts:List qb) (he:ts.map qb.v=rs.map qb.v) (w:World) (ha:j3 w a rs) (hb:j3 w b ts) (hl:rs.length≤1099511627776) (hs:∀ r∈rs,r.short 1099511627776):
  Calls Tryz.prog 220 #[.slice a rs.length ca,.slice b ts.length cb] w fun e w'=>e=.returned (.bool true)∧Below w.heap.size w w':=by
 rcases ha.cases with rfl | ⟨b1,o1,rfl,hpos,hc1⟩
 ·obtain rfl:=TI he;go_enter Tryz.func220,Tryz.ntmps220;go_wp2;refine wp_loop_rounds 1 ?_;rw [rounds_succ];go_wp2;go_ret;exact ⟨rfl,Below.refl _ _⟩
 ·have hlen:=Yf he;rcases hb.cases with rfl | ⟨b2,o2,rfl,_,hc2⟩
  ·simp at hlen;omega
  ·have HV:Hid (∀ k,k<rs.length→(ts.getD k qc).v=(rs.getD k qc).v):=fun k hk=>M3 he k hk
   have HS:Hid (∀ k,k<rs.length→(rs.getD k qc).short 1099511627776):=fun k hk=>hs _ (xE rs k hk)
   have HI:Hid ((Tryz.prog.info? 167).map (·.size)=some 20):=by rw [Hid];kernel_rfl
   have hu:=Tryz.underlying167;rw [hlen] at hc2 ⊢;clear he hs hlen;go_enter Tryz.func220,Tryz.ntmps220;go_wp2;go_loopw [5] (fun i wr=>∃ k:Nat,k≤rs.length∧i=.int .i64 k∧Below w.heap.size w wr) (fun i _=>rs.length-(intOf i).toNat)
   case atStart=>exact ⟨0,Nat.zero_le _,rfl,Below.refl _ _⟩
   case round=>
    obtain ⟨k,hk,rfl,hbl⟩:=hrel;by_cases hlt:k<rs.length
    ·obtain ⟨h1,r1⟩:=hc1 k hlt;obtain ⟨h2,r2⟩:=hc2 k hlt;have hv:=HV.out k hlt;have hsh:=HS.out k hlt;clear hc1 hc2;generalize rs.getD k qc=z at*
     generalize ts.getD k qc=y at*
     have HR:Hid (∀ w1,Below w.heap.size w w1→w1.rangeAt b1 (o1+k*20) z.cells∧w1.rangeAt b2 (o2+k*20) y.cells):=fun w1 hh=>⟨uF h1 hh,uF h2 hh⟩
     have HD:Hid (∀ w1,Below w.heap.size w w1→z.reads w1∧y.reads w1):=fun w1 hh=>⟨r1.below hh,r2.below hh⟩
     clear h1 h2 r1 r2;go_wp2_with fail;refine wp_region_held_drew (S:=fun w'=>w'.rangeAt b1 (o1+k*20) z.cells∧w'.rangeAt b2 (o2+k*20) y.cells) (by kernel_rfl) ?_ (fun hHeld=>?_)
     ·exact HR.out _ hbl.drew
     refine tr 0 (.slice (some ⟨b1,o1,none⟩) rs.length ca) ?_;refine tr 1 (.int .i64 k) ?_;refine tr 2 (.pointer (some ⟨b1,o1+k*20,none⟩)) ?_;refine Go.Proofs.YtjkckhfddgeboaaGreatDoor.ts 3 rfl (yieldsIf_load_mid (by rfl) _ _ rfl _ _ rfl z.cells _ (fun _ h=>h.1) Tryz.underlying167 rfl HI.out) ?_;refine tr 4 (.slice (some ⟨b2,o2,none⟩) rs.length cb) ?_;refine tr 5 (.int .i64 k) ?_;refine tr 6 (.pointer (some ⟨b2,o2+k*20,none⟩)) ?_;refine Go.Proofs.YtjkckhfddgeboaaGreatDoor.ts 7 rfl (yieldsIf_load_mid (by rfl) _ _ rfl _ _ rfl y.cells _ (fun _ h=>h.2) Tryz.underlying167 rfl HI.out) ?_;refine wpAnyH_ready (rs:=[8]) (by kernel_rfl) (by simp) ?_;refine AllReadyH.cons rfl (fun K hK=>?_) AllReadyH.nil;go_simp;refine (DW z y hv _ (HD.out _ hbl.drew).1 (HD.out _ hbl.drew).2 hsh).mono ?_;rintro e w2 ⟨rfl,hb2⟩;have hw2:Below w.heap.size w w2:=(hbl.drew).trans (hb2.mono hbl.size);refine hK.out _ _ (HR.out _ hw2) (fun hHeld=>?_);clear hK K;try simp only [zz]
     refine tr 9 (.bool false) ?_;refine wpAnyH_done (by kernel_rfl) ?_ _;go_wp2_with fail;go_roundw
     case rel=>exact ⟨k+1,by omega,by go_num,hw2⟩
     case measure=>simp [intOf];omega
    ·go_wp2;go_ret;exact ⟨rfl,hbl⟩
theorem Dk (l t:qi) (he:t.v=l.v) (w:World) (hr:l.reads w) (ht:t.reads w) (hl:l.short 1099511627776):
  Calls Tryz.prog 117 #[.agg l.cells.toArray,.agg t.cells.toArray] w fun e w'=>e=.returned (.bool true)∧Below w.heap.size w w':=by
 obtain ⟨rs,s,a,c⟩:=l;obtain ⟨ts,s',a',c'⟩:=t;obtain ⟨hl1,hl2⟩:=hl;simp only [qi.v,jN.mk.injEq] at he;obtain ⟨he,rfl⟩:=he;simp only [qi.reads,qi.cells] at*
 obtain ⟨W,hW,b0,b1,hbW,qp⟩:=jf w [.slice a rs.length c,.int .i64 s'] [.slice a' ts.length c',.int .i64 s'] 35 35;have C:=Pz a a' c c' rs ts he W (hr.below hbW) (ht.below hbW) hl1 hl2;clear qp he hl1 hl2 hr ht;go_enter Tryz.func117,Tryz.ntmps117;go_wp2_with fail;rw [hW.out];clear hW;refine C.mono ?_;clear C;rintro e w1 ⟨rfl,hb1⟩;have x1:=(b0.below hb1 b0.lt).cell 1 _ rfl;have y1:=(b1.below hb1 b1.lt).cell 1 _ rfl;clear b0 b1;go_wp2;go_ret;exact ⟨rfl,hbW.trans (hb1.mono hbW.size)⟩
theorem DY (a:Option Addr) (cap:Nat) (rs:List qb) (left:Int) (w:World) (hr:j3 w a rs) (hn:rs.length≤9223372036854775807) (hs:∀ r∈rs,r.short 9223372036854775807) (hl:0≤left∧left≤1048576):
  Calls Tryz.prog 211 #[.slice a rs.length cap,.int .i64 left] w fun e w'=>∃ z:Int,e=.returned (.int .i64 z)∧(z<0∨(0≤z∧z≤left∧rs.length≤1048576∧∀ r∈rs,r.short 1048576))∧Below w.heap.size w w':=by
 have HI:Hid ((Tryz.prog.info? 303).map (·.size)=some 20):=by rw [Hid];kernel_rfl
 by_cases hle:left-rs.length<0
 ·go_enter Tryz.func211,Tryz.ntmps211;go_wp2;go_ret;exact ⟨-1,rfl,.inl (by omega),Below.refl _ _⟩
 have HS:Hid (∀ k,k<rs.length→(rs.getD k qc).short 9223372036854775807):=fun k hk=>hs _ (xE rs k hk)
 have hlen:rs.length≤1048576:=by omega
 have HC:Hid (∀ k,k<rs.length→∃ b off,a=some ⟨b,off,none⟩∧w.rangeAt b (off+k*20) (rs.getD k qc).cells):=fun k hk=>by
  obtain ⟨b,off,ha,hc⟩:=hr (by intro e;rw [e] at hk;simp at hk);exact ⟨b,off,ha,(hc k hk).1⟩
 have HA:Hid ((∀ k,k<rs.length→(rs.getD k qc).short 1048576)→∀ r∈rs,r.short 1048576):=by
  intro h r hr;obtain ⟨k,hk,rfl⟩:=List.getElem_of_mem hr;have:=h k hk
  simpa [List.getD,hk] using this
 clear hr hs;go_enter Tryz.func211,Tryz.ntmps211;go_wp2;go_loopw [1,5] (fun v i wr=>∃ (k:Nat) (z:Int),k≤rs.length∧i=.int .i64 k∧v=.int .i64 z∧0≤z∧z≤left∧Hid (∀ j,j<k→(rs.getD j qc).short 1048576)∧Below w.heap.size w wr) (fun _ i _=>rs.length-(intOf i).toNat)
 case atStart=>exact ⟨0,left-rs.length,Nat.zero_le _,rfl,by go_num,by omega,by omega,fun j hj=>by omega,Below.refl _ _⟩
 case round=>
  obtain ⟨k,z,hk,rfl,rfl,hz0,hz1,hsh,hbl⟩:=hrel;by_cases hlt:k<rs.length
  ·obtain ⟨b,off,rfl,hcell⟩:=HC.out k hlt;have HR:Hid (wr.rangeAt b (off+k*20) (rs.getD k qc).cells):=uF hcell hbl;have C:=C8 (rs.getD k qc) z wr (HS.out k hlt) (by omega);clear hcell HC;have HN:Hid ((rs.getD k qc).short 1048576→∀ j,j<k+1→(rs.getD j qc).short 1048576):=fun h j hj=>by
    by_cases e:j=k
    ·rw [e];exact h
    ·exact hsh.out j (by omega)
   generalize rs.getD k qc=y at*
   go_wp2_with (first | (guard_target=wpList _ _ _ (Oper.mk (some 21) _ _ _ _ _::_) _ _;refine wpList_load_mid rfl 303 (.tmp 20) rfl b (off+k*20) rfl y.cells _ HR.out Tryz.underlying303 rfl HI.out ?_) | fail);refine C.mono ?_;clear C HR;rintro e w1 ⟨z1,rfl,hz,hb1⟩;have hB1:Below w.heap.size w w1:=hbl.trans (hb1.mono hbl.size);rcases hz with hneg | ⟨g0,g1,g2⟩
   ·go_wp2;go_ret;exact ⟨-1,rfl,.inl (by omega),hB1⟩
   ·have hzn:¬ z1<0:=by omega
    have HH:=HN.out g2;go_wp2;go_roundw
    case rel=>exact ⟨k+1,z1,by omega,by go_num,rfl,g0,by omega,HH,hB1⟩
    case measure=>simp [intOf];omega
  ·have HE:Hid (∀ r∈rs,r.short 1048576):=HA.out (fun j hj=>hsh.out j (by omega));go_wp2;go_ret;exact ⟨z,rfl,.inr ⟨hz0,hz1,hlen,HE.out⟩,hbl⟩
theorem BS (l:qi) (left:Int) (w:World) (hr:l.reads w) (hs:l.short 9223372036854775807) (hl:0≤left∧left≤1048576):
  Calls Tryz.prog 102 #[.agg l.cells.toArray,.int .i64 left] w fun e w'=>∃ z:Int,e=.returned (.int .i64 z)∧(z<0∨(0≤z∧z≤left∧l.short 1048576))∧Below w.heap.size w w':=by
 obtain ⟨rs,s,a,c⟩:=l;obtain ⟨hl1,hl2⟩:=hs;simp only [qi.reads,qi.cells] at*
 obtain ⟨W,hW,b0,hbW,qp⟩:=qx w [.slice a rs.length c,.int .i64 s] 70;have C:=DY a c rs left W (hr.below hbW) hl1 hl2 hl;clear qp hr hl1 hl2;go_enter Tryz.func102,Tryz.ntmps102;go_wp2_with fail;rw [hW.out];clear hW;refine C.mono ?_;clear C;rintro e w1 ⟨z,rfl,hz,hb1⟩;have hB:Below w.heap.size w w1:=hbW.trans (hb1.mono hbW.size);rcases hz with hneg | ⟨h0,h1,h2,h3⟩
 ·go_wp2;go_ret;exact ⟨-1,rfl,.inl (by omega),hB⟩
 ·have hzn:¬ z<0:=by omega
  go_wp2;go_ret;exact ⟨z,rfl,.inr ⟨h0,h1,h2,h3⟩,hB⟩
end Go.Proofs.YtjkckhfddgeboaaGreatDoor
namespace Go.Proofs.YtjkckhfddgeboaaGreatDoor
open Go.ChangeShapes Go.WideShapes Go.ChangeAt Go.RowKit
structure JI (w:World) (s:qb):Prop where
 slots:∀ x∈s.ss,uD w x
 no:yx s.no
 lsn:yx s.lsn
theorem JI.reads {w:World} {s:qb} (h:JI w s):s.reads w:=fun x hx=>(h.slots x hx).reads
theorem JI.short {w:World} {s:qb} (h:JI w s):s.short 9223372036854775807:=fun x hx=>by
 have h1:=(h.slots x hx).lI;have h2:=(h.slots x hx).lR;simp only [maxLen] at h1 h2;omega
structure Zm (w:World) (l:qi):Prop where
 seats:j3 w l.a l.seats
 each:∀ r∈l.seats,JI w r
 len:l.seats.length≤maxLen
 num:yx l.hand
theorem Zm.short {w:World} {l:qi} (h:Zm w l):l.short 9223372036854775807:=⟨by have:=h.len;simp only [maxLen] at this;omega,fun r hr=>(h.each r hr).short⟩
theorem Zm.reads {w:World} {l:qi} (h:Zm w l):l.reads w:=h.seats
section
variable {H:Type} {enc:TypeId × Value→H} {w:World} {base:Nat} {spare:Nat→Bool} {held:Bool}
theorem Tryz.PD:Tryz.prog.cellsOf 303=20:=by kernel_rfl
theorem TJ {fuel:Nat} {cs:List Value} {x:DataW H × List MemPlace} (h:DataW.trod enc Tryz.prog w base spare held fuel 303 cs=some x):
  ∃ s:qb,cs=s.cells∧JI w s:=by
 obtain ⟨xs,n,_,_,hlen,hxl,hf⟩:=DataW.trod_struct Tryz.underlying303 h;rw [Tryz.PD] at hlen
 match cs,hlen with
 | [v0,v1,v2,v3,v4,v5,v6,v7,v8,v9,v10,v11,v12,v13,v14,v15,v16,v17,v18,v19],_=>
  have f0:=hf 0 _ rfl;have f1:=hf 1 _ rfl;have f2:=hf 2 _ rfl;have f3:=hf 3 _ rfl;obtain ⟨y0,hx0⟩:=jm xs 0 (by rw [hxl];decide);rw [hx0] at f0;obtain ⟨y1,hx1⟩:=jm xs 1 (by rw [hxl];decide);rw [hx1] at f1;obtain ⟨y2,hx2⟩:=jm xs 2 (by rw [hxl];decide);rw [hx2] at f2;obtain ⟨y3,hx3⟩:=jm xs 3 (by rw [hxl];decide);rw [hx3] at f3;simp only [List.getElem_toArray,List.getElem_cons_zero,List.getElem_cons_succ,Tryz.Jw,Tryz.mM,Tryz.dw,List.drop,List.take] at f0 f1 f2 f3;obtain ⟨n0,e0,w0⟩:=yc f0;obtain ⟨p,e1,h4,w1,hs⟩:=V3 f1;obtain ⟨d,e2,_⟩:=DataW.trod_bool Tryz.underlying4 f2;obtain ⟨t,e3,_⟩:=DataW.trod_bool Tryz.underlying4 f3;obtain ⟨lsn,ss⟩:=p;obtain ⟨a,b,c,d',rfl⟩:=QB (ts:=ss) h4;simp only [List.cons.injEq,and_true] at e0 e2 e3;subst e0 e2 e3;refine ⟨⟨n0,lsn,a,b,c,d',d,t⟩,?_,hs,w0,w1⟩;rw [qb.zG];show _=Value.int .i64 n0::((qw.cells ⟨lsn,[a,b,c,d']⟩)++[.bool d,.bool t]);rw [← e1];rfl
theorem Tryz.TK:Tryz.prog.cellsOf 68=1:=by kernel_rfl
theorem Tryz.rF:Tryz.prog.cellsOf 70=2:=by kernel_rfl
theorem Fa {fuel:Nat} {cs:List Value} {x:DataW H × List MemPlace} (h:DataW.trod enc Tryz.prog w base spare held fuel 68 cs=some x):
  ∃ (a:Option Addr) (c:Nat) (rs:List qb),cs=[.slice a rs.length c]∧j3 w a rs∧(∀ r∈rs,JI w r)∧rs.length≤maxLen:=by
 rcases DataW.trod_slice Tryz.underlying68 h with ⟨rfl,_⟩ | ⟨a,len,cap,elems,rest,n,_,rfl,_,_,hl,hm,hlen,hel,_,_⟩
 ·exact ⟨none,0,[],rfl,j3.nil _ _,fun r hr=>by simp at hr,by simp⟩
 rw [Tryz.PD] at hel;have each:∀ i,i<len→∃ t:qb,w.cells? base (a.add (i*20)) 20=some t.cells∧JI w t:=by
  intro i hi;have hy:=hel i hi;rw [List.getElem?_eq_getElem (by omega:i<elems.length),Option.bind_eq_some_iff] at hy;obtain ⟨cs',hcs,hy'⟩:=hy;obtain ⟨t,e,ht⟩:=TJ hy';exact ⟨t,by rw [hcs,e],ht⟩
 obtain ⟨f,hf⟩:∃ f:Nat→qb,∀ i,i<len→w.cells? base (a.add (i*20)) 20=some (f i).cells∧JI w (f i):=by
  refine ⟨fun i=>if h:i<len then (each i h).choose else qc,fun i hi=>?_⟩;simp only [dif_pos hi];exact (each i hi).choose_spec
 refine ⟨some a,cap,(List.range len).map f,by simp,?_,?_,by simp;omega⟩
 ·intro hne;have hpos:=List.length_pos_iff.2 hne;simp only [List.length_map,List.length_range] at hpos ⊢;obtain ⟨b,off,spot⟩:=a;have c0:=(World.cells?_some (hf 0 hpos).1).2.2 0 (by decide);have hspot:spot=none:=by simpa [Addr.add] using World.cell?_spot c0
  subst hspot;refine ⟨b,off,rfl,fun k hk=>?_⟩;have e:((List.range len).map f).getD k qc=f k:=by simp [List.getD,hk]
  rw [e];have hc:=(World.cells?_some (hf k hk).1).2.2;refine ⟨fun j v hv=>?_,(hf k hk).2.reads⟩;have hj:j<20:=by have:=(List.getElem?_eq_some_iff.1 hv).1;rwa [xg] at this
  have d:=hc j (by simpa using hj);simp only [yS] at d;rw [d,hv]
 ·intro r hr;obtain ⟨k,hk,rfl⟩:=List.mem_map.1 hr;exact (hf k (List.mem_range.1 hk)).2
theorem GI {fuel:Nat} {cs:List Value} {x:DataW H × List MemPlace} (h:DataW.trod enc Tryz.prog w base spare held fuel 70 cs=some x):
  ∃ l:qi,cs=l.cells∧Zm w l:=by
 obtain ⟨xs,n,_,_,hlen,hxl,hf⟩:=DataW.trod_struct Tryz.underlying70 h;rw [Tryz.rF] at hlen
 match cs,hlen with
 | [v0,v1],_=>
  have f0:=hf 0 _ rfl;have f1:=hf 1 _ rfl;obtain ⟨y0,hx0⟩:=jm xs 0 (by rw [hxl];decide);rw [hx0] at f0;obtain ⟨y1,hx1⟩:=jm xs 1 (by rw [hxl];decide);rw [hx1] at f1;simp only [List.getElem_toArray,List.getElem_cons_zero,List.getElem_cons_succ,Tryz.Jw,Tryz.TK,List.drop,List.take] at f0 f1;obtain ⟨a,c,rs,e0,h0,h1,h2⟩:=Fa f0;obtain ⟨m,e1,w1⟩:=yc f1;simp only [List.cons.injEq,and_true] at e0 e1;subst e0 e1;exact ⟨⟨rs,m,a,c⟩,rfl,h0,h1,h2,w1⟩
theorem qdc {b0:Nat} {v:Value} {d:DataW H} {ps:List MemPlace} (hval:Value.okWide Tryz.prog w .any b0 70 v) (h:DataW.Trod enc Tryz.prog w base spare held 70 v d ps):
  ∃ l:qi,v=.agg l.cells.toArray∧Zm w l:=by
 obtain ⟨cs,rfl,hcs⟩:=okWide_struct Tryz.underlying70 hval;obtain ⟨fuel,hf⟩:=h;have e:(Value.agg cs).cells.toList=cs.toList:=rfl;rw [e] at hf;obtain ⟨r,hc,rest⟩:=GI hf;refine ⟨r,?_,rest⟩;congr 1;apply Array.toList_inj.1;rw [hc]
end
end Go.Proofs.YtjkckhfddgeboaaGreatDoor
namespace Go.Proofs.YtjkckhfddgeboaaGreatDoor
open Go.RowKit
theorem qi.reads.below {w w':World} {l:qi} (h:l.reads w) (hb:Below w.heap.size w w'):l.reads w':=j3.below h hb
theorem qi.own.reads {w:World} {lo hi:Nat} {l:qi} (h:l.own w lo hi):l.reads w:=OwnSts.reads h
theorem qi.own.below {w w':World} {lo hi:Nat} {l:qi} (h:l.own w lo hi) (hb:Below w.heap.size w w'):l.own w' lo hi:=OwnSts.below h hb
theorem qi.own.within {w w':World} {lo hi a b:Nat} {l:qi} (h:l.own w lo hi) (hw:Within a b w w') (hd:hi≤a∨b≤lo):l.own w' lo hi:=OwnSts.within h hw hd
theorem qi.own.widen {w:World} {lo hi lo' hi':Nat} {l:qi} (h:l.own w lo hi) (h1:lo'≤lo) (h2:hi≤hi') (h3:hi'≤w.heap.size):l.own w lo' hi':=OwnSts.widen h h1 h2 h3
def qi.blocks (l:qi):List Nat:=qo l.a l.c l.seats
theorem qi.own.touch {w w':World} {lo hi:Nat} {l:qi} {bl:List Nat} (h:l.own w lo hi) (ht:Touch bl w w') (hd:∀ k∈l.blocks,k∉bl):l.own w' lo hi:=OwnSts.touch h ht hd
theorem bK (l:qi):∀ v∈l.cells,v.oneCell'=true:=by
 intro v hv;simp only [qi.cells,List.mem_cons,List.not_mem_nil,or_false] at hv;rcases hv with rfl | rfl<;>rfl
theorem XH (q:qi):q.cells.toArray.all (·.oneCell')=true:=all_oneCell_toArray (bK q)
theorem kY (q:qi):(Tryz.prog.info? 35).map (·.size)=some q.cells.length:=by show _=some 2;kernel_rfl
theorem Qb {w:World} {C:Nat} (q:qi) (b:Box w C q.cells 35):(loadVar 35 ⟨C,0,none⟩).run Tryz.prog w=.ok (.agg q.cells.toArray) w:=
 run_loadVar_mid (P:=Tryz.prog) w C 0 35 q.cells _ (Box.range [] q.cells [] (by simpa using b)) Tryz.underlying35 rfl (kY q)
theorem aZ {w:World} {C:Nat} (q:qi) (old:List Value) (ho:old.length=2) (bC:Box w C old 35):
  ∃ WF,Hid (w.setCells C 0 q.cells=WF)∧Within C (C+1) w WF∧WF.heap.size=w.heap.size∧Hid (w.there C 0 q.cells.toArray.size)∧Hid ((loadVar 35 ⟨C,0,none⟩).run Tryz.prog WF=.ok (.agg q.cells.toArray) WF)∧Box WF C q.cells 35:=by
 obtain ⟨WF,qF,bF,hwF,qN⟩:=jb [] old q.cells [] (by simpa using bC) (by rw [ho];rfl);have Jp:Box WF C q.cells 35:=by simpa using bF
 exact ⟨WF,qF,hwF,qN,bC.there 0 _ (by rw [ho];show 0+2≤2;decide),Qb q Jp,Jp⟩
end Go.Proofs.YtjkckhfddgeboaaGreatDoor
namespace Go.Proofs.YtjkckhfddgeboaaGreatDoor
open Go.RowKit
def nM (s:qb) (k:Int):qb:=⟨k,k+1,s.s0,s.s1,s.s2,s.s3,((k+1+1) % 3 == 0),((k+1+1+1) % 3 == 0)⟩
def jU:List qb→Int→List qb
 | [],_=>[]
 | r::t,k=>nM r k::jU t (k+4)
theorem H9 (r:qb) (k:Int):(nM r k).blocks=r.blocks:=rfl
theorem vR (rs:List qb):∀ k,(jU rs k).length=rs.length:=by
 induction rs with
 | nil=>intro k;rfl
 | cons x r ih=>intro k;simp [jU,ih]
theorem U2 (A B:List qb):∀ k,jU (A++B) k=jU A k++jU B (k+4*(A.length:Int)):=by
 induction A with
 | nil=>intro k;simp [jU]
 | cons x r ih=>
  intro k;simp only [List.cons_append,jU,ih,List.length_cons];congr 3;omega
theorem Qp (rs:List qb):∀ k,(jU rs k).flatMap qb.blocks=rs.flatMap qb.blocks:=by
 induction rs with
 | nil=>intro k;rfl
 | cons x r ih=>intro k;simp only [jU,List.flatMap_cons,ih,H9]
theorem YN (rs:List qb) (j:Nat) (h:j<rs.length):rs.drop j=rs.getD j qc::rs.drop (j+1)∧rs.take (j+1)=rs.take j++[rs.getD j qc]:=by
 have e:rs.getD j qc=rs[j]:=by simp [List.getD,h]
 exact ⟨by rw [List.drop_eq_getElem_cons h,e],by rw [List.take_succ_eq_append_getElem h,e]⟩
def vE (rs:List qb) (k:Int) (j:Nat):List qb:=jU (rs.take j) k++rs.drop j
theorem Fb (rs:List qb) (k:Int) (j:Nat) (h:j<rs.length):vE rs k j=jU (rs.take j) k++rs.getD j qc::rs.drop (j+1):=by rw [vE,(YN rs j h).1]
theorem PE (rs:List qb) (k:Int) (j:Nat) (h:j<rs.length):vE rs k (j+1)=jU (rs.take j) k++nM (rs.getD j qc) (k+4*(j:Int))::rs.drop (j+1):=by
 rw [vE,(YN rs j h).2,U2,List.length_take,Nat.min_eq_left (by omega)];simp [jU]
theorem OwnSts.qah {w:World} {lo hi g c j:Nat} {A B:List qb} {z:qb} (h:OwnSts w lo hi (some ⟨g,0,none⟩) c (A++z::B)) (hj:A.length=j) (v0 v1:Int) (d t:Bool):
  ∃ W,Hid ((((w.setCell ⟨g,j*20,none⟩ (.int .i64 v0)).setCell ⟨g,j*20+1,none⟩ (.int .i64 v1)).setCell ⟨g,j*20+18,none⟩ (.bool d)).setCell ⟨g,j*20+19,none⟩ (.bool t)=W)∧OwnSts W lo hi (some ⟨g,0,none⟩) c (A++⟨v0,v1,z.s0,z.s1,z.s2,z.s3,d,t⟩::B)∧Touch [g] w W:=by
 subst hj;obtain ⟨h0,t0⟩:=h.Jb (z':=⟨v0,z.lsn,z.s0,z.s1,z.s2,z.s3,z.dirty,z.hot⟩) 0 (.int .i64 v0) (by omega) rfl rfl;obtain ⟨h1,t1⟩:=h0.Jb (z':=⟨v0,v1,z.s0,z.s1,z.s2,z.s3,z.dirty,z.hot⟩) 1 (.int .i64 v1) (by omega) rfl rfl;obtain ⟨h2,t2⟩:=h1.Jb (z':=⟨v0,v1,z.s0,z.s1,z.s2,z.s3,d,z.hot⟩) 18 (.bool d) (by omega) rfl rfl;obtain ⟨h3,t3⟩:=h2.Jb (z':=⟨v0,v1,z.s0,z.s1,z.s2,z.s3,d,t⟩) 19 (.bool t) (by omega) rfl rfl;exact ⟨_,rfl,h3,((t0.trans t1).trans t2).trans t3⟩
theorem nO (lo hi:Nat) (a:Option Addr) (cap:Nat) (k0:Int) (rs:List qb) (w:World) (ho:OwnSts w lo hi a cap rs) (h0:0≤k0) (hk:k0+4*(rs.length:Int)≤1152921504606846976):
  Calls Tryz.prog 225 #[.slice a rs.length cap,.int .i64 k0] w fun e w'=>e=.returned (.int .i64 (k0+4*(rs.length:Int)))∧OwnSts w' lo hi a cap (jU rs k0)∧Touch (qo a cap rs) w w':=by
 rcases ho.row.2 with ⟨hv,h00⟩ | ⟨g,cap',cur,hv,hg,hgg,hr⟩
 ·simp only [Value.slice.injEq] at hv;obtain ⟨rfl,_,rfl⟩:=hv;obtain rfl:=List.length_eq_zero_iff.1 h00;go_enter Tryz.func225,Tryz.ntmps225;go_wp2;refine wp_loop_rounds 1 ?_;rw [rounds_succ];go_wp2;go_ret;exact ⟨by simp,ho,Touch.refl _ _⟩
 ·simp only [Value.slice.injEq] at hv;obtain ⟨rfl,_,rfl⟩:=hv;have hlm:rs.length≤maxLen:=Nat.le_trans hr.1 hr.2.1;simp only [maxLen] at hlm;clear hgg hr;have HH:Hid (vE rs k0 0=rs∧vE rs k0 rs.length=jU rs k0):=⟨by simp [vE,jU],by simp [vE]⟩;have HST:Hid (OwnSts w lo hi (some ⟨g,0,none⟩) cap (vE rs k0 0)):=by rw [HH.out.1];exact ho
  have eF:Hid (∀ k∈[g],k∈qo (some ⟨g,0,none⟩) cap rs):=fun k hk=>by
   obtain rfl:=List.mem_singleton.1 hk;exact List.mem_append.2 (.inl (by simp [Value.ownBlock]))
  clear ho;go_enter Tryz.func225,Tryz.ntmps225;go_wp2;go_loopw [1,5] (fun kk i wr=>∃ j:Nat,j≤rs.length∧i=.int .i64 j∧kk=.int .i64 (k0+4*(j:Int))∧Hid (OwnSts wr lo hi (some ⟨g,0,none⟩) cap (vE rs k0 j))∧Touch (qo (some ⟨g,0,none⟩) cap rs) w wr)
   (fun _ i _=>rs.length-(intOf i).toNat)
  case atStart=>exact ⟨0,Nat.zero_le _,rfl,by simp,HST,Touch.refl _ _⟩
  case round=>
   obtain ⟨j,hj,rfl,rfl,hown,NF⟩:=hrel;clear HST;by_cases hlt:j<rs.length
   ·have ho:=hown.out;rw [Fb rs k0 j hlt] at ho;have HN:Hid (vE rs k0 (j+1)=_):=PE rs k0 j hlt;have hA:(jU (rs.take j) k0).length=j:=by rw [vR,List.length_take];omega
    have hkb:0≤k0+4*(j:Int)∧k0+4*(j:Int)+4≤1152921504606846976:=⟨by omega,by omega⟩;have OU:Hid (k0+4*((j+1:Nat):Int)=k0+4*(j:Int)+1+1+1+1):=by rw [Hid];omega
    have hjl:j<(jU (rs.take j) k0++rs.getD j qc::rs.drop (j+1)).length:=by simp [hA]
    have hrow:=ho.row;have hat:=(yf ho.row rfl j hjl).1;have ez:(jU (rs.take j) k0++rs.getD j qc::rs.drop (j+1)).getD j qc=rs.getD j qc:=by simp [List.getD,hA]
    rw [ez] at hat;have x0:wr.cell? ⟨g,j*20,none⟩=some (.int .i64 (rs.getD j qc).no):=hat 0 _ rfl;have x1:wr.cell? ⟨g,j*20+1,none⟩=some (.int .i64 (rs.getD j qc).lsn):=hat 1 _ rfl;have o8:wr.cell? ⟨g,j*20+18,none⟩=some (.bool (rs.getD j qc).dirty):=hat 18 _ rfl;have XK:wr.cell? ⟨g,j*20+19,none⟩=some (.bool (rs.getD j qc).hot):=hat 19 _ rfl;have f0:wr.frozen? ⟨g,j*20,none⟩=false:=hrow.frozenAt _;have f1:=hrow.frozenAt (j*20+1);have f18:=hrow.frozenAt (j*20+18);have f19:=hrow.frozenAt (j*20+19);obtain ⟨W,hW,oW,tW⟩:=ho.qah hA (k0+4*(j:Int)) (k0+4*(j:Int)+1) ((k0+4*(j:Int)+1+1) % 3 == 0) ((k0+4*(j:Int)+1+1+1) % 3 == 0);have vX:Hid (OwnSts W lo hi (some ⟨g,0,none⟩) cap (vE rs k0 (j+1))∧Touch (qo (some ⟨g,0,none⟩) cap rs) w W):=by
     refine ⟨?_,NF.trans (tW.mono eF.out)⟩;rw [HN.out];exact oW
    clear ho hown NF oW tW HN hat hrow hjl ez hA hk h0;generalize (rs.getD j qc).no=z0 at*
    generalize (rs.getD j qc).lsn=z1 at*
    generalize (rs.getD j qc).dirty=z2 at*
    generalize (rs.getD j qc).hot=z3 at*
    generalize k0+4*(j:Int)=kk at*
    go_wp2_with fail;rw [hW.out];go_roundw
    case rel=>exact ⟨j+1,by omega,by go_num,by rw [OU.out],vX.out.1,vX.out.2⟩
    case measure=>simp [intOf];omega
   ·have HE:Hid (OwnSts wr lo hi (some ⟨g,0,none⟩) cap (jU rs k0)∧k0+4*(j:Int)=k0+4*(rs.length:Int)):=by
     have e:j=rs.length:=by omega
     rw [e,HH.out.2] at hown;exact ⟨hown.out,by rw [e]⟩
    go_wp2;go_ret;exact ⟨ja HE.out.2,HE.out.1,NF⟩
theorem Fe (rs:List qb) (k:Int) (j:Nat) (h:j<rs.length):(jU rs k).getD j qc=nM (rs.getD j qc) (k+4*(j:Int)):=by
 have e:jU rs k=jU (rs.take j) k++jU (rs.drop j) (k+4*(j:Int)):=by
  have:=U2 (rs.take j) (rs.drop j) k;rw [List.take_append_drop,List.length_take,Nat.min_eq_left (by omega)] at this;exact this
 have hl:(jU (rs.take j) k).length=j:=by rw [vR,List.length_take];omega
 rw [e,(YN rs j h).1,jU];simp [List.getD,hl]
theorem Ma (a:Option Addr) (cap:Nat) (k0:Int) (rs:List qb) (w:World) (hr:j3 w a (jU rs k0)) (h0:0≤k0) (hk:k0+4*(rs.length:Int)≤1152921504606846976) (hlm:rs.length≤9223372036854775807):
  Calls Tryz.prog 228 #[.slice a rs.length cap,.int .i64 k0] w fun e w'=>e=.returned (.int .i64 (k0+4*(rs.length:Int)))∧w'=w:=by
 have Y9:=vR rs k0;rcases hr.cases with h | ⟨b,off,rfl,hpos,hcell⟩
 ·have h':=congrArg List.length h;rw [Y9] at h';obtain rfl:=List.length_eq_zero_iff.1 h';go_enter Tryz.func228,Tryz.ntmps228;go_wp2;refine wp_loop_rounds 1 ?_;rw [rounds_succ];go_wp2;go_ret;exact ⟨by simp,rfl⟩
 ·rw [Y9] at hpos hcell;go_enter Tryz.func228,Tryz.ntmps228;go_wp2
  go_loop [1,5] (fun kk i=>∃ j:Nat,j≤rs.length∧i=.int .i64 j∧kk=.int .i64 (k0+4*(j:Int))) (fun _ i=>rs.length-(intOf i).toNat)
  case atStart=>exact ⟨0,Nat.zero_le _,rfl,by simp⟩
  case round=>
   obtain ⟨j,hj,rfl,rfl⟩:=hrel;by_cases hlt:j<rs.length
   ·obtain ⟨hc,hrd⟩:=hcell j hlt;rw [Fe rs k0 j hlt] at hc;have hkb:0≤k0+4*(j:Int)∧k0+4*(j:Int)+4≤1152921504606846976:=⟨by omega,by omega⟩;have OU:Hid (k0+4*((j+1:Nat):Int)=k0+4*(j:Int)+1+1+1+1):=by rw [Hid];omega
    clear hk h0 hcell hpos hr Y9 hrd;generalize k0+4*(j:Int)=kk at*
    generalize rs.getD j qc=z at*
    have x0:w.cell? ⟨b,off+j*20,none⟩=some (.int .i64 kk):=hc 0 _ rfl;have x1:w.cell? ⟨b,off+j*20+1,none⟩=some (.int .i64 (kk+1)):=hc 1 _ rfl;have x2:w.cell? ⟨b,off+j*20+18,none⟩=some (.bool ((kk+1+1) % 3 == 0)):=hc 18 _ rfl;have x3:w.cell? ⟨b,off+j*20+19,none⟩=some (.bool ((kk+1+1+1) % 3 == 0)):=hc 19 _ rfl;clear hc;go_wp2_with fail
    go_round
    case rel=>exact ⟨j+1,by omega,by go_num,by rw [OU.out]⟩
    case measure=>simp [intOf];omega
   ·have HE:Hid (k0+4*(j:Int)=k0+4*(rs.length:Int)):=by
     have e:j=rs.length:=by omega
     rw [Hid,e]
    go_wp2;go_ret;exact ⟨ja HE.out,rfl⟩
def qi.mark (l:qi) (k:Int):qi:={ l with seats:=jU l.seats k }
def qi.count (l:qi):Nat:=4*l.seats.length
theorem OV (n:Nat):((4*n:Nat):Int)=4*(n:Int):=by omega
theorem di (l:qi) (lo hi:Nat) (k0:Int) (w:World) (ho:l.own w lo hi) (hl:l.short 1099511627776) (h0:0≤k0) (hk:k0+l.count≤1152921504606846976):
  Calls Tryz.prog 122 #[.agg l.cells.toArray,.int .i64 k0] w fun e w'=>e=.returned (.int .i64 (k0+l.count))∧(l.mark k0).own w' lo hi∧Touch l.blocks w w':=by
 obtain ⟨rs,s,a,c⟩:=l;simp only [qi.cells,qi.own,qi.count,qi.mark,qi.blocks,OV] at*
 obtain ⟨W,hW,b0,hbW,qp⟩:=qx w [.slice a rs.length c,.int .i64 s] 35;have c0:=b0.cell 0 _ rfl;have C:=nO lo hi a c k0 rs W (ho.below hbW) h0 hk;clear qp b0;go_enter Tryz.func122,Tryz.ntmps122;go_wp2_with fail;rw [hW.out];clear hW;refine C.mono ?_;rintro e w1 ⟨rfl,ho1,ht1⟩;go_wp2;go_ret;exact ⟨rfl,ho1,(Touch.of_below hbW).trans ht1⟩
theorem NJ (l:qi) (lo hi:Nat) (k0:Int) (w:World) (ho:(l.mark k0).own w lo hi) (hl:l.seats.length≤1099511627776) (h0:0≤k0) (hk:k0+l.count≤1152921504606846976):
  Calls Tryz.prog 127 #[.agg l.cells.toArray,.int .i64 k0] w fun e w'=>e=.returned (.int .i64 (k0+l.count))∧Below w.heap.size w w':=by
 obtain ⟨rs,s,a,c⟩:=l;simp only [qi.cells,qi.own,qi.count,qi.mark,OV] at*
 obtain ⟨W,hW,b0,hbW,qp⟩:=qx w [.slice a rs.length c,.int .i64 s] 35;have c0:=b0.cell 0 _ rfl;have C:=Ma a c k0 rs W (ho.below hbW).reads h0 hk (by omega);have hnn:¬ (k0+4*(rs.length:Int)<0):=by omega
 clear qp b0;go_enter Tryz.func127,Tryz.ntmps127;go_wp2_with fail;rw [hW.out];clear hW;refine C.mono ?_;rintro e w1 ⟨rfl,rfl⟩;go_wp2;go_ret;exact ⟨rfl,hbW⟩
end Go.Proofs.YtjkckhfddgeboaaGreatDoor