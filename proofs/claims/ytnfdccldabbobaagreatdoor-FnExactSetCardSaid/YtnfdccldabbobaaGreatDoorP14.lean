/- Texts. -/
import Derived.Test.YtnfdccldabbobaaGreatDoorP10
import Derived.Sort.Grow
import Derived.Deep.CutRange
set_option maxHeartbeats 8000000
set_option maxRecDepth 100000
namespace Go.Proofs.YtnfdccldabbobaaGreatDoor
open Go.RowKit Go.Proofs.Tryz
theorem Si (x y:Int × Int) (PB R M:Nat) (ms:List jl) (w:World) (hp:w.cell? ⟨PB,0,none⟩=some (.pointer (some ⟨R,0,none⟩))) (hr:w.cell? ⟨R,144,none⟩=some (.map (some M))) (hm:MapAt w M ms)
  (hb:∀ k,0≤(kg k ms).place∧(kg k ms).place≤1099511627776):
  Calls prog 138 #[.agg #[.int .i64 x.1,.int .i64 x.2],.agg #[.int .i64 y.1,.int .i64 y.2],.pointer (some ⟨PB,0,none⟩)] w fun r w'=>r=.returned (.int .i64 ((kg x.2 ms).place-(kg y.2 ms).place))∧∃ q os',w'=Go.Sort.grow (w.drewN q) os':=by
 obtain ⟨W,hW,b0,b1,hbW,qD⟩:=jK w [.int .i64 x.1,.int .i64 x.2] [.int .i64 y.1,.int .i64 y.2] 117 117;have HS:Hid (∀ u,qa W u→(u.cell? ⟨PB,0,none⟩=some (.pointer (some ⟨R,0,none⟩))∧u.cell? ⟨R,144,none⟩=some (.map (some M))∧MapAt u M ms∧u.cell? ⟨w.heap.size,1,none⟩=some (.int .i64 x.2)∧u.cell? ⟨w.heap.size+1,1,none⟩=some (.int .i64 y.2))):=fun u hu=>by
  have n0:=qf hbW hu;exact ⟨by rw [n0.cell (p:=⟨PB,0,none⟩) (World.block_lt_of_cell? w _ hp)];exact hp,by rw [n0.cell (p:=⟨R,144,none⟩) (World.block_lt_of_cell? w _ hr)];exact hr,hm.below n0,(b0.below hu b0.lt).cell 1 _ rfl,(b1.below hu b1.lt).cell 1 _ rfl⟩
 have HE:Hid (∃ q os',W.drew=Go.Sort.grow (w.drewN q) os'):=by
  refine ⟨1,#[.cells #[.int .i64 x.1,.int .i64 x.2] 117]++#[.cells #[.int .i64 y.1,.int .i64 y.2] 117],?_⟩;rw [← hW.out,Go.Sort.alloc_eq_grow,Go.Sort.alloc_eq_grow,Go.Sort.grow_grow];rfl
 have hx0:=hb x.2;have hy0:=hb y.2;have hwr:IntKind.i64.wrap ((kg x.2 ms).place-(kg y.2 ms).place)=(kg x.2 ms).place-(kg y.2 ms).place:=by rw [IntKind.wrap_i64];omega
 clear hb hx0 hy0;go_enter func138,ntmps138;go_upto_region 1 with fail;rw [hW.out];clear hW hp hr hm;refine qaZ (S:=fun u=>(u.cell? ⟨PB,0,none⟩=some (.pointer (some ⟨R,0,none⟩))∧u.cell? ⟨R,144,none⟩=some (.map (some M))∧MapAt u M ms∧u.cell? ⟨w.heap.size,1,none⟩=some (.int .i64 x.2)∧u.cell? ⟨w.heap.size+1,1,none⟩=some (.int .i64 y.2))) (by kernel_rfl) (HS.out _ (qab _ _).drew) (fun qc=>?_)
 iterate 6 refine jv ?_
 refine tk 6 (v:=.agg #[.int .i64 (kg x.2 ms).tx,.int .i64 (kg x.2 ms).place]) rfl (Or.inl ⟨by rfl,?_⟩) qc ?_
 ·intro w' hSw;have hx:=Yf hSw.2.2.1 x.2 false;go_simp<;>rfl
 try simp only [zz]
 iterate 7 refine jv ?_
 refine tk 14 (v:=.agg #[.int .i64 (kg y.2 ms).tx,.int .i64 (kg y.2 ms).place]) rfl (Or.inl ⟨by rfl,?_⟩) qc ?_
 ·intro w' hSw;have hx:=Yf hSw.2.2.1 y.2 false;go_simp<;>rfl
 try simp only [zz]
 iterate 3 refine jv ?_
 refine qau (by kernel_rfl) ?_ _;clear qc;go_wp2;go_ret;exact ⟨rfl,HE.out⟩
theorem Gc {w:World} (ty:TypeId) (lo hi:Nat) (a:Option Addr) (c:Nat) (xs:List qM) (hown:OwnL w lo hi a c xs)
  (sa:Option Addr) (sc:Nat) (zs:List qM) (hr:kQ w sa zs) (hc:sa=none→sc=0) (hb:xs.length+zs.length≤1099511627776) (hlo:lo≤w.heap.size):
  ∃ a' c' ys w',(Builtin.append_ #[56,56] ty #[.slice a xs.length c,.slice sa zs.length sc]).run prog w=.ok (.slice a' ys.length c') w'∧Hid (ys=xs++zs)∧OwnL w' lo w'.heap.size a' c' ys∧w.grownBy w' (Value.slice a xs.length c).ownBlock∧
   (∀ k,(Value.slice a' ys.length c').ownBlock=some k→(Value.slice a xs.length c).ownBlock=some k∨k=w.heap.size):=by
 obtain ⟨i0,hi0,hz0,hz1,hz2⟩:=qft Tryz.dY;cases sa with
 | none=>
  have hz:zs=[]:=by
   by_cases e:zs=[]
   ·exact e
   ·obtain ⟨b,off,hh,_⟩:=hr e;cases hh
  subst hz;have:=hc rfl;subst this;refine ⟨a,c,xs,w,run_append_owned_none (P:=prog) (w:=w) lo 56 ty 115 i0 3 underlying56 hi0 _ _ _ hown.1,(by simp [Hid]),⟨hown.1,qcN _,fun k hk=>(hown.1.lt k hk).2⟩,qeR _ _,fun k hk=>.inl hk⟩
 | some ad=>
  obtain ⟨v',w',h1,h2,h3,_,h5⟩:=run_append_own_at (P:=prog) w lo 56 ty 115 i0 (.agg #[.int .i64 0,.int .i64 0,.bool false]) 3 24 underlying56 hi0 hz0 hz1 hz2 rfl (by decide) _ _ _ hown.1 ad zs.length sc (jT zs) (by rw [Kt]) (by
   intro j u hj;have hjl:j<zs.length*3:=by rw [← Kt];exact (qcL.1 hj).1
   have hne:zs≠[]:=by intro e;simp [e] at hjl
   obtain ⟨b,off,hh,hcell⟩:=hr hne;cases hh;have hat:=uT zs (j / 3) (j % 3) (by omega) (qfc _ (by omega));rw [show j / 3*3+j % 3=j by omega,hj] at hat;obtain ⟨k0,k1,k2⟩:=hcell (j / 3) (by omega);rw [zI];rcases (by omega:j % 3=0∨j % 3=1∨j % 3=2) with h' | h' | h'<;>rw [h'] at hat<;>simp only [qM.cells,qfQ,qdI,qeL] at hat
   ·rw [show off+j=off+j / 3*3 by omega,k0,hat]
   ·rw [show off+j=off+j / 3*3+1 by omega,k1,hat]
   ·rw [show off+j=off+j / 3*3+2 by omega,k2,hat]) (Uy _) (by simp only [maxLen];omega) (by omega) hlo
  rw [← Hu,← qai] at h2;have sh:∃ a' c',v'=.slice a' (xs++zs).length c':=by
   rcases h2.2 with ⟨rfl,h0⟩ | ⟨g,cap,cur,rfl,_⟩
   ·exact ⟨none,0,by rw [h0]⟩
   ·exact ⟨_,_,rfl⟩
  obtain ⟨a',c',rfl⟩:=sh;refine ⟨a',c',xs++zs,w',h1,rfl,⟨h2,qcN _,fun k hk=>(h2.lt k hk).2⟩,h3,fun k hk=>?_⟩;rcases h5 with h5 | h5
  ·exact .inl (by rw [← h5];exact hk)
  ·rw [h5] at hk;exact .inr (qfb hk).symm
theorem mi {w:World} {ops:Array Oper} {o:Oper} {act:Act} {K:Act→World→Prop} {Q:Exit→Act→World→Prop} {E:Prop} (hgd:o.guard=none) (s x:Operand)
  (ho:o.op=.call { callee:=.builtin .append,args:=#[s,x],argTypes:=#[56,56] })
  (lo hi:Nat) (a:Option Addr) (c:Nat) (xs:List qM) (hs:act.eval s=.slice a xs.length c) (hown:OwnL w lo hi a c xs)
  (sa:Option Addr) (sc:Nat) (zs:List qM) (hx:act.eval x=.slice sa zs.length sc) (hr:kQ w sa zs) (hc:sa=none→sc=0)
  (hb:xs.length+zs.length≤1099511627776) (hlo:lo≤w.heap.size)
  (h:∀ a' c' ys w',Hid (ys=xs++zs)→OwnL w' lo w'.heap.size a' c' ys→w.grownBy w' (Value.slice a xs.length c).ownBlock→
   (∀ k,(Value.slice a' ys.length c').ownBlock=some k→(Value.slice a xs.length c).ownBlock=some k∨k=w.heap.size)→K (act.put o.dst (.slice a' ys.length c')) w'):
  if Region.wanted o (yielded ops act.tmps)=true then Oper.wp prog o act w K Q else E:=by
 have hw:Region.wanted o (yielded ops act.tmps)=true:=by simp [Region.wanted,hgd]
 rw [qan hw];obtain ⟨a',c',ys,w',hrun,h1,h2,h3,h4⟩:=Gc (w:=w) o.type lo hi a c xs hown sa sc zs hr hc hb hlo;unfold Oper.wp execOp;simp only [ho,resolve,invoke,builtin,qdq,qeJ,qdf,qe8,qdG,qfe,hs,hx,hrun];exact h a' c' ys w' h1 h2 h3 h4
theorem YN {w:World} (ty:TypeId) (lo hi:Nat) (a:Option Addr) (c:Nat) (xs:List qU) (hown:OwnH w lo hi a c xs)
  (sa:Option Addr) (sc:Nat) (zs:List qU) (hr:yN w sa zs) (hc:sa=none→sc=0) (hb:xs.length+zs.length≤1099511627776) (hlo:lo≤w.heap.size):
  ∃ a' c' ys w',(Builtin.append_ #[57,57] ty #[.slice a xs.length c,.slice sa zs.length sc]).run prog w=.ok (.slice a' ys.length c') w'∧Hid (ys=xs++zs)∧OwnH w' lo w'.heap.size a' c' ys∧w.grownBy w' (Value.slice a xs.length c).ownBlock∧
   (∀ k,(Value.slice a' ys.length c').ownBlock=some k→(Value.slice a xs.length c).ownBlock=some k∨k=w.heap.size):=by
 obtain ⟨i0,hi0,hz0,hz1,hz2⟩:=qft Tryz.Gd;cases sa with
 | none=>
  have hz:zs=[]:=by
   by_cases e:zs=[]
   ·exact e
   ·obtain ⟨b,off,hh,_⟩:=hr e;cases hh
  subst hz;have:=hc rfl;subst this;refine ⟨a,c,xs,w,run_append_owned_none (P:=prog) (w:=w) lo 57 ty 117 i0 2 underlying57 hi0 _ _ _ hown.1,(by simp [Hid]),⟨hown.1,qcN _,fun k hk=>(hown.1.lt k hk).2⟩,qeR _ _,fun k hk=>.inl hk⟩
 | some ad=>
  obtain ⟨v',w',h1,h2,h3,_,h5⟩:=run_append_own_at (P:=prog) w lo 57 ty 117 i0 (.agg #[.int .i64 0,.int .i64 0]) 2 16 underlying57 hi0 hz0 hz1 hz2 rfl (by decide) _ _ _ hown.1 ad zs.length sc (jU zs) (by rw [uk]) (by
   intro j u hj;have hjl:j<zs.length*2:=by rw [← uk];exact (qcL.1 hj).1
   have hne:zs≠[]:=by intro e;simp [e] at hjl
   obtain ⟨b,off,hh,hcell⟩:=hr hne;cases hh;have hat:=Kc zs (j / 2) (j % 2) (by omega) (qfc _ (by omega));rw [show j / 2*2+j % 2=j by omega,hj] at hat;obtain ⟨k0,k1⟩:=hcell (j / 2) (by omega);rw [zI];rcases (by omega:j % 2=0∨j % 2=1) with h' | h'<;>rw [h'] at hat<;>simp only [qU.cells,qfQ,qdI,qeL] at hat
   ·rw [show off+j=off+j / 2*2 by omega,k0,hat]
   ·rw [show off+j=off+j / 2*2+1 by omega,k1,hat]) (Uz _) (by simp only [maxLen];omega) (by omega) hlo
  rw [← Mk,← qai] at h2;have sh:∃ a' c',v'=.slice a' (xs++zs).length c':=by
   rcases h2.2 with ⟨rfl,h0⟩ | ⟨g,cap,cur,rfl,_⟩
   ·exact ⟨none,0,by rw [h0]⟩
   ·exact ⟨_,_,rfl⟩
  obtain ⟨a',c',rfl⟩:=sh;refine ⟨a',c',xs++zs,w',h1,rfl,⟨h2,qcN _,fun k hk=>(h2.lt k hk).2⟩,h3,fun k hk=>?_⟩;rcases h5 with h5 | h5
  ·exact .inl (by rw [← h5];exact hk)
  ·rw [h5] at hk;exact .inr (qfb hk).symm
theorem Cr {P:Prop} (h:P:=by
 refine qgi hgd fun K hK=>?_
 unfold Oper.wp execOp;simp only [ho,resolve,invoke,builtin,qdq,qeJ,qdf,qe8,qdG,qfe,hs,hx,hrun];exact hK _ _ (h a' c' ys w' h1 h2 h3 h4)):P:=h
theorem fQ {w:World} {ops:Array Oper} {rest:List Oper} {o:Oper} {act:Act} {Q:Exit→Act→World→Prop} (hgd:o.guard=none) (s x:Operand)
  (ho:o.op=.call { callee:=.builtin .append,args:=#[s,x],argTypes:=#[57,57] })
  (lo hi:Nat) (a:Option Addr) (c:Nat) (xs:List qU) (hs:act.eval s=.slice a xs.length c) (hown:OwnH w lo hi a c xs)
  (sa:Option Addr) (sc:Nat) (zs:List qU) (hx:act.eval x=.slice sa zs.length sc) (hr:yN w sa zs) (hc:sa=none→sc=0)
  (hb:xs.length+zs.length≤1099511627776) (hlo:lo≤w.heap.size)
  (h:∀ a' c' ys w',Hid (ys=xs++zs)→OwnH w' lo w'.heap.size a' c' ys→w.grownBy w' (Value.slice a xs.length c).ownBlock→(∀ k,(Value.slice a' ys.length c').ownBlock=some k→(Value.slice a xs.length c).ownBlock=some k∨k=w.heap.size)→wpList prog ops Q rest (act.put o.dst (.slice a' ys.length c')) w'):
  wpList prog ops Q (o::rest) act w:=by
 obtain ⟨a',c',ys,w',hrun,h1,h2,h3,h4⟩:=YN (w:=w) o.type lo hi a c xs hown sa sc zs hr hc hb hlo;exact Cr
def LV (l:Array Bool):Nat:=l.toList.countP (fun b=> !b)
theorem ax {l:Array Bool} {i:Nat} (h:l.getD i true=false):LV l=LV (l.setIfInBounds i true)+1:=by
 obtain ⟨xs⟩:=l;have hi:xs[i]? =some false:=by
  simp only [Array.getD_eq_getD_getElem?,List.getElem?_toArray] at h;cases hx:xs[i]? with
  | none=>rw [hx] at h;cases h
  | some b=>rw [hx] at h;simp at h;rw [h]
 simp only [LV,qf8];clear h
 induction xs generalizing i with
 | nil=>simp at hi
 | cons x r ih=>
  cases i with
  | zero=>simp at hi;subst hi;simp
  | succ i=>
   simp only [qdI] at hi;have:=ih hi;simp only [qe3,List.countP_cons];omega
theorem Cs {md:Region.Mode} {ops:Array Oper} {l:Array Bool} {i:Nat} (h:i∈Region.ready md ops l):l.getD i true=false:=(mem_ready.1 h).1
theorem Hg {P:Program} {ops:Array Oper} {Q:Exit→Act→World→Prop} {md:Region.Mode} {S:World→Prop} (I:Array Bool→Act→World→Prop) (stop:Array Bool→Bool)
  (hstep:∀ l a w,I l a w→stop l=false→Region.ready md ops l≠[]∧∀ i∈Region.ready md ops l,wpOp P ops Q i (fun a' w'=>S w'∧I (l.setIfInBounds i true) a' w') a w)
  (hstop:∀ l a w,I l a w→stop l=true→wpAnyH P md ops Q S (LV l) l a w):
  ∀ (k:Nat) (l:Array Bool) (a:Act) (w:World),LV l=k→I l a w→wpAnyH P md ops Q S k l a w:=by
 intro k
 induction k with
 | zero=>
  intro l a w hk hI;cases hs:stop l with
  | true=>have:=hstop l a w hI hs;rw [hk] at this;exact this
  | false=>
   obtain ⟨hne,_⟩:=hstep l a w hI hs;cases hr:Region.ready md ops l with
   | nil=>exact absurd hr hne
   | cons i r=>
    have:=ax (Cs (md:=md) (ops:=ops) (l:=l) (i:=i) (by rw [hr];exact qfd));omega
 | succ k ih=>
  intro l a w hk hI;cases hs:stop l with
  | true=>have:=hstop l a w hI hs;rw [hk] at this;exact this
  | false=>
   obtain ⟨hne,hall⟩:=hstep l a w hI hs;refine ⟨fun h0=>absurd h0 hne,fun i hi=>?_⟩;have hu:=ax (Cs hi);exact wpOp_mono (fun a' w' h=>⟨h.1,ih _ a' w' (by omega) h.2⟩) (hall i hi)
theorem zJ {P:Program} {ops:Array Oper} {Q:Exit→Act→World→Prop} {i:Nat} {o:Oper} {a:Act} {w:World} {K:Act→World→Prop} (ho:ops[i]? =some o)
  (h:∀ K':Act→World→Prop,Shut (∀ a w,K a w→K' a w)→if Region.wanted o (yielded ops a.tmps)=true then Oper.wp P o a w K' Q else K' (a.put o.dst undef) w):wpOp P ops Q i K a w:=
 wpOp_step ho (fun K' hK=>h K' hK)
theorem Bp {P:Program} {ops:Array Oper} {Q:Exit→Act→World→Prop} {md:Region.Mode} {l:Array Bool} {a:Act} {w:World} {K:Nat→Act→World→Prop} (alt:Nat→Bool) (hr:(!(Region.ready md ops l).isEmpty && (Region.ready md ops l).all alt)=true)
  (h:∀ j,alt j=true→wpOp P ops Q j (K j) a w):Region.ready md ops l≠[]∧∀ i∈Region.ready md ops l,wpOp P ops Q i (K i) a w:=by
 rw [qam,qdt] at hr;refine ⟨fun h0=>?_,fun i hi=>h i (hr.2 i hi)⟩;rw [h0] at hr;exact absurd hr.1 (by simp)
end Go.Proofs.YtnfdccldabbobaaGreatDoor
