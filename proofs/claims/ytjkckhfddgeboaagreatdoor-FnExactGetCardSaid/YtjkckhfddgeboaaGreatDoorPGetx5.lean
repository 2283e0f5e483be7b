/- Several texts in one, in their order. -/
import Derived.Test.YtjkckhfddgeboaaGreatDoorPGetx4
import Derived.Deep.Cut
import Derived.Test.YtjkckhfddgeboaaGreatDoorPGetx2
import Derived.Deep.RegionHeld3
import Derived.Sort.Grow
import Derived.Deep.RegionHeld
import Derived.Test.YtjkckhfddgeboaaGreatDoorPGetx1
import Derived.Test.YtjkckhfddgeboaaGreatDoorPGetx3
import Derived.Deep.CutRange
set_option maxHeartbeats 8000000
set_option maxRecDepth 100000
namespace Go.Proofs.YtjkckhfddgeboaaGreatDoor
open Go.RowKit Go.Maps Go.MapKept
def q9 (hs:List qJ):Nat→List qW
 | 0=>[]
 | k+1=>Jr ⟨(hs.getD k qY).oid,(hs.getD k qY).tx,(k:Int)⟩ (q9 hs k)
theorem MO (c:qW) (ms:List qW):(Jr c ms).length=if (yo c.key ms).isSome then ms.length else ms.length+1:=by
 rcases YE c.key ms 0 with ⟨_,h2,h3⟩ | ⟨j,m,_,_,_,h4,h5⟩
 ·rw [h2,h3 c rfl];simp
 ·rw [h4,h5 c rfl];simp
theorem U8 (k:Int) (c:qW) (ms:List qW):yo k (Jr c ms)=if k=c.key then some c else yo k ms:=by
 induction ms with
 | nil=>simp only [Jr,yo]
 | cons m r ih=>
  rw [Jr];by_cases h:c.key=m.key
  ·rw [if_pos h,yo,yo];by_cases h2:k=c.key
   ·rw [if_pos h2,if_pos h2]
   ·rw [if_neg h2,if_neg h2,if_neg (by rw [← h];exact h2)]
  ·rw [if_neg h,yo,yo,ih];by_cases h2:k=m.key
   ·rw [if_pos h2,if_pos h2,if_neg (by rw [h2];exact fun e=>h e.symm)]
   ·rw [if_neg h2,if_neg h2]
theorem YF (hs:List qJ) (k:Int):∀ n,yo k (q9 hs n)=none ↔ ∀ j,j<n→(hs.getD j qY).oid≠k:=by
 intro n
 induction n with
 | zero=>exact ⟨fun _ j hj=>by omega,fun _=>rfl⟩
 | succ n ih=>
  rw [q9,U8];by_cases h:k=(hs.getD n qY).oid
  ·rw [if_pos h];exact ⟨fun h=>(by cases h),fun h2=>absurd h.symm (h2 n (by omega))⟩
  ·rw [if_neg h,ih];refine ⟨fun h2 j hj=>?_,fun h2 j hj=>h2 j (by omega)⟩;by_cases e:j=n
   ·rw [e];exact fun q=>h q.symm
   ·exact h2 j (by omega)
theorem ZN (hs:List qJ):∀ n,(q9 hs n).length≤n:=by
 intro n
 induction n with
 | zero=>exact Nat.le_refl _
 | succ n ih=>rw [q9,MO];split<;>omega
theorem gz (hs:List qJ):∀ n,(q9 hs n).length=n ↔ ∀ i,i<n→∀ j,j<i→(hs.getD j qY).oid≠(hs.getD i qY).oid:=by
 intro n
 induction n with
 | zero=>exact ⟨fun _ i hi=>by omega,fun _=>rfl⟩
 | succ n ih=>
  have hle:=ZN hs n;rw [q9,MO];simp only;cases hg:yo (hs.getD n qY).oid (q9 hs n) with
  | none=>
   have hd:=(YF hs _ n).1 hg;simp only [Option.isSome_none,Bool.false_eq_true,if_false];constructor
   ·intro h i hi j hj;by_cases e:i=n
    ·subst e;exact hd j hj
    ·exact ih.1 (by omega) i (by omega) j hj
   ·intro h;rw [ih.2 (fun i hi j hj=>h i (by omega) j hj)]
  | some m=>
   simp only [Option.isSome_some,if_true];constructor
   ·intro h;omega
   ·intro h;have:yo (hs.getD n qY).oid (q9 hs n)=none:=(YF hs _ n).2 (fun j hj=>h n (by omega) j hj);rw [hg] at this;cases this
theorem gB {w:World} {ops:Array Oper} {rest:List Oper} {o:Oper} {a:Act} {Q:Exit→Act→World→Prop} (hg:o.guard=none) (m x v:Operand) (hop:o.op=Op.mapUpdate 138 m x v)
  (B:Nat) (ms:List qW) (c:qW) (hm:a.eval m=.map (some B)) (hx:a.eval x=.int .i64 c.key) (hv:a.eval v=.agg #[.int .i64 c.tx,.int .i64 c.place]) (h:MapAt w B ms)
  (hK:∀ w',MapAt w' B (Jr c ms)→w.grownBy w' (some B)→wpList Tryz.prog ops Q rest (a.put o.dst undef) w'):wpList Tryz.prog ops Q (o::rest) a w:=by
 refine wpList_plain hg fun K' hK'=>?_
 obtain ⟨w',hrun,r1,r2⟩:=MP h c;unfold Oper.wp;simp [execOp,hop,hm,hx,hv,hrun,Result.andThen];exact hK' _ _ (hK w' r1 r2)
theorem Vz (a:Option Addr) (cap:Nat) (hs:List qJ) (w:World) (hr:yt w a hs) (hl:hs.length≤1099511627776):
  Calls Tryz.prog 165 #[.slice a hs.length cap] w fun e w'=>e=.returned (.map (some w.heap.size))∧MapAt w' w.heap.size (q9 hs hs.length)∧Below w.heap.size w w':=by
 have hmm:=@run_makeMap Tryz.prog;obtain ⟨W,hW⟩:∃ W,Hid (w.alloc (.map #[] 0)=W):=⟨_,rfl⟩;have m0:MapAt W w.heap.size []:=by rw [← hW.out];exact tQ w
 have hbW:Below w.heap.size w W:=by rw [← hW.out];exact (Below.refl _ _).alloc (Nat.le_refl _) _
 have HR:Hid (yt w a hs):=hr;clear hr;go_enter Tryz.func165,Tryz.ntmps165;go_wp2_with fail;rw [hW.out];clear hW;go_loopw [9] (fun i wr=>∃ k:Nat,k≤hs.length∧i=.int .i64 (k:Int)∧MapAt wr w.heap.size (q9 hs k)∧Below w.heap.size w wr) (fun i _=>hs.length-(intOf i).toNat)
 case atStart=>exact ⟨0,Nat.zero_le _,rfl,m0,hbW⟩
 case round=>
  obtain ⟨k,hk,rfl,hm,hnx⟩:=hrel;clear m0 hbW;by_cases hlt:k<hs.length
  ·obtain ⟨b,off,rfl,hc⟩:=(HR.out.below hnx) (by intro e;rw [e] at hlt;simp at hlt);obtain ⟨c0,c1⟩:=hc k hlt;have HP:Hid (q9 hs (k+1)=Jr ⟨(hs.getD k qY).oid,(hs.getD k qY).tx,(k:Int)⟩ (q9 hs k)):=rfl;clear hc;generalize hs.getD k qY=h at*
   obtain ⟨V,hV,bV,wB,Xu⟩:=qx wr [.int .i64 h.tx,.int .i64 h.oid] 185;have EK:=hm.below wB;have EL:=hnx.trans (wB.mono hnx.size);have hln:w.heap.size<V.heap.size:=EK.lt;have x0:=bV.cell 0 _ rfl;have x1:=bV.cell 1 _ rfl;clear hm hnx wB Xu bV;go_upto_region 5 with fail;rw [hV.out];clear hV c0 c1;go_wp2_with (first | (at_mapUpdate;refine gB rfl _ _ _ rfl w.heap.size (q9 hs k) ⟨h.oid,h.tx,(k:Int)⟩ rfl rfl rfl EK ?_;intro w5 hm5 hg5) | fail);have HM5:Hid (MapAt w5 w.heap.size (q9 hs (k+1))∧Below w.heap.size w w5):=by
    rw [HP.out];exact ⟨hm5,EL.grown hg5 EL.size (fun j hj=>by cases hj;exact Nat.le_refl _)⟩
   clear hm5 hg5 EK EL HP x0 x1;go_wp2_with fail;go_roundw
   case rel=>exact ⟨k+1,by omega,by go_num,HM5.out.1,HM5.out.2⟩
   case measure=>simp [intOf];omega
  ·have e:k=hs.length:=by omega
   have HE:Hid (MapAt wr w.heap.size (q9 hs hs.length)):=by rw [e] at hm;exact hm
   clear e;go_wp2;go_ret;exact ⟨rfl,HE.out,hnx⟩
end Go.Proofs.YtjkckhfddgeboaaGreatDoor
namespace Go.Proofs.YtjkckhfddgeboaaGreatDoor
open Go.RowKit
theorem Qy {P:Program} {fn:Func} {s t:Nat} {ty:TypeId} {tmps:Array Value} {w:World} {v b:Value} {ad:Addr} (hf:fn.results=#[.cell s ty,.tmp t]) (ht:tmps[s]?.getD undef=.pointer (some ad)) (hl:(loadVar ty ad).run P w=.ok v w) (hb:tmps[t]?.getD undef=b):(results fn tmps).run P w=.ok (.tuple #[v,b]) w:=by
 unfold results;rw [hf];simp [ht,asAddr,hl,hb]
theorem qK {ops:Array Oper} {rest:List Oper} {op:Oper} {a:Act} {w:World} {Q:Exit→Act→World→Prop} {P:Program} (hw:Region.wanted op (yielded ops a.tmps)=true) (ty:TypeId) (x:Operand) (ho:op.op=.load ty x)
  (b o:Nat) (hx:a.eval x=.pointer (some ⟨b,o,none⟩)) (cs:List Value) (d:TypeDesc) (hc:w.rangeAt b o cs)
  (hu:P.underlying ty=some d) (hd:d.isRow=true) (hi:(P.info? ty).map (·.size)=some cs.length)
  (h:wpList P ops Q rest (a.put op.dst (.agg cs.toArray)) w):wpList P ops Q (op::rest) a w:=
 wpList_step fun _ hK=>by
  simp only [hw,if_true];exact wp_load_mid ty x ho b o hx cs d hc hu hd hi (hK _ _ h)
theorem Mv {w:World} {C:Nat} {T:TypeId} {d:TypeDesc} (q:qw) (hq:q.ss.length=4) (old:List Value) (ho:old.length=17) (bC:Box w C old T) (hu:Tryz.prog.underlying T=some d) (hd:d.isRow=true) (hi:(Tryz.prog.info? T).map (·.size)=some 17):
  ∃ WF,Hid (w.setCells C 0 q.cells=WF)∧Within C (C+1) w WF∧WF.heap.size=w.heap.size∧Hid (w.there C 0 q.cells.toArray.size)∧Hid ((loadVar T ⟨C,0,none⟩).run Tryz.prog WF=.ok (.agg q.cells.toArray) WF)∧Box WF C q.cells T:=by
 have hl:q.cells.length=17:=jo q hq;obtain ⟨WF,qF,bF,hwF,qN⟩:=jb [] old q.cells [] (by simpa using bC) (by rw [hl,ho]);have Jp:Box WF C q.cells T:=by simpa using bF
 refine ⟨WF,qF,hwF,qN,bC.there 0 _ (by rw [List.size_toArray,hl,ho];omega),?_,Jp⟩;exact run_loadVar_mid (P:=Tryz.prog) WF C 0 T q.cells d (Box.range [] q.cells [] (by simpa using Jp)) hu hd (by rw [hi,hl])
theorem PW (x y:Int × Int) (PB R M:Nat) (ms:List qW) (w:World) (hp:w.cell? ⟨PB,0,none⟩=some (.pointer (some ⟨R,0,none⟩))) (hr:w.cell? ⟨R,144,none⟩=some (.map (some M))) (hm:MapAt w M ms)
  (hb:∀ k,0≤(kW k ms).place∧(kW k ms).place≤1099511627776):
  Calls Tryz.prog 258 #[.agg #[.int .i64 x.1,.int .i64 x.2],.agg #[.int .i64 y.1,.int .i64 y.2],.pointer (some ⟨PB,0,none⟩)] w fun r w'=>r=.returned (.int .i64 ((kW x.2 ms).place-(kW y.2 ms).place))∧∃ q os',w'=Go.Sort.grow (w.drewN q) os':=by
 obtain ⟨W,hW,b0,b1,hbW,qp⟩:=jf w [.int .i64 x.1,.int .i64 x.2] [.int .i64 y.1,.int .i64 y.2] 185 185;have HS:Hid (∀ u,Below W.heap.size W u→(u.cell? ⟨PB,0,none⟩=some (.pointer (some ⟨R,0,none⟩))∧u.cell? ⟨R,144,none⟩=some (.map (some M))∧MapAt u M ms∧u.cell? ⟨w.heap.size,1,none⟩=some (.int .i64 x.2)∧u.cell? ⟨w.heap.size+1,1,none⟩=some (.int .i64 y.2))):=fun u hu=>by
  have n0:=hbW.trans (hu.mono hbW.size);exact ⟨by rw [n0.cell (p:=⟨PB,0,none⟩) (World.block_lt_of_cell? w _ hp)];exact hp,by rw [n0.cell (p:=⟨R,144,none⟩) (World.block_lt_of_cell? w _ hr)];exact hr,hm.below n0,(b0.below hu b0.lt).cell 1 _ rfl,(b1.below hu b1.lt).cell 1 _ rfl⟩
 have HE:Hid (∃ q os',W.drew=Go.Sort.grow (w.drewN q) os'):=by
  refine ⟨1,#[.cells #[.int .i64 x.1,.int .i64 x.2] 185]++#[.cells #[.int .i64 y.1,.int .i64 y.2] 185],?_⟩;rw [← hW.out,Go.Sort.alloc_eq_grow,Go.Sort.alloc_eq_grow,Go.Sort.grow_grow];rfl
 have hx0:=hb x.2;have hy0:=hb y.2;have hwr:IntKind.i64.wrap ((kW x.2 ms).place-(kW y.2 ms).place)=(kW x.2 ms).place-(kW y.2 ms).place:=by rw [IntKind.wrap_i64];omega
 clear hb hx0 hy0;go_enter Tryz.func258,Tryz.ntmps258;go_upto_region 1 with fail;rw [hW.out];clear hW hp hr hm;refine wp_region_held_drew (S:=fun u=>(u.cell? ⟨PB,0,none⟩=some (.pointer (some ⟨R,0,none⟩))∧u.cell? ⟨R,144,none⟩=some (.map (some M))∧MapAt u M ms∧u.cell? ⟨w.heap.size,1,none⟩=some (.int .i64 x.2)∧u.cell? ⟨w.heap.size+1,1,none⟩=some (.int .i64 y.2))) (by kernel_rfl) (HS.out _ (Below.refl _ _).drew) (fun hHeld=>?_);refine tk 0 (v:=.pointer (some ⟨R,0,none⟩)) rfl (Or.inl ⟨by rfl,?_⟩) hHeld ?_
 ·intro w' hSw;have hx:=hSw.1;go_simp<;>rfl
 try simp only [zz]
 refine tr 1 (.pointer (some ⟨R,0,none⟩)) ?_;refine tr 2 (.pointer (some ⟨R,144,none⟩)) ?_;refine tk 3 (v:=.map (some M)) rfl (Or.inl ⟨by rfl,?_⟩) hHeld ?_
 ·intro w' hSw;have hx:=hSw.2.1;go_simp<;>rfl
 try simp only [zz]
 refine tr 4 (.pointer (some ⟨w.heap.size,1,none⟩)) ?_;refine tk 5 (v:=.int .i64 x.2) rfl (Or.inl ⟨by rfl,?_⟩) hHeld ?_
 ·intro w' hSw;have hx:=hSw.2.2.2.1;go_simp<;>rfl
 try simp only [zz]
 refine tk 6 (v:=.agg #[.int .i64 (kW x.2 ms).tx,.int .i64 (kW x.2 ms).place]) rfl (Or.inl ⟨by rfl,?_⟩) hHeld ?_
 ·intro w' hSw;have hx:=Zv hSw.2.2.1 x.2 false;go_simp<;>rfl
 try simp only [zz]
 refine tr 7 (.int .i64 (kW x.2 ms).place) ?_;refine tk 8 (v:=.pointer (some ⟨R,0,none⟩)) rfl (Or.inl ⟨by rfl,?_⟩) hHeld ?_
 ·intro w' hSw;have hx:=hSw.1;go_simp<;>rfl
 try simp only [zz]
 refine tr 9 (.pointer (some ⟨R,0,none⟩)) ?_;refine tr 10 (.pointer (some ⟨R,144,none⟩)) ?_;refine tk 11 (v:=.map (some M)) rfl (Or.inl ⟨by rfl,?_⟩) hHeld ?_
 ·intro w' hSw;have hx:=hSw.2.1;go_simp<;>rfl
 try simp only [zz]
 refine tr 12 (.pointer (some ⟨w.heap.size+1,1,none⟩)) ?_;refine tk 13 (v:=.int .i64 y.2) rfl (Or.inl ⟨by rfl,?_⟩) hHeld ?_
 ·intro w' hSw;have hx:=hSw.2.2.2.2;go_simp<;>rfl
 try simp only [zz]
 refine tk 14 (v:=.agg #[.int .i64 (kW y.2 ms).tx,.int .i64 (kW y.2 ms).place]) rfl (Or.inl ⟨by rfl,?_⟩) hHeld ?_
 ·intro w' hSw;have hx:=Zv hSw.2.2.1 y.2 false;go_simp<;>rfl
 try simp only [zz]
 refine tr 15 (.int .i64 (kW y.2 ms).place) ?_;refine tr 16 (.int .i64 ((kW x.2 ms).place-(kW y.2 ms).place)) ?_;refine tr 17 (.int .i64 ((kW x.2 ms).place-(kW y.2 ms).place)) ?_;refine wpAnyH_done (by kernel_rfl) ?_ _;clear hHeld;go_wp2;go_ret;exact ⟨rfl,HE.out⟩
theorem U9 {w:World} (ty:TypeId) (lo hi:Nat) (a:Option Addr) (c:Nat) (xs:List qC) (hown:OwnL w lo hi a c xs)
  (sa:Option Addr) (sc:Nat) (zs:List qC) (hr:jW w sa zs) (hc:sa=none→sc=0) (hb:xs.length+zs.length≤1099511627776) (hlo:lo≤w.heap.size):
  ∃ a' c' ys w',(Builtin.append_ #[39,39] ty #[.slice a xs.length c,.slice sa zs.length sc]).run Tryz.prog w=.ok (.slice a' ys.length c') w'∧Hid (ys=xs++zs)∧OwnL w' lo w'.heap.size a' c' ys∧w.grownBy w' (Value.slice a xs.length c).ownBlock∧
   (∀ k,(Value.slice a' ys.length c').ownBlock=some k→(Value.slice a xs.length c).ownBlock=some k∨k=w.heap.size):=by
 obtain ⟨i0,hi0,hz0,hz1,hz2⟩:=info_parts Tryz.Wd;cases sa with
 | none=>
  have hz:zs=[]:=by
   by_cases e:zs=[]
   ·exact e
   ·obtain ⟨b,off,hh,_⟩:=hr e;cases hh
  subst hz;have:=hc rfl;subst this;refine ⟨a,c,xs,w,run_append_owned_none (P:=Tryz.prog) (w:=w) lo 39 ty 118 i0 3 Tryz.underlying39 hi0 _ _ _ hown.1,(by simp [Hid]),⟨hown.1,Nat.le_refl _,fun k hk=>(hown.1.lt k hk).2⟩,World.grownBy.refl _ _,fun k hk=>.inl hk⟩
 | some ad=>
  obtain ⟨v',w',h1,h2,h3,_,h5⟩:=run_append_own_at (P:=Tryz.prog) w lo 39 ty 118 i0 (.agg #[.int .i64 0,.int .i64 0,.bool false]) 3 24 Tryz.underlying39 hi0 hz0 hz1 hz2 rfl (by decide) _ _ _ hown.1 ad zs.length sc (jD zs) (by rw [Js]) (by
   intro j u hj;have hjl:j<zs.length*3:=by rw [← Js];exact (List.getElem?_eq_some_iff.1 hj).1
   have hne:zs≠[]:=by intro e;simp [e] at hjl
   obtain ⟨b,off,hh,hcell⟩:=hr hne;cases hh;have hat:=Q5 zs (j / 3) (j % 3) (by omega) (Nat.mod_lt _ (by omega));rw [show j / 3*3+j % 3=j by omega,hj] at hat;obtain ⟨k0,k1,k2⟩:=hcell (j / 3) (by omega);rw [yS];rcases (by omega:j % 3=0∨j % 3=1∨j % 3=2) with h' | h' | h'<;>rw [h'] at hat<;>simp only [qC.cells,List.getElem?_cons_zero,List.getElem?_cons_succ,Option.some.injEq] at hat
   ·rw [show off+j=off+j / 3*3 by omega,k0,hat]
   ·rw [show off+j=off+j / 3*3+1 by omega,k1,hat]
   ·rw [show off+j=off+j / 3*3+2 by omega,k2,hat]) (ZO _) (by simp only [maxLen];omega) (by omega) hlo
  rw [← gD,← List.length_append] at h2;have sh:∃ a' c',v'=.slice a' (xs++zs).length c':=by
   rcases h2.2 with ⟨rfl,h0⟩ | ⟨g,cap,cur,rfl,_⟩
   ·exact ⟨none,0,by rw [h0]⟩
   ·exact ⟨_,_,rfl⟩
  obtain ⟨a',c',rfl⟩:=sh;refine ⟨a',c',xs++zs,w',h1,rfl,⟨h2,Nat.le_refl _,fun k hk=>(h2.lt k hk).2⟩,h3,fun k hk=>?_⟩;rcases h5 with h5 | h5
  ·exact .inl (by rw [← h5];exact hk)
  ·rw [h5] at hk;exact .inr (Option.some.inj hk).symm
theorem Us {w:World} {ops:Array Oper} {o:Oper} {act:Act} {K:Act→World→Prop} {Q:Exit→Act→World→Prop} {E:Prop} (hgd:o.guard=none) (s x:Operand)
  (ho:o.op=.call { callee:=.builtin .append,args:=#[s,x],argTypes:=#[39,39] })
  (lo hi:Nat) (a:Option Addr) (c:Nat) (xs:List qC) (hs:act.eval s=.slice a xs.length c) (hown:OwnL w lo hi a c xs)
  (sa:Option Addr) (sc:Nat) (zs:List qC) (hx:act.eval x=.slice sa zs.length sc) (hr:jW w sa zs) (hc:sa=none→sc=0)
  (hb:xs.length+zs.length≤1099511627776) (hlo:lo≤w.heap.size)
  (h:∀ a' c' ys w',Hid (ys=xs++zs)→OwnL w' lo w'.heap.size a' c' ys→w.grownBy w' (Value.slice a xs.length c).ownBlock→
   (∀ k,(Value.slice a' ys.length c').ownBlock=some k→(Value.slice a xs.length c).ownBlock=some k∨k=w.heap.size)→K (act.put o.dst (.slice a' ys.length c')) w'):
  if Region.wanted o (yielded ops act.tmps)=true then Oper.wp Tryz.prog o act w K Q else E:=by
 have hw:Region.wanted o (yielded ops act.tmps)=true:=by simp [Region.wanted,hgd]
 rw [if_pos hw];obtain ⟨a',c',ys,w',hrun,h1,h2,h3,h4⟩:=U9 (w:=w) o.type lo hi a c xs hown sa sc zs hr hc hb hlo;unfold Oper.wp execOp;simp only [ho,resolve,invoke,builtin,Sem.run_bind,Sem.run_pure,Result.andThen_ok,List.map_toArray,List.map_cons,List.map_nil,hs,hx,hrun];exact h a' c' ys w' h1 h2 h3 h4
theorem We {w:World} (ty:TypeId) (lo hi:Nat) (a:Option Addr) (c:Nat) (xs:List qJ) (hown:OwnH w lo hi a c xs)
  (sa:Option Addr) (sc:Nat) (zs:List qJ) (hr:yt w sa zs) (hc:sa=none→sc=0) (hb:xs.length+zs.length≤1099511627776) (hlo:lo≤w.heap.size):
  ∃ a' c' ys w',(Builtin.append_ #[40,40] ty #[.slice a xs.length c,.slice sa zs.length sc]).run Tryz.prog w=.ok (.slice a' ys.length c') w'∧Hid (ys=xs++zs)∧OwnH w' lo w'.heap.size a' c' ys∧w.grownBy w' (Value.slice a xs.length c).ownBlock∧
   (∀ k,(Value.slice a' ys.length c').ownBlock=some k→(Value.slice a xs.length c).ownBlock=some k∨k=w.heap.size):=by
 obtain ⟨i0,hi0,hz0,hz1,hz2⟩:=info_parts Tryz.Wh;cases sa with
 | none=>
  have hz:zs=[]:=by
   by_cases e:zs=[]
   ·exact e
   ·obtain ⟨b,off,hh,_⟩:=hr e;cases hh
  subst hz;have:=hc rfl;subst this;refine ⟨a,c,xs,w,run_append_owned_none (P:=Tryz.prog) (w:=w) lo 40 ty 185 i0 2 Tryz.underlying40 hi0 _ _ _ hown.1,(by simp [Hid]),⟨hown.1,Nat.le_refl _,fun k hk=>(hown.1.lt k hk).2⟩,World.grownBy.refl _ _,fun k hk=>.inl hk⟩
 | some ad=>
  obtain ⟨v',w',h1,h2,h3,_,h5⟩:=run_append_own_at (P:=Tryz.prog) w lo 40 ty 185 i0 (.agg #[.int .i64 0,.int .i64 0]) 2 16 Tryz.underlying40 hi0 hz0 hz1 hz2 rfl (by decide) _ _ _ hown.1 ad zs.length sc (jl zs) (by rw [wG]) (by
   intro j u hj;have hjl:j<zs.length*2:=by rw [← wG];exact (List.getElem?_eq_some_iff.1 hj).1
   have hne:zs≠[]:=by intro e;simp [e] at hjl
   obtain ⟨b,off,hh,hcell⟩:=hr hne;cases hh;have hat:=Q6 zs (j / 2) (j % 2) (by omega) (Nat.mod_lt _ (by omega));rw [show j / 2*2+j % 2=j by omega,hj] at hat;obtain ⟨k0,k1⟩:=hcell (j / 2) (by omega);rw [yS];rcases (by omega:j % 2=0∨j % 2=1) with h' | h'<;>rw [h'] at hat<;>simp only [qJ.cells,List.getElem?_cons_zero,List.getElem?_cons_succ,Option.some.injEq] at hat
   ·rw [show off+j=off+j / 2*2 by omega,k0,hat]
   ·rw [show off+j=off+j / 2*2+1 by omega,k1,hat]) (ZP _) (by simp only [maxLen];omega) (by omega) hlo
  rw [← gF,← List.length_append] at h2;have sh:∃ a' c',v'=.slice a' (xs++zs).length c':=by
   rcases h2.2 with ⟨rfl,h0⟩ | ⟨g,cap,cur,rfl,_⟩
   ·exact ⟨none,0,by rw [h0]⟩
   ·exact ⟨_,_,rfl⟩
  obtain ⟨a',c',rfl⟩:=sh;refine ⟨a',c',xs++zs,w',h1,rfl,⟨h2,Nat.le_refl _,fun k hk=>(h2.lt k hk).2⟩,h3,fun k hk=>?_⟩;rcases h5 with h5 | h5
  ·exact .inl (by rw [← h5];exact hk)
  ·rw [h5] at hk;exact .inr (Option.some.inj hk).symm
end Go.Proofs.YtjkckhfddgeboaaGreatDoor
namespace Go.Proofs.YtjkckhfddgeboaaGreatDoor
def FU (l:Array Bool):Nat:=l.toList.countP (fun b=> !b)
theorem cB {l:Array Bool} {i:Nat} (h:l.getD i true=false):FU l=FU (l.setIfInBounds i true)+1:=by
 obtain ⟨xs⟩:=l;have hi:xs[i]? =some false:=by
  simp only [Array.getD_eq_getD_getElem?,List.getElem?_toArray] at h;cases hx:xs[i]? with
  | none=>rw [hx] at h;cases h
  | some b=>rw [hx] at h;simp at h;rw [h]
 simp only [FU,List.setIfInBounds_toArray];clear h
 induction xs generalizing i with
 | nil=>simp at hi
 | cons x r ih=>
  cases i with
  | zero=>simp at hi;subst hi;simp
  | succ i=>
   simp only [List.getElem?_cons_succ] at hi;have:=ih hi;simp only [List.set_cons_succ,List.countP_cons];omega
theorem MQ {md:Region.Mode} {ops:Array Oper} {l:Array Bool} {i:Nat} (h:i∈Region.ready md ops l):l.getD i true=false:=(mem_ready.1 h).1
theorem gG {P:Program} {ops:Array Oper} {Q:Exit→Act→World→Prop} {md:Region.Mode} {S:World→Prop} (I:Array Bool→Act→World→Prop) (stop:Array Bool→Bool)
  (hstep:∀ l a w,I l a w→stop l=false→Region.ready md ops l≠[]∧∀ i∈Region.ready md ops l,wpOp P ops Q i (fun a' w'=>S w'∧I (l.setIfInBounds i true) a' w') a w)
  (hstop:∀ l a w,I l a w→stop l=true→wpAnyH P md ops Q S (FU l) l a w):
  ∀ (k:Nat) (l:Array Bool) (a:Act) (w:World),FU l=k→I l a w→wpAnyH P md ops Q S k l a w:=by
 intro k
 induction k with
 | zero=>
  intro l a w hk hI;cases hs:stop l with
  | true=>have:=hstop l a w hI hs;rw [hk] at this;exact this
  | false=>
   obtain ⟨hne,_⟩:=hstep l a w hI hs;cases hr:Region.ready md ops l with
   | nil=>exact absurd hr hne
   | cons i r=>
    have:=cB (MQ (md:=md) (ops:=ops) (l:=l) (i:=i) (by rw [hr];exact List.mem_cons_self));omega
 | succ k ih=>
  intro l a w hk hI;cases hs:stop l with
  | true=>have:=hstop l a w hI hs;rw [hk] at this;exact this
  | false=>
   obtain ⟨hne,hall⟩:=hstep l a w hI hs;refine ⟨fun h0=>absurd h0 hne,fun i hi=>?_⟩;have hu:=cB (MQ hi);exact wpOp_mono (fun a' w' h=>⟨h.1,ih _ a' w' (by omega) h.2⟩) (hall i hi)
theorem yD {P:Program} {ops:Array Oper} {Q:Exit→Act→World→Prop} {i:Nat} {o:Oper} {a:Act} {w:World} {K:Act→World→Prop} (ho:ops[i]? =some o)
  (h:∀ K':Act→World→Prop,Shut (∀ a w,K a w→K' a w)→if Region.wanted o (yielded ops a.tmps)=true then Oper.wp P o a w K' Q else K' (a.put o.dst undef) w):wpOp P ops Q i K a w:=
 wpOp_step ho (fun K' hK=>h K' hK)
theorem MR {P:Program} {ops:Array Oper} {Q:Exit→Act→World→Prop} {md:Region.Mode} {l:Array Bool} {a:Act} {w:World} {K:Nat→Act→World→Prop} (alt:Nat→Bool) (hr:(!(Region.ready md ops l).isEmpty && (Region.ready md ops l).all alt)=true)
  (h:∀ j,alt j=true→wpOp P ops Q j (K j) a w):Region.ready md ops l≠[]∧∀ i∈Region.ready md ops l,wpOp P ops Q i (K i) a w:=by
 rw [Bool.and_eq_true,List.all_eq_true] at hr;refine ⟨fun h0=>?_,fun i hi=>h i (hr.2 i hi)⟩;rw [h0] at hr;exact absurd hr.1 (by simp)
end Go.Proofs.YtjkckhfddgeboaaGreatDoor
namespace Go.Proofs.YtjkckhfddgeboaaGreatDoor
open Go.RowKit
def Xc (rs:List qf):List Value:=rs.flatMap qf.cells
theorem Jt (r:qf):r.cells.length=4:=rfl
theorem MS (r:qf) (b:List qf):Xc (r::b)=r.cells++Xc b:=by simp [Xc]
theorem gH (rs:List qf) (k j:Nat) (hk:k<rs.length) (hj:j<4):(Xc rs)[k*4+j]? =(rs.getD k qh).cells[j]? :=by
 induction rs generalizing k with
 | nil=>simp at hk
 | cons s r ih=>
  rw [MS];cases k with
  | zero=>rw [List.getElem?_append_left (by rw [Jt];omega)];simp
  | succ k=>
   rw [List.getElem?_append_right (by rw [Jt];omega),Jt];have:=ih k (by simpa using hk);rw [show (k+1)*4+j-4=k*4+j by omega,this];simp
theorem FV (rs:List qf) (k:Nat) (hk:k<rs.length):rs.getD k qh∈rs:=by
 have e:rs.getD k qh=rs[k]:=by simp [List.getD,hk]
 rw [e];exact List.getElem_mem hk
def Y3 (w:World) (a:Option Addr) (rs:List qf):Prop:=rs≠[]→∃ b off,a=some ⟨b,off,none⟩∧∀ k,k<rs.length→w.rangeAt b (off+k*4) (rs.getD k qh).cells∧(rs.getD k qh).reads w
theorem Y3.nil (w:World) (a:Option Addr):Y3 w a []:=fun h=>absurd rfl h
theorem Y3.cases {w:World} {a:Option Addr} {rs:List qf} (h:Y3 w a rs):rs=[]∨∃ b off,a=some ⟨b,off,none⟩∧0<rs.length∧∀ k,k<rs.length→w.rangeAt b (off+k*4) (rs.getD k qh).cells∧(rs.getD k qh).reads w:=by
 by_cases e:rs=[]
 ·exact .inl e
 ·obtain ⟨b,off,ha,hc⟩:=h e;exact .inr ⟨b,off,ha,List.length_pos_iff.2 e,hc⟩
structure gI (w:World) (lo hi:Nat) (a:Option Addr) (c:Nat) (rs:List qf):Prop where
 row:w.ownsRow lo 28 4 (.slice a rs.length c) rs.length (Xc rs)
 top:hi≤w.heap.size
 blk:∀ k,(Value.slice a rs.length c).ownBlock=some k→k<hi
 each:∀ r∈rs,r.own w lo hi
 apart:((Value.slice a rs.length c).ownBlock.toList++rs.flatMap qf.blocks).Nodup
def av (a:Option Addr) (c:Nat) (rs:List qf):List Nat:=(Value.slice a rs.length c).ownBlock.toList++rs.flatMap qf.blocks
theorem gI.touch {w w':World} {lo hi:Nat} {a:Option Addr} {c:Nat} {rs:List qf} {bl:List Nat} (h:gI w lo hi a c rs) (ht:Touch bl w w') (hd:∀ k∈av a c rs,k∉bl):gI w' lo hi a c rs:=
 ⟨jE h.row (fun k hk=>ht.block k (h.row.lt k hk).2 (hd k (List.mem_append.2 (.inl (Option.mem_toList.2 hk))))),Nat.le_trans h.top ht.size,h.blk,fun r hr=>qf.touch (h.each r hr) ht (fun k hk=>hd k (List.mem_append.2 (.inr (List.mem_flatMap.2 ⟨r,hr,hk⟩)))),h.apart⟩
theorem ax {w:World} {base g n cap:Nat} {rs:List qf} (h:w.ownsRow base 28 4 (.slice (some ⟨g,0,none⟩) n cap) n (Xc rs)) (hn:rs.length=n) (k:Nat) (hk:k<n):
  w.rangeAt g (k*4) (rs.getD k qh).cells∧w.there g (k*4) 4:=by
 refine ⟨fun j v hv=>?_,fun j hj=>?_⟩
 ·have hj:j<4:=by have:=(List.getElem?_eq_some_iff.1 hv).1;rwa [Jt] at this
  rw [h.cellAt (k*4+j) (by omega),gH rs k j (by omega) hj,hv]
 ·refine ⟨?_,h.frozenAt _⟩;rw [h.cellAt (k*4+j) (by omega),gH rs k j (by omega) hj,List.getElem?_eq_getElem (by rw [Jt];omega)];rfl
theorem gI.reads {w:World} {lo hi:Nat} {a:Option Addr} {c:Nat} {rs:List qf} (h:gI w lo hi a c rs):Y3 w a rs:=by
 intro hne;rcases h.row.2 with ⟨_,h0⟩ | ⟨g,cap',cur,hv,hb,hg,hr⟩
 ·exact absurd (List.length_eq_zero_iff.1 h0) hne
 ·simp only [Value.slice.injEq] at hv;obtain ⟨rfl,_,rfl⟩:=hv;refine ⟨g,0,rfl,fun k hk=>?_⟩;rw [Nat.zero_add];exact ⟨(ax h.row rfl k hk).1,OwnO.reads (h.each _ (FV rs k hk))⟩
def lu (rs ts:List qf) (k:Nat):Prop:=ts.length=k∧ts.map qf.v=(rs.take k).map qf.v
theorem lu.all {rs ts:List qf} (h:lu rs ts rs.length):ts.map qf.v=rs.map qf.v:=by
 have:=h.2
 rwa [List.take_length] at this
def ay (w:World) (base g n cap:Nat) (pre cs post:List Value):Prop:=w.ownsRow base 28 4 (.slice (some ⟨g,0,none⟩) n cap) n (pre++(cs++post))
theorem ay.block {w w':World} {base g n cap:Nat} {pre cs post:List Value} (h:ay w base g n cap pre cs post) (hb:w'.heap[g]? =w.heap[g]?):ay w' base g n cap pre cs post:=jE h (fun k hk=>by cases hk;exact hb)
end Go.Proofs.YtjkckhfddgeboaaGreatDoor
namespace Go.Proofs.YtjkckhfddgeboaaGreatDoor
open Go.RowKit
end Go.Proofs.YtjkckhfddgeboaaGreatDoor