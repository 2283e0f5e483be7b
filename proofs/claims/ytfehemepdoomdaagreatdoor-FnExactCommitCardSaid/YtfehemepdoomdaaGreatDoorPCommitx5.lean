/- Several texts in one, in their order. -/
import Derived.Test.YtfehemepdoomdaaGreatDoorPCommitx4
import Derived.Deep.Cut
import Derived.Test.YtfehemepdoomdaaGreatDoorPCommitx2
import Derived.Deep.RegionHeld3
import Derived.Sort.Grow
import Derived.Deep.RegionHeld
import Derived.Test.YtfehemepdoomdaaGreatDoorPCommitx1
set_option maxHeartbeats 8000000
set_option maxRecDepth 100000
namespace Go.Proofs.YtfehemepdoomdaaGreatDoor
open Go.RowKit Go.Maps Go.MapKept
def claimsTo (hs:List HoldV):Nat→List ClaimV
 | 0=>[]
 | k+1=>putC ⟨(hs.getD k zeroH).oid,(hs.getD k zeroH).tx,(k:Int)⟩ (claimsTo hs k)
theorem putC_len (c:ClaimV) (ms:List ClaimV):(putC c ms).length=if (getC c.key ms).isSome then ms.length else ms.length+1:=by
 rcases findC_cases c.key ms 0 with ⟨_,h2,h3⟩ | ⟨j,m,_,_,_,h4,h5⟩
 ·rw [h2,h3 c rfl];simp
 ·rw [h4,h5 c rfl];simp
theorem getC_put (k:Int) (c:ClaimV) (ms:List ClaimV):getC k (putC c ms)=if k=c.key then some c else getC k ms:=by
 induction ms with
 | nil=>simp only [putC,getC]
 | cons m r ih=>
  rw [putC]
  by_cases h:c.key=m.key
  ·rw [if_pos h,getC,getC]
   by_cases h2:k=c.key
   ·rw [if_pos h2,if_pos h2]
   ·rw [if_neg h2,if_neg h2,if_neg (by rw [← h];exact h2)]
  ·rw [if_neg h,getC,getC,ih]
   by_cases h2:k=m.key
   ·rw [if_pos h2,if_pos h2,if_neg (by rw [h2];exact fun e=>h e.symm)]
   ·rw [if_neg h2,if_neg h2]
theorem claims_none (hs:List HoldV) (k:Int):∀ n,getC k (claimsTo hs n)=none ↔ ∀ j,j<n→(hs.getD j zeroH).oid≠k:=by
 intro n
 induction n with
 | zero=>exact ⟨fun _ j hj=>by omega,fun _=>rfl⟩
 | succ n ih=>
  rw [claimsTo,getC_put]
  by_cases h:k=(hs.getD n zeroH).oid
  ·rw [if_pos h]
   exact ⟨fun h=>(by cases h),fun h2=>absurd h.symm (h2 n (by omega))⟩
  ·rw [if_neg h,ih]
   refine ⟨fun h2 j hj=>?_,fun h2 j hj=>h2 j (by omega)⟩
   by_cases e:j=n
   ·rw [e];exact fun q=>h q.symm
   ·exact h2 j (by omega)
theorem claims_len_le (hs:List HoldV):∀ n,(claimsTo hs n).length≤n:=by
 intro n
 induction n with
 | zero=>exact Nat.le_refl _
 | succ n ih=>rw [claimsTo,putC_len];split<;>omega
theorem claims_len (hs:List HoldV):∀ n,(claimsTo hs n).length=n ↔ ∀ i,i<n→∀ j,j<i→(hs.getD j zeroH).oid≠(hs.getD i zeroH).oid:=by
 intro n
 induction n with
 | zero=>exact ⟨fun _ i hi=>by omega,fun _=>rfl⟩
 | succ n ih=>
  have hle:=claims_len_le hs n
  rw [claimsTo,putC_len]
  simp only
  cases hg:getC (hs.getD n zeroH).oid (claimsTo hs n) with
  | none=>
   have hd:=(claims_none hs _ n).1 hg
   simp only [Option.isSome_none,Bool.false_eq_true,if_false]
   constructor
   ·intro h i hi j hj
    by_cases e:i=n
    ·subst e;exact hd j hj
    ·exact ih.1 (by omega) i (by omega) j hj
   ·intro h
    rw [ih.2 (fun i hi j hj=>h i (by omega) j hj)]
  | some m=>
   simp only [Option.isSome_some,if_true]
   constructor
   ·intro h;omega
   ·intro h
    have:getC (hs.getD n zeroH).oid (claimsTo hs n)=none:=(claims_none hs _ n).2 (fun j hj=>h n (by omega) j hj)
    rw [hg] at this;cases this
theorem wpList_update_c {w:World} {ops:Array Oper} {rest:List Oper} {o:Oper} {a:Act} {Q:Exit→Act→World→Prop} (hg:o.guard=none) (m x v:Operand) (hop:o.op=Op.mapUpdate 117 m x v)
  (B:Nat) (ms:List ClaimV) (c:ClaimV) (hm:a.eval m=.map (some B)) (hx:a.eval x=.int .i64 c.key) (hv:a.eval v=.agg #[.int .i64 c.tx,.int .i64 c.place]) (h:MapAt w B ms)
  (hK:∀ w',MapAt w' B (putC c ms)→w.grownBy w' (some B)→wpList Tryz.prog ops Q rest (a.put o.dst undef) w'):wpList Tryz.prog ops Q (o::rest) a w:=by
 refine wpList_plain hg fun K' hK'=>?_
 obtain ⟨w',hrun,r1,r2⟩:=run_update_c h c
 unfold Oper.wp
 simp [execOp,hop,hm,hx,hv,hrun,Result.andThen]
 exact hK' _ _ (hK w' r1 r2)
theorem claimsOf_any (a:Option Addr) (cap:Nat) (hs:List HoldV) (w:World) (hr:ReadsH w a hs) (hl:hs.length≤1099511627776):
  Calls Tryz.prog 62 #[.slice a hs.length cap] w fun e w'=>e=.returned (.map (some w.heap.size))∧MapAt w' w.heap.size (claimsTo hs hs.length)∧Below w.heap.size w w':=by
 have hmm:=@run_makeMap Tryz.prog
 obtain ⟨W,hW⟩:∃ W,Hid (w.alloc (.map #[] 0)=W):=⟨_,rfl⟩
 have m0:MapAt W w.heap.size []:=by rw [← hW.out];exact mapAt_made w
 have hbW:Below w.heap.size w W:=by rw [← hW.out];exact (Below.refl _ _).alloc (Nat.le_refl _) _
 have HR:Hid (ReadsH w a hs):=hr
 clear hr
 go_enter Tryz.func62,Tryz.ntmps62
 go_wp2_with fail
 rw [hW.out]
 clear hW
 go_loopw [9] (fun i wr=>∃ k:Nat,k≤hs.length∧i=.int .i64 (k:Int)∧MapAt wr w.heap.size (claimsTo hs k)∧Below w.heap.size w wr) (fun i _=>hs.length-(intOf i).toNat)
 case atStart=>exact ⟨0,Nat.zero_le _,rfl,m0,hbW⟩
 case round=>
  obtain ⟨k,hk,rfl,hm,hnx⟩:=hrel
  clear m0 hbW
  by_cases hlt:k<hs.length
  ·obtain ⟨b,off,rfl,hc⟩:=(HR.out.below hnx) (by intro e;rw [e] at hlt;simp at hlt)
   obtain ⟨c0,c1⟩:=hc k hlt
   have HP:Hid (claimsTo hs (k+1)=putC ⟨(hs.getD k zeroH).oid,(hs.getD k zeroH).tx,(k:Int)⟩ (claimsTo hs k)):=rfl
   clear hc
   generalize hs.getD k zeroH=h at*
   obtain ⟨V,hV,bV,hbV,hsV⟩:=boxes1 wr [.int .i64 h.tx,.int .i64 h.oid] 110
   have hmV:=hm.below hbV
   have hnV:=hnx.trans (hbV.mono hnx.size)
   have hln:w.heap.size<V.heap.size:=hmV.lt
   have x0:=bV.cell 0 _ rfl
   have x1:=bV.cell 1 _ rfl
   clear hm hnx hbV hsV bV
   go_upto_region 5 with fail
   rw [hV.out]
   clear hV c0 c1
   go_wp2_with (first | (at_mapUpdate;refine wpList_update_c rfl _ _ _ rfl w.heap.size (claimsTo hs k) ⟨h.oid,h.tx,(k:Int)⟩ rfl rfl rfl hmV ?_;intro w5 hm5 hg5) | fail)
   have HM5:Hid (MapAt w5 w.heap.size (claimsTo hs (k+1))∧Below w.heap.size w w5):=by
    rw [HP.out]
    exact ⟨hm5,hnV.grown hg5 hnV.size (fun j hj=>by cases hj;exact Nat.le_refl _)⟩
   clear hm5 hg5 hmV hnV HP x0 x1
   go_wp2_with fail
   go_roundw
   case rel=>exact ⟨k+1,by omega,by go_num,HM5.out.1,HM5.out.2⟩
   case measure=>simp [intOf];omega
  ·have e:k=hs.length:=by omega
   have HE:Hid (MapAt wr w.heap.size (claimsTo hs hs.length)):=by rw [e] at hm;exact hm
   clear e
   go_wp2
   go_ret
   exact ⟨rfl,HE.out,hnx⟩
end Go.Proofs.YtfehemepdoomdaaGreatDoor
namespace Go.Proofs.YtfehemepdoomdaaGreatDoor
open Go.RowKit
theorem wpList_load_mid_if {ops:Array Oper} {rest:List Oper} {op:Oper} {a:Act} {w:World} {Q:Exit→Act→World→Prop} {P:Program} (hw:Region.wanted op (yielded ops a.tmps)=true) (ty:TypeId) (x:Operand) (ho:op.op=.load ty x)
  (b o:Nat) (hx:a.eval x=.pointer (some ⟨b,o,none⟩)) (cs:List Value) (d:TypeDesc) (hc:w.rangeAt b o cs)
  (hu:P.underlying ty=some d) (hd:d.isRow=true) (hi:(P.info? ty).map (·.size)=some cs.length)
  (h:wpList P ops Q rest (a.put op.dst (.agg cs.toArray)) w):wpList P ops Q (op::rest) a w:=
 wpList_step fun _ hK=>by
  simp only [hw,if_true]
  exact wp_load_mid ty x ho b o hx cs d hc hu hd hi (hK _ _ h)
theorem page_out {w:World} {C:Nat} {T:TypeId} {d:TypeDesc} (q:PageA) (hq:q.ss.length=4) (old:List Value) (ho:old.length=17) (bC:Box w C old T) (hu:Tryz.prog.underlying T=some d) (hd:d.isRow=true) (hi:(Tryz.prog.info? T).map (·.size)=some 17):
  ∃ WF,Hid (w.setCells C 0 q.cells=WF)∧Within C (C+1) w WF∧WF.heap.size=w.heap.size∧Hid (w.there C 0 q.cells.toArray.size)∧Hid ((loadVar T ⟨C,0,none⟩).run Tryz.prog WF=.ok (.agg q.cells.toArray) WF)∧Box WF C q.cells T:=by
 have hl:q.cells.length=17:=page_len q hq
 obtain ⟨WF,hWF,bF,hwF,hsF⟩:=range_fill [] old q.cells [] (by simpa using bC) (by rw [hl,ho])
 have bF':Box WF C q.cells T:=by simpa using bF
 refine ⟨WF,hWF,hwF,hsF,bC.there 0 _ (by rw [List.size_toArray,hl,ho];omega),?_,bF'⟩
 exact run_loadVar_mid (P:=Tryz.prog) WF C 0 T q.cells d (Box.range [] q.cells [] (by simpa using bF')) hu hd (by rw [hi,hl])
theorem cmpHold_any (x y:Int × Int) (PB R M:Nat) (ms:List ClaimV) (w:World) (hp:w.cell? ⟨PB,0,none⟩=some (.pointer (some ⟨R,0,none⟩))) (hr:w.cell? ⟨R,144,none⟩=some (.map (some M))) (hm:MapAt w M ms)
  (hb:∀ k,0≤(atC k ms).place∧(atC k ms).place≤1099511627776):
  Calls Tryz.prog 103 #[.agg #[.int .i64 x.1,.int .i64 x.2],.agg #[.int .i64 y.1,.int .i64 y.2],.pointer (some ⟨PB,0,none⟩)] w fun r w'=>r=.returned (.int .i64 ((atC x.2 ms).place-(atC y.2 ms).place))∧∃ q os',w'=Go.Sort.grow (w.drewN q) os':=by
 obtain ⟨W,hW,b0,b1,hbW,hsW⟩:=boxes2 w [.int .i64 x.1,.int .i64 x.2] [.int .i64 y.1,.int .i64 y.2] 110 110
 have HS:Hid (∀ u,Below W.heap.size W u→(u.cell? ⟨PB,0,none⟩=some (.pointer (some ⟨R,0,none⟩))∧u.cell? ⟨R,144,none⟩=some (.map (some M))∧MapAt u M ms∧u.cell? ⟨w.heap.size,1,none⟩=some (.int .i64 x.2)∧u.cell? ⟨w.heap.size+1,1,none⟩=some (.int .i64 y.2))):=fun u hu=>by
  have n0:=hbW.trans (hu.mono hbW.size)
  exact ⟨by rw [n0.cell (p:=⟨PB,0,none⟩) (World.block_lt_of_cell? w _ hp)];exact hp,by rw [n0.cell (p:=⟨R,144,none⟩) (World.block_lt_of_cell? w _ hr)];exact hr,hm.below n0,(b0.below hu b0.lt).cell 1 _ rfl,(b1.below hu b1.lt).cell 1 _ rfl⟩
 have HE:Hid (∃ q os',W.drew=Go.Sort.grow (w.drewN q) os'):=by
  refine ⟨1,#[.cells #[.int .i64 x.1,.int .i64 x.2] 110]++#[.cells #[.int .i64 y.1,.int .i64 y.2] 110],?_⟩
  rw [← hW.out,Go.Sort.alloc_eq_grow,Go.Sort.alloc_eq_grow,Go.Sort.grow_grow]
  rfl
 have hx0:=hb x.2
 have hy0:=hb y.2
 have hwr:IntKind.i64.wrap ((atC x.2 ms).place-(atC y.2 ms).place)=(atC x.2 ms).place-(atC y.2 ms).place:=by rw [IntKind.wrap_i64];omega
 clear hb hx0 hy0
 go_enter Tryz.func103,Tryz.ntmps103
 go_upto_region 1 with fail
 rw [hW.out]
 clear hW hp hr hm
 refine wp_region_held_drew (S:=fun u=>(u.cell? ⟨PB,0,none⟩=some (.pointer (some ⟨R,0,none⟩))∧u.cell? ⟨R,144,none⟩=some (.map (some M))∧MapAt u M ms∧u.cell? ⟨w.heap.size,1,none⟩=some (.int .i64 x.2)∧u.cell? ⟨w.heap.size+1,1,none⟩=some (.int .i64 y.2))) (by kernel_rfl) (HS.out _ (Below.refl _ _).drew) (fun hHeld=>?_)
 refine tk 0 (v:=.pointer (some ⟨R,0,none⟩)) rfl (Or.inl ⟨by rfl,?_⟩) hHeld ?_
 ·intro w' hSw
  have hx:=hSw.1
  go_simp<;>rfl
 try simp only [zz]
 refine tq 1 (v:=.pointer (some ⟨R,0,none⟩)) rfl hHeld ?_
 try simp only [zz]
 refine tq 2 (v:=.pointer (some ⟨R,144,none⟩)) rfl hHeld ?_
 try simp only [zz]
 refine tk 3 (v:=.map (some M)) rfl (Or.inl ⟨by rfl,?_⟩) hHeld ?_
 ·intro w' hSw
  have hx:=hSw.2.1
  go_simp<;>rfl
 try simp only [zz]
 refine tq 4 (v:=.pointer (some ⟨w.heap.size,1,none⟩)) rfl hHeld ?_
 try simp only [zz]
 refine tk 5 (v:=.int .i64 x.2) rfl (Or.inl ⟨by rfl,?_⟩) hHeld ?_
 ·intro w' hSw
  have hx:=hSw.2.2.2.1
  go_simp<;>rfl
 try simp only [zz]
 refine tk 6 (v:=.agg #[.int .i64 (atC x.2 ms).tx,.int .i64 (atC x.2 ms).place]) rfl (Or.inl ⟨by rfl,?_⟩) hHeld ?_
 ·intro w' hSw
  have hx:=run_look_c hSw.2.2.1 x.2 false
  go_simp<;>rfl
 try simp only [zz]
 refine tq 7 (v:=.int .i64 (atC x.2 ms).place) rfl hHeld ?_
 try simp only [zz]
 refine tk 8 (v:=.pointer (some ⟨R,0,none⟩)) rfl (Or.inl ⟨by rfl,?_⟩) hHeld ?_
 ·intro w' hSw
  have hx:=hSw.1
  go_simp<;>rfl
 try simp only [zz]
 refine tq 9 (v:=.pointer (some ⟨R,0,none⟩)) rfl hHeld ?_
 try simp only [zz]
 refine tq 10 (v:=.pointer (some ⟨R,144,none⟩)) rfl hHeld ?_
 try simp only [zz]
 refine tk 11 (v:=.map (some M)) rfl (Or.inl ⟨by rfl,?_⟩) hHeld ?_
 ·intro w' hSw
  have hx:=hSw.2.1
  go_simp<;>rfl
 try simp only [zz]
 refine tq 12 (v:=.pointer (some ⟨w.heap.size+1,1,none⟩)) rfl hHeld ?_
 try simp only [zz]
 refine tk 13 (v:=.int .i64 y.2) rfl (Or.inl ⟨by rfl,?_⟩) hHeld ?_
 ·intro w' hSw
  have hx:=hSw.2.2.2.2
  go_simp<;>rfl
 try simp only [zz]
 refine tk 14 (v:=.agg #[.int .i64 (atC y.2 ms).tx,.int .i64 (atC y.2 ms).place]) rfl (Or.inl ⟨by rfl,?_⟩) hHeld ?_
 ·intro w' hSw
  have hx:=run_look_c hSw.2.2.1 y.2 false
  go_simp<;>rfl
 try simp only [zz]
 refine tq 15 (v:=.int .i64 (atC y.2 ms).place) rfl hHeld ?_
 try simp only [zz]
 refine tq 16 (v:=.int .i64 ((atC x.2 ms).place-(atC y.2 ms).place)) rfl hHeld ?_
 try simp only [zz]
 refine tq 17 (v:=.int .i64 ((atC x.2 ms).place-(atC y.2 ms).place)) rfl hHeld ?_
 try simp only [zz]
 refine wpAnyH_done (by kernel_rfl) ?_ _
 clear hHeld
 go_wp2
 go_ret
 exact ⟨rfl,HE.out⟩
theorem run_append_lives {w:World} (ty:TypeId) (lo hi:Nat) (a:Option Addr) (c:Nat) (xs:List LiveV) (hown:OwnL w lo hi a c xs)
  (sa:Option Addr) (sc:Nat) (zs:List LiveV) (hr:ReadsL w sa zs) (hc:sa=none→sc=0) (hb:xs.length+zs.length≤1099511627776) (hlo:lo≤w.heap.size):
  ∃ a' c' ys w',(Builtin.append_ #[55,55] ty #[.slice a xs.length c,.slice sa zs.length sc]).run Tryz.prog w=.ok (.slice a' ys.length c') w'∧Hid (ys=xs++zs)∧OwnL w' lo w'.heap.size a' c' ys∧w.grownBy w' (Value.slice a xs.length c).ownBlock∧
   (∀ k,(Value.slice a' ys.length c').ownBlock=some k→(Value.slice a xs.length c).ownBlock=some k∨k=w.heap.size):=by
 obtain ⟨i0,hi0,hz0,hz1,hz2⟩:=info_parts Tryz.infoLive
 cases sa with
 | none=>
  have hz:zs=[]:=by
   by_cases e:zs=[]
   ·exact e
   ·obtain ⟨b,off,hh,_⟩:=hr e
    cases hh
  subst hz
  have:=hc rfl
  subst this
  refine ⟨a,c,xs,w,run_append_owned_none (P:=Tryz.prog) (w:=w) lo 55 ty 106 i0 3 Tryz.underlying55 hi0 _ _ _ hown.1,(by simp [Hid]),⟨hown.1,Nat.le_refl _,fun k hk=>(hown.1.lt k hk).2⟩,World.grownBy.refl _ _,fun k hk=>.inl hk⟩
 | some ad=>
  obtain ⟨v',w',h1,h2,h3,_,h5⟩:=run_append_own_at (P:=Tryz.prog) w lo 55 ty 106 i0 (.agg #[.int .i64 0,.int .i64 0,.bool false]) 3 24 Tryz.underlying55 hi0 hz0 hz1 hz2 rfl (by decide) _ _ _ hown.1 ad zs.length sc (cellsL zs) (by rw [cellsL_len]) (by
   intro j u hj
   have hjl:j<zs.length*3:=by rw [← cellsL_len];exact (List.getElem?_eq_some_iff.1 hj).1
   have hne:zs≠[]:=by intro e;simp [e] at hjl
   obtain ⟨b,off,hh,hcell⟩:=hr hne
   cases hh
   have hat:=cellsL_at zs (j / 3) (j % 3) (by omega) (Nat.mod_lt _ (by omega))
   rw [show j / 3*3+j % 3=j by omega,hj] at hat
   obtain ⟨k0,k1,k2⟩:=hcell (j / 3) (by omega)
   rw [Addr_add]
   rcases (by omega:j % 3=0∨j % 3=1∨j % 3=2) with h' | h' | h'<;>rw [h'] at hat<;>simp only [LiveV.cells,List.getElem?_cons_zero,List.getElem?_cons_succ,Option.some.injEq] at hat
   ·rw [show off+j=off+j / 3*3 by omega,k0,hat]
   ·rw [show off+j=off+j / 3*3+1 by omega,k1,hat]
   ·rw [show off+j=off+j / 3*3+2 by omega,k2,hat]) (lives_oneCell _) (by simp only [maxLen];omega) (by omega) hlo
  rw [← cellsL_app,← List.length_append] at h2
  have sh:∃ a' c',v'=.slice a' (xs++zs).length c':=by
   rcases h2.2 with ⟨rfl,h0⟩ | ⟨g,cap,cur,rfl,_⟩
   ·exact ⟨none,0,by rw [h0]⟩
   ·exact ⟨_,_,rfl⟩
  obtain ⟨a',c',rfl⟩:=sh
  refine ⟨a',c',xs++zs,w',h1,rfl,⟨h2,Nat.le_refl _,fun k hk=>(h2.lt k hk).2⟩,h3,fun k hk=>?_⟩
  rcases h5 with h5 | h5
  ·exact .inl (by rw [← h5];exact hk)
  ·rw [h5] at hk
   exact .inr (Option.some.inj hk).symm
theorem step_append_lives {w:World} {ops:Array Oper} {o:Oper} {act:Act} {K:Act→World→Prop} {Q:Exit→Act→World→Prop} {E:Prop} (hgd:o.guard=none) (s x:Operand)
  (ho:o.op=.call { callee:=.builtin .append,args:=#[s,x],argTypes:=#[55,55] })
  (lo hi:Nat) (a:Option Addr) (c:Nat) (xs:List LiveV) (hs:act.eval s=.slice a xs.length c) (hown:OwnL w lo hi a c xs)
  (sa:Option Addr) (sc:Nat) (zs:List LiveV) (hx:act.eval x=.slice sa zs.length sc) (hr:ReadsL w sa zs) (hc:sa=none→sc=0)
  (hb:xs.length+zs.length≤1099511627776) (hlo:lo≤w.heap.size)
  (h:∀ a' c' ys w',Hid (ys=xs++zs)→OwnL w' lo w'.heap.size a' c' ys→w.grownBy w' (Value.slice a xs.length c).ownBlock→
   (∀ k,(Value.slice a' ys.length c').ownBlock=some k→(Value.slice a xs.length c).ownBlock=some k∨k=w.heap.size)→K (act.put o.dst (.slice a' ys.length c')) w'):
  if Region.wanted o (yielded ops act.tmps)=true then Oper.wp Tryz.prog o act w K Q else E:=by
 have hw:Region.wanted o (yielded ops act.tmps)=true:=by simp [Region.wanted,hgd]
 rw [if_pos hw]
 obtain ⟨a',c',ys,w',hrun,h1,h2,h3,h4⟩:=run_append_lives (w:=w) o.type lo hi a c xs hown sa sc zs hr hc hb hlo
 unfold Oper.wp execOp
 simp only [ho,resolve,invoke,builtin,Sem.run_bind,Sem.run_pure,Result.andThen_ok,List.map_toArray,List.map_cons,List.map_nil,hs,hx,hrun]
 exact h a' c' ys w' h1 h2 h3 h4
theorem run_append_holds {w:World} (ty:TypeId) (lo hi:Nat) (a:Option Addr) (c:Nat) (xs:List HoldV) (hown:OwnH w lo hi a c xs)
  (sa:Option Addr) (sc:Nat) (zs:List HoldV) (hr:ReadsH w sa zs) (hc:sa=none→sc=0) (hb:xs.length+zs.length≤1099511627776) (hlo:lo≤w.heap.size):
  ∃ a' c' ys w',(Builtin.append_ #[56,56] ty #[.slice a xs.length c,.slice sa zs.length sc]).run Tryz.prog w=.ok (.slice a' ys.length c') w'∧Hid (ys=xs++zs)∧OwnH w' lo w'.heap.size a' c' ys∧w.grownBy w' (Value.slice a xs.length c).ownBlock∧
   (∀ k,(Value.slice a' ys.length c').ownBlock=some k→(Value.slice a xs.length c).ownBlock=some k∨k=w.heap.size):=by
 obtain ⟨i0,hi0,hz0,hz1,hz2⟩:=info_parts Tryz.infoHold
 cases sa with
 | none=>
  have hz:zs=[]:=by
   by_cases e:zs=[]
   ·exact e
   ·obtain ⟨b,off,hh,_⟩:=hr e
    cases hh
  subst hz
  have:=hc rfl
  subst this
  refine ⟨a,c,xs,w,run_append_owned_none (P:=Tryz.prog) (w:=w) lo 56 ty 110 i0 2 Tryz.underlying56 hi0 _ _ _ hown.1,(by simp [Hid]),⟨hown.1,Nat.le_refl _,fun k hk=>(hown.1.lt k hk).2⟩,World.grownBy.refl _ _,fun k hk=>.inl hk⟩
 | some ad=>
  obtain ⟨v',w',h1,h2,h3,_,h5⟩:=run_append_own_at (P:=Tryz.prog) w lo 56 ty 110 i0 (.agg #[.int .i64 0,.int .i64 0]) 2 16 Tryz.underlying56 hi0 hz0 hz1 hz2 rfl (by decide) _ _ _ hown.1 ad zs.length sc (cellsH zs) (by rw [cellsH_len]) (by
   intro j u hj
   have hjl:j<zs.length*2:=by rw [← cellsH_len];exact (List.getElem?_eq_some_iff.1 hj).1
   have hne:zs≠[]:=by intro e;simp [e] at hjl
   obtain ⟨b,off,hh,hcell⟩:=hr hne
   cases hh
   have hat:=cellsH_at zs (j / 2) (j % 2) (by omega) (Nat.mod_lt _ (by omega))
   rw [show j / 2*2+j % 2=j by omega,hj] at hat
   obtain ⟨k0,k1⟩:=hcell (j / 2) (by omega)
   rw [Addr_add]
   rcases (by omega:j % 2=0∨j % 2=1) with h' | h'<;>rw [h'] at hat<;>simp only [HoldV.cells,List.getElem?_cons_zero,List.getElem?_cons_succ,Option.some.injEq] at hat
   ·rw [show off+j=off+j / 2*2 by omega,k0,hat]
   ·rw [show off+j=off+j / 2*2+1 by omega,k1,hat]) (holds_oneCell _) (by simp only [maxLen];omega) (by omega) hlo
  rw [← cellsH_app,← List.length_append] at h2
  have sh:∃ a' c',v'=.slice a' (xs++zs).length c':=by
   rcases h2.2 with ⟨rfl,h0⟩ | ⟨g,cap,cur,rfl,_⟩
   ·exact ⟨none,0,by rw [h0]⟩
   ·exact ⟨_,_,rfl⟩
  obtain ⟨a',c',rfl⟩:=sh
  refine ⟨a',c',xs++zs,w',h1,rfl,⟨h2,Nat.le_refl _,fun k hk=>(h2.lt k hk).2⟩,h3,fun k hk=>?_⟩
  rcases h5 with h5 | h5
  ·exact .inl (by rw [← h5];exact hk)
  ·rw [h5] at hk
   exact .inr (Option.some.inj hk).symm
end Go.Proofs.YtfehemepdoomdaaGreatDoor
namespace Go.Proofs.YtfehemepdoomdaaGreatDoor
open Go.RowKit Go.Maps Go.MapKept
def delC (k:Int):List ClaimV→List ClaimV
 | []=>[]
 | m::r=>if k=m.key then r else m::delC k r
theorem findC_del (k:Int):∀ (ms:List ClaimV) (i:Nat),(findC k ms i=none∧delC k ms=ms)∨∃ (j:Nat) (v:Value),j<ms.length∧findC k ms i=some (i+j,v)∧delC k ms=ms.eraseIdx j:=by
 intro ms
 induction ms with
 | nil=>intro i;exact .inl ⟨rfl,rfl⟩
 | cons m r ih=>
  intro i
  by_cases hk:k=m.key
  ·exact .inr ⟨0,m.ent.2,by simp,by rw [findC,if_pos hk];rfl,by rw [delC,if_pos hk];rfl⟩
  ·rcases ih (i+1) with ⟨h1,h2⟩ | ⟨j,v,h0,h1,h2⟩
   ·exact .inl ⟨by rw [findC,if_neg hk];exact h1,by rw [delC,if_neg hk,h2]⟩
   ·exact .inr ⟨j+1,v,by simp;omega,by rw [findC,if_neg hk,h1];congr 2;omega,by rw [delC,if_neg hk,h2];rfl⟩
theorem map_eraseIdxC {α β:Type} (f:α→β):∀ (l:List α) (j:Nat),(l.eraseIdx j).map f=(l.map f).eraseIdx j
 | [],_=>rfl
 | _::_,0=>rfl
 | a::r,j+1=>by rw [List.eraseIdx_cons_succ,List.map_cons,List.map_cons,List.eraseIdx_cons_succ,map_eraseIdxC f r j]
theorem run_delete_c {w:World} {B:Nat} {ms:List ClaimV} (h:MapAt w B ms) (k:Int) (ty:TypeId):
  ∃ w',(Builtin.delete_ #[117,3] ty #[.map (some B),.int .i64 k]).run Tryz.prog w=.ok (.tuple #[]) w'∧MapAt w' B (delC k ms)∧w.grownBy w' (some B):=by
 obtain ⟨es,clock,hb,he⟩:=h
 have hck:=run_checkKey (P:=Tryz.prog) (w:=w) Tryz.underlying3 (isKey_int k) es.isEmpty 9999
 have hfd:=run_findKey (P:=Tryz.prog) (w:=w) (kt:=3) Tryz.underlying3 (findNow_c k ms es.toList 0 he)
 have hgo:(getObj B).run Tryz.prog w=.ok (.map es clock) w:=by simp [getObj,Sem.run,hb]
 have hgr:∀ o:Obj,w.grownBy { w with heap:=w.heap.setIfInBounds B o } (some B):=fun o=>⟨rfl,rfl,rfl,by simp,fun i _ hi=>(heap_set hb).2 i (fun e=>hi (by rw [e]))⟩
 have hl:es.size=ms.length:=by have:=congrArg List.length he;simpa using this
 rcases findC_del k ms 0 with ⟨h1,h2⟩ | ⟨j,v,h0,h1,h2⟩
 ·rw [h1] at hfd
  refine ⟨{ w with heap:=w.heap.setIfInBounds B (.map es clock) },?_,⟨es,clock,(heap_set hb).1,by rw [h2];exact he⟩,hgr _⟩
  simp only [Builtin.delete_,List.getElem?_toArray,List.getElem?_cons_zero,List.getElem?_cons_succ,Sem.run_bind,run_underlying Tryz.underlying117,Result.andThen,hgo,hck,hfd,run_setObj_map _ hb,Sem.run_pure]
 ·rw [h1] at hfd
  refine ⟨{ w with heap:=w.heap.setIfInBounds B (.map (es.eraseIdxIfInBounds (0+j)) clock) },?_,⟨_,clock,(heap_set hb).1,?_⟩,hgr _⟩
  ·simp only [Builtin.delete_,List.getElem?_toArray,List.getElem?_cons_zero,List.getElem?_cons_succ,Sem.run_bind,run_underlying Tryz.underlying117,Result.andThen,hgo,hck,hfd,run_setObj_map _ hb,Sem.run_pure]
  ·rw [h2,map_eraseIdxC,← he,← map_eraseIdxC,Nat.zero_add]
   rw [Array.eraseIdxIfInBounds,dif_pos (by omega),Array.toList_eraseIdx]
def KeysNd (ms:List ClaimV):Prop:=(ms.map (·.key)).Nodup
theorem putC_keys (c:ClaimV) (ms:List ClaimV):(putC c ms).map (·.key)=if (getC c.key ms).isSome then ms.map (·.key) else ms.map (·.key)++[c.key]:=by
 induction ms with
 | nil=>rfl
 | cons m r ih=>
  rw [putC,getC]
  by_cases h:c.key=m.key
  ·rw [if_pos h,if_pos h];simp [h]
  ·rw [if_neg h,if_neg h,List.map_cons,ih]
   by_cases q:(getC c.key r).isSome=true
   ·rw [if_pos q,if_pos q];rfl
   ·rw [if_neg q,if_neg q];rfl
theorem getC_none_keys {k:Int} {ms:List ClaimV} (h:getC k ms=none):k∉ms.map (·.key):=by
 induction ms with
 | nil=>simp
 | cons m r ih=>
  rw [getC] at h
  by_cases q:k=m.key
  ·rw [if_pos q] at h;cases h
  ·rw [if_neg q] at h
   simp only [List.map_cons,List.mem_cons,not_or]
   exact ⟨q,ih h⟩
theorem getC_of_keys {k:Int} {ms:List ClaimV} (h:k∉ms.map (·.key)):getC k ms=none:=by
 induction ms with
 | nil=>rfl
 | cons m r ih=>
  simp only [List.map_cons,List.mem_cons,not_or] at h
  rw [getC,if_neg h.1,ih h.2]
theorem KeysNd.put {ms:List ClaimV} (h:KeysNd ms) (c:ClaimV):KeysNd (putC c ms):=by
 unfold KeysNd
 rw [putC_keys]
 cases hg:getC c.key ms with
 | none=>
  rw [if_neg (by simp),List.nodup_append]
  refine ⟨h,by simp,fun a ha b hb e=>?_⟩
  rw [e,List.mem_singleton.1 hb] at ha
  exact getC_none_keys hg ha
 | some m=>rw [if_pos (by simp)];exact h
theorem claimsTo_nd (hs:List HoldV):∀ n,KeysNd (claimsTo hs n)
 | 0=>List.nodup_nil
 | n+1=>(claimsTo_nd hs n).put _
theorem getC_del {ms:List ClaimV} (h:KeysNd ms) (k x:Int):getC x (delC k ms)=if x=k then none else getC x ms:=by
 induction ms with
 | nil=>simp [delC,getC]
 | cons m r ih=>
  have hn:m.key∉r.map (·.key)∧KeysNd r:=by
   have:=h
   rw [KeysNd,List.map_cons,List.nodup_cons] at this
   exact this
  rw [delC]
  by_cases hk:k=m.key
  ·rw [if_pos hk]
   by_cases hx:x=k
   ·rw [if_pos hx,hx,hk];exact getC_of_keys hn.1
   ·rw [if_neg hx,getC,if_neg (by rw [← hk];exact hx)]
  ·rw [if_neg hk,getC,getC,ih hn.2]
   by_cases hx:x=m.key
   ·rw [if_pos hx,if_pos hx,if_neg (by rw [hx];exact fun e=>hk e.symm)]
   ·rw [if_neg hx,if_neg hx]
theorem delC_sub (k:Int) (ms:List ClaimV):(delC k ms).Sublist ms:=by
 induction ms with
 | nil=>exact List.Sublist.refl _
 | cons m r ih=>
  rw [delC]
  by_cases hk:k=m.key
  ·rw [if_pos hk];exact List.sublist_cons_self _ _
  ·rw [if_neg hk];exact ih.cons_cons m
theorem KeysNd.del {ms:List ClaimV} (h:KeysNd ms) (k:Int):KeysNd (delC k ms):=List.Sublist.nodup ((delC_sub k ms).map _) h
def delTo (tx:Int) (ms:List ClaimV):Nat→List ClaimV
 | 0=>ms
 | n+1=>if (atC ((n:Int)+1) (delTo tx ms n)).tx=tx then delC ((n:Int)+1) (delTo tx ms n) else delTo tx ms n
theorem delTo_nd (tx:Int) {ms:List ClaimV} (h:KeysNd ms):∀ n,KeysNd (delTo tx ms n)
 | 0=>h
 | n+1=>by
  rw [delTo]
  split
  ·exact (delTo_nd tx h n).del _
  ·exact delTo_nd tx h n
theorem getC_delTo (tx:Int) {ms:List ClaimV} (h:KeysNd ms) (x:Int):∀ n:Nat,getC x (delTo tx ms n)=if 1≤x∧x≤(n:Int)∧(atC x ms).tx=tx then none else getC x ms:=by
 intro n
 induction n with
 | zero=>rw [delTo,if_neg (by omega)]
 | succ n ih=>
  have hat:x=(n:Int)+1→atC x (delTo tx ms n)=atC x ms:=fun e=>by
   rw [atC,ih,if_neg (by omega),← atC]
  rw [delTo]
  by_cases hx:x=(n:Int)+1
  ·rw [← hx,hat hx]
   by_cases ht:(atC x ms).tx=tx
   ·rw [if_pos ht,getC_del (delTo_nd tx h n),if_pos rfl,if_pos ⟨by omega,by omega,ht⟩]
   ·rw [if_neg ht,ih,if_neg (by omega),if_neg (fun q=>ht q.2.2)]
  ·have e:(1≤x∧x≤((n+1:Nat):Int)∧(atC x ms).tx=tx) ↔ (1≤x∧x≤(n:Int)∧(atC x ms).tx=tx):=⟨fun q=>⟨q.1,by omega,q.2.2⟩,fun q=>⟨q.1,by omega,q.2.2⟩⟩
   by_cases ht:(atC ((n:Int)+1) (delTo tx ms n)).tx=tx
   ·rw [if_pos ht,getC_del (delTo_nd tx h n),if_neg hx,ih];simp only [e]
   ·rw [if_neg ht,ih];simp only [e]
theorem delTo_place {tx:Int} {ms:List ClaimV} (h:KeysNd ms) {m:Int} (hp:∀ k,0≤(atC k ms).place∧(atC k ms).place≤m) (h0:0≤m) (n:Nat) (k:Int):0≤(atC k (delTo tx ms n)).place∧(atC k (delTo tx ms n)).place≤m:=by
 rw [atC,getC_delTo tx h]
 split
 ·exact ⟨Int.le_refl _,h0⟩
 ·rw [← atC];exact hp k
end Go.Proofs.YtfehemepdoomdaaGreatDoor
namespace Go.Proofs.YtfehemepdoomdaaGreatDoor
def unl (l:Array Bool):Nat:=l.toList.countP (fun b=> !b)
theorem unl_set {l:Array Bool} {i:Nat} (h:l.getD i true=false):unl l=unl (l.setIfInBounds i true)+1:=by
 obtain ⟨xs⟩:=l
 have hi:xs[i]? =some false:=by
  simp only [Array.getD_eq_getD_getElem?,List.getElem?_toArray] at h
  cases hx:xs[i]? with
  | none=>rw [hx] at h;cases h
  | some b=>rw [hx] at h;simp at h;rw [h]
 simp only [unl,List.setIfInBounds_toArray]
 clear h
 induction xs generalizing i with
 | nil=>simp at hi
 | cons x r ih=>
  cases i with
  | zero=>simp at hi;subst hi;simp
  | succ i=>
   simp only [List.getElem?_cons_succ] at hi
   have:=ih hi
   simp only [List.set_cons_succ,List.countP_cons]
   omega
theorem ready_at {md:Region.Mode} {ops:Array Oper} {l:Array Bool} {i:Nat} (h:i∈Region.ready md ops l):l.getD i true=false:=(mem_ready.1 h).1
theorem wpAnyH_inv {P:Program} {ops:Array Oper} {Q:Exit→Act→World→Prop} {md:Region.Mode} {S:World→Prop} (I:Array Bool→Act→World→Prop) (stop:Array Bool→Bool)
  (hstep:∀ l a w,I l a w→stop l=false→Region.ready md ops l≠[]∧∀ i∈Region.ready md ops l,wpOp P ops Q i (fun a' w'=>S w'∧I (l.setIfInBounds i true) a' w') a w)
  (hstop:∀ l a w,I l a w→stop l=true→wpAnyH P md ops Q S (unl l) l a w):
  ∀ (k:Nat) (l:Array Bool) (a:Act) (w:World),unl l=k→I l a w→wpAnyH P md ops Q S k l a w:=by
 intro k
 induction k with
 | zero=>
  intro l a w hk hI
  cases hs:stop l with
  | true=>have:=hstop l a w hI hs;rw [hk] at this;exact this
  | false=>
   obtain ⟨hne,_⟩:=hstep l a w hI hs
   cases hr:Region.ready md ops l with
   | nil=>exact absurd hr hne
   | cons i r=>
    have:=unl_set (ready_at (md:=md) (ops:=ops) (l:=l) (i:=i) (by rw [hr];exact List.mem_cons_self))
    omega
 | succ k ih=>
  intro l a w hk hI
  cases hs:stop l with
  | true=>have:=hstop l a w hI hs;rw [hk] at this;exact this
  | false=>
   obtain ⟨hne,hall⟩:=hstep l a w hI hs
   refine ⟨fun h0=>absurd h0 hne,fun i hi=>?_⟩
   have hu:=unl_set (ready_at hi)
   exact wpOp_mono (fun a' w' h=>⟨h.1,ih _ a' w' (by omega) h.2⟩) (hall i hi)
theorem wpOp_inv {P:Program} {ops:Array Oper} {Q:Exit→Act→World→Prop} {i:Nat} {o:Oper} {a:Act} {w:World} {K:Act→World→Prop} (ho:ops[i]? =some o)
  (h:∀ K':Act→World→Prop,Shut (∀ a w,K a w→K' a w)→if Region.wanted o (yielded ops a.tmps)=true then Oper.wp P o a w K' Q else K' (a.put o.dst undef) w):wpOp P ops Q i K a w:=
 wpOp_step ho (fun K' hK=>h K' hK)
theorem inv_step {P:Program} {ops:Array Oper} {Q:Exit→Act→World→Prop} {md:Region.Mode} {l:Array Bool} {a:Act} {w:World} {K:Nat→Act→World→Prop} (alt:Nat→Bool) (hr:(!(Region.ready md ops l).isEmpty && (Region.ready md ops l).all alt)=true)
  (h:∀ j,alt j=true→wpOp P ops Q j (K j) a w):Region.ready md ops l≠[]∧∀ i∈Region.ready md ops l,wpOp P ops Q i (K i) a w:=by
 rw [Bool.and_eq_true,List.all_eq_true] at hr
 refine ⟨fun h0=>?_,fun i hi=>h i (hr.2 i hi)⟩
 rw [h0] at hr
 exact absurd hr.1 (by simp)
end Go.Proofs.YtfehemepdoomdaaGreatDoor