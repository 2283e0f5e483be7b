/- Several texts in one, in their order. -/
import Derived.RangeFuncNested
import Derived.RangeFuncBound
import Derived.RangeFuncCalls
import Derived.RangeFuncLeaves
import Derived.Shelf.Abstract
import Derived.Shelf.RegionOpen
import Derived.WalkKit
import Derived.OwnWalkIn
import Derived.TacticsInMore
import Derived.LoopNIn
import Derived.LoopIn
import Derived.Test.YtcoeamamaifoeaaGreatDoorPCrashx1
import Derived.Deep.MidRow
import Derived.Sort.CutIn
import Derived.Test.YtcoeamamaifoeaaGreatDoorPCrashx20
import Derived.Test.YtcoeamamaifoeaaGreatDoorPCrashx6
import Derived.Test.YtcoeamamaifoeaaGreatDoorPCrashx10
set_option maxHeartbeats 8000000
set_option maxRecDepth 100000
namespace Go.Proofs.YtcoeamamaifoeaaGreatDoor
open Go.RowKit Go.Shelf
theorem stepIn_value {F:Fence} {n:Nat} {P:Program} {ops:Array Oper} {rest:List Oper} {o:Oper} {a:Act} {w w':World} {Q:Exit→Act→World→Prop} {v:Value} (hgd:o.guard=none) (hF:∀ f,F.fn f) (hs:o.semAt F.round a.eval=execOp a.eval o)
  (hrun:(execOp a.eval o).run P w=.ok (.value v) w') (h:wpListIn F n P ops Q rest (a.put o.dst v) w'):wpListIn F n P ops Q (o::rest) a w:=
 wpListIn_plain hgd fun K hK=>⟨fun f _=>hF f,by rw [hs,hrun,Oper.uponIn_value];exact hK _ _ h⟩
theorem stepIn_skip {F:Fence} {n:Nat} {P:Program} {ops:Array Oper} {rest:List Oper} {o:Oper} {a:Act} {w w':World} {Q:Exit→Act→World→Prop} (hgd:o.guard=none) (hF:∀ f,F.fn f) (hs:o.semAt F.round a.eval=execOp a.eval o)
  (hrun:(execOp a.eval o).run P w=.ok .skip w') (h:wpListIn F n P ops Q rest (a.put o.dst undef) w'):wpListIn F n P ops Q (o::rest) a w:=
 wpListIn_plain hgd fun K hK=>⟨fun f _=>hF f,by rw [hs,hrun,Oper.uponIn_skip];exact hK _ _ h⟩
theorem loadIn_mid {F:Fence} {n:Nat} {P:Program} {ops:Array Oper} {rest:List Oper} {op:Oper} {a:Act} {w:World} {Q:Exit→Act→World→Prop} (hgd:op.guard=none) (hF:∀ f,F.fn f) (hs:op.semAt F.round a.eval=execOp a.eval op) (ty:TypeId) (x:Operand) (ho:op.op=.load ty x)
  (b o:Nat) (hx:a.eval x=.pointer (some ⟨b,o,none⟩)) (cs:List Value) (d:TypeDesc) (hc:w.rangeAt b o cs)
  (hu:P.underlying ty=some d) (hd:d.isRow=true) (hi:(P.info? ty).map (·.size)=some cs.length)
  (h:wpListIn F n P ops Q rest (a.put op.dst (.agg cs.toArray)) w):wpListIn F n P ops Q (op::rest) a w:=by
 refine stepIn_value hgd hF hs (v:=.agg cs.toArray) ?_ h
 unfold execOp
 simp only [ho,hx,Instr.loadAt,Instr.sureAddr,Sem.run_bind,Sem.run_pure,Result.andThen_ok,run_loadVar_mid w b o ty cs d hc hu hd hi]
theorem storeIn_mid {F:Fence} {n:Nat} {P:Program} {ops:Array Oper} {rest:List Oper} {op:Oper} {a:Act} {w:World} {Q:Exit→Act→World→Prop} (hgd:op.guard=none) (hF:∀ f,F.fn f) (hs:op.semAt F.round a.eval=execOp a.eval op) (ty:TypeId) (x y:Operand) (ho:op.op=.store ty x y)
  (b o:Nat) (cs:Array Value) (hx:a.eval x=.pointer (some ⟨b,o,none⟩)) (hy:a.eval y=.agg cs) (ht:w.there b o cs.size)
  (hi:(P.info? ty).map (·.size)=some cs.size) (h1:cs.all (·.oneCell')=true)
  (h:wpListIn F n P ops Q rest (a.put op.dst undef) (w.setCells b o cs.toList)):wpListIn F n P ops Q (op::rest) a w:=by
 refine stepIn_skip hgd hF hs ?_ h
 unfold execOp
 simp only [ho,hx,hy,Sem.run_bind,Sem.run_pure,Result.andThen_ok,run_storeAt_mid w b o ty cs ht hi h1]
theorem rangeFunc_here {n:Nat} {P:Program} {g:Operand} {ps:Array Tmp} {assign body:Code} {Q:Exit→Act→World→Prop} {a:Act} {w:World} {gf:Nat} {lb:Array Value} (hg:a.eval g=.func (.func gf) #[] lb) (eg:∀ args w,(callFunc gf args).run P w=.ok (.enter gf args) w)
  (h:∀ (r:Loop) (W1:World),r.state=.ready→r.pending=none→r.tmps=a.tmps→r.params=ps→r.assign=assign→r.body=body→W1.heap[w.heap.size+1]? =some (.loop r)→W1.heap[w.heap.size]? =some (.deferred (some []))→Below w.heap.size w W1→W1.heap.size=w.heap.size+2→
   CallsIn Fence.wide (n-1) P gf (#[.func (.yield (w.heap.size+1)) #[] #[]]++lb) W1 (rangePost Fence.wide n P (w.heap.size+1) Q { a with defers:=[{ target:=.collected w.heap.size,args:=#[] }]++a.defers })):
  (Code.rangeFunc g ps assign body).wpIn Fence.wide n P Q a w:=by
 refine wpIn_rangeFunc ?_
 intro fn _
 obtain ⟨r,hr⟩:∃ r:Loop,({ state:=.ready,pending:=none,fn:=fn,tmps:=a.tmps,params:=ps,assign:=assign,body:=body,defers:=w.heap.size }:Loop)=r:=⟨_,rfl⟩
 obtain ⟨W1,hW1⟩:∃ W1,(w.alloc (.deferred (some []))).alloc (.loop r)=W1:=⟨_,rfl⟩
 have hL:W1.heap[w.heap.size+1]? =some (.loop r):=by
  rw [← hW1]
  have:=World.alloc_heap_new (w.alloc (.deferred (some []))) (.loop r)
  rwa [World.size_alloc] at this
 have hD:W1.heap[w.heap.size]? =some (.deferred (some [])):=by
  rw [← hW1]
  exact (Below.heap_alloc _ _ _ (by simp)).trans (World.alloc_heap_new w _)
 have hB:Below w.heap.size w W1:=by
  rw [← hW1]
  exact ((Below.refl _ w).alloc (Nat.le_refl _) _).alloc (by simp) _
 have hS:W1.heap.size=w.heap.size+2:=by rw [← hW1];simp
 have hc:=h r W1 (by rw [← hr]) (by rw [← hr]) (by rw [← hr]) (by rw [← hr]) (by rw [← hr]) (by rw [← hr]) hL hD hB hS
 refine ⟨w.heap.size+1,[{ target:=.collected w.heap.size,args:=#[] }],W1,{ target:=.fn (.func gf) lb,args:=#[.func (.yield (w.heap.size+1)) #[] #[]] },W1,gf,#[.func (.yield (w.heap.size+1)) #[] #[]]++lb,W1,?_,?_,?_,?_,?_,?_⟩
 ·rw [← hW1,← hr]
  exact run_enterLoop_outer fn a.tmps ps assign body
 ·simp only [resolve,hg]
  simp [go_sem]
 ·intro f' _
  trivial
 ·simp [invoke,go_sem,eg]
 ·intro hh
  have hn:Fence.wide.depth.isSome=false:=rfl
  rw [hn] at hh
  cases hh
 ·exact hc
theorem within_putObj (w:World) (l:Nat) (o:Obj):Within l (l+1) w (w.putObj l o)∧(w.putObj l o).heap.size=w.heap.size:=by
 refine ⟨⟨rfl,rfl,rfl,by simp [World.putObj],fun k _ hn=>World.putObj_heap_other (by omega)⟩,by simp [World.putObj]⟩
theorem yield_here {m:Nat} {P:Program} {l:Nat} {r:Loop} {args:Array Value} {W:World} {R:Ending→World→Prop} (hL:W.heap[l]? =some (.loop r)) (hs:args.size=r.params.size) (hrd:r.state=.ready)
  (h:r.assign.wpIn (Fence.wide.inRound l) m P (Exit.then (fun a1 w1=>w1.heap[l]? =some (.loop r)∧∀ V,V.heap[l]? =some (.loop { r with state:=.busy })→Within l (l+1) w1 V→V.heap.size=w1.heap.size→r.body.wpIn (Fence.wide.inRound l) m P (roundPost P l R) a1 V) (fun _ _ _=>False))
   { tmps:=(r.params.zip args).foldl (fun t (p,v)=>t.setIfInBounds p v) r.tmps,defers:=[] } W):YieldAt Fence.wide m P l args W R:=by
 refine ⟨r.fn,_,r.assign,r.body,run_yield hL hs,roundIn_of_wpIn trivial (wpIn_mono h ?_)⟩
 intro e a1 w1 hp
 cases e with
 | normal=>exact ⟨_,run_beginRound hp.1 hrd,hp.2 _ (World.putObj_heap_same (Array.getElem?_eq_some_iff.1 hp.1).1) (within_putObj w1 l _).1 (within_putObj w1 l _).2⟩
 | exit id=>exact hp.elim
 | goto t=>exact hp.elim
 | ret=>exact hp.elim
 | panic ch=>exact hp.elim
 | outgrown=>exact hp.elim
theorem end_here {P:Program} {l:Nat} {r:Loop} {V:World} (jump:Option Code) (hL:V.heap[l]? =some (.loop r)):
  ∃ X,(Instr.endRound l jump).run P V=.ok (.bool jump.isNone) X∧X.heap[l]? =some (.loop { r with state:=if jump.isNone then .ready else .done,pending:=jump })∧Within l (l+1) V X∧X.heap.size=V.heap.size:=
 ⟨_,run_endRound jump hL,World.putObj_heap_same (Array.getElem?_eq_some_iff.1 hL).1,(within_putObj V l _).1,(within_putObj V l _).2⟩
theorem end_go {P:Program} {l:Nat} {r:Loop} {V:World} (hst:r.state=.ready) (hpd:r.pending=none) (hL:V.heap[l]? =some (.loop { r with state:=.busy })):
  ∃ X,(Instr.endRound l none).run P V=.ok (.bool true) X∧X.heap[l]? =some (.loop r)∧Within l (l+1) V X∧X.heap.size=V.heap.size:=by
 obtain ⟨X,h1,h2,h3,h4⟩:=end_here (P:=P) (r:={ r with state:=.busy }) none hL
 refine ⟨X,h1,?_,h3,h4⟩
 rw [h2]
 cases r
 simp only at hst hpd
 subst hst hpd
 rfl
end Go.Proofs.YtcoeamamaifoeaaGreatDoor
namespace Go.Proofs.YtcoeamamaifoeaaGreatDoor
open Go.RowKit Go.Shelf
attribute [local go_sem] Oper.semAt_some
theorem append_intsIn {F:Fence} {n:Nat} {w:World} {ops:Array Oper} {rest:List Oper} {o:Oper} {act:Act} {Q:Exit→Act→World→Prop} (hgd:o.guard=none) (hF:∀ f,F.fn f) (hsm:o.semAt F.round act.eval=execOp act.eval o) (s x:Operand)
  (ho:o.op=.call { callee:=.builtin .append,args:=#[s,x],argTypes:=#[22,22] })
  (lo hi:Nat) (a:Option Addr) (c:Nat) (xs:List Int) (hs:act.eval s=.slice a xs.length c) (hown:OwnI w lo hi a c xs)
  (sa:Option Addr) (sc:Nat) (zs:List Int) (hx:act.eval x=.slice sa zs.length sc) (hr:ReadsI w sa zs) (hc:sa=none→sc=0)
  (hb:xs.length+zs.length≤1099511627776) (hlo:lo≤w.heap.size)
  (h:∀ a' c' ys w',Hid (ys=xs++zs)→OwnI w' lo w'.heap.size a' c' ys→w.grownBy w' (Value.slice a xs.length c).ownBlock→(∀ k,(Value.slice a' ys.length c').ownBlock=some k→(Value.slice a xs.length c).ownBlock=some k∨k=w.heap.size)→wpListIn F n Tryz.prog ops Q rest (act.put o.dst (.slice a' ys.length c')) w'):
  wpListIn F n Tryz.prog ops Q (o::rest) act w:=by
 obtain ⟨a',c',ys,w',hrun,h1,h2,h3,h4⟩:=run_append_ints (w:=w) o.type lo hi a c xs hown sa sc zs hr hc hb hlo
 refine stepIn_value hgd hF hsm ?_ (h a' c' ys w' h1 h2 h3 h4)
 unfold execOp
 simp only [ho,resolve,invoke,builtin,Sem.run_bind,Sem.run_pure,Result.andThen_ok,List.map_toArray,List.map_cons,List.map_nil,hs,hx,hrun]
theorem backward_any (a:Option Addr) (n c:Nat) (w:World):
  Calls Tryz.prog 159 #[.slice a n c] w fun e w'=>e=.returned (.func (.func 165) #[] #[.pointer (some ⟨w.heap.size,0,none⟩)])∧w'=w.alloc (.cells #[.slice a n c] 52):=by
 have hmf:∀ (fn:Fn) (first cap:Array Value) (w:World),(Instr.makeFunc fn first cap).run Tryz.prog w=.ok (.func fn first cap) w:=fun _ _ _ _=>rfl
 go_enter Tryz.func159,Tryz.ntmps159
 go_wp2
 go_ret
 exact ⟨rfl,rfl⟩
theorem backward_in (m L B3:Nat) (a:Option Addr) (c:Nat) (rs:List RecA) (hl:rs.length≤1099511627776) (J:Nat→World→Prop)
  (hJ:∀ k W,J k W→Box W B3 [.slice a rs.length c] 52∧ReadsRs W a rs)
  (hY:∀ k W,k<rs.length→J (k+1) W→YieldAt Fence.wide m Tryz.prog L #[.int .i64 (k:Int),.agg (rs.getD k zeroR).cells.toArray] W fun e W'=>e=.returned (.bool true)∧J k W')
  (W:World) (h0:J rs.length W):
  CallsIn Fence.wide (m+1) Tryz.prog 165 #[.func (.yield L) #[] #[],.pointer (some ⟨B3,0,none⟩)] W fun e W'=>(∃ v,e=.returned v)∧J 0 W':=by
 have HI:Hid ((Tryz.prog.info? 100).map (·.size)=some 15):=by rw [Hid];kernel_rfl
 refine callsIn_of_wp Tryz.func165 rfl trivial ?_ rfl
 simp only [Tryz.ntmps165,List.size_toArray,List.length_cons,List.length_nil,Nat.reduceAdd,Nat.reduceSub,Array.replicate_succ,Array.replicate_zero,List.push_toArray,List.append_toArray,List.nil_append,List.cons_append]
 have x0:=(hJ _ _ h0).1.cell 0 _ rfl
 gi_wp2
 clear x0
 gi_loopw [3] (fun i wr=>∃ k:Nat,i=.int .i64 ((k:Int)-1)∧k≤rs.length∧J k wr) (fun i _=>(intOf i+1).toNat)
 case atStart=>exact ⟨rs.length,by go_num,Nat.le_refl _,h0⟩
 case round=>
  obtain ⟨k,rfl,hk,hj⟩:=hrel
  obtain ⟨bx,hrd⟩:=hJ k wr hj
  cases k with
  | zero=>
   gi_wp2
   exact bodyPost_end (results_none rfl _ _ _) rfl ⟨⟨_,rfl⟩,hj⟩
  | succ k=>
   have x0:=bx.cell 0 _ rfl
   obtain ⟨b,off,rfl,hcell⟩:=hrd (by rintro rfl;simp at hk)
   have R3:=(hcell k (by omega)).1
   obtain ⟨fn,tmps,assign,body,hy,hR⟩:=hY k wr (by omega) hj
   have hkk:(k:Int)<(rs.length:Int):=by omega
   have hi0:(0:Int)≤(k:Int):=by omega
   have hk1:((k+1:Nat):Int)-1=(k:Int):=by omega
   rw [hk1]
   clear hcell bx hrd hj
   generalize rs.getD k zeroR=z at*
   gi_wp2_with (first | (guard_target=wpListIn _ _ _ _ _ (Oper.mk (some 16) _ _ _ _ _::_) _ _;refine loadIn_mid rfl (fun _=>trivial) rfl 100 (.tmp 15) rfl b (off+k*15) rfl z.cells _ R3 Tryz.underlying100 rfl HI.out ?_) | fail)
   refine hR.mono ?_
   rintro e W4 ⟨rfl,hj4⟩
   gi_wp2
   go_roundw
   case rel=>exact ⟨k,by go_num,by omega,hj4⟩
   case measure=>simp [intOf]
end Go.Proofs.YtcoeamamaifoeaaGreatDoor
namespace Go.Proofs.YtcoeamamaifoeaaGreatDoor
open Go.RowKit Go.Shelf
attribute [local go_sem] Oper.semAt_some
theorem OwnI.stayed {w w':World} {lo hi:Nat} {a:Option Addr} {c:Nat} {ns:List Int} (h:OwnI w lo hi a c ns) (hs:w.heap.size≤w'.heap.size) (hb:∀ k,(Value.slice a ns.length c).ownBlock=some k→w'.heap[k]? =w.heap[k]?):OwnI w' lo hi a c ns:=
 ⟨ownsRow_block h.1 hb,Nat.le_trans h.2.1 hs,h.2.2⟩
theorem chain_appended {w V w3:World} {B T:Nat} {r:Loop} {x:Int} {a:Option Addr} {c n lc ln:Nat} {la:Option Addr} {tx:Int} (hg:(V.alloc (.cells #[.int .i64 x] 3)).grownBy w3 (Value.slice a n c).ownBlock)
  (kV:Box V (B+1+1+1) [.slice a n c] 22) (tV:Box V (B+1) [.int .i64 tx] 3) (rV:Box V (B+1+1+1+1) [.slice la ln lc] 52)
  (hL:V.heap[B+1+1+1+1+1+1]? =some (.loop r)) (hD:V.heap[B+1+1+1+1+1]? =some (.deferred (some []))) (BV:Below w.heap.size w V) (hB:w.heap.size≤B) (hT:B+1+1+1+1+1+1<T)
  (oB:∀ k,(Value.slice a n c).ownBlock=some k→k=B+1+1∨T≤k):
  Box w3 (B+1+1+1) [.slice a n c] 22∧Box w3 (B+1) [.int .i64 tx] 3∧Box w3 (B+1+1+1+1) [.slice la ln lc] 52∧w3.heap[B+1+1+1+1+1+1]? =some (.loop r)∧w3.heap[B+1+1+1+1+1]? =some (.deferred (some []))∧Below w.heap.size w w3∧V.heap.size<w3.heap.size:=by
 have hA:Below V.heap.size V (V.alloc (.cells #[.int .i64 x] 3)):=(Below.refl _ _).alloc (Nat.le_refl _) _
 have hs:(V.alloc (.cells #[.int .i64 x] 3)).heap.size=V.heap.size+1:=by simp
 have hb:∀ k,k<V.heap.size→k≠B+1+1→k<T→w3.heap[k]? =V.heap[k]? :=fun k hk h2 h3=>(hg.block k (by omega) (fun e=>by have:=oB k e.symm;omega)).trans (hA.block k hk)
 have hl1:=(Array.getElem?_eq_some_iff.1 hL).1
 have hl2:=(Array.getElem?_eq_some_iff.1 hD).1
 have k1:=kV.lt
 have k2:=tV.lt
 have k3:=rV.lt
 refine ⟨kV.block (hb _ k1 (by omega) (by omega)),tV.block (hb _ k2 (by omega) (by omega)),rV.block (hb _ k3 (by omega) (by omega)),(hb _ hl1 (by omega) (by omega)).trans hL,(hb _ hl2 (by omega) (by omega)).trans hD,?_,by have:=hg.size;omega⟩
 exact ⟨hg.os.trans BV.os,hg.tape.trans BV.tape,hg.output.trans BV.output,Nat.le_trans BV.size (by have:=hg.size;omega),fun k hk=>(hb k (by have:=BV.size;omega) (by omega) (by omega)).trans (BV.block k hk)⟩
structure ChJ (w:World) (B L D T:Nat) (r:Loop) (la:Option Addr) (lc:Nat) (rs:List RecA) (tx:Int) (R:List Int) (k:Nat) (W:World):Prop where
 own:∃ a c,∃ ys:List Int,Box W (B+1+1+1) [.slice a ys.length c] 22∧OwnI W (B+1+1) W.heap.size a c ys∧(∀ k,(Value.slice a ys.length c).ownBlock=some k→k=B+1+1∨T≤k)∧ys++chainDown tx (rs.map RecA.v) k=R∧ys.length+k≤rs.length
 tx:Box W (B+1) [.int .i64 tx] 3
 row:Box W (B+1+1+1+1) [.slice la rs.length lc] 52
 loop:W.heap[L]? =some (.loop r)
 dfr:W.heap[D]? =some (.deferred (some []))
 bel:Below w.heap.size w W
 top:T≤W.heap.size
theorem implChain_any (l:LogA) (tx:Int) (w:World) (hr:l.reads w) (hl:l.recs.length≤1048576):
  Calls Tryz.prog 140 #[.agg l.cells.toArray,.int .i64 tx] w fun e w'=>∃ a c,∃ ys:List Int,e=.returned (.slice a ys.length c)∧Hid (ys=chainOf l.v tx)∧OwnI w' w.heap.size w'.heap.size a c ys∧Below w.heap.size w w':=by
 obtain ⟨rs,sure,la,lc⟩:=l
 simp only [LogA.cells,LogA.reads,LogA.v] at*
 have HF:Hid ([]++chainDown tx (rs.map RecA.v) rs.length=chainOf ⟨rs.map RecA.v,sure⟩ tx):=by rw [Hid];simp [chainOf]
 generalize chainOf ⟨rs.map RecA.v,sure⟩ tx=R at*
 refine (callsIn_wide (n:=4)).1 ?_
 refine callsIn_of_wp_marks Tryz.func140 rfl trivial ?_ rfl
 simp only [Tryz.ntmps140,List.size_toArray,List.length_cons,List.length_nil,Nat.reduceAdd,Nat.reduceSub,Array.replicate_succ,Array.replicate_zero,List.push_toArray,List.append_toArray,List.nil_append,List.cons_append]
 obtain ⟨W0,hW0,b0,b1,b2,hbW0,hsW0⟩:=boxes3 w [.slice la rs.length lc,.int .i64 sure] [.int .i64 tx] [] 54 3 3
 obtain ⟨W,hW,b3,hb1,hs1⟩:=boxes1 W0 [.slice (some ⟨w.heap.size+1+1,0,none⟩) 0 0] 22
 rw [hsW0] at b3
 have hbW:Below w.heap.size w W:=hbW0.trans (hb1.mono hbW0.size)
 have k0:=b0.below hb1 b0.lt
 have k1:=b1.below hb1 b1.lt
 have k2:=b2.below hb1 b2.lt
 have k3:Box W (w.heap.size+1+1+1) [.slice (some ⟨w.heap.size+1+1,0,none⟩) 0 0] 22:=b3
 have HSW:Hid (W.heap.size=w.heap.size+1+1+1+1):=by rw [Hid];omega
 have hsW1:W.heap.size≤w.heap.size+1+1+1+1:=by omega
 have hsW2:w.heap.size+1+1+1+1≤W.heap.size:=by omega
 have o2:OwnI W (w.heap.size+1+1) W.heap.size (some ⟨w.heap.size+1+1,0,none⟩) 0 []:=by
  have h:=ownI_lit0 ((w.alloc (.cells #[.slice la rs.length lc,.int .i64 sure] 54)).alloc (.cells #[.int .i64 tx] 3))
  have e:(((w.alloc (.cells #[.slice la rs.length lc,.int .i64 sure] 54)).alloc (.cells #[.int .i64 tx] 3)).alloc (.cells #[] 3))=W0:=hW0.out
  rw [e,World.size_alloc,World.size_alloc] at h
  exact (h.below hb1).widen (by omega) (by omega) (by omega)
 clear hsW0 hs1 b0 b1 b2 b3 hb1 hbW0 k2
 have x0:=k0.cell 0 _ rfl
 have HI:Hid ((Tryz.prog.info? 100).map (·.size)=some 15):=by rw [Hid];kernel_rfl
 have hW':(((w.alloc (.cells #[.slice la rs.length lc,.int .i64 sure] 54)).alloc (.cells #[.int .i64 tx] 3)).alloc (.cells #[] 3)).alloc (.cells #[.slice (some ⟨w.heap.size+1+1,0,none⟩) 0 0] 22)=W:=by rw [← hW.out,← hW0.out]
 have HW':Hid (_=W):=hW'
 clear hW' hW hW0
 gi_upto_region 2 with fail
 rw [HW'.out]
 clear HW'
 gi_wp2_with fail
 refine ⟨trivial,?_⟩
 gi_at_call 159
 refine (callsIn_wide.2 (backward_any la rs.length lc W)).mono ?_
 rintro e w1 ⟨rfl,h1⟩
 obtain ⟨W3,hW3,b4,hb3,hs3⟩:=boxes1 W [.slice la rs.length lc] 52
 have hW3':W.alloc (.cells #[.slice la rs.length lc] 52)=W3:=hW3.out
 rw [hW3'] at h1
 subst h1
 have HS3:Hid (w1.heap.size=w.heap.size+1+1+1+1+1):=by rw [Hid,hs3,HSW.out]
 have k13:=k1.below hb3 k1.lt
 have k33:=k3.below hb3 k3.lt
 have o23:=o2.below hb3
 have D3:Below w.heap.size w w1:=hbW.trans (hb3.mono hbW.size)
 clear hW3 hW3' hs3 k0 k1 k3 x0 o2
 rw [HSW.out] at b4
 gi_wp2_with fail
 refine rangeFunc_here (gf:=165) (lb:=#[.pointer (some ⟨W.heap.size,0,none⟩)]) rfl (enters_of Tryz.func165 (by kernel_rfl) rfl) ?_
 intro r W4 hst hpd htm hps has hbd hL hD hB4 hS4
 have HBD:Hid (r.body=_):=hbd
 have HAS:Hid (r.assign=_):=has
 have HTM:Hid (r.tmps=_):=htm
 have HPS:Hid (r.params=_):=hps
 have HST:Hid (r.state=_):=hst
 have HPD:Hid (r.pending=none):=hpd
 clear hst hpd htm hps has hbd
 rw [HS3.out] at hL hD hS4
 have hlo6:w.heap.size+1+1+1+1+1+1<W4.heap.size:=by omega
 clear hS4
 rw [show #[Value.func (.yield (w1.heap.size+1)) #[] #[]]++#[Value.pointer (some ⟨W.heap.size,0,none⟩)]=#[Value.func (.yield (w1.heap.size+1)) #[] #[],Value.pointer (some ⟨W.heap.size,0,none⟩)] from rfl,HS3.out,HSW.out]
 have hJ0:ChJ w w.heap.size (w.heap.size+1+1+1+1+1+1) (w.heap.size+1+1+1+1+1) W4.heap.size r la lc rs tx R rs.length W4:=
  ⟨⟨some ⟨w.heap.size+1+1,0,none⟩,0,[],k33.below hB4 k33.lt,(o23.below hB4).widen (Nat.le_refl _) (by have:=hB4.size;have:=hb3.size;omega) (Nat.le_refl _),fun k hk=>by cases hk;exact .inl rfl,HF.out,by simp⟩,k13.below hB4 k13.lt,b4.below hB4 b4.lt,hL,hD,D3.trans (hB4.mono D3.size),Nat.le_refl _⟩
 refine (backward_in 2 (w.heap.size+1+1+1+1+1+1) (w.heap.size+1+1+1+1) la lc rs (by omega) (ChJ w w.heap.size (w.heap.size+1+1+1+1+1+1) (w.heap.size+1+1+1+1+1) W4.heap.size r la lc rs tx R) ?_ ?_ W4 hJ0).mono ?_
 ·intro k X j
  exact ⟨j.row,hr.below j.bel⟩
 ·intro k X hk j
  obtain ⟨a,c,ys,kR,oR,oB,hEq,hLen⟩:=j.own
  have HS0:Hid (_=R):=chain_step tx rs k ys R hEq
  clear hEq
  generalize rs.getD k zeroR=z at*
  obtain ⟨X1,hX1,z1,hb1,hs1⟩:=boxes1 X [.int .i64 0,.int .i64 0,.int .i64 0,.int .i64 0,.int .i64 0,.bool false,.int .i64 0,.slice none 0 0,.slice none 0 0,.bool false,.int .i64 0,.slice none 0 0,.slice none 0 0,.int .i64 0,.slice none 0 0] 100
  obtain ⟨X2,hX2,hw2,hs2,HT2,_,z2⟩:=rec_out z _ rfl z1
  have N2:Below X.heap.size X X2:=hb1.trans (hw2.below (Nat.le_refl _) (by omega))
  have hT:=j.top
  have hlt2:=z2.lt
  have hs2':=N2.size
  have kR2:=kR.below N2 kR.lt
  have oR2:=oR.below N2
  have tx2:=j.tx.below N2 j.tx.lt
  have row2:=j.row.below N2 j.row.lt
  have L2:=(N2.block _ (Array.getElem?_eq_some_iff.1 j.loop).1).trans j.loop
  have d2:=(N2.block _ (Array.getElem?_eq_some_iff.1 j.dfr).1).trans j.dfr
  have B2:=j.bel.trans (N2.mono j.bel.size)
  have hOt:=rec_one z
  clear z1 hb1 hw2 hs1 hs2 kR oR
  refine yield_here j.loop (by rw [HPS.out];rfl) HST.out ?_
  rw [HAS.out,HPS.out,HTM.out]
  simp only [List.zip_toArray,List.zip_cons_cons,List.zip_nil_right,List.foldl_toArray',List.foldl_cons,List.foldl_nil,List.setIfInBounds_toArray,List.set_cons_zero,List.set_cons_succ]
  gi_wp2_with (first | (guard_target=wpListIn _ _ _ _ _ (Oper.mk none (Op.store _ (Operand.tmp 7) _) _ _ _ _::_) _ _;refine storeIn_mid rfl (fun _=>trivial) rfl 100 (.tmp 7) (.tmp 13) rfl X.heap.size 0 z.cells.toArray rfl rfl (by rw [hX1.out];exact HT2.out) HI.out hOt ?_;rw [hX1.out,show X1.setCells X.heap.size 0 z.cells.toArray.toList=X2 from hX2.out]) | fail)
  clear hX1 hX2 HT2 hOt
  intro V hVL0 hVw hVs
  have hVL:V.heap[w.heap.size+1+1+1+1+1+1]? =some (.loop { r with state:=.busy }):=hVL0.trans (by rw [HAS.out,HPS.out,HTM.out])
  clear hVL0
  rw [HBD.out]
  have hVs1:=Nat.le_of_eq hVs
  have hVs2:=Nat.le_of_eq hVs.symm
  clear hVs
  have kV:=kR2.within hVw (by omega)
  have zV:=z2.within hVw (by omega)
  have tV:=tx2.within hVw (by omega)
  have rV:=row2.within hVw (by omega)
  have oV:OwnI V (w.heap.size+1+1) X.heap.size a c ys:=oR2.stayed hVw.size (fun k hk=>hVw.block k (by have:=oR2.2.2 k hk;omega) (by have:=oB k hk;omega))
  have dV:=(hVw.block _ (Array.getElem?_eq_some_iff.1 d2).1 (by omega)).trans d2
  have BV:Below w.heap.size w V:=B2.trans (hVw.below (by omega) (by have:=B2.size;omega))
  have hbl:=j.bel.size
  clear hVw j kR2 oR2 z2 tx2 row2 L2 d2 B2 N2
  have x0:=kV.cell 0 _ rfl
  have xf:=kV.frozen 0
  have t0:=tV.cell 0 _ rfl
  have z0:V.cell? ⟨X.heap.size,0,none⟩=some (.int .i64 z.lsn):=zV.cell 0 _ rfl
  have z1:V.cell? ⟨X.heap.size,1,none⟩=some (.int .i64 z.tx):=zV.cell 1 _ rfl
  have z3:V.cell? ⟨X.heap.size,3,none⟩=some (.int .i64 z.kind):=zV.cell 3 _ rfl
  clear zV
  have HS:=HS0.out
  clear HS0
  by_cases hq:ofTx tx z.v=true
  ·have HS':Hid ((ys++[z.lsn])++chainDown tx (rs.map RecA.v) k=R):=by rw [if_pos hq] at HS;exact HS
   have h6b:(z.kind != 6)=true:=by simp [ofTx,RecA.v] at hq;simpa using hq.2
   have hqb:(z.tx == tx)=true:=by simp [ofTx,RecA.v] at hq;simpa using hq.1
   clear HS hq
   have hA:Below V.heap.size V (V.alloc (.cells #[.int .i64 z.lsn] 3)):=(Below.refl _ _).alloc (Nat.le_refl _) _
   have oA:=oV.below hA
   gi_wp2_with (first | (guard_target=wpListIn _ _ _ _ _ (Oper.mk (some 27) _ _ _ _ _::_) _ _;refine append_intsIn rfl (fun _=>trivial) rfl _ _ rfl (w.heap.size+1+1) X.heap.size a c ys rfl oA _ _ [z.lsn] rfl (readsI_cell V z.lsn _) (fun h=>by cases h) (by simp;omega) (by simp;omega) ?_;intro a3 c3 y3 w3 hy3 ho3 hg3 hk3;have HA:=chain_appended (B:=w.heap.size) (T:=W4.heap.size) hg3 kV tV rV hVL dV BV (by omega) (by omega) oB;obtain ⟨kA,tA,rA,LA,dA,BA,hsA⟩:=HA;have m0:=kA.cell 0 _ rfl;have mf:=kA.frozen 0) | fail)
   obtain ⟨U,hU,kU,hwU,hsU⟩:=box_set kA 0 (.slice a3 y3.length c3)
   simp only [List.set] at kU
   rw [hU.out]
   have oB3:∀ k,(Value.slice a3 y3.length c3).ownBlock=some k→k=w.heap.size+1+1∨W4.heap.size≤k:=fun k hk=>(hk3 k hk).elim (fun h=>oB k h) (fun h=>.inr (by rw [World.size_alloc] at h;omega))
   have LU:=(hwU.block _ (Array.getElem?_eq_some_iff.1 LA).1 (by omega)).trans LA
   have dU:=(hwU.block _ (Array.getElem?_eq_some_iff.1 dA).1 (by omega)).trans dA
   have oU:OwnI U (w.heap.size+1+1) w3.heap.size a3 c3 y3:=ho3.stayed hwU.size (fun k hk=>hwU.block k (ho3.2.2 k hk) (by have:=oB3 k hk;omega))
   have BU:Below w.heap.size w U:=BA.trans (hwU.below (by omega) (by omega))
   have tU:=tA.within hwU (by omega)
   have rU:=rA.within hwU (by omega)
   obtain ⟨Y,hrun,hYL,hYw,hYs⟩:=end_go (P:=Tryz.prog) (V:=U) (r:=r) HST.out HPD.out LU
   refine ⟨_,Y,hrun,rfl,⟨a3,c3,y3,kU.within hYw (by omega),?_,oB3,by rw [hy3.out];exact HS'.out,by rw [hy3.out];simp;omega⟩,tU.within hYw (by omega),rU.within hYw (by omega),hYL,(hYw.block _ (Array.getElem?_eq_some_iff.1 dU).1 (by omega)).trans dU,BU.trans (hYw.below (by omega) (by omega)),by omega⟩
   exact (oU.stayed hYw.size (fun k hk=>hYw.block k (by have:=oU.2.2 k hk;have:=hwU.size;omega) (by have:=oB3 k hk;omega))).widen (Nat.le_refl _) (by omega) (Nat.le_refl _)
  ·have HS':Hid (ys++chainDown tx (rs.map RecA.v) k=R):=by rw [if_neg hq] at HS;exact HS
   clear HS
   by_cases h6:z.kind=6
   ·have h6b:(z.kind != 6)=false:=by simpa using h6
    clear h6 hq
    gi_wp2_with fail
    obtain ⟨Y,hrun,hYL,hYw,hYs⟩:=end_go (P:=Tryz.prog) (V:=V) (r:=r) HST.out HPD.out hVL
    refine ⟨_,Y,hrun,rfl,⟨a,c,ys,kV.within hYw (by omega),?_,oB,HS'.out,by omega⟩,tV.within hYw (by omega),rV.within hYw (by omega),hYL,(hYw.block _ (Array.getElem?_eq_some_iff.1 dV).1 (by omega)).trans dV,BV.trans (hYw.below (by omega) (by omega)),by omega⟩
    exact (oV.stayed hYw.size (fun k hk=>hYw.block k (by have:=oV.2.2 k hk;omega) (by have:=oB k hk;omega))).widen (Nat.le_refl _) (by omega) (Nat.le_refl _)
   ·have h6b:(z.kind != 6)=true:=by simpa using h6
    have hqb:(z.tx == tx)=false:=by simp [ofTx,RecA.v,h6] at hq;simpa using hq
    clear h6 hq
    gi_wp2_with fail
    obtain ⟨Y,hrun,hYL,hYw,hYs⟩:=end_go (P:=Tryz.prog) (V:=V) (r:=r) HST.out HPD.out hVL
    refine ⟨_,Y,hrun,rfl,⟨a,c,ys,kV.within hYw (by omega),?_,oB,HS'.out,by omega⟩,tV.within hYw (by omega),rV.within hYw (by omega),hYL,(hYw.block _ (Array.getElem?_eq_some_iff.1 dV).1 (by omega)).trans dV,BV.trans (hYw.below (by omega) (by omega)),by omega⟩
    exact (oV.stayed hYw.size (fun k hk=>hYw.block k (by have:=oV.2.2 k hk;omega) (by have:=oB k hk;omega))).widen (Nat.le_refl _) (by omega) (Nat.le_refl _)
 ·rintro e W5 ⟨⟨v,rfl⟩,j⟩
  obtain ⟨a,c,ys,k5,o5,oB,hEq,hLen⟩:=j.own
  have HE:Hid (ys=R):=by rw [Hid];simpa [chainDown] using hEq
  have L5:=j.loop
  have D5:=j.dfr
  have B5:=j.bel
  have hT:=j.top
  have hs5:=B5.size
  clear hEq j
  obtain ⟨W6,hW6⟩:∃ W6,Hid (W5.putObj (w.heap.size+1+1+1+1+1+1) (.loop { r with state:=.exhausted })=W6):=⟨_,rfl⟩
  have hw6:Within (w.heap.size+1+1+1+1+1+1) (w.heap.size+1+1+1+1+1+1+1) W5 W6:=by rw [← hW6.out];exact (within_putObj _ _ _).1
  have hs6:=hw6.size
  have hrun6:(Instr.endLoop (w.heap.size+1+1+1+1+1+1)).run Tryz.prog W5=.ok none W6:=by rw [← hW6.out,← HPD.out];exact run_endLoop L5 (by rw [HST.out];simp)
  refine ⟨none,W6,hrun6,?_⟩
  clear hrun6 hW6 L5
  have k6:=k5.within hw6 (by omega)
  have o6:OwnI W6 (w.heap.size+1+1) W5.heap.size a c ys:=o5.stayed hw6.size (fun k hk=>hw6.block k (by have:=o5.2.2 k hk;omega) (by have:=oB k hk;omega))
  have d6:=(hw6.block _ (Array.getElem?_eq_some_iff.1 D5).1 (by omega)).trans D5
  have B6:Below w.heap.size w W6:=B5.trans (hw6.below (by omega) (by omega))
  clear k5 o5 D5 B5 hw6
  have x6:=k6.cell 0 _ rfl
  show Exit.inBlock _ _ _ _ _
  gi_wp2_with fail
  obtain ⟨Y,hY⟩:∃ Y,Hid (W6.putObj (w.heap.size+1+1+1+1+1) (.deferred none)=Y):=⟨_,rfl⟩
  have hYw:Within (w.heap.size+1+1+1+1+1) (w.heap.size+1+1+1+1+1+1) W6 Y:=by rw [← hY.out];exact (within_putObj _ _ _).1
  have hYs:=hYw.size
  have oY:OwnI Y (w.heap.size+1+1) W5.heap.size a c ys:=o6.stayed hYs (fun k hk=>hYw.block k (by have:=o6.2.2 k hk;omega) (by have:=oB k hk;omega))
  have oY':=oY.widen (show w.heap.size≤w.heap.size+1+1 by omega) (show W5.heap.size≤Y.heap.size by omega) (Nat.le_refl _)
  have BY:Below w.heap.size w Y:=B6.trans (hYw.below (by omega) (by omega))
  refine ⟨by simp,.inl ⟨_,_,rfl,run_takeDeferred d6,?_⟩⟩
  rw [hY.out]
  exact ⟨.slice a ys.length c,by simp [results,Tryz.results140,go_sem],a,c,ys,rfl,HE,oY',BY⟩
end Go.Proofs.YtcoeamamaifoeaaGreatDoor