/- Several texts in one, in their order. -/
import Derived.WalkKit
import Derived.Below
import Derived.WalkSmall
import Derived.Laws.AppendOwnNone
import Derived.Test.YtelagcpkbcdpdaaProg
import Derived.Deep.QuietTactic
import Derived.BigQuiet
import Derived.Deep.RegionHeld3
set_option maxHeartbeats 8000000
set_option maxRecDepth 100000
namespace Go.Proofs.Ytelagcpkbcdpdaa
open Go.RowKit
theorem zA {α : Type} {xs : List α} {i : Nat} (h : i < xs.toArray.size) : xs.toArray[i] = xs[i] := List.getElem_toArray h
theorem zB {α : Type} (a : α) (l : List α) (h : 0 < (a :: l).length) : (a :: l)[0] = a := List.getElem_cons_zero a l h
theorem zC {α : Type} (a : α) (l : List α) (i : Nat) (h : i + 1 < (a :: l).length) : (a :: l)[i + 1] = l[i]'(Nat.lt_of_succ_lt_succ h) := List.getElem_cons_succ a l i h
theorem zD {α : Type} (l : List α) (i : Nat) (a : α) : l.toArray.setIfInBounds i a = (l.set i a).toArray := List.setIfInBounds_toArray l i a
theorem zE {α : Type} {x : α} {xs : List α} {a : α} : (x :: xs).set 0 a = a :: xs := List.set_cons_zero
theorem zF {α : Type} {x : α} {xs : List α} {i : Nat} {a : α} : (x :: xs).set (i + 1) a = x :: xs.set i a := List.set_cons_succ
theorem tk {P : Program} {ops : Array Oper} {Q : Exit → Act → World → Prop} {md : Region.Mode} {S : World → Prop} (i : Nat) {oi : Oper} {v : Value} {fuel : Nat} {listed : Array Bool} {a : Act} {w : World} (h1 : ops[i]? = some oi) (h6 : YieldsIf P ops S oi v a) (h7 : S w) (h8 : wpAnyH P md ops Q S fuel (listed.setIfInBounds i true) (a.put oi.dst v) w) (h2 : Region.noSelect ops = true := by kernel_rfl) (h3 : Region.free md ops listed i = true := by kernel_rfl) (h4 : (Region.ready md ops listed).contains i = true := by kernel_rfl) (h5 : ∀ (c : List PanicEntry) (a : Act) (w : World), Q (Exit.panic c) (a.put oi.dst v) w → Q (Exit.panic c) a w := by exact fun _ _ _ h => h) : wpAnyH P md ops Q S (fuel + 1) listed a w :=
 wpAnyH_take h1 h2 h3 h4 h5 h6 h7 h8
theorem zz : (∀ (a : Act) (d : Tmp) (v : Value), a.put (some d) v = { a with tmps := a.tmps.setIfInBounds d v }) ∧ (∀ (a : Act) (v : Value), a.put none v = a) ∧ (∀ {α : Type} {xs : List α} {i : Nat} (h : i < xs.toArray.size), xs.toArray[i] = xs[i]) ∧ (∀ {α : Type} (a : α) (l : List α) (h : 0 < (a :: l).length), (a :: l)[0] = a) ∧ (∀ {α : Type} (a : α) (l : List α) (i : Nat) (h : i + 1 < (a :: l).length), (a :: l)[i + 1] = l[i]'(Nat.lt_of_succ_lt_succ h)) ∧ (∀ {α : Type} (l : List α) (i : Nat) (a : α), l.toArray.setIfInBounds i a = (l.set i a).toArray) ∧ (∀ {α : Type} {x : α} {xs : List α} {a : α}, (x :: xs).set 0 a = a :: xs) ∧ (∀ {α : Type} {x : α} {xs : List α} {i : Nat} {a : α}, (x :: xs).set (i + 1) a = x :: xs.set i a) :=
 ⟨fun _ _ _ => rfl, fun _ _ => rfl, zA, zB, zC, zD, zE, zF⟩
theorem tq {P : Program} {ops : Array Oper} {Q : Exit → Act → World → Prop} {md : Region.Mode} {S : World → Prop} (i : Nat) {oi : Oper} {v : Value} {fuel : Nat} {listed : Array Bool} {a : Act} {w : World} (h1 : ops[i]? = some oi) (h7 : S w) (h8 : wpAnyH P md ops Q S fuel (listed.setIfInBounds i true) (a.put oi.dst v) w) (h6 : YieldsIf P ops S oi v a := by exact Or.inl ⟨by rfl, by intro w' hSw; go_simp <;> rfl⟩) (h2 : Region.noSelect ops = true := by kernel_rfl) (h3 : Region.free md ops listed i = true := by kernel_rfl) (h4 : (Region.ready md ops listed).contains i = true := by kernel_rfl) (h5 : ∀ (c : List PanicEntry) (a : Act) (w : World), Q (Exit.panic c) (a.put oi.dst v) w → Q (Exit.panic c) a w := by exact fun _ _ _ h => h) : wpAnyH P md ops Q S (fuel + 1) listed a w :=
 wpAnyH_take h1 h2 h3 h4 h5 h6 h7 h8
end Go.Proofs.Ytelagcpkbcdpdaa
namespace Go.Proofs.Ytelagcpkbcdpdaa
open Go.RowKit
theorem ret_int {k:IntKind} {a b:Int} (h:a=b):Ending.returned (.int k a)=.returned (.int k b):=by rw [h]
theorem ret_bool {a b:Bool} (h:a=b):Ending.returned (.bool a)=.returned (.bool b):=by rw [h]
def Reads (w:World) (a:Option Addr) (zs:List Int):Prop:=
 (∀ z∈zs,0≤z∧z<256)∧(zs≠[]→∃ b off,a=some ⟨b,off,none⟩∧∀ i,i<zs.length→w.cell? ⟨b,off+i,none⟩=some (.int .u8 (zs.getD i 0)))
theorem Reads.cases {w:World} {a:Option Addr} {zs:List Int} (h:Reads w a zs):
  zs=[]∨∃ b off,a=some ⟨b,off,none⟩∧0<zs.length∧(∀ i,i<zs.length→w.cell? ⟨b,off+i,none⟩=some (.int .u8 (zs.getD i 0))):=by
 by_cases e:zs=[]
 ·exact .inl e
 ·obtain ⟨b,off,ha,hc⟩:=h.2 e
  exact .inr ⟨b,off,ha,List.length_pos_iff.2 e,hc⟩
theorem Reads.below {w w':World} {a:Option Addr} {zs:List Int} (h:Reads w a zs) (hb:Below w.heap.size w w'):Reads w' a zs:=by
 refine ⟨h.1,fun hne=>?_⟩
 obtain ⟨b,off,ha,hc⟩:=h.2 hne
 refine ⟨b,off,ha,fun i hi=>?_⟩
 have hlt:b<w.heap.size:=by
  have:=hc i hi
  simp only [World.cell?] at this
  by_cases hb:b<w.heap.size
  ·exact hb
  ·simp [Array.getElem?_eq_none (Nat.le_of_not_lt hb)] at this
 rw [hb.cell (p:=⟨b,off+i,none⟩) hlt]
 exact hc i hi
def ReadsI (w:World) (a:Option Addr) (ns:List Int):Prop:=
 ns≠[]→∃ b off,a=some ⟨b,off,none⟩∧∀ i,i<ns.length→w.cell? ⟨b,off+i,none⟩=some (.int .i64 (ns.getD i 0))
theorem block_lt {w:World} {b off:Nat} {v:Value} (h:w.cell? ⟨b,off,none⟩=some v):b<w.heap.size:=by
 simp only [World.cell?] at h
 by_cases hb:b<w.heap.size
 ·exact hb
 ·simp [Array.getElem?_eq_none (Nat.le_of_not_lt hb)] at h
theorem ReadsI.grown {w w':World} {a:Option Addr} {ns:List Int} {B:Nat} (h:ReadsI w a ns) (hg:w.grownBy w' (some B)) (hne:∀ b off,a=some ⟨b,off,none⟩→b≠B):ReadsI w' a ns:=by
 intro e
 obtain ⟨b,off,ha,hc⟩:=h e
 refine ⟨b,off,ha,fun i hi=>hg.cell (hc i hi) ?_⟩
 intro he
 exact hne b off ha (Option.some.inj he)
theorem Reads.of_own {w:World} {base:Nat} {a:Option Addr} {cap e n:Nat} {zs:List Int} (hz:∀ z∈zs,0≤z∧z<256) (h:w.ownsRow base e 1 (.slice a n cap) zs.length (zs.map (Value.int .u8))):Reads w a zs:=by
 refine ⟨hz,fun hne=>?_⟩
 rcases h.2 with ⟨_,h0⟩ | ⟨g,cap',cur,hv,hb,hg,hr⟩
 ·exact absurd (List.length_eq_zero_iff.1 h0) hne
 ·simp only [Value.slice.injEq] at hv
  obtain ⟨rfl,rfl,rfl⟩:=hv
  refine ⟨g,0,rfl,fun i hi=>?_⟩
  have:=h.cellAt i (by omega)
  rw [Nat.zero_add,this]
  simp [List.getD,hi]
theorem grownBy_trans {a b c:World} {row:Option Nat} (h:a.grownBy b row) (k:b.grownBy c row):a.grownBy c row:=
 ⟨k.os.trans h.os,k.tape.trans h.tape,k.output.trans h.output,Nat.le_trans h.size k.size,fun i hi hr=>(k.block i (Nat.lt_of_lt_of_le hi h.size) hr).trans (h.block i hi hr)⟩
theorem Addr_add (b off i:Nat):(⟨b,off,none⟩:Addr).add i=⟨b,off+i,none⟩:=by unfold Addr.add;split<;>simp_all
structure Within (lo hi:Nat) (w w':World):Prop where
 os:w'.os=w.os
 tape:w'.tape=w.tape
 output:w'.output=w.output
 size:w.heap.size≤w'.heap.size
 block:∀ k,k<w.heap.size→¬ (lo≤k∧k<hi)→w'.heap[k]? =w.heap[k]?
theorem Within.refl (lo hi:Nat) (w:World):Within lo hi w w:=⟨rfl,rfl,rfl,Nat.le_refl _,fun _ _ _=>rfl⟩
theorem Within.trans {lo hi:Nat} {a b c:World} (h:Within lo hi a b) (k:Within lo hi b c):Within lo hi a c:=
 ⟨k.os.trans h.os,k.tape.trans h.tape,k.output.trans h.output,Nat.le_trans h.size k.size,fun i hi hn=>(k.block i (Nat.lt_of_lt_of_le hi h.size) hn).trans (h.block i hi hn)⟩
theorem Within.mono {lo hi lo' hi':Nat} {w w':World} (h:Within lo hi w w') (h1:lo'≤lo) (h2:hi≤hi'):Within lo' hi' w w':=
 ⟨h.os,h.tape,h.output,h.size,fun k hk hn=>h.block k hk (fun hh=>hn ⟨by omega,by omega⟩)⟩
theorem Within.of_below {lo hi:Nat} {w w':World} (h:Below w.heap.size w w'):Within lo hi w w':=
 ⟨h.os,h.tape,h.output,h.size,fun k hk _=>h.block k hk⟩
theorem Within.of_grown {lo hi:Nat} {w w':World} {row:Option Nat} (h:w.grownBy w' row) (hr:∀ k,row=some k→lo≤k∧k<hi):Within lo hi w w':=
 ⟨h.os,h.tape,h.output,h.size,fun k hk hn=>h.block k hk (fun e=>hn (hr k e.symm))⟩
theorem Within.below {lo hi B:Nat} {w w':World} (h:Within lo hi w w') (hB:B≤lo) (hs:B≤w.heap.size):Below B w w':=
 ⟨h.os,h.tape,h.output,h.size,fun k hk=>h.block k (by omega) (by omega)⟩
theorem ownsRow_block {w w':World} {base:Nat} {e:TypeId} {size n:Nat} {v:Value} {xs:List Value} (h:w.ownsRow base e size v n xs) (hb:∀ k,v.ownBlock=some k→w'.heap[k]? =w.heap[k]?):w'.ownsRow base e size v n xs:=by
 refine ⟨h.1,?_⟩
 rcases h.2 with h0 | ⟨g,cap,cur,hv,hg,hgg,hr⟩
 ·exact .inl h0
 ·refine .inr ⟨g,cap,cur,hv,hg,?_,hr⟩
  rw [hb g (by rw [hv];rfl)]
  exact hgg
theorem ownsRow_base {w:World} {base base':Nat} {e:TypeId} {size n:Nat} {v:Value} {xs:List Value} (h:w.ownsRow base e size v n xs) (hb:∀ k,v.ownBlock=some k→base'≤k):w.ownsRow base' e size v n xs:=by
 refine ⟨h.1,?_⟩
 rcases h.2 with h0 | ⟨g,cap,cur,hv,hg,hgg,hr⟩
 ·exact .inl h0
 ·exact .inr ⟨g,cap,cur,hv,hb g (by rw [hv];rfl),hgg,hr⟩
def OwnI (w:World) (lo hi:Nat) (a:Option Addr) (c:Nat) (ns:List Int):Prop:=
 w.ownsRow lo 3 1 (.slice a ns.length c) ns.length (ns.map (Value.int .i64))∧hi≤w.heap.size∧∀ k,(Value.slice a ns.length c).ownBlock=some k→k<hi
theorem OwnI.lt {w:World} {lo hi:Nat} {a:Option Addr} {c:Nat} {ns:List Int} (h:OwnI w lo hi a c ns):∀ k,(Value.slice a ns.length c).ownBlock=some k→lo≤k∧k<hi:=fun k hk=>⟨(h.1.lt k hk).1,h.2.2 k hk⟩
theorem OwnI.within {w w':World} {lo hi l r:Nat} {a:Option Addr} {c:Nat} {ns:List Int} (h:OwnI w lo hi a c ns) (hw:Within l r w w') (hd:hi≤l∨r≤lo):OwnI w' lo hi a c ns:=
 ⟨ownsRow_block h.1 (fun k hk=>hw.block k (by have:=h.2.2 k hk;have:=h.2.1;omega) (by have:=h.lt k hk;omega)),Nat.le_trans h.2.1 hw.size,h.2.2⟩
theorem OwnI.below {w w':World} {lo hi:Nat} {a:Option Addr} {c:Nat} {ns:List Int} (h:OwnI w lo hi a c ns) (hb:Below w.heap.size w w'):OwnI w' lo hi a c ns:=
 h.within (Within.of_below (lo:=w.heap.size) (hi:=w.heap.size) hb) (.inl h.2.1)
theorem OwnI.widen {w:World} {lo hi lo' hi':Nat} {a:Option Addr} {c:Nat} {ns:List Int} (h:OwnI w lo hi a c ns) (h1:lo'≤lo) (h2:hi≤hi') (h3:hi'≤w.heap.size):OwnI w lo' hi' a c ns:=
 ⟨ownsRow_base h.1 (fun k hk=>by have:=h.lt k hk;omega),h3,fun k hk=>by have:=h.lt k hk;omega⟩
theorem OwnI.reads {w:World} {lo hi:Nat} {a:Option Addr} {c:Nat} {ns:List Int} (h:OwnI w lo hi a c ns):ReadsI w a ns:=by
 intro hne
 rcases h.1.2 with ⟨_,h0⟩ | ⟨g,cap',cur,hv,hb,hg,hr⟩
 ·exact absurd (List.length_eq_zero_iff.1 h0) hne
 ·simp only [Value.slice.injEq] at hv
  obtain ⟨rfl,_,rfl⟩:=hv
  refine ⟨g,0,rfl,fun i hi=>?_⟩
  have:=h.1.cellAt i (by omega)
  rw [Nat.zero_add,this]
  simp [List.getD,hi]
theorem OwnI.nocap {w:World} {lo hi:Nat} {a:Option Addr} {c:Nat} {ns:List Int} (h:OwnI w lo hi a c ns):a=none→c=0:=by
 intro ha
 rcases h.1.2 with ⟨hv,_⟩ | ⟨g,cap,cur,hv,_⟩
 ·simp only [Value.slice.injEq] at hv;exact hv.2.2
 ·simp [ha] at hv
theorem ReadsI.cases {w:World} {a:Option Addr} {ns:List Int} (h:ReadsI w a ns):
  ns=[]∨∃ b off,a=some ⟨b,off,none⟩∧0<ns.length∧(∀ i,i<ns.length→w.cell? ⟨b,off+i,none⟩=some (.int .i64 (ns.getD i 0))):=by
 by_cases e:ns=[]
 ·exact .inl e
 ·obtain ⟨b,off,ha,hc⟩:=h e
  exact .inr ⟨b,off,ha,List.length_pos_iff.2 e,hc⟩
theorem ReadsI.below {w w':World} {a:Option Addr} {ns:List Int} (h:ReadsI w a ns) (hb:Below w.heap.size w w'):ReadsI w' a ns:=by
 intro hne
 obtain ⟨b,off,ha,hc⟩:=h hne
 refine ⟨b,off,ha,fun i hi=>?_⟩
 rw [hb.cell (p:=⟨b,off+i,none⟩) (block_lt (hc i hi))]
 exact hc i hi
theorem ReadsI.nil (w:World) (a:Option Addr):ReadsI w a []:=fun h=>absurd rfl h
def Box (w:World) (B:Nat) (vs:List Value) (t:TypeId):Prop:=w.heap[B]? =some (.cells vs.toArray t (0,0))
theorem Box.lt {w:World} {B:Nat} {vs:List Value} {t:TypeId} (h:Box w B vs t):B<w.heap.size:=(Array.getElem?_eq_some_iff.1 h).1
theorem Box.cell {w:World} {B:Nat} {vs:List Value} {t:TypeId} (h:Box w B vs t) (i:Nat) (v:Value) (hv:vs[i]? =some v):w.cell? ⟨B,i,none⟩=some v:=by
 unfold Box at h
 simp [World.cell?,h,hv]
theorem Box.frozen {w:World} {B:Nat} {vs:List Value} {t:TypeId} (h:Box w B vs t) (i:Nat):w.frozen? ⟨B,i,none⟩=false:=by
 unfold Box at h
 simp [World.frozen?,h]
theorem Box.set {w:World} {B:Nat} {vs:List Value} {t:TypeId} (h:Box w B vs t) (i:Nat) (v:Value):Box (w.setCell ⟨B,i,none⟩ v) B (vs.set i v) t:=by
 unfold Box at h ⊢
 rw [heap_setCell_same w B i _ t v h]
 simp
theorem Box.block {w w':World} {B:Nat} {vs:List Value} {t:TypeId} (h:Box w B vs t) (hb:w'.heap[B]? =w.heap[B]?):Box w' B vs t:=by unfold Box at h ⊢;rw [hb];exact h
theorem Box.below {w w':World} {B n:Nat} {vs:List Value} {t:TypeId} (h:Box w B vs t) (hb:Below n w w') (hn:B<n):Box w' B vs t:=h.block (hb.block B hn)
theorem Box.within {w w':World} {B l r:Nat} {vs:List Value} {t:TypeId} (h:Box w B vs t) (hb:Within l r w w') (hn:¬ (l≤B∧B<r)):Box w' B vs t:=h.block (hb.block B h.lt hn)
theorem Box.alloc {w:World} {B:Nat} {vs:List Value} {t:TypeId} (h:Box w B vs t) (o:Obj):Box (w.alloc o) B vs t:=h.block (Below.heap_alloc w o B h.lt)
theorem box_new (w:World) (vs:List Value) (t:TypeId):Box (w.alloc (.cells vs.toArray t)) w.heap.size vs t:=by unfold Box;rw [heap_alloc_new]
theorem boxes1 (w:World) (v0:List Value) (t0:TypeId):∃ W,Hid (w.alloc (.cells v0.toArray t0)=W)∧Box W w.heap.size v0 t0∧Below w.heap.size w W∧W.heap.size=w.heap.size+1:=
 ⟨_,rfl,box_new w _ _,(Below.refl _ _).alloc (Nat.le_refl _) _,by simp⟩
theorem boxes2 (w:World) (v0 v1:List Value) (t0 t1:TypeId):∃ W,Hid ((w.alloc (.cells v0.toArray t0)).alloc (.cells v1.toArray t1)=W)∧Box W w.heap.size v0 t0∧Box W (w.heap.size+1) v1 t1∧Below w.heap.size w W∧W.heap.size=w.heap.size+2:=by
 refine ⟨_,rfl,(box_new w _ _).alloc _,?_,((Below.refl _ _).alloc (Nat.le_refl _) _).alloc (by simp) _,by simp⟩
 have:=box_new (w.alloc (.cells v0.toArray t0)) v1 t1
 simpa using this
theorem boxes3 (w:World) (v0 v1 v2:List Value) (t0 t1 t2:TypeId):∃ W,Hid (((w.alloc (.cells v0.toArray t0)).alloc (.cells v1.toArray t1)).alloc (.cells v2.toArray t2)=W)∧Box W w.heap.size v0 t0∧Box W (w.heap.size+1) v1 t1∧Box W (w.heap.size+1+1) v2 t2∧Below w.heap.size w W∧W.heap.size=w.heap.size+3:=by
 refine ⟨_,rfl,((box_new w _ _).alloc _).alloc _,?_,?_,(((Below.refl _ _).alloc (Nat.le_refl _) _).alloc (by simp) _).alloc (by simp;omega) _,by simp⟩
 ·have:=(box_new (w.alloc (.cells v0.toArray t0)) v1 t1).alloc (.cells v2.toArray t2)
  simpa using this
 ·have:=box_new ((w.alloc (.cells v0.toArray t0)).alloc (.cells v1.toArray t1)) v2 t2
  simpa using this
structure ObjV where
 kind:Int
 ints:List Int
 refs:List Int
structure ReadsO (w:World) (aI:Option Addr) (cI:Nat) (aR:Option Addr) (cR:Nat) (o:ObjV):Prop where
 ints:ReadsI w aI o.ints
 refs:ReadsI w aR o.refs
 ni:aI=none→cI=0
 nr:aR=none→cR=0
structure OwnO (w:World) (lo hi:Nat) (aI:Option Addr) (cI:Nat) (aR:Option Addr) (cR:Nat) (o:ObjV):Prop where
 ints:OwnI w lo hi aI cI o.ints
 refs:OwnI w lo hi aR cR o.refs
 apart:∀ k,(Value.slice aI o.ints.length cI).ownBlock=some k→(Value.slice aR o.refs.length cR).ownBlock≠some k
theorem ReadsO.below {w w':World} {aI:Option Addr} {cI:Nat} {aR:Option Addr} {cR:Nat} {o:ObjV} (h:ReadsO w aI cI aR cR o) (hb:Below w.heap.size w w'):ReadsO w' aI cI aR cR o:=⟨h.ints.below hb,h.refs.below hb,h.ni,h.nr⟩
theorem ReadsO.drew {w:World} {aI:Option Addr} {cI:Nat} {aR:Option Addr} {cR:Nat} {o:ObjV} (h:ReadsO w aI cI aR cR o):ReadsO w.drew aI cI aR cR o:=h.below (Below.refl _ _).drew
theorem OwnO.reads {w:World} {lo hi:Nat} {aI:Option Addr} {cI:Nat} {aR:Option Addr} {cR:Nat} {o:ObjV} (h:OwnO w lo hi aI cI aR cR o):ReadsO w aI cI aR cR o:=⟨h.ints.reads,h.refs.reads,h.ints.nocap,h.refs.nocap⟩
theorem OwnO.within {w w':World} {lo hi l r:Nat} {aI:Option Addr} {cI:Nat} {aR:Option Addr} {cR:Nat} {o:ObjV} (h:OwnO w lo hi aI cI aR cR o) (hw:Within l r w w') (hd:hi≤l∨r≤lo):OwnO w' lo hi aI cI aR cR o:=⟨h.ints.within hw hd,h.refs.within hw hd,h.apart⟩
theorem OwnO.below {w w':World} {lo hi:Nat} {aI:Option Addr} {cI:Nat} {aR:Option Addr} {cR:Nat} {o:ObjV} (h:OwnO w lo hi aI cI aR cR o) (hb:Below w.heap.size w w'):OwnO w' lo hi aI cI aR cR o:=⟨h.ints.below hb,h.refs.below hb,h.apart⟩
theorem OwnO.widen {w:World} {lo hi lo' hi':Nat} {aI:Option Addr} {cI:Nat} {aR:Option Addr} {cR:Nat} {o:ObjV} (h:OwnO w lo hi aI cI aR cR o) (h1:lo'≤lo) (h2:hi≤hi') (h3:hi'≤w.heap.size):OwnO w lo' hi' aI cI aR cR o:=⟨h.ints.widen h1 h2 h3,h.refs.widen h1 h2 h3,h.apart⟩
theorem Box.three {w:World} {B:Nat} {x0 x1 x2:Value} {t:TypeId} (b:Box w B [x0,x1,x2] t):
  w.cell? ⟨B,0,none⟩=some x0∧w.cell? ⟨B,1,none⟩=some x1∧w.cell? ⟨B,2,none⟩=some x2∧w.frozen? ⟨B,0,none⟩=false∧w.frozen? ⟨B,1,none⟩=false∧w.frozen? ⟨B,2,none⟩=false:=
 ⟨b.cell 0 _ rfl,b.cell 1 _ rfl,b.cell 2 _ rfl,b.frozen 0,b.frozen 1,b.frozen 2⟩
structure SlotV where
 has:Bool
 o:ObjV
structure SlotA where
 v:SlotV
 aI:Option Addr
 cI:Nat
 aR:Option Addr
 cR:Nat
def SlotA.cells (s:SlotA):List Value:=[.bool s.v.has,.int .i64 s.v.o.kind,.slice s.aI s.v.o.ints.length s.cI,.slice s.aR s.v.o.refs.length s.cR]
def SlotA.reads (w:World) (s:SlotA):Prop:=ReadsO w s.aI s.cI s.aR s.cR s.v.o
def SlotA.own (w:World) (lo hi:Nat) (s:SlotA):Prop:=OwnO w lo hi s.aI s.cI s.aR s.cR s.v.o
def cellsS (ss:List SlotA):List Value:=ss.flatMap SlotA.cells
def zeroS:SlotA:=⟨⟨false,⟨0,[],[]⟩⟩,none,0,none,0⟩
theorem cells_len (s:SlotA):s.cells.length=4:=rfl
theorem cellsS_at (ss:List SlotA) (k j:Nat) (hk:k<ss.length) (hj:j<4):(cellsS ss)[k*4+j]? =(ss.getD k zeroS).cells[j]? :=by
 induction ss generalizing k with
 | nil=>simp at hk
 | cons s r ih=>
  have e:cellsS (s::r)=s.cells++cellsS r:=by simp [cellsS]
  rw [e]
  cases k with
  | zero=>rw [List.getElem?_append_left (by rw [cells_len];omega)];simp
  | succ k=>
   rw [List.getElem?_append_right (by rw [cells_len];omega),cells_len]
   have:=ih k (by simpa using hk)
   rw [show (k+1)*4+j-4=k*4+j by omega,this]
   simp
theorem Box.slot {w:World} {B:Nat} {ss:List SlotA} {t:TypeId} (b:Box w B (cellsS ss) t) (k:Nat) (hk:k<ss.length):
  w.cell? ⟨B,k*4,none⟩=some (.bool (ss.getD k zeroS).v.has)∧w.cell? ⟨B,k*4+1,none⟩=some (.int .i64 (ss.getD k zeroS).v.o.kind)∧
  w.cell? ⟨B,k*4+2,none⟩=some (.slice (ss.getD k zeroS).aI (ss.getD k zeroS).v.o.ints.length (ss.getD k zeroS).cI)∧w.cell? ⟨B,k*4+3,none⟩=some (.slice (ss.getD k zeroS).aR (ss.getD k zeroS).v.o.refs.length (ss.getD k zeroS).cR)∧
  (∀ i,w.frozen? ⟨B,i,none⟩=false):=
 ⟨b.cell _ _ (cellsS_at ss k 0 hk (by omega)),b.cell _ _ (cellsS_at ss k 1 hk (by omega)),b.cell _ _ (cellsS_at ss k 2 hk (by omega)),b.cell _ _ (cellsS_at ss k 3 hk (by omega)),fun i=>b.frozen i⟩
def SlotA.blocks (s:SlotA):List Nat:=(Value.slice s.aI s.v.o.ints.length s.cI).ownBlock.toList++(Value.slice s.aR s.v.o.refs.length s.cR).ownBlock.toList
structure OwnS (w:World) (lo hi:Nat) (ss:List SlotA):Prop where
 each:∀ s∈ss,s.own w lo hi
 apart:(ss.flatMap SlotA.blocks).Nodup
theorem OwnS.nil (w:World) (lo hi:Nat):OwnS w lo hi []:=⟨by simp,by simp⟩
theorem OwnS.below {w w':World} {lo hi:Nat} {ss:List SlotA} (h:OwnS w lo hi ss) (hb:Below w.heap.size w w'):OwnS w' lo hi ss:=⟨fun s hs=>(h.each s hs).below hb,h.apart⟩
theorem OwnS.within {w w':World} {lo hi l r:Nat} {ss:List SlotA} (h:OwnS w lo hi ss) (hw:Within l r w w') (hd:hi≤l∨r≤lo):OwnS w' lo hi ss:=⟨fun s hs=>(h.each s hs).within hw hd,h.apart⟩
theorem OwnS.widen {w:World} {lo hi lo' hi':Nat} {ss:List SlotA} (h:OwnS w lo hi ss) (h1:lo'≤lo) (h2:hi≤hi') (h3:hi'≤w.heap.size):OwnS w lo' hi' ss:=⟨fun s hs=>(h.each s hs).widen h1 h2 h3,h.apart⟩
def ReadsS (w:World) (ss:List SlotA):Prop:=∀ s∈ss,s.reads w
theorem OwnS.reads {w:World} {lo hi:Nat} {ss:List SlotA} (h:OwnS w lo hi ss):ReadsS w ss:=fun s hs=>OwnO.reads (h.each s hs)
theorem ReadsS.below {w w':World} {ss:List SlotA} (h:ReadsS w ss) (hb:Below w.heap.size w w'):ReadsS w' ss:=fun s hs=>ReadsO.below (h s hs) hb
def OwnB (w:World) (base:Nat) (a:Option Addr) (c:Nat) (ys:List Int):Prop:=
 (∀ z∈ys,0≤z∧z<256)∧w.ownsRow base 5 1 (.slice a ys.length c) ys.length (ys.map (Value.int .u8))
theorem OwnB.reads {w:World} {base:Nat} {a:Option Addr} {c:Nat} {ys:List Int} (h:OwnB w base a c ys):Reads w a ys:=Reads.of_own h.1 h.2
theorem OwnB.nocap {w:World} {base:Nat} {a:Option Addr} {c:Nat} {ys:List Int} (h:OwnB w base a c ys):a=none→c=0:=by
 intro ha
 rcases h.2.2 with ⟨hv,_⟩ | ⟨g,cap,cur,hv,_⟩
 ·simp only [Value.slice.injEq] at hv;exact hv.2.2
 ·simp [ha] at hv
theorem OwnB.below {w w':World} {base:Nat} {a:Option Addr} {c:Nat} {ys:List Int} (h:OwnB w base a c ys) (hb:Below w.heap.size w w'):OwnB w' base a c ys:=by
 refine ⟨h.1,h.2.1,?_⟩
 rcases h.2.2 with h0 | ⟨g,cap,cur,hv,hg,hgg,hr⟩
 ·exact .inl h0
 ·exact .inr ⟨g,cap,cur,hv,hg,by rw [hb.block g (Array.getElem?_eq_some_iff.1 hgg).1];exact hgg,hr⟩
theorem OwnB.alloc {w:World} {base:Nat} {a:Option Addr} {c:Nat} {ys:List Int} (h:OwnB w base a c ys) (o:Obj):OwnB (w.alloc o) base a c ys:=⟨h.1,h.2.alloc o⟩
theorem OwnB.base {w:World} {base base':Nat} {a:Option Addr} {c:Nat} {ys:List Int} (h:OwnB w base a c ys) (hb:base'≤base):OwnB w base' a c ys:=by
 refine ⟨h.1,h.2.1,?_⟩
 rcases h.2.2 with h0 | ⟨g,cap,cur,hv,hg,hr⟩
 ·exact .inl h0
 ·exact .inr ⟨g,cap,cur,hv,by omega,hr⟩
theorem Reads.alloc {w:World} {a:Option Addr} {zs:List Int} (h:Reads w a zs) (o:Obj):Reads (w.alloc o) a zs:=h.below ((Below.refl _ _).alloc (Nat.le_refl _) o)
def marks (k0:Int) (n:Nat):List Int:=(List.range n).map fun i:Nat=>(k0+i) % 256
theorem OwnB.lt {w:World} {base:Nat} {a:Option Addr} {c:Nat} {ys:List Int} (h:OwnB w base a c ys):∀ k,(Value.slice a ys.length c).ownBlock=some k→base≤k∧k<w.heap.size:=h.2.lt
def OwnR (w:World) (lo hi:Nat) (a:Option Addr) (c:Nat) (ys:List Int):Prop:=OwnB w lo a c ys∧hi≤w.heap.size∧∀ k,(Value.slice a ys.length c).ownBlock=some k→k<hi
theorem OwnR.lt {w:World} {lo hi:Nat} {a:Option Addr} {c:Nat} {ys:List Int} (h:OwnR w lo hi a c ys):∀ k,(Value.slice a ys.length c).ownBlock=some k→lo≤k∧k<hi:=fun k hk=>⟨(h.1.2.lt k hk).1,h.2.2 k hk⟩
theorem OwnR.reads {w:World} {lo hi:Nat} {a:Option Addr} {c:Nat} {ys:List Int} (h:OwnR w lo hi a c ys):Reads w a ys:=h.1.reads
theorem OwnR.within {w w':World} {lo hi l r:Nat} {a:Option Addr} {c:Nat} {ys:List Int} (h:OwnR w lo hi a c ys) (hw:Within l r w w') (hd:hi≤l∨r≤lo):OwnR w' lo hi a c ys:=
 ⟨⟨h.1.1,ownsRow_block h.1.2 (fun k hk=>hw.block k (by have:=h.2.2 k hk;have:=h.2.1;omega) (by have:=h.lt k hk;omega))⟩,Nat.le_trans h.2.1 hw.size,h.2.2⟩
theorem OwnR.below {w w':World} {lo hi:Nat} {a:Option Addr} {c:Nat} {ys:List Int} (h:OwnR w lo hi a c ys) (hb:Below w.heap.size w w'):OwnR w' lo hi a c ys:=
 h.within (Within.of_below (lo:=w.heap.size) (hi:=w.heap.size) hb) (.inl h.2.1)
structure Touch (bl:List Nat) (w w':World):Prop where
 os:w'.os=w.os
 tape:w'.tape=w.tape
 output:w'.output=w.output
 size:w.heap.size≤w'.heap.size
 block:∀ k,k<w.heap.size→k∉bl→w'.heap[k]? =w.heap[k]?
theorem Touch.refl (bl:List Nat) (w:World):Touch bl w w:=⟨rfl,rfl,rfl,Nat.le_refl _,fun _ _ _=>rfl⟩
theorem Touch.trans {bl:List Nat} {a b c:World} (h:Touch bl a b) (k:Touch bl b c):Touch bl a c:=
 ⟨k.os.trans h.os,k.tape.trans h.tape,k.output.trans h.output,Nat.le_trans h.size k.size,fun i hi hn=>(k.block i (Nat.lt_of_lt_of_le hi h.size) hn).trans (h.block i hi hn)⟩
theorem Touch.mono {bl bl':List Nat} {w w':World} (h:Touch bl w w') (hs:∀ k∈bl,k∈bl'):Touch bl' w w':=
 ⟨h.os,h.tape,h.output,h.size,fun k hk hn=>h.block k hk (fun hh=>hn (hs k hh))⟩
theorem Touch.of_below {bl:List Nat} {w w':World} (h:Below w.heap.size w w'):Touch bl w w':=⟨h.os,h.tape,h.output,h.size,fun k hk _=>h.block k hk⟩
theorem Touch.of_grown {bl:List Nat} {w w':World} {row:Option Nat} (h:w.grownBy w' row) (hr:∀ k,row=some k→k∈bl):Touch bl w w':=
 ⟨h.os,h.tape,h.output,h.size,fun k hk hn=>h.block k hk (fun e=>hn (hr k e.symm))⟩
theorem Touch.within {bl:List Nat} {lo hi:Nat} {w w':World} (h:Touch bl w w') (hb:∀ k∈bl,lo≤k∧k<hi):Within lo hi w w':=
 ⟨h.os,h.tape,h.output,h.size,fun k hk hn=>h.block k hk (fun hh=>hn (hb k hh))⟩
theorem Box.touch {w w':World} {B:Nat} {vs:List Value} {t:TypeId} {bl:List Nat} (h:Box w B vs t) (ht:Touch bl w w') (hn:B∉bl):Box w' B vs t:=h.block (ht.block B h.lt hn)
theorem OwnI.touch {w w':World} {lo hi:Nat} {a:Option Addr} {c:Nat} {ns:List Int} {bl:List Nat} (h:OwnI w lo hi a c ns) (ht:Touch bl w w') (hd:∀ k,(Value.slice a ns.length c).ownBlock=some k→k∉bl):OwnI w' lo hi a c ns:=
 ⟨ownsRow_block h.1 (fun k hk=>ht.block k (h.1.lt k hk).2 (hd k hk)),Nat.le_trans h.2.1 ht.size,h.2.2⟩
theorem SlotA.touch {w w':World} {lo hi:Nat} {s:SlotA} {bl:List Nat} (h:s.own w lo hi) (ht:Touch bl w w') (hd:∀ k∈s.blocks,k∉bl):s.own w' lo hi:=
 ⟨h.ints.touch ht (fun k hk=>hd k (List.mem_append.2 (.inl (Option.mem_toList.2 hk)))),h.refs.touch ht (fun k hk=>hd k (List.mem_append.2 (.inr (Option.mem_toList.2 hk)))),h.apart⟩
structure OpV where
 kd:Int
 oid:Int
 num:Int
def OpV.cells (l:OpV):List Value:=[.int .i64 l.kd,.int .i64 l.oid,.int .i64 l.num]
def zeroQ:OpV:=⟨0,0,0⟩
def cellsQ (ls:List OpV):List Value:=ls.flatMap OpV.cells
theorem cellsQ_len (ls:List OpV):(cellsQ ls).length=ls.length*3:=by
 induction ls with
 | nil=>rfl
 | cons s r ih=>simp only [cellsQ,List.flatMap_cons,List.length_append,OpV.cells,List.length_cons,List.length_nil] at *;omega
theorem cellsQ_at (ls:List OpV) (k j:Nat) (hk:k<ls.length) (hj:j<3):(cellsQ ls)[k*3+j]? =(ls.getD k zeroQ).cells[j]? :=by
 induction ls generalizing k with
 | nil=>simp at hk
 | cons s r ih=>
  have e:cellsQ (s::r)=s.cells++cellsQ r:=by simp [cellsQ]
  have l3:s.cells.length=3:=rfl
  rw [e]
  cases k with
  | zero=>rw [List.getElem?_append_left (by rw [l3];omega)];simp
  | succ k=>
   rw [List.getElem?_append_right (by rw [l3];omega),l3]
   have:=ih k (by simpa using hk)
   rw [show (k+1)*3+j-3=k*3+j by omega,this]
   simp
theorem cellsQ_set (ls:List OpV) (k:Nat) (hk:k<ls.length) (t:OpV):
  (((cellsQ ls).set (k*3) (.int .i64 t.kd)).set (k*3+1) (.int .i64 t.oid)).set (k*3+2) (.int .i64 t.num)=cellsQ (ls.set k t):=by
 induction ls generalizing k with
 | nil=>simp at hk
 | cons s r ih=>
  cases k with
  | zero=>simp [cellsQ,OpV.cells]
  | succ k=>
   have:=ih k (by simpa using hk)
   have e2:∀ x,cellsQ (s::x)=s.cells++cellsQ x:=fun x=>by simp [cellsQ]
   have l3:s.cells.length=3:=rfl
   rw [e2,List.set_append_right _ _ (by rw [l3];omega),List.set_append_right _ _ (by rw [l3];omega),List.set_append_right _ _ (by rw [l3];omega),l3,show (k+1)*3-3=k*3 by omega,show (k+1)*3+1-3=k*3+1 by omega,show (k+1)*3+2-3=k*3+2 by omega,this,List.set_cons_succ,e2]
def ReadsQ (w:World) (a:Option Addr) (ls:List OpV):Prop:=ls≠[]→∃ b off,a=some ⟨b,off,none⟩∧∀ k,k<ls.length→w.cell? ⟨b,off+k*3,none⟩=some (.int .i64 (ls.getD k zeroQ).kd)∧w.cell? ⟨b,off+k*3+1,none⟩=some (.int .i64 (ls.getD k zeroQ).oid)∧w.cell? ⟨b,off+k*3+2,none⟩=some (.int .i64 (ls.getD k zeroQ).num)
theorem ReadsQ.nil (w:World) (a:Option Addr):ReadsQ w a []:=fun h=>absurd rfl h
theorem ReadsQ.below {w w':World} {a:Option Addr} {ls:List OpV} (h:ReadsQ w a ls) (hb:Below w.heap.size w w'):ReadsQ w' a ls:=by
 intro hne
 obtain ⟨b,off,ha,hc⟩:=h hne
 refine ⟨b,off,ha,fun k hk=>?_⟩
 obtain ⟨h0,h1,h2⟩:=hc k hk
 have hlt:=block_lt h0
 exact ⟨by rw [hb.cell (p:=⟨b,off+k*3,none⟩) hlt];exact h0,by rw [hb.cell (p:=⟨b,off+k*3+1,none⟩) hlt];exact h1,by rw [hb.cell (p:=⟨b,off+k*3+2,none⟩) hlt];exact h2⟩
theorem ReadsQ.cases {w:World} {a:Option Addr} {ls:List OpV} (h:ReadsQ w a ls):ls=[]∨∃ b off,a=some ⟨b,off,none⟩∧0<ls.length∧∀ k,k<ls.length→w.cell? ⟨b,off+k*3,none⟩=some (.int .i64 (ls.getD k zeroQ).kd)∧w.cell? ⟨b,off+k*3+1,none⟩=some (.int .i64 (ls.getD k zeroQ).oid)∧w.cell? ⟨b,off+k*3+2,none⟩=some (.int .i64 (ls.getD k zeroQ).num):=by
 by_cases e:ls=[]
 ·exact .inl e
 ·obtain ⟨b,off,ha,hc⟩:=h e
  exact .inr ⟨b,off,ha,List.length_pos_iff.2 e,hc⟩
def OwnQ (w:World) (lo hi:Nat) (a:Option Addr) (c:Nat) (ls:List OpV):Prop:=
 w.ownsRow lo 62 3 (.slice a ls.length c) ls.length (cellsQ ls)∧hi≤w.heap.size∧∀ k,(Value.slice a ls.length c).ownBlock=some k→k<hi
theorem OwnQ.lt {w:World} {lo hi:Nat} {a:Option Addr} {c:Nat} {ls:List OpV} (h:OwnQ w lo hi a c ls):∀ k,(Value.slice a ls.length c).ownBlock=some k→lo≤k∧k<hi:=fun k hk=>⟨(h.1.lt k hk).1,h.2.2 k hk⟩
theorem OwnQ.touch {w w':World} {lo hi:Nat} {a:Option Addr} {c:Nat} {ls:List OpV} {bl:List Nat} (h:OwnQ w lo hi a c ls) (ht:Touch bl w w') (hd:∀ k,(Value.slice a ls.length c).ownBlock=some k→k∉bl):OwnQ w' lo hi a c ls:=
 ⟨ownsRow_block h.1 (fun k hk=>ht.block k (h.1.lt k hk).2 (hd k hk)),Nat.le_trans h.2.1 ht.size,h.2.2⟩
theorem OwnQ.within {w w':World} {lo hi l r:Nat} {a:Option Addr} {c:Nat} {ls:List OpV} (h:OwnQ w lo hi a c ls) (hw:Within l r w w') (hd:hi≤l∨r≤lo):OwnQ w' lo hi a c ls:=
 ⟨ownsRow_block h.1 (fun k hk=>hw.block k (by have:=h.2.2 k hk;have:=h.2.1;omega) (by have:=h.lt k hk;omega)),Nat.le_trans h.2.1 hw.size,h.2.2⟩
theorem OwnQ.below {w w':World} {lo hi:Nat} {a:Option Addr} {c:Nat} {ls:List OpV} (h:OwnQ w lo hi a c ls) (hb:Below w.heap.size w w'):OwnQ w' lo hi a c ls:=
 h.within (Within.of_below (lo:=w.heap.size) (hi:=w.heap.size) hb) (.inl h.2.1)
theorem OwnQ.widen {w:World} {lo hi lo' hi':Nat} {a:Option Addr} {c:Nat} {ls:List OpV} (h:OwnQ w lo hi a c ls) (h1:lo'≤lo) (h2:hi≤hi') (h3:hi'≤w.heap.size):OwnQ w lo' hi' a c ls:=
 ⟨ownsRow_base h.1 (fun k hk=>by have:=h.lt k hk;omega),h3,fun k hk=>by have:=h.lt k hk;omega⟩
theorem ownQ_nil (w:World) (lo hi:Nat) (h:hi≤w.heap.size):OwnQ w lo hi none 0 []:=⟨⟨by simp [cellsQ],.inl ⟨rfl,rfl⟩⟩,h,fun k hk=>by cases hk⟩
theorem OwnQ.nocap {w:World} {lo hi:Nat} {a:Option Addr} {c:Nat} {ls:List OpV} (h:OwnQ w lo hi a c ls):a=none→c=0:=by
 intro ha
 rcases h.1.2 with ⟨hv,_⟩ | ⟨g,cap,cur,hv,_⟩
 ·simp only [Value.slice.injEq] at hv;exact hv.2.2
 ·simp [ha] at hv
theorem row_op {w:World} {base g n cap:Nat} {ls:List OpV} (h:w.ownsRow base 62 3 (.slice (some ⟨g,0,none⟩) n cap) n (cellsQ ls)) (hn:ls.length=n) (k:Nat) (hk:k<n):
  w.cell? ⟨g,k*3,none⟩=some (.int .i64 (ls.getD k zeroQ).kd)∧w.cell? ⟨g,k*3+1,none⟩=some (.int .i64 (ls.getD k zeroQ).oid)∧w.cell? ⟨g,k*3+2,none⟩=some (.int .i64 (ls.getD k zeroQ).num)∧(∀ i,w.frozen? ⟨g,i,none⟩=false):=by
 have a0:=cellsQ_at ls k 0 (by omega) (by omega)
 have a1:=cellsQ_at ls k 1 (by omega) (by omega)
 have a2:=cellsQ_at ls k 2 (by omega) (by omega)
 simp only [OpV.cells,Nat.add_zero,List.getElem?_cons_zero,List.getElem?_cons_succ] at a0 a1 a2
 exact ⟨by rw [h.cellAt (k*3) (by omega)];exact a0,by rw [h.cellAt (k*3+1) (by omega)];exact a1,by rw [h.cellAt (k*3+2) (by omega)];exact a2,fun i=>h.frozenAt i⟩
theorem row_storeQ {w:World} {base g n cap:Nat} {ls:List OpV} (h:w.ownsRow base 62 3 (.slice (some ⟨g,0,none⟩) n cap) n (cellsQ ls)) (hn:ls.length=n) (k:Nat) (hk:k<n) (t:OpV):
  ∃ W,Hid (((w.setCell ⟨g,k*3,none⟩ (.int .i64 t.kd)).setCell ⟨g,k*3+1,none⟩ (.int .i64 t.oid)).setCell ⟨g,k*3+2,none⟩ (.int .i64 t.num)=W)∧W.ownsRow base 62 3 (.slice (some ⟨g,0,none⟩) n cap) n (cellsQ (ls.set k t))∧w.grownBy W (some g):=by
 have s1:=h.stored (k*3) (.int .i64 t.kd)
 have s2:=s1.1.stored (k*3+1) (.int .i64 t.oid)
 have s3:=s2.1.stored (k*3+2) (.int .i64 t.num)
 refine ⟨_,rfl,?_,grownBy_trans (grownBy_trans s1.2 s2.2) s3.2⟩
 have:=s3.1
 rw [cellsQ_set ls k (by omega) t] at this
 exact this
theorem OwnQ.reads {w:World} {lo hi:Nat} {a:Option Addr} {c:Nat} {ls:List OpV} (h:OwnQ w lo hi a c ls):ReadsQ w a ls:=by
 intro hne
 rcases h.1.2 with ⟨_,h0⟩ | ⟨g,cap',cur,hv,hb,hg,hr⟩
 ·exact absurd (List.length_eq_zero_iff.1 h0) hne
 ·simp only [Value.slice.injEq] at hv
  obtain ⟨rfl,_,rfl⟩:=hv
  refine ⟨g,0,rfl,fun k hk=>?_⟩
  obtain ⟨a0,a1,a2,_⟩:=row_op h.1 rfl k hk
  rw [Nat.zero_add]
  exact ⟨a0,a1,a2⟩
theorem toOp_any (l:OpV) (w:World):
  Calls Try.prog 37 #[.agg l.cells.toArray] w fun e w'=>e=.returned (.agg l.cells.toArray)∧Below w.heap.size w w':=by
 obtain ⟨x,y,z⟩:=l
 simp only [OpV.cells]
 obtain ⟨W,hW,b0,b1,b2,hbW,hsW⟩:=boxes3 w [.int .i64 x,.int .i64 y,.int .i64 z] [.int .i64 x,.int .i64 y,.int .i64 z] [.int .i64 x,.int .i64 y,.int .i64 z] 77 62 62
 obtain ⟨q0,q1,q2,_⟩:=b1.three
 clear b0 b2 hsW
 go_enter Try.func37,Try.ntmps37
 go_wp2
 rw [hW.out]
 exact bodyPost_ret (v:=.agg #[.int .i64 x,.int .i64 y,.int .i64 z]) (by simp [results,Try.results37,go_sem,q0,q1,q2]) rfl ⟨rfl,hbW⟩
theorem zero_cellsQ (n:Nat):(madeCells #[.int .i64 0,.int .i64 0,.int .i64 0] (n*3)).toList=cellsQ (List.replicate n zeroQ):=by
 apply List.ext_getElem?
 intro i
 by_cases h:i<n*3
 ·have e:=cellsQ_at (List.replicate n zeroQ) (i / 3) (i % 3) (by simp;omega) (Nat.mod_lt _ (by omega))
  rw [show i / 3*3+i % 3=i by omega] at e
  rw [e]
  have hg:(List.replicate n zeroQ).getD (i / 3) zeroQ=zeroQ:=by simp [List.getD,show i / 3<n by omega]
  rw [hg]
  simp only [madeCells,Array.toList_map,List.getElem?_map,Array.toList_range,List.getElem?_range h,Option.map_some,OpV.cells,zeroQ]
  have:i % 3<3:=Nat.mod_lt _ (by omega)
  show some (#[Value.int .i64 0,.int .i64 0,.int .i64 0][i % 3]!)=_
  rcases (by omega:i % 3=0∨i % 3=1∨i % 3=2) with h' | h' | h'<;>rw [h']<;>rfl
 ·rw [List.getElem?_eq_none (by simp [size_madeCells];omega),List.getElem?_eq_none (by rw [cellsQ_len];simp;omega)]
theorem made_op (n:Nat):(madeCells (Value.agg #[.int .i64 0,.int .i64 0,.int .i64 0]).cells (n*3)).toList=cellsQ (List.replicate n zeroQ):=zero_cellsQ n
def partQ (ls:List OpV) (k:Nat):List OpV:=ls.take k++List.replicate (ls.length-k) zeroQ
theorem partQ_len (ls:List OpV) (k:Nat) (h:k≤ls.length):(partQ ls k).length=ls.length:=by simp [partQ];omega
theorem partQ_all (ls:List OpV):partQ ls ls.length=ls:=by simp [partQ]
theorem partQ_none (ls:List OpV):partQ ls 0=List.replicate ls.length zeroQ:=by simp [partQ]
theorem partQ_set (ls:List OpV) (k:Nat) (h:k<ls.length):(partQ ls k).set k (ls.getD k zeroQ)=partQ ls (k+1):=by
 unfold partQ
 rw [List.set_append,if_neg (by simp;omega),List.take_succ_eq_append_getElem h]
 have e:ls.length-k=(ls.length-(k+1))+1:=by omega
 have e2:k-(List.take k ls).length=0:=by simp;omega
 rw [e2,e,List.replicate_succ,List.set_cons_zero]
 simp only [List.getD,h,List.getElem?_eq_getElem,Option.getD_some,List.append_assoc,List.singleton_append]
theorem Try.infoOp:(Try.prog.info? 62).map (fun i=>(i.zero,i.size,i.bytes))=some (some (.agg #[.int .i64 0,.int .i64 0,.int .i64 0]),3,24):=by kernel_rfl
theorem toOpS_any (a:Option Addr) (cap:Nat) (ls:List OpV) (w:World) (hr:ReadsQ w a ls) (hl:ls.length≤1099511627776):
  Calls Try.prog 18 #[.slice a ls.length cap] w fun e w'=>∃ a' c',e=.returned (.slice a' ls.length c')∧OwnQ w' w.heap.size w'.heap.size a' c' ls∧Below w.heap.size w w':=by
 obtain ⟨i0,hi,hz0,hz1,hz2⟩:=info_parts Try.infoOp
 rcases hr.cases with rfl | ⟨b,off,rfl,hpos,hcell⟩
 ·go_enter Try.func18,Try.ntmps18
  go_wp2_with (at_make;refine wpList_make_full _ rfl _ _ 59 rfl w.heap.size 62 i0 (.agg #[.int .i64 0,.int .i64 0,.int .i64 0]) 3 Try.underlying59 hi hz0 hz1 _ _ _ _ 0 rfl rfl (by simp) (by simp) (by omega) (by simp [maxLen]) (Nat.le_refl _) ?_)
  intro w0 hown0 hgrow0
  go_wp2
  refine wp_loop_rounds 1 ?_
  rw [rounds_succ]
  go_wp2
  go_ret
  have ho:w0.ownsRow w.heap.size 62 3 (.slice (some ⟨w.heap.size,0,none⟩) 0 0) 0 (cellsQ []):=by
   have e:=made_op 0
   simp only [List.replicate_zero] at e
   rw [← e]
   exact hown0
  exact ⟨_,_,rfl,⟨ho,Nat.le_refl _,fun k hk=>(ho.lt k hk).2⟩,(Below.refl _ _).grown hgrow0 (Nat.le_refl _) (fun k h=>by cases h)⟩
 ·have hbB:b<w.heap.size:=block_lt (hcell 0 hpos).1
  go_enter Try.func18,Try.ntmps18
  go_wp2_with (at_make;refine wpList_make_full _ rfl _ _ 59 rfl w.heap.size 62 i0 (.agg #[.int .i64 0,.int .i64 0,.int .i64 0]) 3 Try.underlying59 hi hz0 hz1 _ _ _ _ ls.length rfl rfl rfl rfl (by rw [hz2];omega) (by simp [maxLen];omega) (Nat.le_refl _) ?_)
  intro w0 hown0 hgrow0
  have hown1:w0.ownsRow w.heap.size 62 3 (.slice (some ⟨w.heap.size,0,none⟩) ls.length ls.length) ls.length (cellsQ (partQ ls 0)):=by
   rw [partQ_none,← made_op]
   exact hown0
  have hb0:Below w.heap.size w w0:=(Below.refl _ _).grown hgrow0 (Nat.le_refl _) (fun k h=>by cases h)
  clear hown0 hgrow0
  go_wp2
  go_loopw [4] (fun i wr=>∃ k:Nat,k≤ls.length∧i=.int .i64 k∧wr.ownsRow w.heap.size 62 3 (.slice (some ⟨w.heap.size,0,none⟩) ls.length ls.length) ls.length (cellsQ (partQ ls k))∧Below w.heap.size w wr)
   (fun i _=>ls.length-(intOf i).toNat)
  case atStart=>exact ⟨0,Nat.zero_le _,rfl,hown1,hb0⟩
  case round=>
   obtain ⟨k,hk,rfl,hown,hnx⟩:=hrel
   by_cases hlt:k<ls.length
   ·obtain ⟨c0,c1,c2⟩:=hcell k hlt
    have d0:wr.cell? ⟨b,off+k*3,none⟩=_:=(hnx.cell (by exact hbB)).trans c0
    have d1:wr.cell? ⟨b,off+k*3+1,none⟩=_:=(hnx.cell (by exact hbB)).trans c1
    have d2:wr.cell? ⟨b,off+k*3+2,none⟩=_:=(hnx.cell (by exact hbB)).trans c2
    have hp:=partQ_len ls k hk
    have HSET:Hid ((partQ ls k).set k (ls.getD k zeroQ)=partQ ls (k+1)):=partQ_set ls k hlt
    clear c0 c1 c2 hcell hown1 hb0
    generalize ls.getD k zeroQ=z at*
    have C:=toOp_any z wr
    simp only [OpV.cells] at C
    go_wp2_with fail
    refine C.mono ?_
    clear C d0 d1 d2
    rintro e w1 ⟨rfl,hb1⟩
    have hownA:=ownsRow_block hown (fun j hj=>hb1.block j (hown.lt j hj).2)
    obtain ⟨x0,x1,x2,hfz⟩:=row_op hownA hp k hlt
    have f0:=hfz (k*3)
    have f1:=hfz (k*3+1)
    have f2:=hfz (k*3+2)
    obtain ⟨W2,hW2,ho2,hg2⟩:=row_storeQ hownA hp k hlt z
    rw [HSET.out] at ho2
    have hB2:Below w.heap.size w W2:=(hnx.trans (hb1.mono hnx.size)).grown hg2 (by have:=hnx.size;have:=hb1.size;omega) (fun j hj=>by cases hj;omega)
    have HH:Hid (_∧_):=⟨ho2,hB2⟩
    clear ho2 hB2 hg2 hfz hownA hown hb1 hnx HSET
    generalize (partQ ls k).getD k zeroQ=old at*
    go_wp2_with fail
    rw [hW2.out]
    go_roundw
    case rel=>exact ⟨k+1,by omega,by go_num,HH.out.1,HH.out.2⟩
    case measure=>simp [intOf];omega
   ·have HE:Hid (wr.ownsRow w.heap.size 62 3 (.slice (some ⟨w.heap.size,0,none⟩) ls.length ls.length) ls.length (cellsQ ls)):=by
     have e:k=ls.length:=by omega
     rw [e,partQ_all] at hown
     exact hown
    go_wp2
    go_ret
    exact ⟨_,_,rfl,⟨HE.out,Nat.le_refl _,fun k hk=>(HE.out.lt k hk).2⟩,hnx⟩
theorem eqOp_same (l:OpV) (w:World):
  Calls Try.prog 39 #[.agg l.cells.toArray,.agg l.cells.toArray] w fun e w'=>e=.returned (.bool true)∧Below w.heap.size w w':=by
 obtain ⟨x,y,z⟩:=l
 simp only [OpV.cells]
 obtain ⟨W,hW,b0,b1,hbW,hsW⟩:=boxes2 w [.int .i64 x,.int .i64 y,.int .i64 z] [.int .i64 x,.int .i64 y,.int .i64 z] 62 62
 clear b0 b1 hsW
 go_enter Try.func39,Try.ntmps39
 go_wp2
 rw [hW.out]
 go_ret
 exact ⟨rfl,hbW⟩
theorem eqOpS_same (a b:Option Addr) (ca cb:Nat) (ls:List OpV) (w:World) (ha:ReadsQ w a ls) (hb:ReadsQ w b ls) (hl:ls.length≤1099511627776):
  Calls Try.prog 20 #[.slice a ls.length ca,.slice b ls.length cb] w fun e w'=>e=.returned (.bool true)∧Below w.heap.size w w':=by
 rcases ha.cases with rfl | ⟨b1,o1,rfl,hpos,hc1⟩
 ·go_enter Try.func20,Try.ntmps20
  go_wp2
  refine wp_loop_rounds 1 ?_
  rw [rounds_succ]
  go_wp2
  go_ret
  exact ⟨rfl,Below.refl _ _⟩
 ·rcases hb.cases with rfl | ⟨b2,o2,rfl,_,hc2⟩
  ·simp at hpos
  ·go_enter Try.func20,Try.ntmps20
   go_wp2
   go_loopw [5] (fun i wr=>∃ k:Nat,k≤ls.length∧i=.int .i64 k∧Below w.heap.size w wr) (fun i _=>ls.length-(intOf i).toNat)
   case atStart=>exact ⟨0,Nat.zero_le _,rfl,Below.refl _ _⟩
   case round=>
    obtain ⟨k,hk,rfl,hbl⟩:=hrel
    by_cases hlt:k<ls.length
    ·have h1:=hc1 k hlt
     have h2:=hc2 k hlt
     clear hc1 hc2
     generalize ls.getD k zeroQ=z at*
     have HS:Hid (∀ w1,Below w.heap.size w w1→(w1.cell? ⟨b1,o1+k*3,none⟩=some (.int .i64 z.kd)∧w1.cell? ⟨b1,o1+k*3+1,none⟩=some (.int .i64 z.oid)∧w1.cell? ⟨b1,o1+k*3+2,none⟩=some (.int .i64 z.num))∧(w1.cell? ⟨b2,o2+k*3,none⟩=some (.int .i64 z.kd)∧w1.cell? ⟨b2,o2+k*3+1,none⟩=some (.int .i64 z.oid)∧w1.cell? ⟨b2,o2+k*3+2,none⟩=some (.int .i64 z.num))):=fun w1 hh=>
      ⟨⟨(hh.cell (block_lt h1.1)).trans h1.1,(hh.cell (block_lt h1.2.1)).trans h1.2.1,(hh.cell (block_lt h1.2.2)).trans h1.2.2⟩,(hh.cell (block_lt h2.1)).trans h2.1,(hh.cell (block_lt h2.2.1)).trans h2.2.1,(hh.cell (block_lt h2.2.2)).trans h2.2.2⟩
     have hh:=HS.out wr hbl
     clear h1 h2
     go_wp2_with fail
     go_region_held3 (fun w1=>(w1.cell? ⟨b1,o1+k*3,none⟩=some (.int .i64 z.kd)∧w1.cell? ⟨b1,o1+k*3+1,none⟩=some (.int .i64 z.oid)∧w1.cell? ⟨b1,o1+k*3+2,none⟩=some (.int .i64 z.num))∧(w1.cell? ⟨b2,o2+k*3,none⟩=some (.int .i64 z.kd)∧w1.cell? ⟨b2,o2+k*3+1,none⟩=some (.int .i64 z.oid)∧w1.cell? ⟨b2,o2+k*3+2,none⟩=some (.int .i64 z.num)))
      (first | exact HS.out _ hw2 | go_keep | fail)
      ((first | (go_at_call 39;refine (eqOp_same z _).mono ?_;rintro e w2 ⟨rfl,hb2⟩;have hw2:Below w.heap.size w w2:=(hbl.drew).trans (hb2.mono hbl.size)) | fail))
     all_goals
      go_wp2_with fail
      go_roundw
      case rel=>exact ⟨k+1,by omega,by go_num,hw2⟩
      case measure=>simp [intOf];omega
    ·go_wp2
     go_ret
     exact ⟨rfl,hbl⟩
structure JobA where
 ops:List OpV
 a:Option Addr
 c:Nat
def JobA.cell (j:JobA):Value:=.slice j.a j.ops.length j.c
def zeroJ:JobA:=⟨[],none,0⟩
def cellsJ (js:List JobA):List Value:=js.map JobA.cell
def opsJ (js:List JobA):List (List OpV):=js.map JobA.ops
theorem cellsJ_len (js:List JobA):(cellsJ js).length=js.length:=by simp [cellsJ]
theorem opsJ_len (js:List JobA):(opsJ js).length=js.length:=by simp [opsJ]
theorem opsJ_at (js:List JobA) (k:Nat):(opsJ js).getD k []=(js.getD k zeroJ).ops:=by
 simp only [opsJ,List.getD,List.getElem?_map]
 cases js[k]? <;>rfl
theorem cellsJ_app (a b:List JobA):cellsJ (a++b)=cellsJ a++cellsJ b:=by simp [cellsJ]
theorem cellsJ_cons (j:JobA) (b:List JobA):cellsJ (j::b)=j.cell::cellsJ b:=rfl
theorem cellsJ_at (js:List JobA) (k:Nat) (hk:k<js.length):(cellsJ js)[k]? =some (js.getD k zeroJ).cell:=by
 simp [cellsJ,List.getD,hk]
theorem jobD_mem (js:List JobA) (k:Nat) (hk:k<js.length):js.getD k zeroJ∈js:=by
 have e:js.getD k zeroJ=js[k]:=by simp [List.getD,hk]
 rw [e]
 exact List.getElem_mem hk
def ReadsJ (w:World) (a:Option Addr) (js:List JobA):Prop:=js≠[]→∃ b off,a=some ⟨b,off,none⟩∧∀ k,k<js.length→w.cell? ⟨b,off+k,none⟩=some (js.getD k zeroJ).cell∧ReadsQ w (js.getD k zeroJ).a (js.getD k zeroJ).ops
theorem ReadsJ.nil (w:World) (a:Option Addr):ReadsJ w a []:=fun h=>absurd rfl h
theorem ReadsJ.below {w w':World} {a:Option Addr} {js:List JobA} (h:ReadsJ w a js) (hb:Below w.heap.size w w'):ReadsJ w' a js:=by
 intro hne
 obtain ⟨b,off,ha,hc⟩:=h hne
 refine ⟨b,off,ha,fun k hk=>?_⟩
 obtain ⟨h0,h1⟩:=hc k hk
 exact ⟨by rw [hb.cell (p:=⟨b,off+k,none⟩) (block_lt h0)];exact h0,h1.below hb⟩
theorem ReadsJ.cases {w:World} {a:Option Addr} {js:List JobA} (h:ReadsJ w a js):js=[]∨∃ b off,a=some ⟨b,off,none⟩∧0<js.length∧∀ k,k<js.length→w.cell? ⟨b,off+k,none⟩=some (js.getD k zeroJ).cell∧ReadsQ w (js.getD k zeroJ).a (js.getD k zeroJ).ops:=by
 by_cases e:js=[]
 ·exact .inl e
 ·obtain ⟨b,off,ha,hc⟩:=h e
  exact .inr ⟨b,off,ha,List.length_pos_iff.2 e,hc⟩
def JobA.blocks (j:JobA):List Nat:=j.cell.ownBlock.toList
structure OwnJ (w:World) (lo hi:Nat) (a:Option Addr) (c:Nat) (js:List JobA):Prop where
 row:w.ownsRow lo 59 1 (.slice a js.length c) js.length (cellsJ js)
 top:hi≤w.heap.size
 blk:∀ k,(Value.slice a js.length c).ownBlock=some k→k<hi
 each:∀ j∈js,OwnQ w lo hi j.a j.c j.ops
 apart:((Value.slice a js.length c).ownBlock.toList++js.flatMap JobA.blocks).Nodup
def blocksJ (a:Option Addr) (c:Nat) (js:List JobA):List Nat:=(Value.slice a js.length c).ownBlock.toList++js.flatMap JobA.blocks
theorem jobBlocks_lt {w:World} {lo hi:Nat} {j:JobA} (h:OwnQ w lo hi j.a j.c j.ops):∀ k∈j.blocks,lo≤k∧k<hi:=fun k hk=>h.lt k (Option.mem_toList.1 hk)
theorem OwnJ.touch {w w':World} {lo hi:Nat} {a:Option Addr} {c:Nat} {js:List JobA} {bl:List Nat} (h:OwnJ w lo hi a c js) (ht:Touch bl w w') (hd:∀ k∈blocksJ a c js,k∉bl):OwnJ w' lo hi a c js:=
 ⟨ownsRow_block h.row (fun k hk=>ht.block k (h.row.lt k hk).2 (hd k (List.mem_append.2 (.inl (Option.mem_toList.2 hk))))),Nat.le_trans h.top ht.size,h.blk,fun r hr=>(h.each r hr).touch ht (fun k hk=>hd k (List.mem_append.2 (.inr (List.mem_flatMap.2 ⟨r,hr,Option.mem_toList.2 hk⟩)))),h.apart⟩
theorem OwnJ.within {w w':World} {lo hi l r:Nat} {a:Option Addr} {c:Nat} {js:List JobA} (h:OwnJ w lo hi a c js) (hw:Within l r w w') (hd:hi≤l∨r≤lo):OwnJ w' lo hi a c js:=
 ⟨ownsRow_block h.row (fun k hk=>hw.block k (by have:=h.blk k hk;have:=h.top;omega) (by have:=h.blk k hk;have:=(h.row.lt k hk).1;omega)),Nat.le_trans h.top hw.size,h.blk,fun x hx=>(h.each x hx).within hw hd,h.apart⟩
theorem OwnJ.below {w w':World} {lo hi:Nat} {a:Option Addr} {c:Nat} {js:List JobA} (h:OwnJ w lo hi a c js) (hb:Below w.heap.size w w'):OwnJ w' lo hi a c js:=
 h.within (Within.of_below (lo:=w.heap.size) (hi:=w.heap.size) hb) (.inl h.top)
theorem OwnJ.widen {w:World} {lo hi lo' hi':Nat} {a:Option Addr} {c:Nat} {js:List JobA} (h:OwnJ w lo hi a c js) (h1:lo'≤lo) (h2:hi≤hi') (h3:hi'≤w.heap.size):OwnJ w lo' hi' a c js:=
 ⟨ownsRow_base h.row (fun k hk=>by have:=(h.row.lt k hk).1;omega),h3,fun k hk=>by have:=h.blk k hk;omega,fun x hx=>(h.each x hx).widen h1 h2 h3,h.apart⟩
theorem OwnJ.nocap {w:World} {lo hi:Nat} {a:Option Addr} {c:Nat} {js:List JobA} (h:OwnJ w lo hi a c js):a=none→c=0:=by
 intro ha
 rcases h.row.2 with ⟨hv,_⟩ | ⟨g,cap,cur,hv,_⟩
 ·simp only [Value.slice.injEq] at hv;exact hv.2.2
 ·simp [ha] at hv
theorem OwnJ.reads {w:World} {lo hi:Nat} {a:Option Addr} {c:Nat} {js:List JobA} (h:OwnJ w lo hi a c js):ReadsJ w a js:=by
 intro hne
 rcases h.row.2 with ⟨_,h0⟩ | ⟨g,cap',cur,hv,hb,hg,hr⟩
 ·exact absurd (List.length_eq_zero_iff.1 h0) hne
 ·simp only [Value.slice.injEq] at hv
  obtain ⟨rfl,_,rfl⟩:=hv
  refine ⟨g,0,rfl,fun k hk=>?_⟩
  rw [Nat.zero_add]
  refine ⟨?_,(h.each _ (jobD_mem js k hk)).reads⟩
  rw [h.row.cellAt k (by omega),cellsJ_at js k hk]
theorem OwnJ.fill {w:World} {lo hi g c:Nat} {A B:List JobA} {z:JobA} (h:OwnJ w lo hi (some ⟨g,0,none⟩) c (A++z::B)) (q:JobA) {l u:Nat} (hq:OwnQ w l u q.a q.c q.ops) (hl:hi≤l) (hlo:lo≤hi) (hu:u≤w.heap.size):
  ∃ W,Hid (w.setCell ⟨g,A.length,none⟩ q.cell=W)∧OwnJ W lo (max hi u) (some ⟨g,0,none⟩) c (A++q::B)∧Touch [g] w W∧W.heap.size=w.heap.size:=by
 have hrow:=h.row
 rw [cellsJ_app,cellsJ_cons,List.length_append,List.length_cons] at hrow
 have hg:lo≤g∧g<hi:=⟨(hrow.lt g rfl).1,h.blk g rfl⟩
 obtain ⟨h1,h2⟩:=hrow.stored A.length q.cell
 rw [show A.length=(cellsJ A).length from (cellsJ_len A).symm,List.set_append_right _ _ (Nat.le_refl _),Nat.sub_self,List.set_cons_zero,cellsJ_len] at h1
 have ht:Touch [g] w (w.setCell ⟨g,A.length,none⟩ q.cell):=Touch.of_grown h2 (fun k hk=>by cases hk;simp)
 have hap:=h.apart
 simp only [List.flatMap_append,List.flatMap_cons,Value.ownBlock,Option.toList,List.singleton_append,List.nodup_cons,List.nodup_append,List.mem_append,not_or] at hap
 obtain ⟨⟨n1,n2,n3⟩,a1,⟨a2,a3,a4⟩,a5⟩:=hap
 have hqb:=jobBlocks_lt (j:=q) hq
 have hA:∀ x∈A.flatMap JobA.blocks,lo≤x∧x<hi:=fun x hx=>by
  obtain ⟨r,hr,hx⟩:=List.mem_flatMap.1 hx
  exact jobBlocks_lt (h.each r (by simp [hr])) x hx
 have hB:∀ x∈B.flatMap JobA.blocks,lo≤x∧x<hi:=fun x hx=>by
  obtain ⟨r,hr,hx⟩:=List.mem_flatMap.1 hx
  exact jobBlocks_lt (h.each r (by simp [hr])) x hx
 have hsz:(w.setCell ⟨g,A.length,none⟩ q.cell).heap.size=w.heap.size:=by simp
 refine ⟨_,rfl,⟨?_,?_,fun k hk=>?_,fun r hr=>?_,?_⟩,ht,hsz⟩
 ·rw [cellsJ_app,cellsJ_cons,List.length_append,List.length_cons]
  exact h1
 ·rw [hsz]
  have:=h.top
  omega
 ·cases hk
  show g<max hi u
  omega
 ·rcases List.mem_append.1 hr with hr | hr
  ·exact ((h.each r (by simp [hr])).touch ht (fun k hk hk'=>n1 (by rw [← List.mem_singleton.1 hk'];exact List.mem_flatMap.2 ⟨r,hr,Option.mem_toList.2 hk⟩))).widen (Nat.le_refl _) (by omega) (by rw [hsz];have:=h.top;omega)
  ·rcases List.mem_cons.1 hr with rfl | hr
   ·exact (hq.touch ht (fun k hk hk'=>by have:=hq.lt k hk;have:=List.mem_singleton.1 hk';omega)).widen (by omega) (by omega) (by rw [hsz];have:=h.top;omega)
   ·exact ((h.each r (by simp [hr])).touch ht (fun k hk hk'=>n3 (by rw [← List.mem_singleton.1 hk'];exact List.mem_flatMap.2 ⟨r,hr,Option.mem_toList.2 hk⟩))).widen (Nat.le_refl _) (by omega) (by rw [hsz];have:=h.top;omega)
 ·have hqn:q.blocks.Nodup:=by
   unfold JobA.blocks
   cases q.cell.ownBlock<;>simp
  simp only [List.flatMap_append,List.flatMap_cons,Value.ownBlock,Option.toList,List.singleton_append,List.nodup_cons,List.nodup_append,List.mem_append,not_or]
  refine ⟨⟨n1,fun hk=>by have:=hqb g hk;omega,n3⟩,a1,⟨hqn,a3,fun x hx y hy e=>by have:=hqb x hx;have:=hB y hy;omega⟩,fun x hx y hy e=>?_⟩
  rcases hy with hy | hy
  ·have:=hqb y hy;have:=hA x hx;omega
  ·exact a5 x hx y (.inr hy) e
theorem Try.infoOps:(Try.prog.info? 59).map (fun i=>(i.zero,i.size,i.bytes))=some (some (.slice none 0 0),1,24):=by kernel_rfl
theorem made_jobs (n:Nat):(madeCells (Value.slice none 0 0).cells (n*1)).toList=cellsJ (List.replicate n zeroJ):=by
 apply List.ext_getElem?
 intro i
 by_cases h:i<n
 ·rw [cellsJ_at _ _ (by simpa using h)]
  have hg:(List.replicate n zeroJ).getD i zeroJ=zeroJ:=by simp [List.getD,h]
  rw [hg]
  simp only [madeCells,Array.toList_map,List.getElem?_map,Array.toList_range,List.getElem?_range (show i<n*1 by omega),Option.map_some]
  show some (#[Value.slice none 0 0][i % 1]!)=_
  rw [Nat.mod_one]
  rfl
 ·rw [List.getElem?_eq_none (by simp [size_madeCells];omega),List.getElem?_eq_none (by rw [cellsJ_len];simp;omega)]
theorem ownJ_made {w:World} {lo g n:Nat} (h:w.ownsRow lo 59 1 (.slice (some ⟨g,0,none⟩) n n) n (cellsJ (List.replicate n zeroJ))):OwnJ w lo w.heap.size (some ⟨g,0,none⟩) n (List.replicate n zeroJ):=by
 refine ⟨by rw [List.length_replicate];exact h,Nat.le_refl _,fun k hk=>?_,fun j hj=>?_,?_⟩
 ·exact (h.lt k (by rw [List.length_replicate] at hk;exact hk)).2
 ·rw [List.eq_of_mem_replicate hj]
  exact ownQ_nil _ _ _ (Nat.le_refl _)
 ·have e:(List.replicate n zeroJ).flatMap JobA.blocks=[]:=by
   rw [List.flatMap_eq_nil_iff]
   intro x hx
   rw [List.eq_of_mem_replicate hx]
   rfl
  rw [e]
  simp [Value.ownBlock]
end Go.Proofs.Ytelagcpkbcdpdaa
namespace Go.Proofs.Ytelagcpkbcdpdaa
def inB (x l m:Int):Bool:=decide (l≤x∧x≤m)
end Go.Proofs.Ytelagcpkbcdpdaa