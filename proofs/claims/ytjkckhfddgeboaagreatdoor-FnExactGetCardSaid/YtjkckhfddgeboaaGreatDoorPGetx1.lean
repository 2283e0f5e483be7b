/- Several texts in one, in their order. -/
import Derived.WalkKit
import Derived.Below
import Derived.WalkSmall
import Derived.Laws.AppendOwnNone
import Derived.Test.YtjkckhfddgeboaaGreatDoorProg
import Derived.Deep.QuietTactic
import Derived.BigQuiet
import Derived.Deep.MidRow
import Derived.Deep.RegionHeld3
set_option maxHeartbeats 8000000
set_option maxRecDepth 100000
namespace Go.Proofs.YtjkckhfddgeboaaGreatDoor
open Go.RowKit
theorem zA {α : Type} {xs : List α} {i : Nat} (h : i < xs.toArray.size) : xs.toArray[i] = xs[i] := List.getElem_toArray h
theorem zB {α : Type} (a : α) (l : List α) (h : 0 < (a :: l).length) : (a :: l)[0] = a := List.getElem_cons_zero a l h
theorem zC {α : Type} (a : α) (l : List α) (i : Nat) (h : i + 1 < (a :: l).length) : (a :: l)[i + 1] = l[i]'(Nat.lt_of_succ_lt_succ h) := List.getElem_cons_succ a l i h
theorem zD {α : Type} (l : List α) (i : Nat) (a : α) : l.toArray.setIfInBounds i a = (l.set i a).toArray := List.setIfInBounds_toArray l i a
theorem zE {α : Type} {x : α} {xs : List α} {a : α} : (x :: xs).set 0 a = a :: xs := List.set_cons_zero
theorem zF {α : Type} {x : α} {xs : List α} {i : Nat} {a : α} : (x :: xs).set (i + 1) a = x :: xs.set i a := List.set_cons_succ
theorem tk {P : Program} {ops : Array Oper} {Q : Exit → Act → World → Prop} {md : Region.Mode} {S : World → Prop} (i : Nat) {oi : Oper} {v : Value} {fuel : Nat} {listed : Array Bool} {a : Act} {w : World} (h1 : ops[i]? = some oi) (h6 : YieldsIf P ops S oi v a) (h7 : S w) (h8 : wpAnyH P md ops Q S fuel (listed.setIfInBounds i true) (a.put oi.dst v) w) (h2 : Region.noSelect ops = true := by kernel_rfl) (h3 : Region.free md ops listed i = true := by kernel_rfl) (h4 : (Region.ready md ops listed).contains i = true := by kernel_rfl) (h5 : ∀ (c : List PanicEntry) (a : Act) (w : World), Q (Exit.panic c) (a.put oi.dst v) w → Q (Exit.panic c) a w := by exact fun _ _ _ h => h) : wpAnyH P md ops Q S (fuel + 1) listed a w :=
 wpAnyH_take h1 h2 h3 h4 h5 h6 h7 h8
theorem zz : (∀ (a : Act) (d : Tmp) (v : Value), a.put (some d) v = { a with tmps := a.tmps.setIfInBounds d v }) ∧ (∀ (a : Act) (v : Value), a.put none v = a) ∧ (∀ {α : Type} {xs : List α} {i : Nat} (h : i < xs.toArray.size), xs.toArray[i] = xs[i]) ∧ (∀ {α : Type} (a : α) (l : List α) (h : 0 < (a :: l).length), (a :: l)[0] = a) ∧ (∀ {α : Type} (a : α) (l : List α) (i : Nat) (h : i + 1 < (a :: l).length), (a :: l)[i + 1] = l[i]'(Nat.lt_of_succ_lt_succ h)) ∧ (∀ {α : Type} (l : List α) (i : Nat) (a : α), l.toArray.setIfInBounds i a = (l.set i a).toArray) ∧ (∀ {α : Type} {x : α} {xs : List α} {a : α}, (x :: xs).set 0 a = a :: xs) ∧ (∀ {α : Type} {x : α} {xs : List α} {i : Nat} {a : α}, (x :: xs).set (i + 1) a = x :: xs.set i a) :=
 ⟨fun _ _ _ => rfl, fun _ _ => rfl, zA, zB, zC, zD, zE, zF⟩
theorem tq {P : Program} {ops : Array Oper} {Q : Exit → Act → World → Prop} {md : Region.Mode} {S : World → Prop} (i : Nat) {oi : Oper} {v : Value} {fuel : Nat} {listed : Array Bool} {a : Act} {w : World} (h1 : ops[i]? = some oi) (h7 : S w) (h8 : wpAnyH P md ops Q S fuel (listed.setIfInBounds i true) (a.put oi.dst v) w) (h6 : YieldsIf P ops S oi v a := by exact Or.inl ⟨by rfl, by intro w' hSw; go_simp <;> rfl⟩) (h2 : Region.noSelect ops = true := by kernel_rfl) (h3 : Region.free md ops listed i = true := by kernel_rfl) (h4 : (Region.ready md ops listed).contains i = true := by kernel_rfl) (h5 : ∀ (c : List PanicEntry) (a : Act) (w : World), Q (Exit.panic c) (a.put oi.dst v) w → Q (Exit.panic c) a w := by exact fun _ _ _ h => h) : wpAnyH P md ops Q S (fuel + 1) listed a w :=
 wpAnyH_take h1 h2 h3 h4 h5 h6 h7 h8
theorem tr {P : Program} {ops : Array Oper} {Q : Exit → Act → World → Prop} {md : Region.Mode} {S : World → Prop} (i : Nat) (v : Value) {oi : Oper} {fuel : Nat} {listed l' : Array Bool} {a a' : Act} {w : World} (h8 : wpAnyH P md ops Q S fuel l' a' w) (h1 : ops[i]? = some oi := by rfl) (h7 : S w := by assumption) (hl : listed.setIfInBounds i true = l' := by first | (simp only [zz]; done) | (simp only [zz]; rfl) | rfl) (ha : a.put oi.dst v = a' := by first | (simp only [zz]; done) | (simp only [zz]; rfl) | rfl) (h6 : YieldsIf P ops S oi v a := by exact Or.inl ⟨by rfl, by intro w' hSw; go_simp <;> rfl⟩) (h2 : Region.noSelect ops = true := by kernel_rfl) (h3 : Region.free md ops listed i = true := by kernel_rfl) (h4 : (Region.ready md ops listed).contains i = true := by kernel_rfl) (h5 : ∀ (c : List PanicEntry) (a : Act) (w : World), Q (Exit.panic c) (a.put oi.dst v) w → Q (Exit.panic c) a w := by exact fun _ _ _ h => h) : wpAnyH P md ops Q S (fuel + 1) listed a w := by
 subst hl;subst ha;exact wpAnyH_take h1 h2 h3 h4 h5 h6 h7 h8
theorem ts {P : Program} {ops : Array Oper} {Q : Exit → Act → World → Prop} {md : Region.Mode} {S : World → Prop} (i : Nat) {v : Value} {oi : Oper} {fuel : Nat} {listed l' : Array Bool} {a a' : Act} {w : World} (h1 : ops[i]? = some oi) (h6 : YieldsIf P ops S oi v a) (h8 : wpAnyH P md ops Q S fuel l' a' w) (h7 : S w := by assumption) (hl : listed.setIfInBounds i true = l' := by first | (simp only [zz]; done) | (simp only [zz]; rfl) | rfl) (ha : a.put oi.dst v = a' := by first | (simp only [zz]; done) | (simp only [zz]; rfl) | rfl) (h2 : Region.noSelect ops = true := by kernel_rfl) (h3 : Region.free md ops listed i = true := by kernel_rfl) (h4 : (Region.ready md ops listed).contains i = true := by kernel_rfl) (h5 : ∀ (c : List PanicEntry) (a : Act) (w : World), Q (Exit.panic c) (a.put oi.dst v) w → Q (Exit.panic c) a w := by exact fun _ _ _ h => h) : wpAnyH P md ops Q S (fuel + 1) listed a w := by
 subst hl;subst ha;exact wpAnyH_take h1 h2 h3 h4 h5 h6 h7 h8
theorem tu {P : Program} {ops : Array Oper} {Q : Exit → Act → World → Prop} {md : Region.Mode} {S : World → Prop} (i : Nat) {oi : Oper} {fuel : Nat} {listed l' : Array Bool} {a a' : Act} {w : World} (h8 : wpAnyH P md ops Q S fuel l' a' w) (h1 : ops[i]? = some oi := by rfl) (h7 : S w := by assumption) (hl : listed.setIfInBounds i true = l' := by first | (simp only [zz]; done) | (simp only [zz]; rfl) | rfl) (ha : a.put oi.dst undef = a' := by first | (simp only [zz]; done) | (simp only [zz]; rfl) | rfl) (h6 : YieldsIf P ops S oi undef a := by exact Or.inr ⟨by rfl, rfl⟩) (h2 : Region.noSelect ops = true := by kernel_rfl) (h3 : Region.free md ops listed i = true := by kernel_rfl) (h4 : (Region.ready md ops listed).contains i = true := by kernel_rfl) (h5 : ∀ (c : List PanicEntry) (a : Act) (w : World), Q (Exit.panic c) (a.put oi.dst undef) w → Q (Exit.panic c) a w := by exact fun _ _ _ h => h) : wpAnyH P md ops Q S (fuel + 1) listed a w := by
 subst hl;subst ha;exact wpAnyH_take h1 h2 h3 h4 h5 h6 h7 h8
end Go.Proofs.YtjkckhfddgeboaaGreatDoor
namespace Go.Proofs.YtjkckhfddgeboaaGreatDoor
open Go.RowKit
theorem ja {k:IntKind} {a b:Int} (h:a=b):Ending.returned (.int k a)=.returned (.int k b):=by rw [h]
theorem qd {a b:Bool} (h:a=b):Ending.returned (.bool a)=.returned (.bool b):=by rw [h]
def Reads (w:World) (a:Option Addr) (zs:List Int):Prop:=
 (∀ z∈zs,0≤z∧z<256)∧(zs≠[]→∃ b off,a=some ⟨b,off,none⟩∧∀ i,i<zs.length→w.cell? ⟨b,off+i,none⟩=some (.int .u8 (zs.getD i 0)))
theorem Reads.cases {w:World} {a:Option Addr} {zs:List Int} (h:Reads w a zs):
  zs=[]∨∃ b off,a=some ⟨b,off,none⟩∧0<zs.length∧(∀ i,i<zs.length→w.cell? ⟨b,off+i,none⟩=some (.int .u8 (zs.getD i 0))):=by
 by_cases e:zs=[]
 ·exact .inl e
 ·obtain ⟨b,off,ha,hc⟩:=h.2 e;exact .inr ⟨b,off,ha,List.length_pos_iff.2 e,hc⟩
def ky (w:World) (a:Option Addr) (ns:List Int):Prop:=
 ns≠[]→∃ b off,a=some ⟨b,off,none⟩∧∀ i,i<ns.length→w.cell? ⟨b,off+i,none⟩=some (.int .i64 (ns.getD i 0))
theorem block_lt {w:World} {b off:Nat} {v:Value} (h:w.cell? ⟨b,off,none⟩=some v):b<w.heap.size:=by
 simp only [World.cell?] at h;by_cases hb:b<w.heap.size
 ·exact hb
 ·simp [Array.getElem?_eq_none (Nat.le_of_not_lt hb)] at h
theorem Reads.EM {w:World} {base:Nat} {a:Option Addr} {cap e n:Nat} {zs:List Int} (hz:∀ z∈zs,0≤z∧z<256) (h:w.ownsRow base e 1 (.slice a n cap) zs.length (zs.map (Value.int .u8))):Reads w a zs:=by
 refine ⟨hz,fun hne=>?_⟩;rcases h.2 with ⟨_,h0⟩ | ⟨g,cap',cur,hv,hb,hg,hr⟩
 ·exact absurd (List.length_eq_zero_iff.1 h0) hne
 ·simp only [Value.slice.injEq] at hv;obtain ⟨rfl,rfl,rfl⟩:=hv;refine ⟨g,0,rfl,fun i hi=>?_⟩;have:=h.cellAt i (by omega);rw [Nat.zero_add,this];simp [List.getD,hi]
theorem az {w:World} {base e g n cap:Nat} {xs:List Value} (h:w.ownsRow base e 1 (.slice (some ⟨g,0,none⟩) n cap) n xs) (k:Nat) (hk:k<n):∃ u,w.cell? ⟨g,k,none⟩=some u:=by
 have h1:=h.1;have:=h.cellAt k (by omega);rw [List.getElem?_eq_getElem (by omega)] at this;exact ⟨_,this⟩
theorem grownBy_trans {a b c:World} {row:Option Nat} (h:a.grownBy b row) (k:b.grownBy c row):a.grownBy c row:=
 ⟨k.os.trans h.os,k.tape.trans h.tape,k.output.trans h.output,Nat.le_trans h.size k.size,fun i hi hr=>(k.block i (Nat.lt_of_lt_of_le hi h.size) hr).trans (h.block i hi hr)⟩
theorem yS (b off i:Nat):(⟨b,off,none⟩:Addr).add i=⟨b,off+i,none⟩:=by unfold Addr.add;split<;>simp_all
structure Within (lo hi:Nat) (w w':World):Prop where
 os:w'.os=w.os
 tape:w'.tape=w.tape
 output:w'.output=w.output
 size:w.heap.size≤w'.heap.size
 block:∀ k,k<w.heap.size→¬ (lo≤k∧k<hi)→w'.heap[k]? =w.heap[k]?
theorem Within.refl (lo hi:Nat) (w:World):Within lo hi w w:=⟨rfl,rfl,rfl,Nat.le_refl _,fun _ _ _=>rfl⟩
theorem Within.trans {lo hi:Nat} {a b c:World} (h:Within lo hi a b) (k:Within lo hi b c):Within lo hi a c:=
 ⟨k.os.trans h.os,k.tape.trans h.tape,k.output.trans h.output,Nat.le_trans h.size k.size,fun i hi hn=>(k.block i (Nat.lt_of_lt_of_le hi h.size) hn).trans (h.block i hi hn)⟩
theorem Within.of_below {lo hi:Nat} {w w':World} (h:Below w.heap.size w w'):Within lo hi w w':=
 ⟨h.os,h.tape,h.output,h.size,fun k hk _=>h.block k hk⟩
theorem Within.jw {lo hi:Nat} {w w':World} {row:Option Nat} (h:w.grownBy w' row) (hr:∀ k,row=some k→lo≤k∧k<hi):Within lo hi w w':=
 ⟨h.os,h.tape,h.output,h.size,fun k hk hn=>h.block k hk (fun e=>hn (hr k e.symm))⟩
theorem Within.below {lo hi B:Nat} {w w':World} (h:Within lo hi w w') (hB:B≤lo) (hs:B≤w.heap.size):Below B w w':=
 ⟨h.os,h.tape,h.output,h.size,fun k hk=>h.block k (by omega) (by omega)⟩
theorem jE {w w':World} {base:Nat} {e:TypeId} {size n:Nat} {v:Value} {xs:List Value} (h:w.ownsRow base e size v n xs) (hb:∀ k,v.ownBlock=some k→w'.heap[k]? =w.heap[k]?):w'.ownsRow base e size v n xs:=by
 refine ⟨h.1,?_⟩;rcases h.2 with h0 | ⟨g,cap,cur,hv,hg,hgg,hr⟩
 ·exact .inl h0
 ·refine .inr ⟨g,cap,cur,hv,hg,?_,hr⟩;rw [hb g (by rw [hv];rfl)];exact hgg
theorem kM {w:World} {base base':Nat} {e:TypeId} {size n:Nat} {v:Value} {xs:List Value} (h:w.ownsRow base e size v n xs) (hb:∀ k,v.ownBlock=some k→base'≤k):w.ownsRow base' e size v n xs:=by
 refine ⟨h.1,?_⟩;rcases h.2 with h0 | ⟨g,cap,cur,hv,hg,hgg,hr⟩
 ·exact .inl h0
 ·exact .inr ⟨g,cap,cur,hv,hb g (by rw [hv];rfl),hgg,hr⟩
theorem Tryz.pE:(Tryz.prog.info? 3).map (fun i=>(i.zero,i.size,i.bytes))=some (some (.int .i64 0),1,8):=by kernel_rfl
def jG (w:World) (lo hi:Nat) (a:Option Addr) (c:Nat) (ns:List Int):Prop:=
 w.ownsRow lo 3 1 (.slice a ns.length c) ns.length (ns.map (Value.int .i64))∧hi≤w.heap.size∧∀ k,(Value.slice a ns.length c).ownBlock=some k→k<hi
theorem jG.lt {w:World} {lo hi:Nat} {a:Option Addr} {c:Nat} {ns:List Int} (h:jG w lo hi a c ns):∀ k,(Value.slice a ns.length c).ownBlock=some k→lo≤k∧k<hi:=fun k hk=>⟨(h.1.lt k hk).1,h.2.2 k hk⟩
theorem jG.within {w w':World} {lo hi l r:Nat} {a:Option Addr} {c:Nat} {ns:List Int} (h:jG w lo hi a c ns) (hw:Within l r w w') (hd:hi≤l∨r≤lo):jG w' lo hi a c ns:=
 ⟨jE h.1 (fun k hk=>hw.block k (by have:=h.2.2 k hk;have:=h.2.1;omega) (by have:=h.lt k hk;omega)),Nat.le_trans h.2.1 hw.size,h.2.2⟩
theorem jG.below {w w':World} {lo hi:Nat} {a:Option Addr} {c:Nat} {ns:List Int} (h:jG w lo hi a c ns) (hb:Below w.heap.size w w'):jG w' lo hi a c ns:=
 h.within (Within.of_below (lo:=w.heap.size) (hi:=w.heap.size) hb) (.inl h.2.1)
theorem jG.widen {w:World} {lo hi lo' hi':Nat} {a:Option Addr} {c:Nat} {ns:List Int} (h:jG w lo hi a c ns) (h1:lo'≤lo) (h2:hi≤hi') (h3:hi'≤w.heap.size):jG w lo' hi' a c ns:=
 ⟨kM h.1 (fun k hk=>by have:=h.lt k hk;omega),h3,fun k hk=>by have:=h.lt k hk;omega⟩
theorem jG.reads {w:World} {lo hi:Nat} {a:Option Addr} {c:Nat} {ns:List Int} (h:jG w lo hi a c ns):ky w a ns:=by
 intro hne;rcases h.1.2 with ⟨_,h0⟩ | ⟨g,cap',cur,hv,hb,hg,hr⟩
 ·exact absurd (List.length_eq_zero_iff.1 h0) hne
 ·simp only [Value.slice.injEq] at hv;obtain ⟨rfl,_,rfl⟩:=hv;refine ⟨g,0,rfl,fun i hi=>?_⟩;have:=h.1.cellAt i (by omega);rw [Nat.zero_add,this];simp [List.getD,hi]
theorem jG.XZ {w:World} {lo hi:Nat} {a:Option Addr} {c:Nat} {ns:List Int} (h:jG w lo hi a c ns):a=none→c=0:=by
 intro ha;rcases h.1.2 with ⟨hv,_⟩ | ⟨g,cap,cur,hv,_⟩
 ·simp only [Value.slice.injEq] at hv;exact hv.2.2
 ·simp [ha] at hv
theorem QY (w:World) (lo hi:Nat) (h:hi≤w.heap.size):jG w lo hi none 0 []:=⟨⟨by simp,.inl ⟨rfl,rfl⟩⟩,h,fun k hk=>by cases hk⟩
theorem FW (w:World):jG (w.alloc (.cells #[] 3)) w.heap.size (w.heap.size+1) (some ⟨w.heap.size,0,none⟩) 0 []:=
 ⟨World.ownsRow_lit w #[] 0 (Nat.le_refl _) (by simp [maxLen]) rfl,by simp,fun k hk=>by cases hk;simp⟩
theorem ky.cases {w:World} {a:Option Addr} {ns:List Int} (h:ky w a ns):
  ns=[]∨∃ b off,a=some ⟨b,off,none⟩∧0<ns.length∧(∀ i,i<ns.length→w.cell? ⟨b,off+i,none⟩=some (.int .i64 (ns.getD i 0))):=by
 by_cases e:ns=[]
 ·exact .inl e
 ·obtain ⟨b,off,ha,hc⟩:=h e;exact .inr ⟨b,off,ha,List.length_pos_iff.2 e,hc⟩
theorem ky.below {w w':World} {a:Option Addr} {ns:List Int} (h:ky w a ns) (hb:Below w.heap.size w w'):ky w' a ns:=by
 intro hne;obtain ⟨b,off,ha,hc⟩:=h hne;refine ⟨b,off,ha,fun i hi=>?_⟩;rw [hb.cell (p:=⟨b,off+i,none⟩) (block_lt (hc i hi))];exact hc i hi
theorem ky.nil (w:World) (a:Option Addr):ky w a []:=fun h=>absurd rfl h
def Qm (zs:List Int) (k:Nat):List Int:=zs.take k++List.replicate (zs.length-k) 0
theorem FX (zs:List Int) (k:Nat) (h:k≤zs.length):(Qm zs k).length=zs.length:=by simp [Qm];omega
theorem FY (zs:List Int):Qm zs zs.length=zs:=by simp [Qm]
theorem tT (zs:List Int):Qm zs 0=List.replicate zs.length 0:=by simp [Qm]
theorem FZ (zs:List Int) (k:Nat) (h:k<zs.length):(Qm zs k).set k (zs.getD k 0)=Qm zs (k+1):=by
 unfold Qm;rw [List.set_append,if_neg (by simp;omega),List.take_succ_eq_append_getElem h];have e:zs.length-k=(zs.length-(k+1))+1:=by omega
 have e2:k-(List.take k zs).length=0:=by simp;omega
 rw [e2,e,List.replicate_succ,List.set_cons_zero];simp only [List.getD,h,List.getElem?_eq_getElem,Option.getD_some,List.append_assoc,List.singleton_append]
theorem Ha (zs:List Int) (k:Nat) (h:k<zs.length):((Qm zs k).map (Value.int .i64)).set k (.int .i64 (zs.getD k 0))=(Qm zs (k+1)).map (Value.int .i64):=by
 rw [← FZ zs k h,List.map_set]
theorem tY (a:Option Addr) (cap:Nat) (zs:List Int) (w:World) (hr:ky w a zs) (hl:zs.length≤1099511627776):
  Calls Tryz.prog 136 #[.slice a zs.length cap] w fun e w'=>e=.returned (.slice (some ⟨w.heap.size,0,none⟩) zs.length zs.length)∧
   w'.ownsRow w.heap.size 3 1 (.slice (some ⟨w.heap.size,0,none⟩) zs.length zs.length) zs.length (zs.map (Value.int .i64))∧Below w.heap.size w w':=by
 obtain ⟨i0,hi,hz0,hz1,hz2⟩:=info_parts Tryz.pE;rcases hr.cases with rfl | ⟨b,off,rfl,hpos,hcell⟩
 ·go_enter Tryz.func136,Tryz.ntmps136;go_wp2_with (at_make;refine wpList_make_full _ rfl _ _ 24 rfl w.heap.size 3 i0 (.int .i64 0) 1 Tryz.underlying24 hi hz0 hz1 _ _ _ _ 0 rfl rfl (by simp) (by simp) (by omega) (by simp [maxLen]) (Nat.le_refl _) ?_);intro w0 hown0 j5;go_wp2;refine wp_loop_rounds 1 ?_;rw [rounds_succ];go_wp2;go_ret;exact ⟨rfl,by simpa [toList_madeCells_one] using hown0,(Below.refl _ _).grown j5 (Nat.le_refl _) (fun k h=>by cases h)⟩
 ·have JJ:b<w.heap.size:=by
   have:=hcell 0 hpos;simp only [World.cell?] at this;by_cases hb:b<w.heap.size
   ·exact hb
   ·simp [Array.getElem?_eq_none (Nat.le_of_not_lt hb)] at this
  go_enter Tryz.func136,Tryz.ntmps136;go_wp2_with (at_make;refine wpList_make_full _ rfl _ _ 24 rfl w.heap.size 3 i0 (.int .i64 0) 1 Tryz.underlying24 hi hz0 hz1 _ _ _ _ zs.length rfl rfl rfl rfl (by rw [hz2];omega) (by simp [maxLen];omega) (Nat.le_refl _) ?_);intro w0 hown0 j5;have hown1:w0.ownsRow w.heap.size 3 1 (.slice (some ⟨w.heap.size,0,none⟩) zs.length zs.length) zs.length ((Qm zs 0).map (Value.int .i64)):=by
   rw [tT,List.map_replicate]
   simpa [Value.cells,toList_madeCells_one] using hown0
  have hb0:Below w.heap.size w w0:=(Below.refl _ _).grown j5 (Nat.le_refl _) (fun k h=>by cases h);clear hown0 j5;go_wp2;go_loopw [4] (fun i wr=>∃ k:Nat,k≤zs.length∧i=.int .i64 k∧wr.ownsRow w.heap.size 3 1 (.slice (some ⟨w.heap.size,0,none⟩) zs.length zs.length) zs.length ((Qm zs k).map (Value.int .i64))∧Below w.heap.size w wr)
   (fun i _=>zs.length-(RowKit.intOf i).toNat)
  case atStart=>exact ⟨0,Nat.zero_le _,rfl,hown1,hb0⟩
  case round=>
   obtain ⟨k,hk,rfl,hown,hnx⟩:=hrel;by_cases hlt:k<zs.length
   ·have hc:wr.cell? ⟨b,off+k,none⟩=some (.int .i64 (zs.getD k 0)):=(hnx.cell (by exact JJ)).trans (hcell k hlt);have hfz:=hown.frozenAt k;have hct:=hown.cellAt k (by omega);have hp:=FX zs k hk;have HS:=hown.stored k (.int .i64 (zs.getD k 0));rw [Ha zs k hlt] at HS;have HN:Below w.heap.size w (wr.setCell ⟨w.heap.size,k,none⟩ (.int .i64 (zs.getD k 0))):=hnx.setCell (Nat.le_refl _) _;have jR:Hid (_∧_):=⟨HS.1,HN⟩;clear HS HN hown hcell hnx hown1 hb0;generalize zs.getD k 0=z at*
    go_wp2;go_roundw
    case rel=>exact ⟨k+1,by omega,by go_num,jR.out.1,jR.out.2⟩
    case measure=>simp [RowKit.intOf];omega
   ·have HE:Hid (wr.ownsRow w.heap.size 3 1 (.slice (some ⟨w.heap.size,0,none⟩) zs.length zs.length) zs.length (zs.map (Value.int .i64))):=by
     have e:k=zs.length:=by omega
     rw [e,FY] at hown;exact hown
    go_wp2;go_ret;exact ⟨rfl,HE.out,hnx⟩
theorem gJ (a:Option Addr) (cap:Nat) (zs:List Int) (w:World) (hr:ky w a zs) (hl:zs.length≤1099511627776):
  Calls Tryz.prog 136 #[.slice a zs.length cap] w fun e w'=>∃ a' c',e=.returned (.slice a' zs.length c')∧jG w' w.heap.size w'.heap.size a' c' zs∧Below w.heap.size w w':=by
 refine (tY a cap zs w hr hl).mono ?_;rintro e w' ⟨rfl,ho,hb⟩;exact ⟨_,_,rfl,⟨ho,Nat.le_refl _,fun k hk=>(ho.lt k hk).2⟩,hb⟩
def Box (w:World) (B:Nat) (vs:List Value) (t:TypeId):Prop:=w.heap[B]? =some (.cells vs.toArray t (0,0))
theorem Box.lt {w:World} {B:Nat} {vs:List Value} {t:TypeId} (h:Box w B vs t):B<w.heap.size:=(Array.getElem?_eq_some_iff.1 h).1
theorem Box.cell {w:World} {B:Nat} {vs:List Value} {t:TypeId} (h:Box w B vs t) (i:Nat) (v:Value) (hv:vs[i]? =some v):w.cell? ⟨B,i,none⟩=some v:=by
 unfold Box at h;simp [World.cell?,h,hv]
theorem Box.frozen {w:World} {B:Nat} {vs:List Value} {t:TypeId} (h:Box w B vs t) (i:Nat):w.frozen? ⟨B,i,none⟩=false:=by
 unfold Box at h;simp [World.frozen?,h]
theorem Box.set {w:World} {B:Nat} {vs:List Value} {t:TypeId} (h:Box w B vs t) (i:Nat) (v:Value):Box (w.setCell ⟨B,i,none⟩ v) B (vs.set i v) t:=by
 unfold Box at h ⊢;rw [heap_setCell_same w B i _ t v h];simp
theorem Box.block {w w':World} {B:Nat} {vs:List Value} {t:TypeId} (h:Box w B vs t) (hb:w'.heap[B]? =w.heap[B]?):Box w' B vs t:=by unfold Box at h ⊢;rw [hb];exact h
theorem Box.below {w w':World} {B n:Nat} {vs:List Value} {t:TypeId} (h:Box w B vs t) (hb:Below n w w') (hn:B<n):Box w' B vs t:=h.block (hb.block B hn)
theorem Box.within {w w':World} {B l r:Nat} {vs:List Value} {t:TypeId} (h:Box w B vs t) (hb:Within l r w w') (hn:¬ (l≤B∧B<r)):Box w' B vs t:=h.block (hb.block B h.lt hn)
theorem Box.alloc {w:World} {B:Nat} {vs:List Value} {t:TypeId} (h:Box w B vs t) (o:Obj):Box (w.alloc o) B vs t:=h.block (Below.heap_alloc w o B h.lt)
theorem Box.other {w:World} {B C i:Nat} {v:Value} {vs:List Value} {t:TypeId} (h:Box w B vs t) (hne:B≠C):Box (w.setCell ⟨C,i,none⟩ v) B vs t:=h.block (heap_setCell_other w ⟨C,i,none⟩ B v hne)
theorem yF (w:World) (vs:List Value) (t:TypeId):Box (w.alloc (.cells vs.toArray t)) w.heap.size vs t:=by unfold Box;rw [heap_alloc_new]
theorem Box.drewN {w:World} {B:Nat} {vs:List Value} {t:TypeId} (h:Box w B vs t) (n:Nat):Box (w.drewN n) B vs t:=h.block (by rfl)
theorem qx (w:World) (v0:List Value) (t0:TypeId):∃ W,Hid (w.alloc (.cells v0.toArray t0)=W)∧Box W w.heap.size v0 t0∧Below w.heap.size w W∧W.heap.size=w.heap.size+1:=
 ⟨_,rfl,yF w _ _,(Below.refl _ _).alloc (Nat.le_refl _) _,by simp⟩
theorem jf (w:World) (v0 v1:List Value) (t0 t1:TypeId):∃ W,Hid ((w.alloc (.cells v0.toArray t0)).alloc (.cells v1.toArray t1)=W)∧Box W w.heap.size v0 t0∧Box W (w.heap.size+1) v1 t1∧Below w.heap.size w W∧W.heap.size=w.heap.size+2:=by
 refine ⟨_,rfl,(yF w _ _).alloc _,?_,((Below.refl _ _).alloc (Nat.le_refl _) _).alloc (by simp) _,by simp⟩;have:=yF (w.alloc (.cells v0.toArray t0)) v1 t1
 simpa using this
theorem yn (w:World) (v0 v1 v2:List Value) (t0 t1 t2:TypeId):∃ W,Hid (((w.alloc (.cells v0.toArray t0)).alloc (.cells v1.toArray t1)).alloc (.cells v2.toArray t2)=W)∧Box W w.heap.size v0 t0∧Box W (w.heap.size+1) v1 t1∧Box W (w.heap.size+1+1) v2 t2∧Below w.heap.size w W∧W.heap.size=w.heap.size+3:=by
 refine ⟨_,rfl,((yF w _ _).alloc _).alloc _,?_,?_,(((Below.refl _ _).alloc (Nat.le_refl _) _).alloc (by simp) _).alloc (by simp;omega) _,by simp⟩
 ·have:=(yF (w.alloc (.cells v0.toArray t0)) v1 t1).alloc (.cells v2.toArray t2)
  simpa using this
 ·have:=yF ((w.alloc (.cells v0.toArray t0)).alloc (.cells v1.toArray t1)) v2 t2
  simpa using this
theorem jB {w:World} {B:Nat} {vs:List Value} {t:TypeId} (h:Box w B vs t) (i:Nat) (v:Value):∃ W,Hid (w.setCell ⟨B,i,none⟩ v=W)∧Box W B (vs.set i v) t∧Within B (B+1) w W∧W.heap.size=w.heap.size:=
 ⟨_,rfl,h.set i v,⟨rfl,rfl,rfl,by simp,fun k _ hn=>heap_setCell_other w ⟨B,i,none⟩ k v (fun e=>hn (by simp at e;omega))⟩,by simp⟩
theorem jh (w:World) (B i:Nat) (v:Value) {lo hi:Nat} (h:lo≤B∧B<hi):Within lo hi w (w.setCell ⟨B,i,none⟩ v):=
 ⟨rfl,rfl,rfl,by simp,fun k _ hn=>heap_setCell_other w ⟨B,i,none⟩ k v (fun e=>hn (by simp at e;omega))⟩
structure xk where
 kind:Int
 ints:List Int
 refs:List Int
structure qQ (w:World) (aI:Option Addr) (cI:Nat) (aR:Option Addr) (cR:Nat) (o:xk):Prop where
 ints:ky w aI o.ints
 refs:ky w aR o.refs
 ni:aI=none→cI=0
 nr:aR=none→cR=0
structure OwnO (w:World) (lo hi:Nat) (aI:Option Addr) (cI:Nat) (aR:Option Addr) (cR:Nat) (o:xk):Prop where
 ints:jG w lo hi aI cI o.ints
 refs:jG w lo hi aR cR o.refs
 apart:∀ k,(Value.slice aI o.ints.length cI).ownBlock=some k→(Value.slice aR o.refs.length cR).ownBlock≠some k
theorem qQ.below {w w':World} {aI:Option Addr} {cI:Nat} {aR:Option Addr} {cR:Nat} {o:xk} (h:qQ w aI cI aR cR o) (hb:Below w.heap.size w w'):qQ w' aI cI aR cR o:=⟨h.ints.below hb,h.refs.below hb,h.ni,h.nr⟩
theorem qQ.drew {w:World} {aI:Option Addr} {cI:Nat} {aR:Option Addr} {cR:Nat} {o:xk} (h:qQ w aI cI aR cR o):qQ w.drew aI cI aR cR o:=h.below (Below.refl _ _).drew
theorem OwnO.reads {w:World} {lo hi:Nat} {aI:Option Addr} {cI:Nat} {aR:Option Addr} {cR:Nat} {o:xk} (h:OwnO w lo hi aI cI aR cR o):qQ w aI cI aR cR o:=⟨h.ints.reads,h.refs.reads,h.ints.XZ,h.refs.XZ⟩
theorem OwnO.within {w w':World} {lo hi l r:Nat} {aI:Option Addr} {cI:Nat} {aR:Option Addr} {cR:Nat} {o:xk} (h:OwnO w lo hi aI cI aR cR o) (hw:Within l r w w') (hd:hi≤l∨r≤lo):OwnO w' lo hi aI cI aR cR o:=⟨h.ints.within hw hd,h.refs.within hw hd,h.apart⟩
theorem OwnO.below {w w':World} {lo hi:Nat} {aI:Option Addr} {cI:Nat} {aR:Option Addr} {cR:Nat} {o:xk} (h:OwnO w lo hi aI cI aR cR o) (hb:Below w.heap.size w w'):OwnO w' lo hi aI cI aR cR o:=⟨h.ints.below hb,h.refs.below hb,h.apart⟩
theorem OwnO.widen {w:World} {lo hi lo' hi':Nat} {aI:Option Addr} {cI:Nat} {aR:Option Addr} {cR:Nat} {o:xk} (h:OwnO w lo hi aI cI aR cR o) (h1:lo'≤lo) (h2:hi≤hi') (h3:hi'≤w.heap.size):OwnO w lo' hi' aI cI aR cR o:=⟨h.ints.widen h1 h2 h3,h.refs.widen h1 h2 h3,h.apart⟩
theorem jG.kept {w w':World} {lo hi:Nat} {a:Option Addr} {c:Nat} {ns:List Int} {row:Option Nat} (h:jG w lo hi a c ns) (hg:w.grownBy w' row) (hne:∀ k,(Value.slice a ns.length c).ownBlock=some k→row≠some k):jG w' lo hi a c ns:=
 ⟨jE h.1 (fun k hk=>hg.block k (h.1.lt k hk).2 (fun e=>hne k hk e.symm)),Nat.le_trans h.2.1 hg.size,h.2.2⟩
theorem F3 (o:xk) (aI:Option Addr) (cI:Nat) (aR:Option Addr) (cR:Nat) (w:World) (hr:qQ w aI cI aR cR o) (JM:o.ints.length≤1099511627776) (Q7:o.refs.length≤1099511627776):
  Calls Tryz.prog 41 #[.agg #[.int .i64 o.kind,.slice aI o.ints.length cI,.slice aR o.refs.length cR]] w fun e w'=>∃ F4 F5 F6 cR',e=.returned (.agg #[.int .i64 o.kind,.slice F4 o.ints.length F5,.slice F6 o.refs.length cR'])∧
   OwnO w' w.heap.size w'.heap.size F4 F5 F6 cR' o∧Below w.heap.size w w':=by
 obtain ⟨k,ints,refs⟩:=o;obtain ⟨hI,hR,_,_⟩:=hr;simp only at*
 go_enter Tryz.func41,Tryz.ntmps41;go_wp2_with fail;obtain ⟨W,hW,b0,b1,b2,hbW,qp⟩:=yn w [.int .i64 k,.slice aI ints.length cI,.slice aR refs.length cR] [.int .i64 0,.slice none 0 0,.slice none 0 0] [.int .i64 k,.slice none 0 0,.slice none 0 0] 61 26 26;rw [hW.out];clear hW;refine (gJ aI cI ints W (hI.below hbW) JM).mono ?_;rintro e w1 ⟨a1,c1,rfl,ho1,hb1⟩;have b0':=b0.below hb1 b0.lt;have b1':=b1.below hb1 b1.lt;have b2':=b2.below hb1 b2.lt;have h02:=b0'.cell 2 _ rfl;have h21:=b2'.cell 1 _ rfl;have f21:=b2'.frozen 1;go_wp2_with fail;obtain ⟨W2,hW2,b2s,hw2,hs2⟩:=jB b2' 1 (.slice a1 ints.length c1);rw [hW2.out];clear hW2;have F7:Below w.heap.size w W2:=(hbW.trans (hb1.mono (by omega))).trans (hw2.below (by omega) (by have:=hb1.size;omega));have VA:jG W2 W.heap.size w1.heap.size a1 c1 ints:=ho1.within hw2 (.inr (by omega));refine (gJ aR cR refs W2 (hR.below F7) Q7).mono ?_;rintro e w3 ⟨a3,c3,rfl,ho3,hb3⟩;have qdz:=VA.below hb3;have zh:=b2s.below hb3 b2s.lt;have b13:=(b1'.within hw2 (by omega)).below hb3 (by have:=(b1'.within hw2 (by omega)).lt;exact this);simp only [List.set] at zh;have g22:=zh.cell 2 _ rfl;have e22:=zh.frozen 2;have bS:=zh.set 2 (.slice a3 refs.length c3);have bT:=b13.other (C:=w.heap.size+1+1) (i:=2) (v:=.slice a3 refs.length c3) (by omega);simp only [List.set] at bS;have s0:=bS.cell 0 _ rfl;have s1:=bS.cell 1 _ rfl;have s2:=bS.cell 2 _ rfl;have t0:=bT.cell 0 _ rfl;have t1:=bT.cell 1 _ rfl;have t2:=bT.cell 2 _ rfl;have u0:=bT.frozen 0;have u1:=bT.frozen 1;have u2:=bT.frozen 2;have bF:=((bT.set 0 (.int .i64 k)).set 1 (.slice a1 ints.length c1)).set 2 (.slice a3 refs.length c3);simp only [List.set] at bF;have hwF:Within (w.heap.size+1) (w.heap.size+3) w3 _:=(((jh w3 (w.heap.size+1+1) 2 (.slice a3 refs.length c3) (by omega)).trans (jh _ (w.heap.size+1) 0 (.int .i64 k) (by omega))).trans (jh _ (w.heap.size+1) 1 (.slice a1 ints.length c1) (by omega))).trans (jh _ (w.heap.size+1) 2 (.slice a3 refs.length c3) (by omega));have HF:Hid (_∧_∧_∧_):=⟨bF.cell 0 _ rfl,bF.cell 1 _ rfl,bF.cell 2 _ rfl,hwF⟩;clear bF hwF;go_wp2;obtain ⟨f0,f1,f2,hwF⟩:=HF.out;generalize (((w3.setCell ⟨w.heap.size+1+1,2,none⟩ (.slice a3 refs.length c3)).setCell ⟨w.heap.size+1,0,none⟩ (.int .i64 k)).setCell ⟨w.heap.size+1,1,none⟩ (.slice a1 ints.length c1)).setCell ⟨w.heap.size+1,2,none⟩ (.slice a3 refs.length c3)=WF at*
 have hs3:=hb3.size;have hs1:=hb1.size;have qN:=hwF.size;refine bodyPost_ret (v:=.agg #[.int .i64 k,.slice a1 ints.length c1,.slice a3 refs.length c3]) (by simp [results,Tryz.results41,go_sem,f0,f1,f2]) rfl ⟨a1,c1,a3,c3,rfl,⟨(qdz.within hwF (.inr (by omega))).widen (by omega) (by omega) (Nat.le_refl _),(ho3.within hwF (.inr (by omega))).widen (by omega) (by omega) (Nat.le_refl _),fun j hj hj'=>by have:=(ho1.lt j hj).2;have:=(ho3.lt j hj').1;omega⟩,(F7.trans (hb3.mono (by omega))).trans (hwF.below (by omega) (by omega))⟩
theorem Box.three {w:World} {B:Nat} {x0 x1 x2:Value} {t:TypeId} (b:Box w B [x0,x1,x2] t):
  w.cell? ⟨B,0,none⟩=some x0∧w.cell? ⟨B,1,none⟩=some x1∧w.cell? ⟨B,2,none⟩=some x2∧w.frozen? ⟨B,0,none⟩=false∧w.frozen? ⟨B,1,none⟩=false∧w.frozen? ⟨B,2,none⟩=false:=
 ⟨b.cell 0 _ rfl,b.cell 1 _ rfl,b.cell 2 _ rfl,b.frozen 0,b.frozen 1,b.frozen 2⟩
theorem F8 {w:World} {B:Nat} {x0 x1 x2:Value} {t:TypeId} (b:Box w B [x0,x1,x2] t) (v0 v1 v2:Value):
  ∃ W,Hid (((w.setCell ⟨B,0,none⟩ v0).setCell ⟨B,1,none⟩ v1).setCell ⟨B,2,none⟩ v2=W)∧Box W B [v0,v1,v2] t∧Within B (B+1) w W∧W.heap.size=w.heap.size:=by
 refine ⟨_,rfl,?_,?_,?_⟩
 ·have:=((b.set 0 v0).set 1 v1).set 2 v2
  simpa only [List.set] using this
 ·exact ((jh w B 0 v0 (by omega)).trans (jh _ B 1 v1 (by omega))).trans (jh _ B 2 v2 (by omega))
 ·simp
structure jy where
 has:Bool
 o:xk
structure qf where
 v:jy
 aI:Option Addr
 cI:Nat
 aR:Option Addr
 cR:Nat
def qf.cells (s:qf):List Value:=[.bool s.v.has,.int .i64 s.v.o.kind,.slice s.aI s.v.o.ints.length s.cI,.slice s.aR s.v.o.refs.length s.cR]
def qf.reads (w:World) (s:qf):Prop:=qQ w s.aI s.cI s.aR s.cR s.v.o
def qf.own (w:World) (lo hi:Nat) (s:qf):Prop:=OwnO w lo hi s.aI s.cI s.aR s.cR s.v.o
theorem Box.four {w:World} {B:Nat} {x0 x1 x2 x3:Value} {t:TypeId} (b:Box w B [x0,x1,x2,x3] t):
  w.cell? ⟨B,0,none⟩=some x0∧w.cell? ⟨B,1,none⟩=some x1∧w.cell? ⟨B,2,none⟩=some x2∧w.cell? ⟨B,3,none⟩=some x3∧w.frozen? ⟨B,0,none⟩=false∧w.frozen? ⟨B,1,none⟩=false∧w.frozen? ⟨B,2,none⟩=false∧w.frozen? ⟨B,3,none⟩=false:=
 ⟨b.cell 0 _ rfl,b.cell 1 _ rfl,b.cell 2 _ rfl,b.cell 3 _ rfl,b.frozen 0,b.frozen 1,b.frozen 2,b.frozen 3⟩
theorem tZ {w:World} {B:Nat} {x0 x1 x2 x3:Value} {t:TypeId} (b:Box w B [x0,x1,x2,x3] t) (v1 v2 v3:Value):
  ∃ W,Hid (((w.setCell ⟨B,1,none⟩ v1).setCell ⟨B,2,none⟩ v2).setCell ⟨B,3,none⟩ v3=W)∧Box W B [x0,v1,v2,v3] t∧Within B (B+1) w W∧W.heap.size=w.heap.size:=by
 refine ⟨_,rfl,?_,?_,?_⟩
 ·have:=((b.set 1 v1).set 2 v2).set 3 v3
  simpa only [List.set] using this
 ·exact ((jh w B 1 v1 (by omega)).trans (jh _ B 2 v2 (by omega))).trans (jh _ B 3 v3 (by omega))
 ·simp
theorem Ye {w:World} {B:Nat} {x0 x1 x2 x3:Value} {t:TypeId} (b:Box w B [x0,x1,x2,x3] t) (v0 v1 v2 v3:Value):
  ∃ W,Hid ((((w.setCell ⟨B,0,none⟩ v0).setCell ⟨B,1,none⟩ v1).setCell ⟨B,2,none⟩ v2).setCell ⟨B,3,none⟩ v3=W)∧Box W B [v0,v1,v2,v3] t∧Within B (B+1) w W∧W.heap.size=w.heap.size:=by
 refine ⟨_,rfl,?_,?_,?_⟩
 ·have:=(((b.set 0 v0).set 1 v1).set 2 v2).set 3 v3
  simpa only [List.set] using this
 ·exact (((jh w B 0 v0 (by omega)).trans (jh _ B 1 v1 (by omega))).trans (jh _ B 2 v2 (by omega))).trans (jh _ B 3 v3 (by omega))
 ·simp
theorem Zw (s:qf) (w:World) (hr:s.reads w) (JM:s.v.o.ints.length≤1099511627776) (Q7:s.v.o.refs.length≤1099511627776):
  Calls Tryz.prog 30 #[.agg s.cells.toArray] w fun e w'=>∃ t:qf,e=.returned (.agg t.cells.toArray)∧Hid (t.v=s.v)∧t.own w' w.heap.size w'.heap.size∧Below w.heap.size w w':=by
 obtain ⟨⟨h,⟨k,ints,refs⟩⟩,aI,cI,aR,cR⟩:=s;simp only [qf.cells,qf.reads,qf.own] at*
 obtain ⟨W,hW,b0,b1,b2,hbW,qp⟩:=yn w [.bool h,.int .i64 k,.slice aI ints.length cI,.slice aR refs.length cR] [.bool false,.int .i64 0,.slice none 0 0,.slice none 0 0] [.bool h,.int .i64 0,.slice none 0 0,.slice none 0 0] 63 28 28;go_enter Tryz.func30,Tryz.ntmps30;go_wp2_with fail;rw [hW.out];clear hW;have hs0:w.heap.size+1+1<W.heap.size:=by omega
 clear qp;refine (F3 ⟨k,ints,refs⟩ aI cI aR cR W (hr.below hbW) JM Q7).mono ?_;rintro e w1 ⟨pI,dI,pR,dR,rfl,ho1,hb1⟩;simp only at*
 have hs1:=hb1.size;have b11:=b1.below hb1 b1.lt;have zU:=b2.below hb1 b2.lt;obtain ⟨x0,x1,x2,x3,f0,f1,f2,f3⟩:=zU.four;obtain ⟨y0,y1,y2,y3,g0,g1,g2,g3⟩:=b11.four;obtain ⟨W2,hW2,QH,hw2,hs2⟩:=tZ zU (.int .i64 k) (.slice pI ints.length dI) (.slice pR refs.length dR);have b12:Box W2 (w.heap.size+1) _ _:=b11.within hw2 (by omega);obtain ⟨WF,qF,bF,hwF,qN⟩:=Ye b12 (.bool h) (.int .i64 k) (.slice pI ints.length dI) (.slice pR refs.length dR);have xM:Below w.heap.size w WF:=((hbW.trans (hb1.mono (by omega))).trans (hw2.below (by omega) (by omega))).trans (hwF.below (by omega) (by omega));have xY:OwnO WF w.heap.size WF.heap.size pI dI pR dR ⟨k,ints,refs⟩:=((ho1.within hw2 (.inr (by omega))).within hwF (.inr (by omega))).widen (by omega) (by omega) (Nat.le_refl _);clear hs2 qN hw2 hwF hbW hb1;go_wp2;rw [hW2.out,qF.out];obtain ⟨q0,q1,q2,q3,_⟩:=bF.four;exact bodyPost_ret (v:=.agg #[.bool h,.int .i64 k,.slice pI ints.length dI,.slice pR refs.length dR]) (by simp [results,Tryz.results30,go_sem,q0,q1,q2,q3]) rfl ⟨⟨⟨h,⟨k,ints,refs⟩⟩,pI,dI,pR,dR⟩,rfl,rfl,xY,xM⟩
theorem jk {P:Program} {fn:Func} {s:Nat} {ty:TypeId} {tmps:Array Value} {w:World} {v:Value} {ad:Addr} (hf:fn.results=#[.cell s ty]) (ht:tmps[s]?.getD undef=.pointer (some ad)) (hl:(loadVar ty ad).run P w=.ok v w):(results fn tmps).run P w=.ok v w:=by
 unfold results;rw [hf];simp [ht,asAddr,hl]
def cellsS (ss:List qf):List Value:=ss.flatMap qf.cells
def qh:qf:=⟨⟨false,⟨0,[],[]⟩⟩,none,0,none,0⟩
theorem xR (s:qf):s.cells.length=4:=rfl
theorem jq (ss:List qf):(cellsS ss).length=ss.length*4:=by
 induction ss with
 | nil=>rfl
 | cons s r ih=>simp only [cellsS,List.flatMap_cons,List.length_append,xR,List.length_cons] at *;omega
theorem u7 (ss:List qf) (k j:Nat) (hk:k<ss.length) (hj:j<4):(cellsS ss)[k*4+j]? =(ss.getD k qh).cells[j]? :=by
 induction ss generalizing k with
 | nil=>simp at hk
 | cons s r ih=>
  have e:cellsS (s::r)=s.cells++cellsS r:=by simp [cellsS]
  rw [e];cases k with
  | zero=>rw [List.getElem?_append_left (by rw [xR];omega)];simp
  | succ k=>
   rw [List.getElem?_append_right (by rw [xR];omega),xR];have:=ih k (by simpa using hk);rw [show (k+1)*4+j-4=k*4+j by omega,this];simp
theorem gK (ss:List qf) (k:Nat) (hk:k<ss.length) (t:qf):
  ((((cellsS ss).set (k*4) (.bool t.v.has)).set (k*4+1) (.int .i64 t.v.o.kind)).set (k*4+2) (.slice t.aI t.v.o.ints.length t.cI)).set (k*4+3) (.slice t.aR t.v.o.refs.length t.cR)=cellsS (ss.set k t):=by
 induction ss generalizing k with
 | nil=>simp at hk
 | cons s r ih=>
  cases k with
  | zero=>
   simp [cellsS,qf.cells]
  | succ k=>
   have:=ih k (by simpa using hk);simp only [List.set_cons_succ];have e:cellsS (s::r)=[.bool s.v.has,.int .i64 s.v.o.kind,.slice s.aI s.v.o.ints.length s.cI,.slice s.aR s.v.o.refs.length s.cR]++cellsS r:=by simp [cellsS,qf.cells]
   have e2:cellsS (s::r.set k t)=[.bool s.v.has,.int .i64 s.v.o.kind,.slice s.aI s.v.o.ints.length s.cI,.slice s.aR s.v.o.refs.length s.cR]++cellsS (r.set k t):=by simp [cellsS,qf.cells]
   rw [e,e2,← this];rw [show (k+1)*4=k*4+4 by omega];simp [List.set]
theorem Box.slot {w:World} {B:Nat} {ss:List qf} {t:TypeId} (b:Box w B (cellsS ss) t) (k:Nat) (hk:k<ss.length):
  w.cell? ⟨B,k*4,none⟩=some (.bool (ss.getD k qh).v.has)∧w.cell? ⟨B,k*4+1,none⟩=some (.int .i64 (ss.getD k qh).v.o.kind)∧
  w.cell? ⟨B,k*4+2,none⟩=some (.slice (ss.getD k qh).aI (ss.getD k qh).v.o.ints.length (ss.getD k qh).cI)∧w.cell? ⟨B,k*4+3,none⟩=some (.slice (ss.getD k qh).aR (ss.getD k qh).v.o.refs.length (ss.getD k qh).cR)∧
  (∀ i,w.frozen? ⟨B,i,none⟩=false):=
 ⟨b.cell _ _ (u7 ss k 0 hk (by omega)),b.cell _ _ (u7 ss k 1 hk (by omega)),b.cell _ _ (u7 ss k 2 hk (by omega)),b.cell _ _ (u7 ss k 3 hk (by omega)),fun i=>b.frozen i⟩
theorem F9 {w:World} {B:Nat} {ss:List qf} {ty:TypeId} (b:Box w B (cellsS ss) ty) (k:Nat) (hk:k<ss.length) (t:qf):
  ∃ W,Hid ((((w.setCell ⟨B,k*4,none⟩ (.bool t.v.has)).setCell ⟨B,k*4+1,none⟩ (.int .i64 t.v.o.kind)).setCell ⟨B,k*4+2,none⟩ (.slice t.aI t.v.o.ints.length t.cI)).setCell ⟨B,k*4+3,none⟩ (.slice t.aR t.v.o.refs.length t.cR)=W)∧Box W B (cellsS (ss.set k t)) ty∧Within B (B+1) w W∧W.heap.size=w.heap.size:=by
 refine ⟨_,rfl,?_,?_,?_⟩
 ·have:=(((b.set (k*4) (.bool t.v.has)).set (k*4+1) (.int .i64 t.v.o.kind)).set (k*4+2) (.slice t.aI t.v.o.ints.length t.cI)).set (k*4+3) (.slice t.aR t.v.o.refs.length t.cR);rw [gK ss k hk t] at this;exact this
 ·exact (((jh w B _ _ (by omega)).trans (jh _ B _ _ (by omega))).trans (jh _ B _ _ (by omega))).trans (jh _ B _ _ (by omega))
 ·simp
def qf.blocks (s:qf):List Nat:=(Value.slice s.aI s.v.o.ints.length s.cI).ownBlock.toList++(Value.slice s.aR s.v.o.refs.length s.cR).ownBlock.toList
structure qG (w:World) (lo hi:Nat) (ss:List qf):Prop where
 each:∀ s∈ss,s.own w lo hi
 apart:(ss.flatMap qf.blocks).Nodup
theorem qf.ql {w:World} {lo hi:Nat} {s:qf} (h:s.own w lo hi):∀ k∈s.blocks,lo≤k∧k<hi:=by
 intro k hk;rcases List.mem_append.1 hk with h1 | h1
 ·exact h.ints.lt k (Option.mem_toList.1 h1)
 ·exact h.refs.lt k (Option.mem_toList.1 h1)
theorem qf.Xv {w:World} {lo hi:Nat} {s:qf} (h:s.own w lo hi):s.blocks.Nodup:=by
 unfold qf.blocks;cases h1:(Value.slice s.aI s.v.o.ints.length s.cI).ownBlock with
 | none=>cases h2:(Value.slice s.aR s.v.o.refs.length s.cR).ownBlock<;>simp
 | some a=>
  cases h2:(Value.slice s.aR s.v.o.refs.length s.cR).ownBlock with
  | none=>simp
  | some b=>
   have:=h.apart a h1;rw [h2] at this;have hne:b≠a:=fun e=>this (by rw [e])
   simp [Ne.symm hne]
theorem qG.nil (w:World) (lo hi:Nat):qG w lo hi []:=⟨by simp,by simp⟩
theorem qG.below {w w':World} {lo hi:Nat} {ss:List qf} (h:qG w lo hi ss) (hb:Below w.heap.size w w'):qG w' lo hi ss:=⟨fun s hs=>(h.each s hs).below hb,h.apart⟩
theorem qG.within {w w':World} {lo hi l r:Nat} {ss:List qf} (h:qG w lo hi ss) (hw:Within l r w w') (hd:hi≤l∨r≤lo):qG w' lo hi ss:=⟨fun s hs=>(h.each s hs).within hw hd,h.apart⟩
theorem qG.widen {w:World} {lo hi lo' hi':Nat} {ss:List qf} (h:qG w lo hi ss) (h1:lo'≤lo) (h2:hi≤hi') (h3:hi'≤w.heap.size):qG w lo' hi' ss:=⟨fun s hs=>(h.each s hs).widen h1 h2 h3,h.apart⟩
theorem qG.ql {w:World} {lo hi:Nat} {ss:List qf} (h:qG w lo hi ss):∀ k∈ss.flatMap qf.blocks,lo≤k∧k<hi:=by
 intro k hk;obtain ⟨s,hs,hk'⟩:=List.mem_flatMap.1 hk;exact qf.ql (h.each s hs) k hk'
theorem qG.snoc {w:World} {lo mid hi:Nat} {ss:List qf} {t:qf} (h:qG w lo mid ss) (ht:t.own w mid hi) (h1:lo≤mid) (h2:mid≤hi) (h3:hi≤w.heap.size):qG w lo hi (ss++[t]):=by
 refine ⟨fun s hs=>?_,?_⟩
 ·rcases List.mem_append.1 hs with h' | h'
  ·exact (h.each s h').widen (Nat.le_refl _) h2 h3
  ·obtain rfl:=List.mem_singleton.1 h';exact OwnO.widen ht h1 (Nat.le_refl _) h3
 ·rw [List.flatMap_append,List.nodup_append];refine ⟨h.apart,by simpa using qf.Xv ht,?_⟩;intro a ha b hb e;have:=(h.ql a ha).2;have:=(qf.ql ht b (by simpa using hb)).1;omega
def jK (w:World) (ss:List qf):Prop:=∀ s∈ss,s.reads w
theorem qG.reads {w:World} {lo hi:Nat} {ss:List qf} (h:qG w lo hi ss):jK w ss:=fun s hs=>OwnO.reads (h.each s hs)
theorem jK.below {w w':World} {ss:List qf} (h:jK w ss) (hb:Below w.heap.size w w'):jK w' ss:=fun s hs=>qQ.below (h s hs) hb
theorem Uy (a b:Option Addr) (ca cb:Nat) (zs:List Int) (w:World) (ha:ky w a zs) (hb:ky w b zs) (hl:zs.length≤1099511627776):
  Calls Tryz.prog 137 #[.slice a zs.length ca,.slice b zs.length cb] w fun e w'=>e=.returned (.bool true)∧∃ n,w'=w.drewN n:=by
 rcases ha.cases with rfl | ⟨b1,o1,rfl,hpos,hc1⟩
 ·go_enter Tryz.func137,Tryz.ntmps137;go_wp2;refine wp_loop_rounds 1 ?_;rw [rounds_succ];go_wp2;go_ret;exact ⟨rfl,0,rfl⟩
 ·rcases hb.cases with rfl | ⟨b2,o2,rfl,_,hc2⟩
  ·simp at hpos
  ·go_enter Tryz.func137,Tryz.ntmps137;go_wp2;go_loopw [5] (fun i wr=>∃ k:Nat,k≤zs.length∧i=.int .i64 k∧∃ n,wr=w.drewN n) (fun i _=>zs.length-(RowKit.intOf i).toNat)
   case atStart=>exact ⟨0,Nat.zero_le _,rfl,0,rfl⟩
   case round=>
    obtain ⟨k,hk,rfl,n,rfl⟩:=hrel;by_cases hlt:k<zs.length
    ·have h1:=hc1 k hlt;have h2:=hc2 k hlt;clear hc1 hc2;generalize zs.getD k 0=z at*
     go_wp2
     go_quiet (fail)
     go_wp2;go_roundw
     case rel=>exact ⟨k+1,by omega,by go_num,_,rfl⟩
     case measure=>simp [RowKit.intOf];omega
    ·go_wp2;go_ret;exact ⟨rfl,n,rfl⟩
def xS (k0:Int) (n:Nat):List Int:=(List.range n).map fun i:Nat=>k0+i
theorem qP (k0:Int) (n:Nat):(xS k0 n).length=n:=by simp [xS]
theorem Ra (k0:Int) (n i:Nat) (h:i<n):(xS k0 n).getD i 0=k0+i:=by
 simp [xS,List.getD,h]
theorem PX (k0:Int) (n:Nat):xS k0 (n+1)=xS k0 n++[k0+n]:=by
 simp [xS,List.range_succ]
def uG (k0:Int) (xs:List Int) (k:Nat):List Int:=xS k0 k++xs.drop k
theorem PY (k0:Int) (xs:List Int) (k:Nat) (h:k<xs.length):(uG k0 xs k).set k (k0+k)=uG k0 xs (k+1):=by
 unfold uG;rw [List.set_append,if_neg (by rw [qP];omega),qP,Nat.sub_self,PX,List.drop_eq_getElem_cons h,List.set_cons_zero];simp
theorem gL (k0:Int) (xs:List Int) (k:Nat) (h:k<xs.length):((uG k0 xs k).map (Value.int .i64)).set k (.int .i64 (k0+k))=(uG k0 xs (k+1)).map (Value.int .i64):=by
 rw [← PY k0 xs k h,List.map_set]
theorem PZ (k0:Int) (xs:List Int):uG k0 xs xs.length=xS k0 xs.length:=by simp [uG]
theorem Xw (base:Nat) (a:Option Addr) (cap:Nat) (k0:Int) (xs:List Int) (w:World)
  (hown:w.ownsRow base 3 1 (.slice a xs.length cap) xs.length (xs.map (Value.int .i64))) (h0:0≤k0) (hl:k0+xs.length≤4611686018427387904):
  Calls Tryz.prog 138 #[.slice a xs.length cap,.int .i64 k0] w fun e w'=>e=.returned (.int .i64 (k0+xs.length))∧
   w'.ownsRow base 3 1 (.slice a xs.length cap) xs.length ((xS k0 xs.length).map (Value.int .i64))∧w.grownBy w' (Value.slice a xs.length cap).ownBlock:=by
 have hlen:=hown.1;rcases hown.2 with ⟨hv,h00⟩ | ⟨g,cap',cur,hv,hg,hgg,hr⟩
 ·simp only [Value.slice.injEq] at hv;obtain ⟨rfl,EN,rfl⟩:=hv;obtain rfl:=List.length_eq_zero_iff.1 h00;go_enter Tryz.func138,Tryz.ntmps138;go_wp2;refine wp_loop_rounds 1 ?_;rw [rounds_succ];go_wp2;go_ret;exact ⟨by simp,World.ownsRow_nil _ _ _ _,World.grownBy.refl _ _⟩
 ·simp only [Value.slice.injEq] at hv;obtain ⟨rfl,_,rfl⟩:=hv;clear hgg hr hlen;have hM:w.ownsRow base 3 1 (.slice (some ⟨g,0,none⟩) xs.length cap) xs.length ((uG k0 xs 0).map (Value.int .i64)):=by simpa [uG,xS] using hown
  clear hown;go_enter Tryz.func138,Tryz.ntmps138;go_wp2;go_loopw [1,5] (fun kk i wr=>∃ k:Nat,k≤xs.length∧i=.int .i64 k∧kk=.int .i64 (k0+k)∧wr.ownsRow base 3 1 (.slice (some ⟨g,0,none⟩) xs.length cap) xs.length ((uG k0 xs k).map (Value.int .i64))∧w.grownBy wr (some g))
   (fun _ i _=>xs.length-(RowKit.intOf i).toNat)
  case atStart=>exact ⟨0,Nat.zero_le _,rfl,by simp,hM,World.grownBy.refl _ _⟩
  case round=>
   obtain ⟨k,hk,rfl,rfl,hown,hgr⟩:=hrel;clear hM;by_cases hlt:k<xs.length
   ·have hfz:=hown.frozenAt k;obtain ⟨u,hct⟩:=az hown k hlt;have HS:=hown.stored k (.int .i64 (k0+k));rw [gL k0 xs k hlt] at HS;have jR:Hid (_∧_):=HS;clear HS hown;go_wp2;go_roundw
    case rel=>exact ⟨k+1,by omega,by go_num,by go_num,jR.out.1,grownBy_trans hgr jR.out.2⟩
    case measure=>simp [RowKit.intOf];omega
   ·have HE:Hid (wr.ownsRow base 3 1 (.slice (some ⟨g,0,none⟩) xs.length cap) xs.length ((xS k0 xs.length).map (Value.int .i64))∧k=xs.length):=by
     have e:k=xs.length:=by omega
     rw [e,PZ] at hown;exact ⟨hown,e⟩
    go_wp2;go_ret;exact ⟨ja (by have:=HE.out.2;omega),HE.out.1,hgr⟩
theorem heldIntS_any (a:Option Addr) (cap:Nat) (k0:Int) (n:Nat) (w:World) (hr:ky w a (xS k0 n)) (h0:0≤k0) (hl:k0+n≤4611686018427387904):
  Calls Tryz.prog 234 #[.slice a n cap,.int .i64 k0] w fun e w'=>e=.returned (.int .i64 (k0+n))∧w'=w:=by
 rcases hr.cases with h | ⟨b,off,rfl,hpos,hcell⟩
 ·have h':=congrArg List.length h;rw [qP] at h';simp at h';subst h';go_enter Tryz.func234,Tryz.ntmps234;go_wp2;refine wp_loop_rounds 1 ?_;rw [rounds_succ];go_wp2;go_ret;exact ⟨by simp,rfl⟩
 ·rw [qP] at hpos hcell;go_enter Tryz.func234,Tryz.ntmps234;go_wp2
  go_loop [1,5] (fun kk i=>∃ k:Nat,k≤n∧i=.int .i64 k∧kk=.int .i64 (k0+k)) (fun _ i=>n-(RowKit.intOf i).toNat)
  case atStart=>exact ⟨0,Nat.zero_le _,rfl,by simp⟩
  case round=>
   obtain ⟨k,hk,rfl,rfl⟩:=hrel;by_cases hlt:k<n
   ·have hc:=hcell k hlt;rw [Ra k0 n k hlt] at hc;clear hcell;go_wp2
    go_round
    case rel=>exact ⟨k+1,by omega,by go_num,by go_num⟩
    case measure=>simp [RowKit.intOf];omega
   ·have HE:Hid (k=n):=by show k=n;omega
    go_wp2;go_ret;exact ⟨ja (by have:=HE.out;omega),rfl⟩
theorem VB (lo hi:Nat) (a:Option Addr) (cap:Nat) (k0:Int) (n:Nat) (w:World) (ho:jG w lo hi a cap (xS k0 n)) (h0:0≤k0) (hl:k0+n≤4611686018427387904):
  Calls Tryz.prog 234 #[.slice a n cap,.int .i64 k0] w fun e w'=>e=.returned (.int .i64 (k0+n))∧w'=w:=
 heldIntS_any a cap k0 n w ho.reads h0 hl
theorem Bc (o:xk) (aI:Option Addr) (cI:Nat) (aR:Option Addr) (cR:Nat) (bI:Option Addr) (dI:Nat) (bR:Option Addr) (dR:Nat) (w:World) (ha:qQ w aI cI aR cR o) (hb:qQ w bI dI bR dR o) (JM:o.ints.length≤1099511627776) (Q7:o.refs.length≤1099511627776):
  Calls Tryz.prog 42 #[.agg #[.int .i64 o.kind,.slice aI o.ints.length cI,.slice aR o.refs.length cR],.agg #[.int .i64 o.kind,.slice bI o.ints.length dI,.slice bR o.refs.length dR]] w fun e w'=>e=.returned (.bool true)∧Below w.heap.size w w':=by
 obtain ⟨k,ints,refs⟩:=o;obtain ⟨Gh,Gi,_,_⟩:=ha;obtain ⟨Gj,hbR,_,_⟩:=hb;simp only at*
 obtain ⟨W,hW,b0,b1,hbW,qp⟩:=jf w [.int .i64 k,.slice aI ints.length cI,.slice aR refs.length cR] [.int .i64 k,.slice bI ints.length dI,.slice bR refs.length dR] 26 26;go_enter Tryz.func42,Tryz.ntmps42;go_wp2_with fail;rw [hW.out];refine (Uy aI bI cI dI ints W (Gh.below hbW) (Gj.below hbW) JM).mono ?_;rintro e w1 ⟨rfl,n1,rfl⟩;have c0:=(b0.drewN n1).cell 2 _ rfl;have c1:=(b1.drewN n1).cell 2 _ rfl;have hb1:Below w.heap.size w (W.drewN n1):=below_drewN hbW n1;go_wp2_with fail;refine (Uy aR bR cR dR refs (W.drewN n1) (Gi.below hb1) (hbR.below hb1) Q7).mono ?_;rintro e w2 ⟨rfl,n2,rfl⟩;go_wp2;go_ret;exact ⟨rfl,below_drewN hbW (n1+n2)⟩
def Un (o:xk) (k0:Int):xk:=⟨o.kind,xS k0 o.ints.length,xS (k0+o.ints.length) o.refs.length⟩
def VC (w:World) (base:Nat) (a:Option Addr) (c:Nat) (ys:List Int):Prop:=
 (∀ z∈ys,0≤z∧z<256)∧w.ownsRow base 5 1 (.slice a ys.length c) ys.length (ys.map (Value.int .u8))
theorem VC.reads {w:World} {base:Nat} {a:Option Addr} {c:Nat} {ys:List Int} (h:VC w base a c ys):Reads w a ys:=Reads.EM h.1 h.2
theorem VC.base {w:World} {base base':Nat} {a:Option Addr} {c:Nat} {ys:List Int} (h:VC w base a c ys) (hb:base'≤base):VC w base' a c ys:=by
 refine ⟨h.1,h.2.1,?_⟩;rcases h.2.2 with h0 | ⟨g,cap,cur,hv,hg,hr⟩
 ·exact .inl h0
 ·exact .inr ⟨g,cap,cur,hv,by omega,hr⟩
def marks (k0:Int) (n:Nat):List Int:=(List.range n).map fun i:Nat=>(k0+i) % 256
def marked (k0:Int) (xs:List Int) (k:Nat):List Int:=marks k0 k++xs.drop k
def part (zs:List Int) (k:Nat):List Int:=zs.take k++List.replicate (zs.length-k) 0
theorem VC.lt {w:World} {base:Nat} {a:Option Addr} {c:Nat} {ys:List Int} (h:VC w base a c ys):∀ k,(Value.slice a ys.length c).ownBlock=some k→base≤k∧k<w.heap.size:=h.2.lt
def Bd (w:World) (lo hi:Nat) (a:Option Addr) (c:Nat) (ys:List Int):Prop:=VC w lo a c ys∧hi≤w.heap.size∧∀ k,(Value.slice a ys.length c).ownBlock=some k→k<hi
theorem Bd.lt {w:World} {lo hi:Nat} {a:Option Addr} {c:Nat} {ys:List Int} (h:Bd w lo hi a c ys):∀ k,(Value.slice a ys.length c).ownBlock=some k→lo≤k∧k<hi:=fun k hk=>⟨(h.1.2.lt k hk).1,h.2.2 k hk⟩
theorem Bd.reads {w:World} {lo hi:Nat} {a:Option Addr} {c:Nat} {ys:List Int} (h:Bd w lo hi a c ys):Reads w a ys:=h.1.reads
structure Touch (bl:List Nat) (w w':World):Prop where
 os:w'.os=w.os
 tape:w'.tape=w.tape
 output:w'.output=w.output
 size:w.heap.size≤w'.heap.size
 block:∀ k,k<w.heap.size→k∉bl→w'.heap[k]? =w.heap[k]?
theorem Touch.refl (bl:List Nat) (w:World):Touch bl w w:=⟨rfl,rfl,rfl,Nat.le_refl _,fun _ _ _=>rfl⟩
theorem Touch.trans {bl:List Nat} {a b c:World} (h:Touch bl a b) (k:Touch bl b c):Touch bl a c:=
 ⟨k.os.trans h.os,k.tape.trans h.tape,k.output.trans h.output,Nat.le_trans h.size k.size,fun i hi hn=>(k.block i (Nat.lt_of_lt_of_le hi h.size) hn).trans (h.block i hi hn)⟩
theorem Touch.mono {bl bl':List Nat} {w w':World} (h:Touch bl w w') (hs:∀ k∈bl,k∈bl'):Touch bl' w w':=
 ⟨h.os,h.tape,h.output,h.size,fun k hk hn=>h.block k hk (fun hh=>hn (hs k hh))⟩
theorem Touch.of_below {bl:List Nat} {w w':World} (h:Below w.heap.size w w'):Touch bl w w':=⟨h.os,h.tape,h.output,h.size,fun k hk _=>h.block k hk⟩
theorem Touch.jw {bl:List Nat} {w w':World} {row:Option Nat} (h:w.grownBy w' row) (hr:∀ k,row=some k→k∈bl):Touch bl w w':=
 ⟨h.os,h.tape,h.output,h.size,fun k hk hn=>h.block k hk (fun e=>hn (hr k e.symm))⟩
theorem Touch.within {bl:List Nat} {lo hi:Nat} {w w':World} (h:Touch bl w w') (hb:∀ k∈bl,lo≤k∧k<hi):Within lo hi w w':=
 ⟨h.os,h.tape,h.output,h.size,fun k hk hn=>h.block k hk (fun hh=>hn (hb k hh))⟩
theorem Box.touch {w w':World} {B:Nat} {vs:List Value} {t:TypeId} {bl:List Nat} (h:Box w B vs t) (ht:Touch bl w w') (hn:B∉bl):Box w' B vs t:=h.block (ht.block B h.lt hn)
theorem jG.touch {w w':World} {lo hi:Nat} {a:Option Addr} {c:Nat} {ns:List Int} {bl:List Nat} (h:jG w lo hi a c ns) (ht:Touch bl w w') (hd:∀ k,(Value.slice a ns.length c).ownBlock=some k→k∉bl):jG w' lo hi a c ns:=
 ⟨jE h.1 (fun k hk=>ht.block k (h.1.lt k hk).2 (hd k hk)),Nat.le_trans h.2.1 ht.size,h.2.2⟩
theorem qf.touch {w w':World} {lo hi:Nat} {s:qf} {bl:List Nat} (h:s.own w lo hi) (ht:Touch bl w w') (hd:∀ k∈s.blocks,k∉bl):s.own w' lo hi:=
 ⟨h.ints.touch ht (fun k hk=>hd k (List.mem_append.2 (.inl (Option.mem_toList.2 hk)))),h.refs.touch ht (fun k hk=>hd k (List.mem_append.2 (.inr (Option.mem_toList.2 hk)))),h.apart⟩
theorem qG.replace {w w':World} {lo hi:Nat} {A B:List qf} {s t:qf} (h:qG w lo hi (A++s::B)) (ht:Touch s.blocks w w') (ho:t.own w' lo hi) (hb:t.blocks=s.blocks):qG w' lo hi (A++t::B):=by
 have hap:=h.apart;rw [List.flatMap_append,List.flatMap_cons,List.nodup_append] at hap;obtain ⟨_,h2,h3⟩:=hap;rw [List.nodup_append] at h2;obtain ⟨_,_,h5⟩:=h2;refine ⟨fun x hx=>?_,?_⟩
 ·rcases List.mem_append.1 hx with hA | hB
  ·refine qf.touch (h.each x (by simp [hA])) ht (fun k hk hk'=>?_);exact h3 k (List.mem_flatMap.2 ⟨x,hA,hk⟩) k (List.mem_append.2 (.inl hk')) rfl
  ·rcases List.mem_cons.1 hB with rfl | hB
   ·exact ho
   ·refine qf.touch (h.each x (by simp [hB])) ht (fun k hk hk'=>?_);exact h5 k hk' k (List.mem_flatMap.2 ⟨x,hB,hk⟩) rfl
 ·have:=h.apart;rw [List.flatMap_append,List.flatMap_cons] at this ⊢;rw [hb];exact this
def qf.mark (s:qf) (k:Int):qf:={ s with v:=⟨s.v.has,Un s.v.o k⟩ }
def qf.count (s:qf):Nat:=s.v.o.ints.length+s.v.o.refs.length
def jH:List qf→Int→List qf
 | [],_=>[]
 | s::r,k=>s.mark k::jH r (k+s.count)
def qO:List qf→Nat
 | []=>0
 | s::r=>s.count+qO r
theorem Uz (s:qf) (k:Int):(s.mark k).blocks=s.blocks:=by simp [qf.mark,qf.blocks,Un,qP]
theorem UA (ss:List qf) (s:qf):qO (ss++[s])=qO ss+s.count:=by
 induction ss with
 | nil=>simp [qO]
 | cons x r ih=>simp only [List.cons_append,qO,ih];omega
theorem P5 (ss:List qf) (s:qf):∀ k,jH (ss++[s]) k=jH ss k++[s.mark (k+qO ss)]:=by
 induction ss with
 | nil=>intro k;simp [jH,qO]
 | cons x r ih=>
  intro k;simp only [List.cons_append,jH,ih,qO];congr 3;congr 1;omega
theorem KZ (A B:List qf):∀ k,jH (A++B) k=jH A k++jH B (k+qO A):=by
 induction A with
 | nil=>intro k;simp [jH,qO]
 | cons x r ih=>
  intro k;simp only [List.cons_append,jH,ih,qO];congr 3;omega
theorem Rb (ss:List qf) (k:Int) (j:Nat) (h:j<ss.length):(ss.getD j qh).mark (k+qO (ss.take j))∈jH ss k:=by
 have e:jH ss k=jH (ss.take j) k++jH (ss.drop j) (k+qO (ss.take j)):=by rw [← KZ,List.take_append_drop]
 have e2:ss.getD j qh=ss[j]:=by simp [List.getD,h]
 rw [e,List.drop_eq_getElem_cons h,jH,e2];exact List.mem_append.2 (.inr (List.mem_cons.2 (.inl rfl)))
theorem take_split (ss:List qf) (j:Nat) (h:j<ss.length):ss.drop j=ss.getD j qh::ss.drop (j+1)∧ss.take (j+1)=ss.take j++[ss.getD j qh]:=by
 refine ⟨by rw [List.drop_eq_getElem_cons h];simp [List.getD,h],?_⟩;rw [List.take_add_one];simp [List.getD,h]
theorem X0 (ss:List qf) (M:Nat) (h:∀ s∈ss,s.v.o.ints.length≤M∧s.v.o.refs.length≤M):qO ss≤ss.length*(2*M):=by
 induction ss with
 | nil=>simp [qO]
 | cons x r ih=>
  have h1:=h x (by simp);have h2:=ih (fun s hs=>h s (by simp [hs]));simp only [qO,qf.count,List.length_cons,Nat.add_mul];omega
theorem Hd (o:xk) (lo hi:Nat) (aI:Option Addr) (cI:Nat) (aR:Option Addr) (cR:Nat) (k0:Int) (w:World) (ho:OwnO w lo hi aI cI aR cR o) (h0:0≤k0) (JM:o.ints.length≤1099511627776) (Q7:o.refs.length≤1099511627776) (hk:k0≤109951162777600):
  Calls Tryz.prog 43 #[.agg #[.int .i64 o.kind,.slice aI o.ints.length cI,.slice aR o.refs.length cR],.int .i64 k0] w fun e w'=>e=.returned (.int .i64 (k0+o.ints.length+o.refs.length))∧OwnO w' lo hi aI cI aR cR (Un o k0)∧
   Touch ((Value.slice aI o.ints.length cI).ownBlock.toList++(Value.slice aR o.refs.length cR).ownBlock.toList) w w':=by
 obtain ⟨k,ints,refs⟩:=o;obtain ⟨hI,hR,hap⟩:=ho;simp only at*
 obtain ⟨W,hW,b0,hbW,qp⟩:=qx w [.int .i64 k,.slice aI ints.length cI,.slice aR refs.length cR] 26;have hI':=hI.below hbW;have hR':=hR.below hbW;go_enter Tryz.func43,Tryz.ntmps43;go_wp2_with fail;rw [hW.out];refine (Xw lo aI cI k0 ints W hI'.1 h0 (by omega)).mono ?_;rintro e w1 ⟨rfl,h1,h2⟩;have hR1:=hR'.kept h2 (fun k hk e=>hap k e hk);have b1:=b0.block (h2.block _ (by omega) (fun e=>by have h3:=(hI.lt _ e.symm).2;have:=hI.2.1;omega));have c2:=b1.cell 2 _ rfl;have hI1:jG w1 lo hi aI cI (xS k0 ints.length):=⟨by rw [qP];exact h1,Nat.le_trans hI'.2.1 h2.size,by rw [qP];exact hI.2.2⟩;go_wp2_with fail;refine (Xw lo aR cR (k0+ints.length) refs w1 hR1.1 (by omega) (by omega)).mono ?_;rintro e w2 ⟨rfl,h3,h4⟩;have hI2:=hI1.kept h4 (fun k hk e=>by rw [qP] at hk;exact hap k hk e);have hR2:jG w2 lo hi aR cR (xS (k0+ints.length) refs.length):=⟨by rw [qP];exact h3,Nat.le_trans hR1.2.1 h4.size,by rw [qP];exact hR.2.2⟩;go_wp2;go_ret;refine ⟨rfl,⟨hI2,hR2,?_⟩,((Touch.of_below hbW).trans (Touch.jw h2 (fun j hj=>List.mem_append.2 (.inl (Option.mem_toList.2 hj))))).trans (Touch.jw h4 (fun j hj=>List.mem_append.2 (.inr (Option.mem_toList.2 hj))))⟩;simp only [Un,qP];exact hap
theorem P6 (o:xk) (lo hi:Nat) (aI:Option Addr) (cI:Nat) (aR:Option Addr) (cR:Nat) (k0:Int) (w:World) (ho:OwnO w lo hi aI cI aR cR (Un o k0)) (h0:0≤k0) (JM:o.ints.length≤1099511627776) (Q7:o.refs.length≤1099511627776) (hk:k0≤109951162777600):
  Calls Tryz.prog 134 #[.agg #[.int .i64 o.kind,.slice aI o.ints.length cI,.slice aR o.refs.length cR],.int .i64 k0] w fun e w'=>e=.returned (.int .i64 (k0+o.ints.length+o.refs.length))∧Below w.heap.size w w':=by
 obtain ⟨k,ints,refs⟩:=o;obtain ⟨hI,hR,hap⟩:=ho;simp only [Un] at*
 obtain ⟨W,hW,b0,hbW,qp⟩:=qx w [.int .i64 k,.slice aI ints.length cI,.slice aR refs.length cR] 26;have hI':=hI.below hbW;have hR':=hR.below hbW;have c2:=b0.cell 2 _ rfl;go_enter Tryz.func134,Tryz.ntmps134;go_wp2_with fail;rw [hW.out];refine (VB lo hi aI cI k0 ints.length W hI' h0 (by omega)).mono ?_;rintro e w1 ⟨rfl,rfl⟩;go_wp2_with fail;refine (VB lo hi aR cR (k0+ints.length) refs.length w1 hR' (by omega) (by omega)).mono ?_;rintro e w2 ⟨rfl,rfl⟩;go_wp2;go_ret;exact ⟨rfl,hbW⟩
theorem Y4 (s:qf) (lo hi:Nat) (k0:Int) (w:World) (ho:s.own w lo hi) (h0:0≤k0) (JM:s.v.o.ints.length≤1099511627776) (Q7:s.v.o.refs.length≤1099511627776) (hk:k0≤109951162777600):
  Calls Tryz.prog 35 #[.agg s.cells.toArray,.int .i64 k0] w fun e w'=>e=.returned (.int .i64 (k0+s.count))∧(s.mark k0).own w' lo hi∧Touch s.blocks w w':=by
 obtain ⟨W,hW,b0,hbW,qp⟩:=qx w s.cells 28;have C:=Hd s.v.o lo hi s.aI s.cI s.aR s.cR k0 W (OwnO.below ho hbW) h0 JM Q7 hk;have HC:Hid ((s.count:Int)=s.v.o.ints.length+s.v.o.refs.length):=by simp [Hid,qf.count]
 simp only [qf.cells] at*
 go_enter Tryz.func35,Tryz.ntmps35;go_wp2_with fail;rw [hW.out];refine C.mono ?_;clear C;rintro e w1 ⟨rfl,ho1,ht1⟩;go_wp2;go_ret;exact ⟨ja (by rw [HC.out];omega),ho1,(Touch.of_below hbW).trans ht1⟩
theorem Xx (s:qf) (lo hi:Nat) (k0:Int) (w:World) (ho:(s.mark k0).own w lo hi) (h0:0≤k0) (JM:s.v.o.ints.length≤1099511627776) (Q7:s.v.o.refs.length≤1099511627776) (hk:k0≤109951162777600):
  Calls Tryz.prog 39 #[.agg s.cells.toArray,.int .i64 k0] w fun e w'=>e=.returned (.int .i64 (k0+s.count))∧Below w.heap.size w w':=by
 obtain ⟨W,hW,b0,hbW,qp⟩:=qx w s.cells 28;have C:=P6 s.v.o lo hi s.aI s.cI s.aR s.cR k0 W (OwnO.below ho hbW) h0 JM Q7 hk;have HC:Hid ((s.count:Int)=s.v.o.ints.length+s.v.o.refs.length):=by simp [Hid,qf.count]
 simp only [qf.cells] at*
 go_enter Tryz.func39,Tryz.ntmps39;go_wp2_with fail;rw [hW.out];refine C.mono ?_;clear C;rintro e w1 ⟨rfl,hb1⟩;go_wp2;go_ret;exact ⟨ja (by rw [HC.out];omega),hbW.trans (hb1.mono hbW.size)⟩
def Ji:List qf:=[qh,qh,qh,qh]
theorem uN (B o:Nat) (vs:List Value) (w:World):Within B (B+1) w (w.setCells B o vs):=by
 induction vs generalizing o w with
 | nil=>exact Within.refl _ _ _
 | cons v r ih=>exact (jh w B o v (by omega)).trans (ih (o+1) _)
theorem U4 (ts:List qf) (n:Nat) (t:qf):(ts++List.replicate (n+1) qh).set ts.length t=(ts++[t])++List.replicate n qh:=by
 rw [List.set_append_right _ _ (Nat.le_refl _)];simp [List.replicate_succ]
theorem jV {ss:List qf} {k:Nat} (h:k<ss.length):ss.getD k qh∈ss:=by simp [List.getD,h]
theorem MU (ss:List qf) (h4:ss.length=4) (w:World) (hr:jK w ss) (hl:∀ s∈ss,s.v.o.ints.length≤1099511627776∧s.v.o.refs.length≤1099511627776):
  Calls Tryz.prog 285 #[.agg (cellsS ss).toArray] w fun e w'=>∃ ts:List qf,e=.returned (.agg (cellsS ts).toArray)∧Hid (ts.map (·.v)=ss.map (·.v))∧qG w' w.heap.size w'.heap.size ts∧Below w.heap.size w w':=by
 obtain ⟨W,hW,b0,b1,b2,hbW,qp⟩:=yn w (cellsS ss) [.bool false,.int .i64 0,.slice none 0 0,.slice none 0 0,.bool false,.int .i64 0,.slice none 0 0,.slice none 0 0,.bool false,.int .i64 0,.slice none 0 0,.slice none 0 0,.bool false,.int .i64 0,.slice none 0 0,.slice none 0 0] [.bool false,.int .i64 0,.slice none 0 0,.slice none 0 0,.bool false,.int .i64 0,.slice none 0 0,.slice none 0 0,.bool false,.int .i64 0,.slice none 0 0,.slice none 0 0,.bool false,.int .i64 0,.slice none 0 0,.slice none 0 0] 64 29 29;have b1':Box W (w.heap.size+1) (cellsS Ji) 29:=b1;have b2':Box W (w.heap.size+1+1) (cellsS Ji) 29:=b2;have sK:w.heap.size+1+1<W.heap.size:=by omega
 clear b1 b2 qp;go_enter Tryz.func285,Tryz.ntmps285;go_wp2_with fail;rw [hW.out];clear hW;have H4:Hid (ss.length=4):=h4;clear h4;go_loopw [4] (fun i wr=>∃ (k:Nat) (ts:List qf),i=.int .i64 k∧k≤4∧Hid (ts.length=k∧ts.map (·.v)=(ss.take k).map (·.v))∧qG wr W.heap.size wr.heap.size ts∧Box wr (w.heap.size+1+1) (cellsS (ts++List.replicate (4-k) qh)) 29∧Below (w.heap.size+1+1) W wr)
  (fun i _=>4-(RowKit.intOf i).toNat)
 case atStart=>exact ⟨0,[],rfl,by omega,⟨rfl,rfl⟩,qG.nil _ _ _,b2',Below.refl _ _⟩
 case round=>
  obtain ⟨k,ts,rfl,hk,hts,hown,wE,hbl⟩:=hrel;clear b2';have ZQ:=b0.below hbl (by omega);have Vl:=b1'.below hbl (by omega);have uX:=hbl.size;by_cases hlt:k<4
  ·have hkl:k<ss.length:=by rw [H4.out];exact hlt
   obtain ⟨c0,c1,c2,c3,_⟩:=ZQ.slot k hkl;have YV:=(hr _ (jV hkl)).below (hbW.trans (hbl.mono (by omega)));have hlk:=hl _ (jV hkl);have HV:Hid ((ss.take (k+1)).map (·.v)=(ss.take k).map (·.v)++[(ss.getD k qh).v]):=by
    rw [Hid,List.take_add_one,List.map_append];simp [List.getD,hkl]
   generalize ss.getD k qh=s at*
   go_wp2_with fail;refine (Zw s wr YV hlk.1 hlk.2).mono ?_;clear YV hlk c0 c1 c2 c3;rintro e w1 ⟨t,rfl,hv,ho,hb1⟩;have hs1:=hb1.size;have hbx:=wE.below hb1 wE.lt;have hkt:k<(ts++List.replicate (4-k) qh).length:=by have:=hts.out.1;simp;omega
   obtain ⟨W2,hW2,b2,hw2,hs2⟩:=F9 hbx k hkt t;obtain ⟨x0,x1,x2,x3,hfz⟩:=hbx.slot k hkt;have f0:=hfz (k*4);have f1:=hfz (k*4+1);have f2:=hfz (k*4+2);have f3:=hfz (k*4+3);generalize (ts++List.replicate (4-k) qh).getD k qh=old at*
   have b2':Box W2 (w.heap.size+1+1) (cellsS ((ts++[t])++List.replicate (4-(k+1)) qh)) 29:=by
    rw [show 4-k=(4-(k+1))+1 by omega] at b2;have e:=U4 ts (4-(k+1)) t;rw [hts.out.1] at e;rw [e] at b2;exact b2
   have Xk:qG w1 W.heap.size w1.heap.size (ts++[t]):=(hown.below hb1).snoc ho uX hs1 (Nat.le_refl _);have hO2:qG W2 W.heap.size W2.heap.size (ts++[t]):=(Xk.within hw2 (.inr (by omega))).widen (Nat.le_refl _) (by omega) (Nat.le_refl _);have hB2:Below (w.heap.size+1+1) W W2:=(hbl.trans (hb1.mono (by omega))).trans (hw2.below (Nat.le_refl _) (by omega));have HT:Hid ((ts++[t]).length=k+1∧(ts++[t]).map (·.v)=(ss.take (k+1)).map (·.v)):=by
    refine ⟨by have:=hts.out.1;simp;omega,?_⟩;rw [HV.out,List.map_append,hts.out.2,← hv.out];rfl
   clear hfz hs2 hw2 b2 Xk hown wE hbx hts HV hkt hb1 ho;simp only [qf.cells];go_wp2_with fail;rw [hW2.out];go_roundw
   case rel=>exact ⟨k+1,ts++[t],by go_num,by omega,HT,hO2,b2',hB2⟩
   case measure=>simp [RowKit.intOf];omega
  ·obtain rfl:k=4:=by omega
   have YW:ts++List.replicate (4-4) qh=ts:=by simp
   rw [YW] at wE;have htl:ts.length=4:=hts.out.1;have hmv:ts.map (·.v)=ss.map (·.v):=by rw [hts.out.2,List.take_of_length_le (by rw [H4.out];omega)]
   have hrg:wr.rangeAt (w.heap.size+1+1) 0 (cellsS ts):=fun j v hv=>by rw [Nat.zero_add];exact wE.cell j v hv
   have hth:wr.there (w.heap.size+1) 0 (cellsS ts).toArray.size:=by
    intro j hj;rw [Nat.zero_add];have qdA:j<(cellsS Ji).length:=by simp only [List.size_toArray,jq] at hj ⊢;rw [htl] at hj;exact hj
    exact ⟨by rw [Vl.cell j _ (List.getElem?_eq_getElem qdA)];rfl,Vl.frozen j⟩
   have hone:(cellsS ts).toArray.all (·.oneCell')=true:=by
    apply all_oneCell_toArray;intro v hv;obtain ⟨s,_,hs⟩:=List.mem_flatMap.1 hv;simp only [qf.cells,List.mem_cons,List.not_mem_nil,or_false] at hs;rcases hs with rfl | rfl | rfl | rfl<;>rfl
   have hsz:(cellsS ts).toArray.size=16:=by simp [jq,htl]
   have hi:(Tryz.prog.info? 29).map (·.size)=some (cellsS ts).toArray.size:=by rw [hsz];kernel_rfl
   have hi':(Tryz.prog.info? 29).map (·.size)=some (cellsS ts).length:=by rw [hi];simp
   clear hsz htl YW;go_wp2_with (first | (guard_target=wpList _ _ _ (Oper.mk (some 15) _ _ _ _ _::_) _ _;refine wpList_load_mid rfl 29 (.tmp 3) rfl (w.heap.size+1+1) 0 rfl (cellsS ts) _ hrg Tryz.underlying29 rfl hi' ?_) | (guard_target=wpList _ _ _ (Oper.mk none (Op.store _ (Operand.tmp 2) _) _ _ _ _::_) _ _;refine wpList_store_mid rfl 29 (.tmp 2) (.tmp 15) rfl (w.heap.size+1) 0 (cellsS ts).toArray rfl rfl hth hi hone ?_) | fail);have hgs:Within (w.heap.size+1) (w.heap.size+1+1) wr (wr.setCells (w.heap.size+1) 0 (cellsS ts)):=uN _ _ _ _;have YX:(wr.setCells (w.heap.size+1) 0 (cellsS ts)).rangeAt (w.heap.size+1) 0 (cellsS ts):=World.rangeAt_setCells_same _ _ _ _ (by simpa using hth);have MV:=run_loadVar_mid (P:=Tryz.prog) _ (w.heap.size+1) 0 29 (cellsS ts) _ YX Tryz.underlying29 rfl hi';have qN:=hgs.size;exact bodyPost_ret (v:=.agg (cellsS ts).toArray) (jk Tryz.results285 rfl MV) rfl ⟨ts,rfl,hmv,(hown.within hgs (.inr (by omega))).widen (by omega) (by omega) (Nat.le_refl _),(hbW.trans (hbl.mono (by omega))).trans (hgs.below (by omega) (by omega))⟩
theorem Box.range {w:World} {B:Nat} {t:TypeId} (pre cs post:List Value) (b:Box w B (pre++(cs++post)) t):w.rangeAt B pre.length cs:=by
 intro j v hv;have hj:j<cs.length:=(List.getElem?_eq_some_iff.1 hv).1;refine b.cell _ v ?_;rw [List.getElem?_append_right (by omega),List.getElem?_append_left (by omega)];rw [show pre.length+j-pre.length=j by omega];exact hv
theorem Box.there {w:World} {B:Nat} {vs:List Value} {t:TypeId} (b:Box w B vs t) (o n:Nat) (h:o+n≤vs.length):w.there B o n:=fun j hj=>
 ⟨by rw [b.cell (o+j) _ (List.getElem?_eq_getElem (by omega))];rfl,b.frozen _⟩
theorem Rc (pre post:List Value):∀ (old cs:List Value),old.length=cs.length→∀ (w:World) (B:Nat) (t:TypeId),Box w B (pre++(old++post)) t→Box (w.setCells B pre.length cs) B (pre++(cs++post)) t:=by
 intro old
 induction old generalizing pre with
 | nil=>intro cs h w B t b;obtain rfl:=List.length_eq_zero_iff.1 h.symm;exact b
 | cons x r ih=>
  intro cs h w B t b;obtain ⟨c,cr,rfl⟩:∃ c cr,cs=c::cr:=by
   cases cs with
   | nil=>simp at h
   | cons c cr=>exact ⟨c,cr,rfl⟩
  have hb:=b.set pre.length c;rw [List.set_append_right _ _ (Nat.le_refl _),Nat.sub_self] at hb;simp only [List.cons_append,List.set_cons_zero] at hb;have hb':Box (w.setCell ⟨B,pre.length,none⟩ c) B ((pre++[c])++(r++post)) t:=by simpa using hb
  have:=ih (pre++[c]) cr (by simpa using h) _ B t hb';simp only [List.length_append,List.length_singleton] at this;rw [World.setCells]
  simpa using this
theorem jb {w:World} {B:Nat} {t:TypeId} (pre old cs post:List Value) (b:Box w B (pre++(old++post)) t) (h:old.length=cs.length):
  ∃ W,Hid (w.setCells B pre.length cs=W)∧Box W B (pre++(cs++post)) t∧Within B (B+1) w W∧W.heap.size=w.heap.size:=by
 refine ⟨_,rfl,Rc pre post old cs h w B t b,uN _ _ _ _,?_⟩;have h1:=(uN B pre.length cs w).size;have:∀ (vs:List Value) (o:Nat) (w:World),(w.setCells B o vs).heap.size=w.heap.size:=by
  intro vs
  induction vs with
  | nil=>intro o w;rfl
  | cons v r ih=>intro o w;rw [World.setCells,ih];simp
 exact this _ _ _
theorem EO (ss:List qf):∀ v∈cellsS ss,v.oneCell'=true:=by
 intro v hv;obtain ⟨s,_,hs⟩:=List.mem_flatMap.1 hv;simp only [qf.cells,List.mem_cons,List.not_mem_nil,or_false] at hs;rcases hs with rfl | rfl | rfl | rfl<;>rfl
structure qw where
 lsn:Int
 ss:List qf
def qw.cells (p:qw):List Value:=.int .i64 p.lsn::cellsS p.ss
theorem Qx (p:qw):∀ v∈p.cells,v.oneCell'=true:=by
 intro v hv;rcases List.mem_cons.1 hv with rfl | h
 ·rfl
 ·exact EO _ v h
theorem jo (p:qw) (h:p.ss.length=4):p.cells.length=17:=by simp [qw.cells,jq,h]
end Go.Proofs.YtjkckhfddgeboaaGreatDoor
namespace Go.Proofs.YtjkckhfddgeboaaGreatDoor
def inB (x l m:Int):Bool:=decide (l≤x∧x≤m)
end Go.Proofs.YtjkckhfddgeboaaGreatDoor
namespace Go.Proofs.YtjkckhfddgeboaaGreatDoor
open Go.RowKit
theorem jd (x l m:Int) (w:World):Calls Tryz.prog 80 #[.int .i64 x,.int .i64 l,.int .i64 m] w fun e w'=>e=.returned (.bool (inB x l m))∧w'=w:=by
 by_cases h1:l≤x
 ·by_cases h2:x≤m
  ·have HB:Hid (inB x l m=true):=by simp [Hid,inB,h1,h2]
   go_enter Tryz.func80,Tryz.ntmps80;go_wp2;go_ret;exact ⟨qd HB.out.symm,rfl⟩
  ·have HB:Hid (inB x l m=false):=by simp [Hid,inB,h2]
   go_enter Tryz.func80,Tryz.ntmps80;go_wp2;go_ret;exact ⟨qd HB.out.symm,rfl⟩
 ·have HB:Hid (inB x l m=false):=by simp [Hid,inB,h1]
  go_enter Tryz.func80,Tryz.ntmps80;go_wp2;go_ret;exact ⟨qd HB.out.symm,rfl⟩
end Go.Proofs.YtjkckhfddgeboaaGreatDoor