/- Several texts in one, in their order. -/
import Derived.WalkKit
import Derived.Below
import Derived.WalkSmall
import Derived.Laws.AppendOwnNone
import Derived.Test.YtcoeamamaifoeaaGreatDoorProg
import Derived.Deep.QuietTactic
import Derived.BigQuiet
import Derived.Deep.RegionHeld3
set_option maxHeartbeats 8000000
set_option maxRecDepth 100000
namespace Go.Proofs.YtcoeamamaifoeaaGreatDoor
open Go.RowKit
theorem zA {α : Type} {xs : List α} {i : Nat} (h : i < xs.toArray.size) : xs.toArray[i] = xs[i] := List.getElem_toArray h
theorem zB {α : Type} (a : α) (l : List α) (h : 0 < (a :: l).length) : (a :: l)[0] = a := List.getElem_cons_zero a l h
theorem zC {α : Type} (a : α) (l : List α) (i : Nat) (h : i + 1 < (a :: l).length) : (a :: l)[i + 1] = l[i]'(Nat.lt_of_succ_lt_succ h) := List.getElem_cons_succ a l i h
theorem zD {α : Type} (l : List α) (i : Nat) (a : α) : l.toArray.setIfInBounds i a = (l.set i a).toArray := List.setIfInBounds_toArray l i a
theorem zE {α : Type} {x : α} {xs : List α} {a : α} : (x :: xs).set 0 a = a :: xs := List.set_cons_zero
theorem zF {α : Type} {x : α} {xs : List α} {i : Nat} {a : α} : (x :: xs).set (i + 1) a = x :: xs.set i a := List.set_cons_succ
theorem tk {P : Program} {ops : Array Oper} {Q : Exit → Act → World → Prop} {md : Region.Mode} {S : World → Prop} (i : Nat) {oi : Oper} {v : Value} {fuel : Nat} {listed : Array Bool} {a : Act} {w : World} (h1 : ops[i]? = some oi) (h6 : YieldsIf P ops S oi v a) (h7 : S w) (h8 : wpAnyH P md ops Q S fuel (listed.setIfInBounds i true) (a.put oi.dst v) w) (h2 : Region.noSelect ops = true := by kernel_rfl) (h3 : Region.free md ops listed i = true := by kernel_rfl) (h4 : (Region.ready md ops listed).contains i = true := by kernel_rfl) (h5 : ∀ (c : List PanicEntry) (a : Act) (w : World), Q (Exit.panic c) (a.put oi.dst v) w → Q (Exit.panic c) a w := by exact fun _ _ _ h => h) : wpAnyH P md ops Q S (fuel + 1) listed a w :=
 wpAnyH_take h1 h2 h3 h4 h5 h6 h7 h8
theorem zz : (∀ (a : Act) (d : Tmp) (v : Value), a.put (some d) v = { a with tmps := a.tmps.setIfInBounds d v }) ∧ (∀ (a : Act) (v : Value), a.put none v = a) ∧ (∀ {α : Type} {xs : List α} {i : Nat} (h : i < xs.toArray.size), xs.toArray[i] = xs[i]) ∧ (∀ {α : Type} (a : α) (l : List α) (h : 0 < (a :: l).length), (a :: l)[0] = a) ∧ (∀ {α : Type} (a : α) (l : List α) (i : Nat) (h : i + 1 < (a :: l).length), (a :: l)[i + 1] = l[i]'(Nat.lt_of_succ_lt_succ h)) ∧ (∀ {α : Type} (l : List α) (i : Nat) (a : α), l.toArray.setIfInBounds i a = (l.set i a).toArray) ∧ (∀ {α : Type} {x : α} {xs : List α} {a : α}, (x :: xs).set 0 a = a :: xs) ∧ (∀ {α : Type} {x : α} {xs : List α} {i : Nat} {a : α}, (x :: xs).set (i + 1) a = x :: xs.set i a) :=
 ⟨fun _ _ _ => rfl, fun _ _ => rfl, zA, zB, zC, zD, zE, zF⟩
theorem tq {P : Program} {ops : Array Oper} {Q : Exit → Act → World → Prop} {md : Region.Mode} {S : World → Prop} (i : Nat) {oi : Oper} {v : Value} {fuel : Nat} {listed : Array Bool} {a : Act} {w : World} (h1 : ops[i]? = some oi) (h7 : S w) (h8 : wpAnyH P md ops Q S fuel (listed.setIfInBounds i true) (a.put oi.dst v) w) (h6 : YieldsIf P ops S oi v a := by exact Or.inl ⟨by rfl, by intro w' hSw; go_simp <;> rfl⟩) (h2 : Region.noSelect ops = true := by kernel_rfl) (h3 : Region.free md ops listed i = true := by kernel_rfl) (h4 : (Region.ready md ops listed).contains i = true := by kernel_rfl) (h5 : ∀ (c : List PanicEntry) (a : Act) (w : World), Q (Exit.panic c) (a.put oi.dst v) w → Q (Exit.panic c) a w := by exact fun _ _ _ h => h) : wpAnyH P md ops Q S (fuel + 1) listed a w :=
 wpAnyH_take h1 h2 h3 h4 h5 h6 h7 h8
end Go.Proofs.YtcoeamamaifoeaaGreatDoor
namespace Go.Proofs.YtcoeamamaifoeaaGreatDoor
open Go.RowKit
theorem ret_int {k:IntKind} {a b:Int} (h:a=b):Ending.returned (.int k a)=.returned (.int k b):=by rw [h]
theorem ret_bool {a b:Bool} (h:a=b):Ending.returned (.bool a)=.returned (.bool b):=by rw [h]
def Reads (w:World) (a:Option Addr) (zs:List Int):Prop:=
 (∀ z∈zs,0≤z∧z<256)∧(zs≠[]→∃ b off,a=some ⟨b,off,none⟩∧∀ i,i<zs.length→w.cell? ⟨b,off+i,none⟩=some (.int .u8 (zs.getD i 0)))
theorem Reads.cases {w:World} {a:Option Addr} {zs:List Int} (h:Reads w a zs):
  zs=[]∨∃ b off,a=some ⟨b,off,none⟩∧0<zs.length∧(∀ i,i<zs.length→w.cell? ⟨b,off+i,none⟩=some (.int .u8 (zs.getD i 0))):=by
 by_cases e:zs=[]
 ·exact .inl e
 ·obtain ⟨b,off,ha,hc⟩:=h.2 e
  exact .inr ⟨b,off,ha,List.length_pos_iff.2 e,hc⟩
theorem Reads.below {w w':World} {a:Option Addr} {zs:List Int} (h:Reads w a zs) (hb:Below w.heap.size w w'):Reads w' a zs:=by
 refine ⟨h.1,fun hne=>?_⟩
 obtain ⟨b,off,ha,hc⟩:=h.2 hne
 refine ⟨b,off,ha,fun i hi=>?_⟩
 have hlt:b<w.heap.size:=by
  have:=hc i hi
  simp only [World.cell?] at this
  by_cases hb:b<w.heap.size
  ·exact hb
  ·simp [Array.getElem?_eq_none (Nat.le_of_not_lt hb)] at this
 rw [hb.cell (p:=⟨b,off+i,none⟩) hlt]
 exact hc i hi
def ReadsI (w:World) (a:Option Addr) (ns:List Int):Prop:=
 ns≠[]→∃ b off,a=some ⟨b,off,none⟩∧∀ i,i<ns.length→w.cell? ⟨b,off+i,none⟩=some (.int .i64 (ns.getD i 0))
theorem block_lt {w:World} {b off:Nat} {v:Value} (h:w.cell? ⟨b,off,none⟩=some v):b<w.heap.size:=by
 simp only [World.cell?] at h
 by_cases hb:b<w.heap.size
 ·exact hb
 ·simp [Array.getElem?_eq_none (Nat.le_of_not_lt hb)] at h
theorem ReadsI.grown {w w':World} {a:Option Addr} {ns:List Int} {B:Nat} (h:ReadsI w a ns) (hg:w.grownBy w' (some B)) (hne:∀ b off,a=some ⟨b,off,none⟩→b≠B):ReadsI w' a ns:=by
 intro e
 obtain ⟨b,off,ha,hc⟩:=h e
 refine ⟨b,off,ha,fun i hi=>hg.cell (hc i hi) ?_⟩
 intro he
 exact hne b off ha (Option.some.inj he)
theorem Reads.of_own {w:World} {base:Nat} {a:Option Addr} {cap e n:Nat} {zs:List Int} (hz:∀ z∈zs,0≤z∧z<256) (h:w.ownsRow base e 1 (.slice a n cap) zs.length (zs.map (Value.int .u8))):Reads w a zs:=by
 refine ⟨hz,fun hne=>?_⟩
 rcases h.2 with ⟨_,h0⟩ | ⟨g,cap',cur,hv,hb,hg,hr⟩
 ·exact absurd (List.length_eq_zero_iff.1 h0) hne
 ·simp only [Value.slice.injEq] at hv
  obtain ⟨rfl,rfl,rfl⟩:=hv
  refine ⟨g,0,rfl,fun i hi=>?_⟩
  have:=h.cellAt i (by omega)
  rw [Nat.zero_add,this]
  simp [List.getD,hi]
theorem own_cell {w:World} {base e g n cap:Nat} {xs:List Value} (h:w.ownsRow base e 1 (.slice (some ⟨g,0,none⟩) n cap) n xs) (k:Nat) (hk:k<n):∃ u,w.cell? ⟨g,k,none⟩=some u:=by
 have h1:=h.1
 have:=h.cellAt k (by omega)
 rw [List.getElem?_eq_getElem (by omega)] at this
 exact ⟨_,this⟩
theorem grownBy_trans {a b c:World} {row:Option Nat} (h:a.grownBy b row) (k:b.grownBy c row):a.grownBy c row:=
 ⟨k.os.trans h.os,k.tape.trans h.tape,k.output.trans h.output,Nat.le_trans h.size k.size,fun i hi hr=>(k.block i (Nat.lt_of_lt_of_le hi h.size) hr).trans (h.block i hi hr)⟩
theorem Addr_add (b off i:Nat):(⟨b,off,none⟩:Addr).add i=⟨b,off+i,none⟩:=by unfold Addr.add;split<;>simp_all
structure Within (lo hi:Nat) (w w':World):Prop where
 os:w'.os=w.os
 tape:w'.tape=w.tape
 output:w'.output=w.output
 size:w.heap.size≤w'.heap.size
 block:∀ k,k<w.heap.size→¬ (lo≤k∧k<hi)→w'.heap[k]? =w.heap[k]?
theorem Within.refl (lo hi:Nat) (w:World):Within lo hi w w:=⟨rfl,rfl,rfl,Nat.le_refl _,fun _ _ _=>rfl⟩
theorem Within.trans {lo hi:Nat} {a b c:World} (h:Within lo hi a b) (k:Within lo hi b c):Within lo hi a c:=
 ⟨k.os.trans h.os,k.tape.trans h.tape,k.output.trans h.output,Nat.le_trans h.size k.size,fun i hi hn=>(k.block i (Nat.lt_of_lt_of_le hi h.size) hn).trans (h.block i hi hn)⟩
theorem Within.mono {lo hi lo' hi':Nat} {w w':World} (h:Within lo hi w w') (h1:lo'≤lo) (h2:hi≤hi'):Within lo' hi' w w':=
 ⟨h.os,h.tape,h.output,h.size,fun k hk hn=>h.block k hk (fun hh=>hn ⟨by omega,by omega⟩)⟩
theorem Within.of_below {lo hi:Nat} {w w':World} (h:Below w.heap.size w w'):Within lo hi w w':=
 ⟨h.os,h.tape,h.output,h.size,fun k hk _=>h.block k hk⟩
theorem Within.of_grown {lo hi:Nat} {w w':World} {row:Option Nat} (h:w.grownBy w' row) (hr:∀ k,row=some k→lo≤k∧k<hi):Within lo hi w w':=
 ⟨h.os,h.tape,h.output,h.size,fun k hk hn=>h.block k hk (fun e=>hn (hr k e.symm))⟩
theorem Within.below {lo hi B:Nat} {w w':World} (h:Within lo hi w w') (hB:B≤lo) (hs:B≤w.heap.size):Below B w w':=
 ⟨h.os,h.tape,h.output,h.size,fun k hk=>h.block k (by omega) (by omega)⟩
theorem Within.drewN {lo hi:Nat} {w w':World} (h:Within lo hi w w') (n:Nat):Within lo hi w (w'.drewN n):=
 h.trans (Within.of_below (below_drewN (Below.refl _ _) n))
theorem ownsRow_block {w w':World} {base:Nat} {e:TypeId} {size n:Nat} {v:Value} {xs:List Value} (h:w.ownsRow base e size v n xs) (hb:∀ k,v.ownBlock=some k→w'.heap[k]? =w.heap[k]?):w'.ownsRow base e size v n xs:=by
 refine ⟨h.1,?_⟩
 rcases h.2 with h0 | ⟨g,cap,cur,hv,hg,hgg,hr⟩
 ·exact .inl h0
 ·refine .inr ⟨g,cap,cur,hv,hg,?_,hr⟩
  rw [hb g (by rw [hv];rfl)]
  exact hgg
theorem ownsRow_base {w:World} {base base':Nat} {e:TypeId} {size n:Nat} {v:Value} {xs:List Value} (h:w.ownsRow base e size v n xs) (hb:∀ k,v.ownBlock=some k→base'≤k):w.ownsRow base' e size v n xs:=by
 refine ⟨h.1,?_⟩
 rcases h.2 with h0 | ⟨g,cap,cur,hv,hg,hgg,hr⟩
 ·exact .inl h0
 ·exact .inr ⟨g,cap,cur,hv,hb g (by rw [hv];rfl),hgg,hr⟩
theorem Tryz.infoInt:(Tryz.prog.info? 3).map (fun i=>(i.zero,i.size,i.bytes))=some (some (.int .i64 0),1,8):=by kernel_rfl
def OwnI (w:World) (lo hi:Nat) (a:Option Addr) (c:Nat) (ns:List Int):Prop:=
 w.ownsRow lo 3 1 (.slice a ns.length c) ns.length (ns.map (Value.int .i64))∧hi≤w.heap.size∧∀ k,(Value.slice a ns.length c).ownBlock=some k→k<hi
theorem OwnI.lt {w:World} {lo hi:Nat} {a:Option Addr} {c:Nat} {ns:List Int} (h:OwnI w lo hi a c ns):∀ k,(Value.slice a ns.length c).ownBlock=some k→lo≤k∧k<hi:=fun k hk=>⟨(h.1.lt k hk).1,h.2.2 k hk⟩
theorem OwnI.within {w w':World} {lo hi l r:Nat} {a:Option Addr} {c:Nat} {ns:List Int} (h:OwnI w lo hi a c ns) (hw:Within l r w w') (hd:hi≤l∨r≤lo):OwnI w' lo hi a c ns:=
 ⟨ownsRow_block h.1 (fun k hk=>hw.block k (by have:=h.2.2 k hk;have:=h.2.1;omega) (by have:=h.lt k hk;omega)),Nat.le_trans h.2.1 hw.size,h.2.2⟩
theorem OwnI.below {w w':World} {lo hi:Nat} {a:Option Addr} {c:Nat} {ns:List Int} (h:OwnI w lo hi a c ns) (hb:Below w.heap.size w w'):OwnI w' lo hi a c ns:=
 h.within (Within.of_below (lo:=w.heap.size) (hi:=w.heap.size) hb) (.inl h.2.1)
theorem OwnI.widen {w:World} {lo hi lo' hi':Nat} {a:Option Addr} {c:Nat} {ns:List Int} (h:OwnI w lo hi a c ns) (h1:lo'≤lo) (h2:hi≤hi') (h3:hi'≤w.heap.size):OwnI w lo' hi' a c ns:=
 ⟨ownsRow_base h.1 (fun k hk=>by have:=h.lt k hk;omega),h3,fun k hk=>by have:=h.lt k hk;omega⟩
theorem OwnI.reads {w:World} {lo hi:Nat} {a:Option Addr} {c:Nat} {ns:List Int} (h:OwnI w lo hi a c ns):ReadsI w a ns:=by
 intro hne
 rcases h.1.2 with ⟨_,h0⟩ | ⟨g,cap',cur,hv,hb,hg,hr⟩
 ·exact absurd (List.length_eq_zero_iff.1 h0) hne
 ·simp only [Value.slice.injEq] at hv
  obtain ⟨rfl,_,rfl⟩:=hv
  refine ⟨g,0,rfl,fun i hi=>?_⟩
  have:=h.1.cellAt i (by omega)
  rw [Nat.zero_add,this]
  simp [List.getD,hi]
theorem OwnI.nocap {w:World} {lo hi:Nat} {a:Option Addr} {c:Nat} {ns:List Int} (h:OwnI w lo hi a c ns):a=none→c=0:=by
 intro ha
 rcases h.1.2 with ⟨hv,_⟩ | ⟨g,cap,cur,hv,_⟩
 ·simp only [Value.slice.injEq] at hv;exact hv.2.2
 ·simp [ha] at hv
theorem ownI_nil (w:World) (lo hi:Nat) (h:hi≤w.heap.size):OwnI w lo hi none 0 []:=⟨⟨by simp,.inl ⟨rfl,rfl⟩⟩,h,fun k hk=>by cases hk⟩
theorem ownI_lit0 (w:World):OwnI (w.alloc (.cells #[] 3)) w.heap.size (w.heap.size+1) (some ⟨w.heap.size,0,none⟩) 0 []:=
 ⟨World.ownsRow_lit w #[] 0 (Nat.le_refl _) (by simp [maxLen]) rfl,by simp,fun k hk=>by cases hk;simp⟩
theorem ReadsI.cases {w:World} {a:Option Addr} {ns:List Int} (h:ReadsI w a ns):
  ns=[]∨∃ b off,a=some ⟨b,off,none⟩∧0<ns.length∧(∀ i,i<ns.length→w.cell? ⟨b,off+i,none⟩=some (.int .i64 (ns.getD i 0))):=by
 by_cases e:ns=[]
 ·exact .inl e
 ·obtain ⟨b,off,ha,hc⟩:=h e
  exact .inr ⟨b,off,ha,List.length_pos_iff.2 e,hc⟩
theorem ReadsI.below {w w':World} {a:Option Addr} {ns:List Int} (h:ReadsI w a ns) (hb:Below w.heap.size w w'):ReadsI w' a ns:=by
 intro hne
 obtain ⟨b,off,ha,hc⟩:=h hne
 refine ⟨b,off,ha,fun i hi=>?_⟩
 rw [hb.cell (p:=⟨b,off+i,none⟩) (block_lt (hc i hi))]
 exact hc i hi
theorem ReadsI.nil (w:World) (a:Option Addr):ReadsI w a []:=fun h=>absurd rfl h
def partI (zs:List Int) (k:Nat):List Int:=zs.take k++List.replicate (zs.length-k) 0
theorem partI_len (zs:List Int) (k:Nat) (h:k≤zs.length):(partI zs k).length=zs.length:=by simp [partI];omega
theorem partI_all (zs:List Int):partI zs zs.length=zs:=by simp [partI]
theorem partI_none (zs:List Int):partI zs 0=List.replicate zs.length 0:=by simp [partI]
theorem partI_set (zs:List Int) (k:Nat) (h:k<zs.length):(partI zs k).set k (zs.getD k 0)=partI zs (k+1):=by
 unfold partI
 rw [List.set_append,if_neg (by simp;omega),List.take_succ_eq_append_getElem h]
 have e:zs.length-k=(zs.length-(k+1))+1:=by omega
 have e2:k-(List.take k zs).length=0:=by simp;omega
 rw [e2,e,List.replicate_succ,List.set_cons_zero]
 simp only [List.getD,h,List.getElem?_eq_getElem,Option.getD_some,List.append_assoc,List.singleton_append]
theorem partI_set_map (zs:List Int) (k:Nat) (h:k<zs.length):((partI zs k).map (Value.int .i64)).set k (.int .i64 (zs.getD k 0))=(partI zs (k+1)).map (Value.int .i64):=by
 rw [← partI_set zs k h,List.map_set]
theorem toIntS_any (a:Option Addr) (cap:Nat) (zs:List Int) (w:World) (hr:ReadsI w a zs) (hl:zs.length≤1099511627776):
  Calls Tryz.prog 156 #[.slice a zs.length cap] w fun e w'=>e=.returned (.slice (some ⟨w.heap.size,0,none⟩) zs.length zs.length)∧
   w'.ownsRow w.heap.size 3 1 (.slice (some ⟨w.heap.size,0,none⟩) zs.length zs.length) zs.length (zs.map (Value.int .i64))∧Below w.heap.size w w':=by
 obtain ⟨i0,hi,hz0,hz1,hz2⟩:=info_parts Tryz.infoInt
 rcases hr.cases with rfl | ⟨b,off,rfl,hpos,hcell⟩
 ·go_enter Tryz.func156,Tryz.ntmps156
  go_wp2_with (at_make;refine wpList_make_full _ rfl _ _ 22 rfl w.heap.size 3 i0 (.int .i64 0) 1 Tryz.underlying22 hi hz0 hz1 _ _ _ _ 0 rfl rfl (by simp) (by simp) (by omega) (by simp [maxLen]) (Nat.le_refl _) ?_)
  intro w0 hown0 hgrow0
  go_wp2
  refine wp_loop_rounds 1 ?_
  rw [rounds_succ]
  go_wp2
  go_ret
  exact ⟨rfl,by simpa [toList_madeCells_one] using hown0,(Below.refl _ _).grown hgrow0 (Nat.le_refl _) (fun k h=>by cases h)⟩
 ·have hbB:b<w.heap.size:=by
   have:=hcell 0 hpos
   simp only [World.cell?] at this
   by_cases hb:b<w.heap.size
   ·exact hb
   ·simp [Array.getElem?_eq_none (Nat.le_of_not_lt hb)] at this
  go_enter Tryz.func156,Tryz.ntmps156
  go_wp2_with (at_make;refine wpList_make_full _ rfl _ _ 22 rfl w.heap.size 3 i0 (.int .i64 0) 1 Tryz.underlying22 hi hz0 hz1 _ _ _ _ zs.length rfl rfl rfl rfl (by rw [hz2];omega) (by simp [maxLen];omega) (Nat.le_refl _) ?_)
  intro w0 hown0 hgrow0
  have hown1:w0.ownsRow w.heap.size 3 1 (.slice (some ⟨w.heap.size,0,none⟩) zs.length zs.length) zs.length ((partI zs 0).map (Value.int .i64)):=by
   rw [partI_none,List.map_replicate]
   simpa [Value.cells,toList_madeCells_one] using hown0
  have hb0:Below w.heap.size w w0:=(Below.refl _ _).grown hgrow0 (Nat.le_refl _) (fun k h=>by cases h)
  clear hown0 hgrow0
  go_wp2
  go_loopw [4] (fun i wr=>∃ k:Nat,k≤zs.length∧i=.int .i64 k∧wr.ownsRow w.heap.size 3 1 (.slice (some ⟨w.heap.size,0,none⟩) zs.length zs.length) zs.length ((partI zs k).map (Value.int .i64))∧Below w.heap.size w wr)
   (fun i _=>zs.length-(RowKit.intOf i).toNat)
  case atStart=>exact ⟨0,Nat.zero_le _,rfl,hown1,hb0⟩
  case round=>
   obtain ⟨k,hk,rfl,hown,hnx⟩:=hrel
   by_cases hlt:k<zs.length
   ·have hc:wr.cell? ⟨b,off+k,none⟩=some (.int .i64 (zs.getD k 0)):=(hnx.cell (by exact hbB)).trans (hcell k hlt)
    have hfz:=hown.frozenAt k
    have hct:=hown.cellAt k (by omega)
    have hp:=partI_len zs k hk
    have HS:=hown.stored k (.int .i64 (zs.getD k 0))
    rw [partI_set_map zs k hlt] at HS
    have HN:Below w.heap.size w (wr.setCell ⟨w.heap.size,k,none⟩ (.int .i64 (zs.getD k 0))):=hnx.setCell (Nat.le_refl _) _
    have HSS:Hid (_∧_):=⟨HS.1,HN⟩
    clear HS HN hown hcell hnx hown1 hb0
    generalize zs.getD k 0=z at*
    go_wp2
    go_roundw
    case rel=>exact ⟨k+1,by omega,by go_num,HSS.out.1,HSS.out.2⟩
    case measure=>simp [RowKit.intOf];omega
   ·have HE:Hid (wr.ownsRow w.heap.size 3 1 (.slice (some ⟨w.heap.size,0,none⟩) zs.length zs.length) zs.length (zs.map (Value.int .i64))):=by
     have e:k=zs.length:=by omega
     rw [e,partI_all] at hown
     exact hown
    go_wp2
    go_ret
    exact ⟨rfl,HE.out,hnx⟩
theorem toIntS_own (a:Option Addr) (cap:Nat) (zs:List Int) (w:World) (hr:ReadsI w a zs) (hl:zs.length≤1099511627776):
  Calls Tryz.prog 156 #[.slice a zs.length cap] w fun e w'=>∃ a' c',e=.returned (.slice a' zs.length c')∧OwnI w' w.heap.size w'.heap.size a' c' zs∧Below w.heap.size w w':=by
 refine (toIntS_any a cap zs w hr hl).mono ?_
 rintro e w' ⟨rfl,ho,hb⟩
 exact ⟨_,_,rfl,⟨ho,Nat.le_refl _,fun k hk=>(ho.lt k hk).2⟩,hb⟩
def Box (w:World) (B:Nat) (vs:List Value) (t:TypeId):Prop:=w.heap[B]? =some (.cells vs.toArray t (0,0))
theorem Box.lt {w:World} {B:Nat} {vs:List Value} {t:TypeId} (h:Box w B vs t):B<w.heap.size:=(Array.getElem?_eq_some_iff.1 h).1
theorem Box.cell {w:World} {B:Nat} {vs:List Value} {t:TypeId} (h:Box w B vs t) (i:Nat) (v:Value) (hv:vs[i]? =some v):w.cell? ⟨B,i,none⟩=some v:=by
 unfold Box at h
 simp [World.cell?,h,hv]
theorem Box.frozen {w:World} {B:Nat} {vs:List Value} {t:TypeId} (h:Box w B vs t) (i:Nat):w.frozen? ⟨B,i,none⟩=false:=by
 unfold Box at h
 simp [World.frozen?,h]
theorem Box.set {w:World} {B:Nat} {vs:List Value} {t:TypeId} (h:Box w B vs t) (i:Nat) (v:Value):Box (w.setCell ⟨B,i,none⟩ v) B (vs.set i v) t:=by
 unfold Box at h ⊢
 rw [heap_setCell_same w B i _ t v h]
 simp
theorem Box.block {w w':World} {B:Nat} {vs:List Value} {t:TypeId} (h:Box w B vs t) (hb:w'.heap[B]? =w.heap[B]?):Box w' B vs t:=by unfold Box at h ⊢;rw [hb];exact h
theorem Box.below {w w':World} {B n:Nat} {vs:List Value} {t:TypeId} (h:Box w B vs t) (hb:Below n w w') (hn:B<n):Box w' B vs t:=h.block (hb.block B hn)
theorem Box.within {w w':World} {B l r:Nat} {vs:List Value} {t:TypeId} (h:Box w B vs t) (hb:Within l r w w') (hn:¬ (l≤B∧B<r)):Box w' B vs t:=h.block (hb.block B h.lt hn)
theorem Box.alloc {w:World} {B:Nat} {vs:List Value} {t:TypeId} (h:Box w B vs t) (o:Obj):Box (w.alloc o) B vs t:=h.block (Below.heap_alloc w o B h.lt)
theorem Box.other {w:World} {B C i:Nat} {v:Value} {vs:List Value} {t:TypeId} (h:Box w B vs t) (hne:B≠C):Box (w.setCell ⟨C,i,none⟩ v) B vs t:=h.block (heap_setCell_other w ⟨C,i,none⟩ B v hne)
theorem box_new (w:World) (vs:List Value) (t:TypeId):Box (w.alloc (.cells vs.toArray t)) w.heap.size vs t:=by unfold Box;rw [heap_alloc_new]
theorem Box.drewN {w:World} {B:Nat} {vs:List Value} {t:TypeId} (h:Box w B vs t) (n:Nat):Box (w.drewN n) B vs t:=h.block (by rfl)
theorem boxes1 (w:World) (v0:List Value) (t0:TypeId):∃ W,Hid (w.alloc (.cells v0.toArray t0)=W)∧Box W w.heap.size v0 t0∧Below w.heap.size w W∧W.heap.size=w.heap.size+1:=
 ⟨_,rfl,box_new w _ _,(Below.refl _ _).alloc (Nat.le_refl _) _,by simp⟩
theorem boxes2 (w:World) (v0 v1:List Value) (t0 t1:TypeId):∃ W,Hid ((w.alloc (.cells v0.toArray t0)).alloc (.cells v1.toArray t1)=W)∧Box W w.heap.size v0 t0∧Box W (w.heap.size+1) v1 t1∧Below w.heap.size w W∧W.heap.size=w.heap.size+2:=by
 refine ⟨_,rfl,(box_new w _ _).alloc _,?_,((Below.refl _ _).alloc (Nat.le_refl _) _).alloc (by simp) _,by simp⟩
 have:=box_new (w.alloc (.cells v0.toArray t0)) v1 t1
 simpa using this
theorem boxes3 (w:World) (v0 v1 v2:List Value) (t0 t1 t2:TypeId):∃ W,Hid (((w.alloc (.cells v0.toArray t0)).alloc (.cells v1.toArray t1)).alloc (.cells v2.toArray t2)=W)∧Box W w.heap.size v0 t0∧Box W (w.heap.size+1) v1 t1∧Box W (w.heap.size+1+1) v2 t2∧Below w.heap.size w W∧W.heap.size=w.heap.size+3:=by
 refine ⟨_,rfl,((box_new w _ _).alloc _).alloc _,?_,?_,(((Below.refl _ _).alloc (Nat.le_refl _) _).alloc (by simp) _).alloc (by simp;omega) _,by simp⟩
 ·have:=(box_new (w.alloc (.cells v0.toArray t0)) v1 t1).alloc (.cells v2.toArray t2)
  simpa using this
 ·have:=box_new ((w.alloc (.cells v0.toArray t0)).alloc (.cells v1.toArray t1)) v2 t2
  simpa using this
theorem box_set {w:World} {B:Nat} {vs:List Value} {t:TypeId} (h:Box w B vs t) (i:Nat) (v:Value):∃ W,Hid (w.setCell ⟨B,i,none⟩ v=W)∧Box W B (vs.set i v) t∧Within B (B+1) w W∧W.heap.size=w.heap.size:=
 ⟨_,rfl,h.set i v,⟨rfl,rfl,rfl,by simp,fun k _ hn=>heap_setCell_other w ⟨B,i,none⟩ k v (fun e=>hn (by simp at e;omega))⟩,by simp⟩
theorem within_set (w:World) (B i:Nat) (v:Value) {lo hi:Nat} (h:lo≤B∧B<hi):Within lo hi w (w.setCell ⟨B,i,none⟩ v):=
 ⟨rfl,rfl,rfl,by simp,fun k _ hn=>heap_setCell_other w ⟨B,i,none⟩ k v (fun e=>hn (by simp at e;omega))⟩
structure ObjV where
 kind:Int
 ints:List Int
 refs:List Int
def ObjV.val (o:ObjV) (aI:Option Addr) (cI:Nat) (aR:Option Addr) (cR:Nat):Value:=.agg #[.int .i64 o.kind,.slice aI o.ints.length cI,.slice aR o.refs.length cR]
structure ReadsO (w:World) (aI:Option Addr) (cI:Nat) (aR:Option Addr) (cR:Nat) (o:ObjV):Prop where
 ints:ReadsI w aI o.ints
 refs:ReadsI w aR o.refs
 ni:aI=none→cI=0
 nr:aR=none→cR=0
structure OwnO (w:World) (lo hi:Nat) (aI:Option Addr) (cI:Nat) (aR:Option Addr) (cR:Nat) (o:ObjV):Prop where
 ints:OwnI w lo hi aI cI o.ints
 refs:OwnI w lo hi aR cR o.refs
 apart:∀ k,(Value.slice aI o.ints.length cI).ownBlock=some k→(Value.slice aR o.refs.length cR).ownBlock≠some k
theorem ReadsO.below {w w':World} {aI:Option Addr} {cI:Nat} {aR:Option Addr} {cR:Nat} {o:ObjV} (h:ReadsO w aI cI aR cR o) (hb:Below w.heap.size w w'):ReadsO w' aI cI aR cR o:=⟨h.ints.below hb,h.refs.below hb,h.ni,h.nr⟩
theorem ReadsO.drew {w:World} {aI:Option Addr} {cI:Nat} {aR:Option Addr} {cR:Nat} {o:ObjV} (h:ReadsO w aI cI aR cR o):ReadsO w.drew aI cI aR cR o:=h.below (Below.refl _ _).drew
theorem OwnO.reads {w:World} {lo hi:Nat} {aI:Option Addr} {cI:Nat} {aR:Option Addr} {cR:Nat} {o:ObjV} (h:OwnO w lo hi aI cI aR cR o):ReadsO w aI cI aR cR o:=⟨h.ints.reads,h.refs.reads,h.ints.nocap,h.refs.nocap⟩
theorem OwnO.within {w w':World} {lo hi l r:Nat} {aI:Option Addr} {cI:Nat} {aR:Option Addr} {cR:Nat} {o:ObjV} (h:OwnO w lo hi aI cI aR cR o) (hw:Within l r w w') (hd:hi≤l∨r≤lo):OwnO w' lo hi aI cI aR cR o:=⟨h.ints.within hw hd,h.refs.within hw hd,h.apart⟩
theorem OwnO.below {w w':World} {lo hi:Nat} {aI:Option Addr} {cI:Nat} {aR:Option Addr} {cR:Nat} {o:ObjV} (h:OwnO w lo hi aI cI aR cR o) (hb:Below w.heap.size w w'):OwnO w' lo hi aI cI aR cR o:=⟨h.ints.below hb,h.refs.below hb,h.apart⟩
theorem OwnO.widen {w:World} {lo hi lo' hi':Nat} {aI:Option Addr} {cI:Nat} {aR:Option Addr} {cR:Nat} {o:ObjV} (h:OwnO w lo hi aI cI aR cR o) (h1:lo'≤lo) (h2:hi≤hi') (h3:hi'≤w.heap.size):OwnO w lo' hi' aI cI aR cR o:=⟨h.ints.widen h1 h2 h3,h.refs.widen h1 h2 h3,h.apart⟩
theorem OwnI.kept {w w':World} {lo hi:Nat} {a:Option Addr} {c:Nat} {ns:List Int} {row:Option Nat} (h:OwnI w lo hi a c ns) (hg:w.grownBy w' row) (hne:∀ k,(Value.slice a ns.length c).ownBlock=some k→row≠some k):OwnI w' lo hi a c ns:=
 ⟨ownsRow_block h.1 (fun k hk=>hg.block k (h.1.lt k hk).2 (fun e=>hne k hk e.symm)),Nat.le_trans h.2.1 hg.size,h.2.2⟩
theorem toObj_own (o:ObjV) (aI:Option Addr) (cI:Nat) (aR:Option Addr) (cR:Nat) (w:World) (hr:ReadsO w aI cI aR cR o) (hlI:o.ints.length≤1099511627776) (hlR:o.refs.length≤1099511627776):
  Calls Tryz.prog 136 #[.agg #[.int .i64 o.kind,.slice aI o.ints.length cI,.slice aR o.refs.length cR]] w fun e w'=>∃ aI' cI' aR' cR',e=.returned (.agg #[.int .i64 o.kind,.slice aI' o.ints.length cI',.slice aR' o.refs.length cR'])∧
   OwnO w' w.heap.size w'.heap.size aI' cI' aR' cR' o∧Below w.heap.size w w':=by
 obtain ⟨k,ints,refs⟩:=o
 obtain ⟨hI,hR,_,_⟩:=hr
 simp only at*
 go_enter Tryz.func136,Tryz.ntmps136
 go_wp2_with fail
 obtain ⟨W,hW,b0,b1,b2,hbW,hsW⟩:=boxes3 w [.int .i64 k,.slice aI ints.length cI,.slice aR refs.length cR] [.int .i64 0,.slice none 0 0,.slice none 0 0] [.int .i64 k,.slice none 0 0,.slice none 0 0] 24 42 42
 rw [hW.out]
 clear hW
 refine (toIntS_own aI cI ints W (hI.below hbW) hlI).mono ?_
 rintro e w1 ⟨a1,c1,rfl,ho1,hb1⟩
 have b0':=b0.below hb1 b0.lt
 have b1':=b1.below hb1 b1.lt
 have b2':=b2.below hb1 b2.lt
 have h02:=b0'.cell 2 _ rfl
 have h21:=b2'.cell 1 _ rfl
 have f21:=b2'.frozen 1
 go_wp2_with fail
 obtain ⟨W2,hW2,b2s,hw2,hs2⟩:=box_set b2' 1 (.slice a1 ints.length c1)
 rw [hW2.out]
 clear hW2
 have hWb:Below w.heap.size w W2:=(hbW.trans (hb1.mono (by omega))).trans (hw2.below (by omega) (by have:=hb1.size;omega))
 have ho1':OwnI W2 W.heap.size w1.heap.size a1 c1 ints:=ho1.within hw2 (.inr (by omega))
 refine (toIntS_own aR cR refs W2 (hR.below hWb) hlR).mono ?_
 rintro e w3 ⟨a3,c3,rfl,ho3,hb3⟩
 have ho13:=ho1'.below hb3
 have b23:=b2s.below hb3 b2s.lt
 have b13:=(b1'.within hw2 (by omega)).below hb3 (by have:=(b1'.within hw2 (by omega)).lt;exact this)
 simp only [List.set] at b23
 have g22:=b23.cell 2 _ rfl
 have e22:=b23.frozen 2
 have bS:=b23.set 2 (.slice a3 refs.length c3)
 have bT:=b13.other (C:=w.heap.size+1+1) (i:=2) (v:=.slice a3 refs.length c3) (by omega)
 simp only [List.set] at bS
 have s0:=bS.cell 0 _ rfl
 have s1:=bS.cell 1 _ rfl
 have s2:=bS.cell 2 _ rfl
 have t0:=bT.cell 0 _ rfl
 have t1:=bT.cell 1 _ rfl
 have t2:=bT.cell 2 _ rfl
 have u0:=bT.frozen 0
 have u1:=bT.frozen 1
 have u2:=bT.frozen 2
 have bF:=((bT.set 0 (.int .i64 k)).set 1 (.slice a1 ints.length c1)).set 2 (.slice a3 refs.length c3)
 simp only [List.set] at bF
 have hwF:Within (w.heap.size+1) (w.heap.size+3) w3 _:=(((within_set w3 (w.heap.size+1+1) 2 (.slice a3 refs.length c3) (by omega)).trans (within_set _ (w.heap.size+1) 0 (.int .i64 k) (by omega))).trans (within_set _ (w.heap.size+1) 1 (.slice a1 ints.length c1) (by omega))).trans (within_set _ (w.heap.size+1) 2 (.slice a3 refs.length c3) (by omega))
 have HF:Hid (_∧_∧_∧_):=⟨bF.cell 0 _ rfl,bF.cell 1 _ rfl,bF.cell 2 _ rfl,hwF⟩
 clear bF hwF
 go_wp2
 obtain ⟨f0,f1,f2,hwF⟩:=HF.out
 generalize (((w3.setCell ⟨w.heap.size+1+1,2,none⟩ (.slice a3 refs.length c3)).setCell ⟨w.heap.size+1,0,none⟩ (.int .i64 k)).setCell ⟨w.heap.size+1,1,none⟩ (.slice a1 ints.length c1)).setCell ⟨w.heap.size+1,2,none⟩ (.slice a3 refs.length c3)=WF at*
 have hs3:=hb3.size
 have hs1:=hb1.size
 have hsF:=hwF.size
 refine bodyPost_ret (v:=.agg #[.int .i64 k,.slice a1 ints.length c1,.slice a3 refs.length c3]) (by simp [results,Tryz.results136,go_sem,f0,f1,f2]) rfl ⟨a1,c1,a3,c3,rfl,⟨(ho13.within hwF (.inr (by omega))).widen (by omega) (by omega) (Nat.le_refl _),(ho3.within hwF (.inr (by omega))).widen (by omega) (by omega) (Nat.le_refl _),fun j hj hj'=>by have:=(ho1.lt j hj).2;have:=(ho3.lt j hj').1;omega⟩,(hWb.trans (hb3.mono (by omega))).trans (hwF.below (by omega) (by omega))⟩
theorem Box.three {w:World} {B:Nat} {x0 x1 x2:Value} {t:TypeId} (b:Box w B [x0,x1,x2] t):
  w.cell? ⟨B,0,none⟩=some x0∧w.cell? ⟨B,1,none⟩=some x1∧w.cell? ⟨B,2,none⟩=some x2∧w.frozen? ⟨B,0,none⟩=false∧w.frozen? ⟨B,1,none⟩=false∧w.frozen? ⟨B,2,none⟩=false:=
 ⟨b.cell 0 _ rfl,b.cell 1 _ rfl,b.cell 2 _ rfl,b.frozen 0,b.frozen 1,b.frozen 2⟩
theorem box3_fill {w:World} {B:Nat} {x0 x1 x2:Value} {t:TypeId} (b:Box w B [x0,x1,x2] t) (v0 v1 v2:Value):
  ∃ W,Hid (((w.setCell ⟨B,0,none⟩ v0).setCell ⟨B,1,none⟩ v1).setCell ⟨B,2,none⟩ v2=W)∧Box W B [v0,v1,v2] t∧Within B (B+1) w W∧W.heap.size=w.heap.size:=by
 refine ⟨_,rfl,?_,?_,?_⟩
 ·have:=((b.set 0 v0).set 1 v1).set 2 v2
  simpa only [List.set] using this
 ·exact ((within_set w B 0 v0 (by omega)).trans (within_set _ B 1 v1 (by omega))).trans (within_set _ B 2 v2 (by omega))
 ·simp
structure SlotV where
 has:Bool
 o:ObjV
structure SlotA where
 v:SlotV
 aI:Option Addr
 cI:Nat
 aR:Option Addr
 cR:Nat
def SlotA.cells (s:SlotA):List Value:=[.bool s.v.has,.int .i64 s.v.o.kind,.slice s.aI s.v.o.ints.length s.cI,.slice s.aR s.v.o.refs.length s.cR]
def SlotA.reads (w:World) (s:SlotA):Prop:=ReadsO w s.aI s.cI s.aR s.cR s.v.o
def SlotA.own (w:World) (lo hi:Nat) (s:SlotA):Prop:=OwnO w lo hi s.aI s.cI s.aR s.cR s.v.o
theorem Box.four {w:World} {B:Nat} {x0 x1 x2 x3:Value} {t:TypeId} (b:Box w B [x0,x1,x2,x3] t):
  w.cell? ⟨B,0,none⟩=some x0∧w.cell? ⟨B,1,none⟩=some x1∧w.cell? ⟨B,2,none⟩=some x2∧w.cell? ⟨B,3,none⟩=some x3∧w.frozen? ⟨B,0,none⟩=false∧w.frozen? ⟨B,1,none⟩=false∧w.frozen? ⟨B,2,none⟩=false∧w.frozen? ⟨B,3,none⟩=false:=
 ⟨b.cell 0 _ rfl,b.cell 1 _ rfl,b.cell 2 _ rfl,b.cell 3 _ rfl,b.frozen 0,b.frozen 1,b.frozen 2,b.frozen 3⟩
theorem box4_fill3 {w:World} {B:Nat} {x0 x1 x2 x3:Value} {t:TypeId} (b:Box w B [x0,x1,x2,x3] t) (v1 v2 v3:Value):
  ∃ W,Hid (((w.setCell ⟨B,1,none⟩ v1).setCell ⟨B,2,none⟩ v2).setCell ⟨B,3,none⟩ v3=W)∧Box W B [x0,v1,v2,v3] t∧Within B (B+1) w W∧W.heap.size=w.heap.size:=by
 refine ⟨_,rfl,?_,?_,?_⟩
 ·have:=((b.set 1 v1).set 2 v2).set 3 v3
  simpa only [List.set] using this
 ·exact ((within_set w B 1 v1 (by omega)).trans (within_set _ B 2 v2 (by omega))).trans (within_set _ B 3 v3 (by omega))
 ·simp
theorem box4_fill {w:World} {B:Nat} {x0 x1 x2 x3:Value} {t:TypeId} (b:Box w B [x0,x1,x2,x3] t) (v0 v1 v2 v3:Value):
  ∃ W,Hid ((((w.setCell ⟨B,0,none⟩ v0).setCell ⟨B,1,none⟩ v1).setCell ⟨B,2,none⟩ v2).setCell ⟨B,3,none⟩ v3=W)∧Box W B [v0,v1,v2,v3] t∧Within B (B+1) w W∧W.heap.size=w.heap.size:=by
 refine ⟨_,rfl,?_,?_,?_⟩
 ·have:=(((b.set 0 v0).set 1 v1).set 2 v2).set 3 v3
  simpa only [List.set] using this
 ·exact (((within_set w B 0 v0 (by omega)).trans (within_set _ B 1 v1 (by omega))).trans (within_set _ B 2 v2 (by omega))).trans (within_set _ B 3 v3 (by omega))
 ·simp
theorem toSlot_own (s:SlotA) (w:World) (hr:s.reads w) (hlI:s.v.o.ints.length≤1099511627776) (hlR:s.v.o.refs.length≤1099511627776):
  Calls Tryz.prog 117 #[.agg s.cells.toArray] w fun e w'=>∃ t:SlotA,e=.returned (.agg t.cells.toArray)∧Hid (t.v=s.v)∧t.own w' w.heap.size w'.heap.size∧Below w.heap.size w w':=by
 obtain ⟨⟨h,⟨k,ints,refs⟩⟩,aI,cI,aR,cR⟩:=s
 simp only [SlotA.cells,SlotA.reads,SlotA.own] at*
 obtain ⟨W,hW,b0,b1,b2,hbW,hsW⟩:=boxes3 w [.bool h,.int .i64 k,.slice aI ints.length cI,.slice aR refs.length cR] [.bool false,.int .i64 0,.slice none 0 0,.slice none 0 0] [.bool h,.int .i64 0,.slice none 0 0,.slice none 0 0] 26 44 44
 go_enter Tryz.func117,Tryz.ntmps117
 go_wp2_with fail
 rw [hW.out]
 clear hW
 have hs0:w.heap.size+1+1<W.heap.size:=by omega
 clear hsW
 refine (toObj_own ⟨k,ints,refs⟩ aI cI aR cR W (hr.below hbW) hlI hlR).mono ?_
 rintro e w1 ⟨pI,dI,pR,dR,rfl,ho1,hb1⟩
 simp only at*
 have hs1:=hb1.size
 have b11:=b1.below hb1 b1.lt
 have b21:=b2.below hb1 b2.lt
 obtain ⟨x0,x1,x2,x3,f0,f1,f2,f3⟩:=b21.four
 obtain ⟨y0,y1,y2,y3,g0,g1,g2,g3⟩:=b11.four
 obtain ⟨W2,hW2,b22,hw2,hs2⟩:=box4_fill3 b21 (.int .i64 k) (.slice pI ints.length dI) (.slice pR refs.length dR)
 have b12:Box W2 (w.heap.size+1) _ _:=b11.within hw2 (by omega)
 obtain ⟨WF,hWF,bF,hwF,hsF⟩:=box4_fill b12 (.bool h) (.int .i64 k) (.slice pI ints.length dI) (.slice pR refs.length dR)
 have hbF:Below w.heap.size w WF:=((hbW.trans (hb1.mono (by omega))).trans (hw2.below (by omega) (by omega))).trans (hwF.below (by omega) (by omega))
 have hoF:OwnO WF w.heap.size WF.heap.size pI dI pR dR ⟨k,ints,refs⟩:=((ho1.within hw2 (.inr (by omega))).within hwF (.inr (by omega))).widen (by omega) (by omega) (Nat.le_refl _)
 clear hs2 hsF hw2 hwF hbW hb1
 go_wp2
 rw [hW2.out,hWF.out]
 obtain ⟨q0,q1,q2,q3,_⟩:=bF.four
 exact bodyPost_ret (v:=.agg #[.bool h,.int .i64 k,.slice pI ints.length dI,.slice pR refs.length dR]) (by simp [results,Tryz.results117,go_sem,q0,q1,q2,q3]) rfl ⟨⟨⟨h,⟨k,ints,refs⟩⟩,pI,dI,pR,dR⟩,rfl,rfl,hoF,hbF⟩
theorem results_one {P:Program} {fn:Func} {s:Nat} {ty:TypeId} {tmps:Array Value} {w:World} {v:Value} {ad:Addr} (hf:fn.results=#[.cell s ty]) (ht:tmps[s]?.getD undef=.pointer (some ad)) (hl:(loadVar ty ad).run P w=.ok v w):(results fn tmps).run P w=.ok v w:=by
 unfold results
 rw [hf]
 simp [ht,asAddr,hl]
def cellsS (ss:List SlotA):List Value:=ss.flatMap SlotA.cells
def zeroS:SlotA:=⟨⟨false,⟨0,[],[]⟩⟩,none,0,none,0⟩
theorem cells_len (s:SlotA):s.cells.length=4:=rfl
theorem cellsS_len (ss:List SlotA):(cellsS ss).length=ss.length*4:=by
 induction ss with
 | nil=>rfl
 | cons s r ih=>simp only [cellsS,List.flatMap_cons,List.length_append,cells_len,List.length_cons] at *;omega
theorem cellsS_at (ss:List SlotA) (k j:Nat) (hk:k<ss.length) (hj:j<4):(cellsS ss)[k*4+j]? =(ss.getD k zeroS).cells[j]? :=by
 induction ss generalizing k with
 | nil=>simp at hk
 | cons s r ih=>
  have e:cellsS (s::r)=s.cells++cellsS r:=by simp [cellsS]
  rw [e]
  cases k with
  | zero=>rw [List.getElem?_append_left (by rw [cells_len];omega)];simp
  | succ k=>
   rw [List.getElem?_append_right (by rw [cells_len];omega),cells_len]
   have:=ih k (by simpa using hk)
   rw [show (k+1)*4+j-4=k*4+j by omega,this]
   simp
theorem cellsS_set (ss:List SlotA) (k:Nat) (hk:k<ss.length) (t:SlotA):
  ((((cellsS ss).set (k*4) (.bool t.v.has)).set (k*4+1) (.int .i64 t.v.o.kind)).set (k*4+2) (.slice t.aI t.v.o.ints.length t.cI)).set (k*4+3) (.slice t.aR t.v.o.refs.length t.cR)=cellsS (ss.set k t):=by
 induction ss generalizing k with
 | nil=>simp at hk
 | cons s r ih=>
  cases k with
  | zero=>
   simp [cellsS,SlotA.cells]
  | succ k=>
   have:=ih k (by simpa using hk)
   simp only [List.set_cons_succ]
   have e:cellsS (s::r)=[.bool s.v.has,.int .i64 s.v.o.kind,.slice s.aI s.v.o.ints.length s.cI,.slice s.aR s.v.o.refs.length s.cR]++cellsS r:=by simp [cellsS,SlotA.cells]
   have e2:cellsS (s::r.set k t)=[.bool s.v.has,.int .i64 s.v.o.kind,.slice s.aI s.v.o.ints.length s.cI,.slice s.aR s.v.o.refs.length s.cR]++cellsS (r.set k t):=by simp [cellsS,SlotA.cells]
   rw [e,e2,← this]
   rw [show (k+1)*4=k*4+4 by omega]
   simp [List.set]
theorem Box.slot {w:World} {B:Nat} {ss:List SlotA} {t:TypeId} (b:Box w B (cellsS ss) t) (k:Nat) (hk:k<ss.length):
  w.cell? ⟨B,k*4,none⟩=some (.bool (ss.getD k zeroS).v.has)∧w.cell? ⟨B,k*4+1,none⟩=some (.int .i64 (ss.getD k zeroS).v.o.kind)∧
  w.cell? ⟨B,k*4+2,none⟩=some (.slice (ss.getD k zeroS).aI (ss.getD k zeroS).v.o.ints.length (ss.getD k zeroS).cI)∧w.cell? ⟨B,k*4+3,none⟩=some (.slice (ss.getD k zeroS).aR (ss.getD k zeroS).v.o.refs.length (ss.getD k zeroS).cR)∧
  (∀ i,w.frozen? ⟨B,i,none⟩=false):=
 ⟨b.cell _ _ (cellsS_at ss k 0 hk (by omega)),b.cell _ _ (cellsS_at ss k 1 hk (by omega)),b.cell _ _ (cellsS_at ss k 2 hk (by omega)),b.cell _ _ (cellsS_at ss k 3 hk (by omega)),fun i=>b.frozen i⟩
theorem slot_fill {w:World} {B:Nat} {ss:List SlotA} {ty:TypeId} (b:Box w B (cellsS ss) ty) (k:Nat) (hk:k<ss.length) (t:SlotA):
  ∃ W,Hid ((((w.setCell ⟨B,k*4,none⟩ (.bool t.v.has)).setCell ⟨B,k*4+1,none⟩ (.int .i64 t.v.o.kind)).setCell ⟨B,k*4+2,none⟩ (.slice t.aI t.v.o.ints.length t.cI)).setCell ⟨B,k*4+3,none⟩ (.slice t.aR t.v.o.refs.length t.cR)=W)∧Box W B (cellsS (ss.set k t)) ty∧Within B (B+1) w W∧W.heap.size=w.heap.size:=by
 refine ⟨_,rfl,?_,?_,?_⟩
 ·have:=(((b.set (k*4) (.bool t.v.has)).set (k*4+1) (.int .i64 t.v.o.kind)).set (k*4+2) (.slice t.aI t.v.o.ints.length t.cI)).set (k*4+3) (.slice t.aR t.v.o.refs.length t.cR)
  rw [cellsS_set ss k hk t] at this
  exact this
 ·exact (((within_set w B _ _ (by omega)).trans (within_set _ B _ _ (by omega))).trans (within_set _ B _ _ (by omega))).trans (within_set _ B _ _ (by omega))
 ·simp
def SlotA.blocks (s:SlotA):List Nat:=(Value.slice s.aI s.v.o.ints.length s.cI).ownBlock.toList++(Value.slice s.aR s.v.o.refs.length s.cR).ownBlock.toList
structure OwnS (w:World) (lo hi:Nat) (ss:List SlotA):Prop where
 each:∀ s∈ss,s.own w lo hi
 apart:(ss.flatMap SlotA.blocks).Nodup
theorem SlotA.blocks_lt {w:World} {lo hi:Nat} {s:SlotA} (h:s.own w lo hi):∀ k∈s.blocks,lo≤k∧k<hi:=by
 intro k hk
 rcases List.mem_append.1 hk with h1 | h1
 ·exact h.ints.lt k (Option.mem_toList.1 h1)
 ·exact h.refs.lt k (Option.mem_toList.1 h1)
theorem SlotA.blocks_nodup {w:World} {lo hi:Nat} {s:SlotA} (h:s.own w lo hi):s.blocks.Nodup:=by
 unfold SlotA.blocks
 cases h1:(Value.slice s.aI s.v.o.ints.length s.cI).ownBlock with
 | none=>cases h2:(Value.slice s.aR s.v.o.refs.length s.cR).ownBlock<;>simp
 | some a=>
  cases h2:(Value.slice s.aR s.v.o.refs.length s.cR).ownBlock with
  | none=>simp
  | some b=>
   have:=h.apart a h1
   rw [h2] at this
   have hne:b≠a:=fun e=>this (by rw [e])
   simp [Ne.symm hne]
theorem OwnS.nil (w:World) (lo hi:Nat):OwnS w lo hi []:=⟨by simp,by simp⟩
theorem OwnS.below {w w':World} {lo hi:Nat} {ss:List SlotA} (h:OwnS w lo hi ss) (hb:Below w.heap.size w w'):OwnS w' lo hi ss:=⟨fun s hs=>(h.each s hs).below hb,h.apart⟩
theorem OwnS.within {w w':World} {lo hi l r:Nat} {ss:List SlotA} (h:OwnS w lo hi ss) (hw:Within l r w w') (hd:hi≤l∨r≤lo):OwnS w' lo hi ss:=⟨fun s hs=>(h.each s hs).within hw hd,h.apart⟩
theorem OwnS.widen {w:World} {lo hi lo' hi':Nat} {ss:List SlotA} (h:OwnS w lo hi ss) (h1:lo'≤lo) (h2:hi≤hi') (h3:hi'≤w.heap.size):OwnS w lo' hi' ss:=⟨fun s hs=>(h.each s hs).widen h1 h2 h3,h.apart⟩
theorem OwnS.blocks_lt {w:World} {lo hi:Nat} {ss:List SlotA} (h:OwnS w lo hi ss):∀ k∈ss.flatMap SlotA.blocks,lo≤k∧k<hi:=by
 intro k hk
 obtain ⟨s,hs,hk'⟩:=List.mem_flatMap.1 hk
 exact SlotA.blocks_lt (h.each s hs) k hk'
theorem OwnS.snoc {w:World} {lo mid hi:Nat} {ss:List SlotA} {t:SlotA} (h:OwnS w lo mid ss) (ht:t.own w mid hi) (h1:lo≤mid) (h2:mid≤hi) (h3:hi≤w.heap.size):OwnS w lo hi (ss++[t]):=by
 refine ⟨fun s hs=>?_,?_⟩
 ·rcases List.mem_append.1 hs with h' | h'
  ·exact (h.each s h').widen (Nat.le_refl _) h2 h3
  ·obtain rfl:=List.mem_singleton.1 h'
   exact OwnO.widen ht h1 (Nat.le_refl _) h3
 ·rw [List.flatMap_append,List.nodup_append]
  refine ⟨h.apart,by simpa using SlotA.blocks_nodup ht,?_⟩
  intro a ha b hb e
  have:=(h.blocks_lt a ha).2
  have:=(SlotA.blocks_lt ht b (by simpa using hb)).1
  omega
def ReadsS (w:World) (ss:List SlotA):Prop:=∀ s∈ss,s.reads w
theorem OwnS.reads {w:World} {lo hi:Nat} {ss:List SlotA} (h:OwnS w lo hi ss):ReadsS w ss:=fun s hs=>OwnO.reads (h.each s hs)
theorem ReadsS.below {w w':World} {ss:List SlotA} (h:ReadsS w ss) (hb:Below w.heap.size w w'):ReadsS w' ss:=fun s hs=>ReadsO.below (h s hs) hb
theorem eqIntS_same (a b:Option Addr) (ca cb:Nat) (zs:List Int) (w:World) (ha:ReadsI w a zs) (hb:ReadsI w b zs) (hl:zs.length≤1099511627776):
  Calls Tryz.prog 161 #[.slice a zs.length ca,.slice b zs.length cb] w fun e w'=>e=.returned (.bool true)∧∃ n,w'=w.drewN n:=by
 rcases ha.cases with rfl | ⟨b1,o1,rfl,hpos,hc1⟩
 ·go_enter Tryz.func161,Tryz.ntmps161
  go_wp2
  refine wp_loop_rounds 1 ?_
  rw [rounds_succ]
  go_wp2
  go_ret
  exact ⟨rfl,0,rfl⟩
 ·rcases hb.cases with rfl | ⟨b2,o2,rfl,_,hc2⟩
  ·simp at hpos
  ·go_enter Tryz.func161,Tryz.ntmps161
   go_wp2
   go_loopw [5] (fun i wr=>∃ k:Nat,k≤zs.length∧i=.int .i64 k∧∃ n,wr=w.drewN n) (fun i _=>zs.length-(RowKit.intOf i).toNat)
   case atStart=>exact ⟨0,Nat.zero_le _,rfl,0,rfl⟩
   case round=>
    obtain ⟨k,hk,rfl,n,rfl⟩:=hrel
    by_cases hlt:k<zs.length
    ·have h1:=hc1 k hlt
     have h2:=hc2 k hlt
     clear hc1 hc2
     generalize zs.getD k 0=z at*
     go_wp2
     go_quiet (fail)
     go_wp2
     go_roundw
     case rel=>exact ⟨k+1,by omega,by go_num,_,rfl⟩
     case measure=>simp [RowKit.intOf];omega
    ·go_wp2
     go_ret
     exact ⟨rfl,n,rfl⟩
def marksI (k0:Int) (n:Nat):List Int:=(List.range n).map fun i:Nat=>k0+i
theorem marksI_len (k0:Int) (n:Nat):(marksI k0 n).length=n:=by simp [marksI]
theorem marksI_at (k0:Int) (n i:Nat) (h:i<n):(marksI k0 n).getD i 0=k0+i:=by
 simp [marksI,List.getD,h]
theorem marksI_succ (k0:Int) (n:Nat):marksI k0 (n+1)=marksI k0 n++[k0+n]:=by
 simp [marksI,List.range_succ]
def markedI (k0:Int) (xs:List Int) (k:Nat):List Int:=marksI k0 k++xs.drop k
theorem markedI_set (k0:Int) (xs:List Int) (k:Nat) (h:k<xs.length):(markedI k0 xs k).set k (k0+k)=markedI k0 xs (k+1):=by
 unfold markedI
 rw [List.set_append,if_neg (by rw [marksI_len];omega),marksI_len,Nat.sub_self,marksI_succ,List.drop_eq_getElem_cons h,List.set_cons_zero]
 simp
theorem markedI_set_map (k0:Int) (xs:List Int) (k:Nat) (h:k<xs.length):((markedI k0 xs k).map (Value.int .i64)).set k (.int .i64 (k0+k))=(markedI k0 xs (k+1)).map (Value.int .i64):=by
 rw [← markedI_set k0 xs k h,List.map_set]
theorem markedI_all (k0:Int) (xs:List Int):markedI k0 xs xs.length=marksI k0 xs.length:=by simp [markedI]
theorem markIntS_any (base:Nat) (a:Option Addr) (cap:Nat) (k0:Int) (xs:List Int) (w:World)
  (hown:w.ownsRow base 3 1 (.slice a xs.length cap) xs.length (xs.map (Value.int .i64))) (h0:0≤k0) (hl:k0+xs.length≤4611686018427387904):
  Calls Tryz.prog 108 #[.slice a xs.length cap,.int .i64 k0] w fun e w'=>e=.returned (.int .i64 (k0+xs.length))∧
   w'.ownsRow base 3 1 (.slice a xs.length cap) xs.length ((marksI k0 xs.length).map (Value.int .i64))∧w.grownBy w' (Value.slice a xs.length cap).ownBlock:=by
 have hlen:=hown.1
 rcases hown.2 with ⟨hv,h00⟩ | ⟨g,cap',cur,hv,hg,hgg,hr⟩
 ·simp only [Value.slice.injEq] at hv
  obtain ⟨rfl,h00',rfl⟩:=hv
  obtain rfl:=List.length_eq_zero_iff.1 h00
  go_enter Tryz.func108,Tryz.ntmps108
  go_wp2
  refine wp_loop_rounds 1 ?_
  rw [rounds_succ]
  go_wp2
  go_ret
  exact ⟨by simp,World.ownsRow_nil _ _ _ _,World.grownBy.refl _ _⟩
 ·simp only [Value.slice.injEq] at hv
  obtain ⟨rfl,_,rfl⟩:=hv
  clear hgg hr hlen
  have hM:w.ownsRow base 3 1 (.slice (some ⟨g,0,none⟩) xs.length cap) xs.length ((markedI k0 xs 0).map (Value.int .i64)):=by simpa [markedI,marksI] using hown
  clear hown
  go_enter Tryz.func108,Tryz.ntmps108
  go_wp2
  go_loopw [1,5] (fun kk i wr=>∃ k:Nat,k≤xs.length∧i=.int .i64 k∧kk=.int .i64 (k0+k)∧wr.ownsRow base 3 1 (.slice (some ⟨g,0,none⟩) xs.length cap) xs.length ((markedI k0 xs k).map (Value.int .i64))∧w.grownBy wr (some g))
   (fun _ i _=>xs.length-(RowKit.intOf i).toNat)
  case atStart=>exact ⟨0,Nat.zero_le _,rfl,by simp,hM,World.grownBy.refl _ _⟩
  case round=>
   obtain ⟨k,hk,rfl,rfl,hown,hgr⟩:=hrel
   clear hM
   by_cases hlt:k<xs.length
   ·have hfz:=hown.frozenAt k
    obtain ⟨u,hct⟩:=own_cell hown k hlt
    have HS:=hown.stored k (.int .i64 (k0+k))
    rw [markedI_set_map k0 xs k hlt] at HS
    have HSS:Hid (_∧_):=HS
    clear HS hown
    go_wp2
    go_roundw
    case rel=>exact ⟨k+1,by omega,by go_num,by go_num,HSS.out.1,grownBy_trans hgr HSS.out.2⟩
    case measure=>simp [RowKit.intOf];omega
   ·have HE:Hid (wr.ownsRow base 3 1 (.slice (some ⟨g,0,none⟩) xs.length cap) xs.length ((marksI k0 xs.length).map (Value.int .i64))∧k=xs.length):=by
     have e:k=xs.length:=by omega
     rw [e,markedI_all] at hown
     exact ⟨hown,e⟩
    go_wp2
    go_ret
    exact ⟨ret_int (by have:=HE.out.2;omega),HE.out.1,hgr⟩
theorem heldIntS_any (a:Option Addr) (cap:Nat) (k0:Int) (n:Nat) (w:World) (hr:ReadsI w a (marksI k0 n)) (h0:0≤k0) (hl:k0+n≤4611686018427387904):
  Calls Tryz.prog 110 #[.slice a n cap,.int .i64 k0] w fun e w'=>e=.returned (.int .i64 (k0+n))∧w'=w:=by
 rcases hr.cases with h | ⟨b,off,rfl,hpos,hcell⟩
 ·have h':=congrArg List.length h
  rw [marksI_len] at h'
  simp at h'
  subst h'
  go_enter Tryz.func110,Tryz.ntmps110
  go_wp2
  refine wp_loop_rounds 1 ?_
  rw [rounds_succ]
  go_wp2
  go_ret
  exact ⟨by simp,rfl⟩
 ·rw [marksI_len] at hpos hcell
  go_enter Tryz.func110,Tryz.ntmps110
  go_wp2
  go_loop [1,5] (fun kk i=>∃ k:Nat,k≤n∧i=.int .i64 k∧kk=.int .i64 (k0+k)) (fun _ i=>n-(RowKit.intOf i).toNat)
  case atStart=>exact ⟨0,Nat.zero_le _,rfl,by simp⟩
  case round=>
   obtain ⟨k,hk,rfl,rfl⟩:=hrel
   by_cases hlt:k<n
   ·have hc:=hcell k hlt
    rw [marksI_at k0 n k hlt] at hc
    clear hcell
    go_wp2
    go_round
    case rel=>exact ⟨k+1,by omega,by go_num,by go_num⟩
    case measure=>simp [RowKit.intOf];omega
   ·have HE:Hid (k=n):=by show k=n;omega
    go_wp2
    go_ret
    exact ⟨ret_int (by have:=HE.out;omega),rfl⟩
theorem heldIntS_own (lo hi:Nat) (a:Option Addr) (cap:Nat) (k0:Int) (n:Nat) (w:World) (ho:OwnI w lo hi a cap (marksI k0 n)) (h0:0≤k0) (hl:k0+n≤4611686018427387904):
  Calls Tryz.prog 110 #[.slice a n cap,.int .i64 k0] w fun e w'=>e=.returned (.int .i64 (k0+n))∧w'=w:=
 heldIntS_any a cap k0 n w ho.reads h0 hl
theorem eqObj_same (o:ObjV) (aI:Option Addr) (cI:Nat) (aR:Option Addr) (cR:Nat) (bI:Option Addr) (dI:Nat) (bR:Option Addr) (dR:Nat) (w:World) (ha:ReadsO w aI cI aR cR o) (hb:ReadsO w bI dI bR dR o) (hlI:o.ints.length≤1099511627776) (hlR:o.refs.length≤1099511627776):
  Calls Tryz.prog 152 #[.agg #[.int .i64 o.kind,.slice aI o.ints.length cI,.slice aR o.refs.length cR],.agg #[.int .i64 o.kind,.slice bI o.ints.length dI,.slice bR o.refs.length dR]] w fun e w'=>e=.returned (.bool true)∧Below w.heap.size w w':=by
 obtain ⟨k,ints,refs⟩:=o
 obtain ⟨haI,haR,_,_⟩:=ha
 obtain ⟨hbI,hbR,_,_⟩:=hb
 simp only at*
 obtain ⟨W,hW,b0,b1,hbW,hsW⟩:=boxes2 w [.int .i64 k,.slice aI ints.length cI,.slice aR refs.length cR] [.int .i64 k,.slice bI ints.length dI,.slice bR refs.length dR] 42 42
 go_enter Tryz.func152,Tryz.ntmps152
 go_wp2_with fail
 rw [hW.out]
 refine (eqIntS_same aI bI cI dI ints W (haI.below hbW) (hbI.below hbW) hlI).mono ?_
 rintro e w1 ⟨rfl,n1,rfl⟩
 have c0:=(b0.drewN n1).cell 2 _ rfl
 have c1:=(b1.drewN n1).cell 2 _ rfl
 have hb1:Below w.heap.size w (W.drewN n1):=below_drewN hbW n1
 go_wp2_with fail
 refine (eqIntS_same aR bR cR dR refs (W.drewN n1) (haR.below hb1) (hbR.below hb1) hlR).mono ?_
 rintro e w2 ⟨rfl,n2,rfl⟩
 go_wp2
 go_ret
 exact ⟨rfl,below_drewN hbW (n1+n2)⟩
def markO (o:ObjV) (k0:Int):ObjV:=⟨o.kind,marksI k0 o.ints.length,marksI (k0+o.ints.length) o.refs.length⟩
def OwnB (w:World) (base:Nat) (a:Option Addr) (c:Nat) (ys:List Int):Prop:=
 (∀ z∈ys,0≤z∧z<256)∧w.ownsRow base 5 1 (.slice a ys.length c) ys.length (ys.map (Value.int .u8))
theorem OwnB.reads {w:World} {base:Nat} {a:Option Addr} {c:Nat} {ys:List Int} (h:OwnB w base a c ys):Reads w a ys:=Reads.of_own h.1 h.2
theorem OwnB.nocap {w:World} {base:Nat} {a:Option Addr} {c:Nat} {ys:List Int} (h:OwnB w base a c ys):a=none→c=0:=by
 intro ha
 rcases h.2.2 with ⟨hv,_⟩ | ⟨g,cap,cur,hv,_⟩
 ·simp only [Value.slice.injEq] at hv;exact hv.2.2
 ·simp [ha] at hv
theorem OwnB.below {w w':World} {base:Nat} {a:Option Addr} {c:Nat} {ys:List Int} (h:OwnB w base a c ys) (hb:Below w.heap.size w w'):OwnB w' base a c ys:=by
 refine ⟨h.1,h.2.1,?_⟩
 rcases h.2.2 with h0 | ⟨g,cap,cur,hv,hg,hgg,hr⟩
 ·exact .inl h0
 ·exact .inr ⟨g,cap,cur,hv,hg,by rw [hb.block g (Array.getElem?_eq_some_iff.1 hgg).1];exact hgg,hr⟩
theorem OwnB.alloc {w:World} {base:Nat} {a:Option Addr} {c:Nat} {ys:List Int} (h:OwnB w base a c ys) (o:Obj):OwnB (w.alloc o) base a c ys:=⟨h.1,h.2.alloc o⟩
theorem OwnB.base {w:World} {base base':Nat} {a:Option Addr} {c:Nat} {ys:List Int} (h:OwnB w base a c ys) (hb:base'≤base):OwnB w base' a c ys:=by
 refine ⟨h.1,h.2.1,?_⟩
 rcases h.2.2 with h0 | ⟨g,cap,cur,hv,hg,hr⟩
 ·exact .inl h0
 ·exact .inr ⟨g,cap,cur,hv,by omega,hr⟩
theorem Reads.alloc {w:World} {a:Option Addr} {zs:List Int} (h:Reads w a zs) (o:Obj):Reads (w.alloc o) a zs:=h.below ((Below.refl _ _).alloc (Nat.le_refl _) o)
def marks (k0:Int) (n:Nat):List Int:=(List.range n).map fun i:Nat=>(k0+i) % 256
def marked (k0:Int) (xs:List Int) (k:Nat):List Int:=marks k0 k++xs.drop k
def part (zs:List Int) (k:Nat):List Int:=zs.take k++List.replicate (zs.length-k) 0
theorem OwnB.kept {w w':World} {base:Nat} {a:Option Addr} {c:Nat} {ys:List Int} {row:Option Nat} (h:OwnB w base a c ys) (hg:w.grownBy w' row)
  (hne:∀ k,(Value.slice a ys.length c).ownBlock=some k→row≠some k):OwnB w' base a c ys:=by
 refine ⟨h.1,h.2.kept hg ?_⟩
 cases hv:(Value.slice a ys.length c).ownBlock with
 | none=>exact .inl rfl
 | some k=>exact .inr fun e=>hne k hv e.symm
theorem OwnB.drewN {w:World} {base:Nat} {a:Option Addr} {c:Nat} {ys:List Int} (h:OwnB w base a c ys) (n:Nat):OwnB (w.drewN n) base a c ys:=h.below (below_drewN (Below.refl _ _) n)
theorem OwnB.lt {w:World} {base:Nat} {a:Option Addr} {c:Nat} {ys:List Int} (h:OwnB w base a c ys):∀ k,(Value.slice a ys.length c).ownBlock=some k→base≤k∧k<w.heap.size:=h.2.lt
end Go.Proofs.YtcoeamamaifoeaaGreatDoor
namespace Go.Proofs.YtcoeamamaifoeaaGreatDoor
open Go.RowKit
def OwnR (w:World) (lo hi:Nat) (a:Option Addr) (c:Nat) (ys:List Int):Prop:=OwnB w lo a c ys∧hi≤w.heap.size∧∀ k,(Value.slice a ys.length c).ownBlock=some k→k<hi
theorem OwnR.lt {w:World} {lo hi:Nat} {a:Option Addr} {c:Nat} {ys:List Int} (h:OwnR w lo hi a c ys):∀ k,(Value.slice a ys.length c).ownBlock=some k→lo≤k∧k<hi:=fun k hk=>⟨(h.1.2.lt k hk).1,h.2.2 k hk⟩
theorem OwnR.reads {w:World} {lo hi:Nat} {a:Option Addr} {c:Nat} {ys:List Int} (h:OwnR w lo hi a c ys):Reads w a ys:=h.1.reads
theorem OwnR.within {w w':World} {lo hi l r:Nat} {a:Option Addr} {c:Nat} {ys:List Int} (h:OwnR w lo hi a c ys) (hw:Within l r w w') (hd:hi≤l∨r≤lo):OwnR w' lo hi a c ys:=
 ⟨⟨h.1.1,ownsRow_block h.1.2 (fun k hk=>hw.block k (by have:=h.2.2 k hk;have:=h.2.1;omega) (by have:=h.lt k hk;omega))⟩,Nat.le_trans h.2.1 hw.size,h.2.2⟩
theorem OwnR.below {w w':World} {lo hi:Nat} {a:Option Addr} {c:Nat} {ys:List Int} (h:OwnR w lo hi a c ys) (hb:Below w.heap.size w w'):OwnR w' lo hi a c ys:=
 h.within (Within.of_below (lo:=w.heap.size) (hi:=w.heap.size) hb) (.inl h.2.1)
end Go.Proofs.YtcoeamamaifoeaaGreatDoor