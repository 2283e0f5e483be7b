/- Texts. -/
import Derived.Deep.RegionHeld3
import Derived.Below
import Derived.WalkKit
import Derived.WalkSmall
import Derived.Laws.AppendOwnNone
import Derived.Test.YtnfdccldabbobaaGreatDoorProg
import Derived.Deep.QuietTactic
import Derived.BigQuiet
import Derived.Deep.MidRow
set_option maxHeartbeats 8000000
set_option maxRecDepth 100000
namespace Go.Proofs.YtnfdccldabbobaaGreatDoor
open Go.RowKit Go.Proofs.Tryz
theorem qaa:type_of% @List.mem_append:=@List.mem_append
theorem qab:type_of% @Go.RowKit.Below.refl:=@Go.RowKit.Below.refl
theorem qac:type_of% @List.mem_singleton:=@List.mem_singleton
theorem qad:type_of% @Option.mem_toList:=@Option.mem_toList
theorem qaf:type_of% @Go.all_oneCell_toArray:=@Go.all_oneCell_toArray
theorem qag:type_of% @List.mem_flatMap:=@List.mem_flatMap
theorem qai:type_of% @List.length_append:=@List.length_append
theorem qam:type_of% @Bool.and_eq_true:=@Bool.and_eq_true
theorem qan:type_of% @if_pos:=@if_pos
theorem qau:type_of% @Go.wpAnyH_done:=@Go.wpAnyH_done
theorem qav:type_of% @List.nodup_append:=@List.nodup_append
theorem qaw:type_of% @Nat.zero_le:=@Nat.zero_le
theorem qaC:type_of% @decide_eq_true:=@decide_eq_true
theorem qaY:type_of% @List.flatMap_cons:=@List.flatMap_cons
theorem qaZ:type_of% @Go.wp_region_held_drew:=@Go.wp_region_held_drew
theorem qa0:type_of% @decide_eq_false:=@decide_eq_false
theorem qa2:type_of% @if_neg:=@if_neg
theorem qa3:type_of% @Go.bodyPost_ret:=@Go.bodyPost_ret
theorem qa4:type_of% @List.length_map:=@List.length_map
theorem qcv:type_of% @List.mem_cons:=@List.mem_cons
theorem qcx:type_of% @Nat.le_trans:=@Nat.le_trans
theorem qcy:type_of% @List.flatMap_append:=@List.flatMap_append
theorem qcz:type_of% @congrArg:=@congrArg
theorem qcB:type_of% @decide_eq_true_eq:=@decide_eq_true_eq
theorem qcE:type_of% @Go.AllReadyH.cons:=@Go.AllReadyH.cons
theorem qcF:type_of% @Nat.le_of_eq:=@Nat.le_of_eq
theorem qcG:type_of% @List.getElem?_eq_getElem:=@List.getElem?_eq_getElem
theorem qcI:type_of% @List.length_eq_zero_iff:=@List.length_eq_zero_iff
theorem qcJ:type_of% @List.append_assoc:=@List.append_assoc
theorem qcK:type_of% @Go.Value.slice.injEq:=@Go.Value.slice.injEq
theorem qcL:type_of% @List.getElem?_eq_some_iff:=@List.getElem?_eq_some_iff
theorem qcM:type_of% @beq_eq_false_iff_ne:=@beq_eq_false_iff_ne
theorem qcN:type_of% @Nat.le_refl:=@Nat.le_refl
theorem qcO:type_of% @List.mem_cons_of_mem:=@List.mem_cons_of_mem
theorem qcP:type_of% @List.length_set:=@List.length_set
theorem qcQ:type_of% @List.getElem?_append_right:=@List.getElem?_append_right
theorem qcS:type_of% @List.length_cons:=@List.length_cons
theorem qcU:type_of% @Int.toNat_natCast:=@Int.toNat_natCast
theorem qcV:type_of% @List.mem_or_eq_of_mem_set:=@List.mem_or_eq_of_mem_set
theorem qcX:type_of% @List.drop_eq_getElem_cons:=@List.drop_eq_getElem_cons
theorem qcY:type_of% @List.size_toArray:=@List.size_toArray
theorem qcZ:type_of% @List.append_nil:=@List.append_nil
theorem qc0:type_of% @Array.getElem?_eq_some_iff:=@Array.getElem?_eq_some_iff
theorem qc7:type_of% @Go.wp_store_mid:=@Go.wp_store_mid
theorem qc9:type_of% @Go.AllReadyH.nil:=@Go.AllReadyH.nil
theorem qdb:type_of% @List.take_succ_eq_append_getElem:=@List.take_succ_eq_append_getElem
theorem qdd:type_of% @List.map_append:=@List.map_append
theorem qde:type_of% @Go.wpAnyH_ready:=@Go.wpAnyH_ready
theorem qdf:type_of% @Go.Result.andThen_ok:=@Go.Result.andThen_ok
theorem qdh:type_of% @List.set_append_right:=@List.set_append_right
theorem qdm:type_of% @List.length_take:=@List.length_take
theorem qdn:type_of% @List.mem_map:=@List.mem_map
theorem qdo:type_of% @List.length_nil:=@List.length_nil
theorem qdp:type_of% @Go.wp_loop_rounds:=@Go.wp_loop_rounds
theorem qdq:type_of% @Go.Sem.run_bind:=@Go.Sem.run_bind
theorem qdr:type_of% @List.singleton_append:=@List.singleton_append
theorem qds:type_of% @List.mem_range:=@List.mem_range
theorem qdt:type_of% @List.all_eq_true:=@List.all_eq_true
theorem qdu:type_of% @List.not_mem_nil:=@List.not_mem_nil
theorem qdw:type_of% @List.getElem_mem:=@List.getElem_mem
theorem qdx:type_of% @List.getElem?_append_left:=@List.getElem?_append_left
theorem qdy:type_of% @List.getElem?_map:=@List.getElem?_map
theorem qdC:type_of% @Go.rounds_succ:=@Go.rounds_succ
theorem qdD:type_of% @List.take_of_length_le:=@List.take_of_length_le
theorem qdG:type_of% @List.map_cons:=@List.map_cons
theorem qdH:type_of% @List.flatMap_nil:=@List.flatMap_nil
theorem qdI:type_of% @List.getElem?_cons_succ:=@List.getElem?_cons_succ
theorem qdJ:type_of% @List.take_append_drop:=@List.take_append_drop
theorem qdL:type_of% @List.set_cons_zero:=@List.set_cons_zero
theorem qeE:type_of% @List.getElem?_eq_none:=@List.getElem?_eq_none
theorem qeF:type_of% @List.getElem_cons_zero:=@List.getElem_cons_zero
theorem qeG:type_of% @List.getElem_cons_succ:=@List.getElem_cons_succ
theorem qeI:type_of% @Go.run_loadVar_mid:=@Go.run_loadVar_mid
theorem qeJ:type_of% @Go.Sem.run_pure:=@Go.Sem.run_pure
theorem qeK:type_of% @Nat.zero_add:=@Nat.zero_add
theorem qeL:type_of% @Option.some.injEq:=@Option.some.injEq
theorem qeM:type_of% @List.getElem_toArray:=@List.getElem_toArray
theorem qeO:type_of% @Array.getElem?_eq_none:=@Array.getElem?_eq_none
theorem qeR:type_of% @Go.World.grownBy.refl:=@Go.World.grownBy.refl
theorem qeV:type_of% @not_true_eq_false:=@not_true_eq_false
theorem qeW:type_of% @List.map_set:=@List.map_set
theorem qe2:type_of% @Nat.lt_of_lt_of_le:=@Nat.lt_of_lt_of_le
theorem qe3:type_of% @List.set_cons_succ:=@List.set_cons_succ
theorem qe5:type_of% @List.drop_eq_nil_of_le:=@List.drop_eq_nil_of_le
theorem qe6:type_of% @Go.wpList_make_full:=@Go.wpList_make_full
theorem qe7:type_of% @Option.getD_some:=@Option.getD_some
theorem qe8:type_of% @List.map_toArray:=@List.map_toArray
theorem qe9:type_of% @List.length_pos_iff:=@List.length_pos_iff
theorem qfa:type_of% @List.getElem_of_mem:=@List.getElem_of_mem
theorem qfb:type_of% @Option.some.inj:=@Option.some.inj
theorem qfc:type_of% @Nat.mod_lt:=@Nat.mod_lt
theorem qfd:type_of% @List.mem_cons_self:=@List.mem_cons_self
theorem qfe:type_of% @List.map_nil:=@List.map_nil
theorem qfh:type_of% @List.cons.injEq:=@List.cons.injEq
theorem qfi:type_of% @List.getElem?_set_self:=@List.getElem?_set_self
theorem qfk:type_of% @List.cons_append:=@List.cons_append
theorem qfl:type_of% @List.replicate_succ:=@List.replicate_succ
theorem qfp:type_of% @List.getD_cons_zero:=@List.getD_cons_zero
theorem qft:type_of% @Go.info_parts:=@Go.info_parts
theorem qfu:type_of% @beq_iff_eq:=@beq_iff_eq
theorem qfw:type_of% @List.all_eq_false:=@List.all_eq_false
theorem qfC:type_of% @Go.DataW.trod_struct:=@Go.DataW.trod_struct
theorem qfD:type_of% @List.length_singleton:=@List.length_singleton
theorem qfE:type_of% @List.take_length:=@List.take_length
theorem qfF:type_of% @Nat.lt_irrefl:=@Nat.lt_irrefl
theorem qfH:type_of% @Bool.true_and:=@Bool.true_and
theorem qfI:type_of% @Go.below_drewN:=@Go.below_drewN
theorem qfK:type_of% @Go.yieldsIf_load_mid:=@Go.yieldsIf_load_mid
theorem qfL:type_of% @or_false:=@or_false
theorem qfM:type_of% @Go.World.cell?_alloc_lt:=@Go.World.cell?_alloc_lt
theorem qfN:type_of% @List.mem_of_mem_take:=@List.mem_of_mem_take
theorem qfO:type_of% @List.mem_iff_getElem:=@List.mem_iff_getElem
theorem qfQ:type_of% @List.getElem?_cons_zero:=@List.getElem?_cons_zero
theorem qfR:type_of% @Go.World.cells?_some:=@Go.World.cells?_some
theorem qfS:type_of% @Option.map_some:=@Option.map_some
theorem qfU:type_of% @List.nil_append:=@List.nil_append
theorem qfV:type_of% @Nat.sub_self:=@Nat.sub_self
theorem qfY:type_of% @List.pairwise_iff_getElem:=@List.pairwise_iff_getElem
theorem qfZ:type_of% @Go.wpList_load_mid:=@Go.wpList_load_mid
theorem qf1:type_of% @Nat.min_eq_left:=@Nat.min_eq_left
theorem qf4:type_of% @List.getElem?_set_ne:=@List.getElem?_set_ne
theorem qf5:type_of% @Bool.false_or:=@Bool.false_or
theorem qf6:type_of% @List.nodup_cons:=@List.nodup_cons
theorem qf7:type_of% @if_false:=@if_false
theorem qf8:type_of% @List.setIfInBounds_toArray:=@List.setIfInBounds_toArray
theorem qf9:type_of% @List.take_add_one:=@List.take_add_one
theorem qgc:type_of% @List.ext_getElem?:=@List.ext_getElem?
theorem qgd:type_of% @Go.run_underlying:=@Go.run_underlying
theorem qgg:type_of% @Bool.false_and:=@Bool.false_and
theorem qgi:type_of% @Go.wpList_plain:=@Go.wpList_plain
theorem qgk:type_of% @Array.toList_inj:=@Array.toList_inj
theorem qgm:type_of% @List.replicate_zero:=@List.replicate_zero
theorem qgn:type_of% @List.mem_map_of_mem:=@List.mem_map_of_mem
theorem qgo:type_of% @List.set_append:=@List.set_append
theorem qgp:type_of% @List.map_singleton:=@List.map_singleton
theorem qgt:type_of% @and_true:=@and_true
abbrev qa (a b:World):Prop:=Below a.heap.size a b
theorem qg {n:Nat}:n≤n:=qcN n
theorem jG {o:Option Nat}{l:List Value}(h:o=some l.length):o=some l.toArray.size:=by rw [qcY];exact h
theorem qf {a b c:World}(h:qa a b)(k:qa b c):qa a c:=h.trans (k.mono h.size)
theorem qV {α:Sort _}(a:α):∃ x,Hid (a=x):=⟨a,rfl⟩
theorem Q4 {α:Sort _}(a:α):∃ x,a=x:=⟨a,rfl⟩
abbrev qp {P:Program}{ops:Array Oper}{Q:Exit → Act → World → Prop}{rest:List Oper}{a:Act}{w:World}(n:Nat){x1 x2 x3 x4 x5}:=wpList P ops Q (Oper.mk (some n) x1 x2 x3 x4 x5::rest) a w
abbrev ja {P:Program}{ops:Array Oper}{Q:Exit → Act → World → Prop}{rest:List Oper}{a:Act}{w:World}(n:Nat){t y x2 x3 x4 x5}:=wpList P ops Q (Oper.mk none (Op.store t (Operand.tmp n) y) x2 x3 x4 x5::rest) a w
theorem qH {P:Program}{ops:Array Oper}{rest:List Oper}{op:Oper}{a:Act}{w:World}{Q:Exit → Act → World → Prop}(ty:TypeId)(n b o:Nat)(cs:List Value){d:TypeDesc}(hc:w.rangeAt b o cs)(hu:P.underlying ty=some d)(hi:(P.info? ty).map (·.size)=some cs.length)(h:wpList P ops Q rest (a.put op.dst (.agg cs.toArray)) w)(hgd:op.guard=none:=by rfl)(ho:op.op=.load ty (.tmp n):=by rfl)(hx:a.eval (.tmp n)=.pointer (some ⟨b,o,none⟩):=by rfl)(hd:d.isRow=true:=by rfl):wpList P ops Q (op::rest) a w:=
 qfZ hgd ty (.tmp n) ho b o hx cs d hc hu hd hi h
theorem jb {P:Program}{ops:Array Oper}{rest:List Oper}{op:Oper}{a:Act}{w:World}{Q:Exit → Act → World → Prop}(ty:TypeId)(n m b o:Nat)(cells:Array Value)(ht:w.there b o cells.size)(hi:(P.info? ty).map (·.size)=some cells.size)(h1:cells.all (·.oneCell')=true)(h:wpList P ops Q rest (a.put op.dst undef) (w.setCells b o cells.toList))(hgd:op.guard=none:=by rfl)(ho:op.op=.store ty (.tmp n) (.tmp m):=by rfl)(hx:a.eval (.tmp n)=.pointer (some ⟨b,o,none⟩):=by rfl)(hy:a.eval (.tmp m)=.agg cells:=by rfl):wpList P ops Q (op::rest) a w:=
 wpList_store_mid hgd ty (.tmp n) (.tmp m) ho b o cells hx hy ht hi h1 h
theorem zA {α : Type} {xs : List α} {i : Nat} (h : i < xs.toArray.size) : xs.toArray[i] = xs[i] := qeM h
theorem zB {α : Type} (a : α) (l : List α) (h : 0 < (a :: l).length) : (a :: l)[0] = a := qeF a l h
theorem zC {α : Type} (a : α) (l : List α) (i : Nat) (h : i + 1 < (a :: l).length) : (a :: l)[i + 1] = l[i]'(Nat.lt_of_succ_lt_succ h) := qeG a l i h
theorem zD {α : Type} (l : List α) (i : Nat) (a : α) : l.toArray.setIfInBounds i a = (l.set i a).toArray := qf8 l i a
theorem zE {α : Type} {x : α} {xs : List α} {a : α} : (x :: xs).set 0 a = a :: xs := qdL
theorem zF {α : Type} {x : α} {xs : List α} {i : Nat} {a : α} : (x :: xs).set (i + 1) a = x :: xs.set i a := qe3
theorem tk {P : Program} {ops : Array Oper} {Q : Exit → Act → World → Prop} {md : Region.Mode} {S : World → Prop} (i : Nat) {oi : Oper} {v : Value} {fuel : Nat} {listed : Array Bool} {a : Act} {w : World} (h1 : ops[i]? = some oi) (h6 : YieldsIf P ops S oi v a) (h7 : S w) (h8 : wpAnyH P md ops Q S fuel (listed.setIfInBounds i true) (a.put oi.dst v) w) (h2 : Region.noSelect ops = true := by kernel_rfl) (h3 : Region.free md ops listed i = true := by kernel_rfl) (h4 : (Region.ready md ops listed).contains i = true := by kernel_rfl) (h5 : ∀ (c : List PanicEntry) (a : Act) (w : World), Q (Exit.panic c) (a.put oi.dst v) w → Q (Exit.panic c) a w := by exact fun _ _ _ h => h) : wpAnyH P md ops Q S (fuel + 1) listed a w :=
 wpAnyH_take h1 h2 h3 h4 h5 h6 h7 h8
theorem zz : (∀ (a : Act) (d : Tmp) (v : Value), a.put (some d) v = { a with tmps := a.tmps.setIfInBounds d v }) ∧ (∀ (a : Act) (v : Value), a.put none v = a) ∧ (∀ {α : Type} {xs : List α} {i : Nat} (h : i < xs.toArray.size), xs.toArray[i] = xs[i]) ∧ (∀ {α : Type} (a : α) (l : List α) (h : 0 < (a :: l).length), (a :: l)[0] = a) ∧ (∀ {α : Type} (a : α) (l : List α) (i : Nat) (h : i + 1 < (a :: l).length), (a :: l)[i + 1] = l[i]'(Nat.lt_of_succ_lt_succ h)) ∧ (∀ {α : Type} (l : List α) (i : Nat) (a : α), l.toArray.setIfInBounds i a = (l.set i a).toArray) ∧ (∀ {α : Type} {x : α} {xs : List α} {a : α}, (x :: xs).set 0 a = a :: xs) ∧ (∀ {α : Type} {x : α} {xs : List α} {i : Nat} {a : α}, (x :: xs).set (i + 1) a = x :: xs.set i a) :=
 ⟨fun _ _ _ => rfl, fun _ _ => rfl, zA, zB, zC, zD, zE, zF⟩
theorem tq {P : Program} {ops : Array Oper} {Q : Exit → Act → World → Prop} {md : Region.Mode} {S : World → Prop} (i : Nat) {oi : Oper} {v : Value} {fuel : Nat} {listed : Array Bool} {a : Act} {w : World} (h1 : ops[i]? = some oi) (h7 : S w) (h8 : wpAnyH P md ops Q S fuel (listed.setIfInBounds i true) (a.put oi.dst v) w) (h6 : YieldsIf P ops S oi v a := by exact Or.inl ⟨by rfl, by intro w' hSw; go_simp <;> rfl⟩) (h2 : Region.noSelect ops = true := by kernel_rfl) (h3 : Region.free md ops listed i = true := by kernel_rfl) (h4 : (Region.ready md ops listed).contains i = true := by kernel_rfl) (h5 : ∀ (c : List PanicEntry) (a : Act) (w : World), Q (Exit.panic c) (a.put oi.dst v) w → Q (Exit.panic c) a w := by exact fun _ _ _ h => h) : wpAnyH P md ops Q S (fuel + 1) listed a w :=
 wpAnyH_take h1 h2 h3 h4 h5 h6 h7 h8
theorem yt {P : Program} {ops : Array Oper} {Q : Exit → Act → World → Prop} {md : Region.Mode} {S : World → Prop} (i : Nat) (v : Value) {oi : Oper} {fuel : Nat} {listed l' : Array Bool} {a a' : Act} {w : World} (h8 : wpAnyH P md ops Q S fuel l' a' w) (h1 : ops[i]? = some oi := by rfl) (h7 : S w := by assumption) (hl : listed.setIfInBounds i true = l' := by first | (simp only [zz]; done) | (simp only [zz]; rfl) | rfl) (ha : a.put oi.dst v = a' := by first | (simp only [zz]; done) | (simp only [zz]; rfl) | rfl) (h6 : YieldsIf P ops S oi v a := by exact Or.inl ⟨by rfl, by intro w' hSw; go_simp <;> rfl⟩) (h2 : Region.noSelect ops = true := by kernel_rfl) (h3 : Region.free md ops listed i = true := by kernel_rfl) (h4 : (Region.ready md ops listed).contains i = true := by kernel_rfl) (h5 : ∀ (c : List PanicEntry) (a : Act) (w : World), Q (Exit.panic c) (a.put oi.dst v) w → Q (Exit.panic c) a w := by exact fun _ _ _ h => h) : wpAnyH P md ops Q S (fuel + 1) listed a w := by
 subst hl;subst ha;exact wpAnyH_take h1 h2 h3 h4 h5 h6 h7 h8
theorem Bo {P : Program} {ops : Array Oper} {Q : Exit → Act → World → Prop} {md : Region.Mode} {S : World → Prop} (i : Nat) {v : Value} {oi : Oper} {fuel : Nat} {listed l' : Array Bool} {a a' : Act} {w : World} (h1 : ops[i]? = some oi) (h6 : YieldsIf P ops S oi v a) (h8 : wpAnyH P md ops Q S fuel l' a' w) (h7 : S w := by assumption) (hl : listed.setIfInBounds i true = l' := by first | (simp only [zz]; done) | (simp only [zz]; rfl) | rfl) (ha : a.put oi.dst v = a' := by first | (simp only [zz]; done) | (simp only [zz]; rfl) | rfl) (h2 : Region.noSelect ops = true := by kernel_rfl) (h3 : Region.free md ops listed i = true := by kernel_rfl) (h4 : (Region.ready md ops listed).contains i = true := by kernel_rfl) (h5 : ∀ (c : List PanicEntry) (a : Act) (w : World), Q (Exit.panic c) (a.put oi.dst v) w → Q (Exit.panic c) a w := by exact fun _ _ _ h => h) : wpAnyH P md ops Q S (fuel + 1) listed a w := by
 subst hl;subst ha;exact wpAnyH_take h1 h2 h3 h4 h5 h6 h7 h8
section
section
variable {P:Program} {ops:Array Oper} {Q:Exit→Act→World→Prop} {md:Region.Mode} {S:World→Prop} {oi:Oper} {v:Value} {fuel:Nat} {listed l':Array Bool} {a a':Act} {w:World}
theorem jg (i:Nat) (h8:wpAnyH P md ops Q S fuel l' a' w) (h1:ops[i]? =some oi:=by rfl) (h6:YieldsIf P ops S oi v a:=by first | exact Or.inr ⟨by rfl,by rfl⟩ | exact Or.inl ⟨by rfl,by (intro w' hSw;repeat (obtain ⟨hx,hSw⟩:=hSw));go_simp<;>rfl⟩) (h7:S w:=by assumption) (hl:listed.setIfInBounds i true=l':=by first | (simp only [zz];done) | (simp only [zz];rfl) | rfl) (ha:a.put oi.dst v=a':=by first | (simp only [zz];done) | (simp only [zz];rfl) | rfl)
  (h2:Region.noSelect ops=true:=by kernel_rfl) (h3:Region.free md ops listed i=true:=by kernel_rfl) (h4:(Region.ready md ops listed).contains i=true:=by kernel_rfl) (h5:∀ (c:List PanicEntry) (a:Act) (w:World),Q (Exit.panic c) (a.put oi.dst v) w→Q (Exit.panic c) a w:=by exact fun _ _ _ h=>h):wpAnyH P md ops Q S (fuel+1) listed a w:=by
 subst hl;subst ha;exact wpAnyH_take h1 h2 h3 h4 h5 h6 h7 h8
def qeX:List Bool→Nat→Option Nat
 | [],_=>none
 | false::_,n=>some n
 | true::t,n=>qeX t (n+1)
theorem jv {i:Nat} (h8:wpAnyH P md ops Q S fuel l' a' w) (h0:qeX listed.toList 0=some i:=by rfl) (h1:ops[i]? =some oi:=by rfl) (h6:YieldsIf P ops S oi v a:=by first | exact Or.inr ⟨by rfl,by rfl⟩ | exact Or.inl ⟨by rfl,by (intro w' hSw;repeat (obtain ⟨hx,hSw⟩:=hSw));go_simp<;>rfl⟩) (h7:S w:=by assumption) (hl:listed.setIfInBounds i true=l':=by first | (simp only [zz];done) | (simp only [zz];rfl) | rfl) (ha:a.put oi.dst v=a':=by first | (simp only [zz];done) | (simp only [zz];rfl) | rfl)
  (h2:Region.noSelect ops=true:=by kernel_rfl) (h3:Region.free md ops listed i=true:=by kernel_rfl) (h4:(Region.ready md ops listed).contains i=true:=by kernel_rfl) (h5:∀ (c:List PanicEntry) (a:Act) (w:World),Q (Exit.panic c) (a.put oi.dst v) w→Q (Exit.panic c) a w:=by exact fun _ _ _ h=>h):wpAnyH P md ops Q S (fuel+1) listed a w:=(fun _=>jg i h8 h1 h6 h7 hl ha h2 h3 h4 h5) h0
theorem qX {S':World→Prop} {K:Act→World→Prop} (hK:Shut (∀ a w,S' w→(S w→wpAnyH P md ops Q S fuel listed a w)→K a w)) (hs:S' w) (h:S w→wpAnyH P md ops Q S fuel l' a' w) (hl:listed=l':=by first | (simp only [zz];done) | (simp only [zz];rfl) | rfl) (ha:a=a':=by first | (simp only [zz];done) | (simp only [zz];rfl) | rfl):K a w:=by
 subst hl;subst ha;exact hK.out _ _ hs h
theorem wU {R:World→Prop} {id:Nat} (H:Hid (∀ u,R u→S u)) (D:R w.drew) (h:S w.drew→wpAnyH P .any ops Q S ops.size (Array.replicate ops.size false) a w.drew) (hm:P.follows .mixedOrders=true:=by kernel_rfl):(Code.region id ops true).wp P Q a w:=qaZ hm (H.out _ D) h
theorem xB (i:Nat) {ty:TypeId} {x:Operand} {b o:Nat} (cs:List Value) {d:TypeDesc} (hS:∀ w,S w→w.rangeAt b o cs) (hu:P.underlying ty=some d) (hi:(P.info? ty).map (·.size)=some cs.length) (h8:wpAnyH P md ops Q S fuel l' a' w) (h1:ops[i]? =some oi:=by rfl) (ho:oi.op=.load ty x:=by rfl) (hx:a.eval x=.pointer (some ⟨b,o,none⟩):=by rfl) (hw:Region.wanted oi (yielded ops a.tmps)=true:=by rfl) (h7:S w:=by assumption) (hl:listed.setIfInBounds i true=l':=by first | (simp only [zz];done) | (simp only [zz];rfl) | rfl) (ha:a.put oi.dst (.agg cs.toArray)=a':=by first | (simp only [zz];done) | (simp only [zz];rfl) | rfl)
  (hd:d.isRow=true:=by rfl) (h2:Region.noSelect ops=true:=by kernel_rfl) (h3:Region.free md ops listed i=true:=by kernel_rfl) (h4:(Region.ready md ops listed).contains i=true:=by kernel_rfl) (h5:∀ (c:List PanicEntry) (a:Act) (w:World),Q (Exit.panic c) (a.put oi.dst (.agg cs.toArray)) w→Q (Exit.panic c) a w:=by exact fun _ _ _ h=>h):wpAnyH P md ops Q S (fuel+1) listed a w:=by
 subst hl;subst ha;exact wpAnyH_take h1 h2 h3 h4 h5 (qfK hw ty x ho b o hx cs d hS hu hd hi) h7 h8
theorem jc (i:Nat) {o:Oper} (h:∀ K':Act→World→Prop,Shut (∀ a w,S w→(S w→wpAnyH P md ops Q S fuel (listed.setIfInBounds i true) a w)→K' a w)→if Region.wanted o (yielded ops a.tmps)=true then Oper.wp P o a w K' Q else K' (a.put o.dst undef) w) (hr:Region.ready md ops listed=[i]:=by kernel_rfl) (ho:ops[i]? =some o:=by rfl):wpAnyH P md ops Q S (fuel+1) listed a w:=qde hr (by simp) (qcE ho h qc9)
end
end
theorem jN {k:IntKind} {a b:Int} (h:a=b):Ending.returned (.int k a)=.returned (.int k b):=by rw [h]
theorem qm {a b:Bool} (h:a=b):Ending.returned (.bool a)=.returned (.bool b):=by rw [h]
def xH (w:World) (a:Option Addr) (ns:List Int):Prop:=
 ns≠[]→∃ b off,a=some ⟨b,off,none⟩∧∀ i,i<ns.length→w.cell? ⟨b,off+i,none⟩=some (.int .i64 (ns.getD i 0))
theorem block_lt {w:World} {b off:Nat} {v:Value} (h:w.cell? ⟨b,off,none⟩=some v):b<w.heap.size:=by
 simp only [World.cell?] at h;by_cases hb:b<w.heap.size
 ·exact hb
 ·simp [Array.getElem?_eq_none (Nat.le_of_not_lt hb)] at h
theorem qbi {w:World} {base e g n cap:Nat} {xs:List Value} (h:w.ownsRow base e 1 (.slice (some ⟨g,0,none⟩) n cap) n xs) (k:Nat) (hk:k<n):∃ u,w.cell? ⟨g,k,none⟩=some u:=by
 have h1:=h.1;have:=h.cellAt k (by omega);rw [qcG (by omega)] at this;exact ⟨_,this⟩
theorem grownBy_trans {a b c:World} {row:Option Nat} (h:a.grownBy b row) (k:b.grownBy c row):a.grownBy c row:=
 ⟨k.os.trans h.os,k.tape.trans h.tape,k.output.trans h.output,qcx h.size k.size,fun i hi hr=>(k.block i (qe2 hi h.size) hr).trans (h.block i hi hr)⟩
theorem zI (b off i:Nat):(⟨b,off,none⟩:Addr).add i=⟨b,off+i,none⟩:=by unfold Addr.add;split<;>simp_all
structure Within (lo hi:Nat) (w w':World):Prop where
 os:w'.os=w.os
 tape:w'.tape=w.tape
 output:w'.output=w.output
 size:w.heap.size≤w'.heap.size
 block:∀ k,k<w.heap.size→¬ (lo≤k∧k<hi)→w'.heap[k]? =w.heap[k]?
theorem Within.refl (lo hi:Nat) (w:World):Within lo hi w w:=⟨rfl,rfl,rfl,qcN _,fun _ _ _=>rfl⟩
theorem Within.trans {lo hi:Nat} {a b c:World} (h:Within lo hi a b) (k:Within lo hi b c):Within lo hi a c:=
 ⟨k.os.trans h.os,k.tape.trans h.tape,k.output.trans h.output,qcx h.size k.size,fun i hi hn=>(k.block i (qe2 hi h.size) hn).trans (h.block i hi hn)⟩
theorem Within.of_below {lo hi:Nat} {w w':World} (h:qa w w'):Within lo hi w w':=
 ⟨h.os,h.tape,h.output,h.size,fun k hk _=>h.block k hk⟩
theorem Within.jO {lo hi:Nat} {w w':World} {row:Option Nat} (h:w.grownBy w' row) (hr:∀ k,row=some k→lo≤k∧k<hi):Within lo hi w w':=
 ⟨h.os,h.tape,h.output,h.size,fun k hk hn=>h.block k hk (fun e=>hn (hr k e.symm))⟩
theorem Within.below {lo hi B:Nat} {w w':World} (h:Within lo hi w w') (hB:B≤lo) (hs:B≤w.heap.size):Below B w w':=
 ⟨h.os,h.tape,h.output,h.size,fun k hk=>h.block k (by omega) (by omega)⟩
theorem xk {w w':World} {base:Nat} {e:TypeId} {size n:Nat} {v:Value} {xs:List Value} (h:w.ownsRow base e size v n xs) (hb:∀ k,v.ownBlock=some k→w'.heap[k]? =w.heap[k]?):w'.ownsRow base e size v n xs:=by
 refine ⟨h.1,?_⟩;rcases h.2 with h0 | ⟨g,cap,cur,hv,hg,hgg,hr⟩
 ·exact .inl h0
 ·refine .inr ⟨g,cap,cur,hv,hg,?_,hr⟩;rw [hb g (by rw [hv];rfl)];exact hgg
theorem xM {w:World} {base base':Nat} {e:TypeId} {size n:Nat} {v:Value} {xs:List Value} (h:w.ownsRow base e size v n xs) (hb:∀ k,v.ownBlock=some k→base'≤k):w.ownsRow base' e size v n xs:=by
 refine ⟨h.1,?_⟩;rcases h.2 with h0 | ⟨g,cap,cur,hv,hg,hgg,hr⟩
 ·exact .inl h0
 ·exact .inr ⟨g,cap,cur,hv,hb g (by rw [hv];rfl),hgg,hr⟩
theorem Tryz.NH:(prog.info? 3).map (fun i=>(i.zero,i.size,i.bytes))=some (some (.int .i64 0),1,8):=by kernel_rfl
def kD (w:World) (lo hi:Nat) (a:Option Addr) (c:Nat) (ns:List Int):Prop:=
 w.ownsRow lo 3 1 (.slice a ns.length c) ns.length (ns.map (Value.int .i64))∧hi≤w.heap.size∧∀ k,(Value.slice a ns.length c).ownBlock=some k→k<hi
theorem kD.lt {w:World} {lo hi:Nat} {a:Option Addr} {c:Nat} {ns:List Int} (h:kD w lo hi a c ns):∀ k,(Value.slice a ns.length c).ownBlock=some k→lo≤k∧k<hi:=fun k hk=>⟨(h.1.lt k hk).1,h.2.2 k hk⟩
theorem kD.within {w w':World} {lo hi l r:Nat} {a:Option Addr} {c:Nat} {ns:List Int} (h:kD w lo hi a c ns) (hw:Within l r w w') (hd:hi≤l∨r≤lo):kD w' lo hi a c ns:=
 ⟨xk h.1 (fun k hk=>hw.block k (by have:=h.2.2 k hk;have:=h.2.1;omega) (by have:=h.lt k hk;omega)),qcx h.2.1 hw.size,h.2.2⟩
theorem kD.below {w w':World} {lo hi:Nat} {a:Option Addr} {c:Nat} {ns:List Int} (h:kD w lo hi a c ns) (hb:qa w w'):kD w' lo hi a c ns:=
 h.within (Within.of_below (lo:=w.heap.size) (hi:=w.heap.size) hb) (.inl h.2.1)
theorem kD.widen {w:World} {lo hi lo' hi':Nat} {a:Option Addr} {c:Nat} {ns:List Int} (h:kD w lo hi a c ns) (h1:lo'≤lo) (h2:hi≤hi') (h3:hi'≤w.heap.size):kD w lo' hi' a c ns:=
 ⟨xM h.1 (fun k hk=>by have:=h.lt k hk;omega),h3,fun k hk=>by have:=h.lt k hk;omega⟩
theorem kD.reads {w:World} {lo hi:Nat} {a:Option Addr} {c:Nat} {ns:List Int} (h:kD w lo hi a c ns):xH w a ns:=by
 intro hne;rcases h.1.2 with ⟨_,h0⟩ | ⟨g,cap',cur,hv,hb,hg,hr⟩
 ·exact absurd (qcI.1 h0) hne
 ·simp only [qcK] at hv;obtain ⟨rfl,_,rfl⟩:=hv;refine ⟨g,0,rfl,fun i hi=>?_⟩;have:=h.1.cellAt i (by omega);rw [qeK,this];simp [List.getD,hi]
theorem kD.Y9 {w:World} {lo hi:Nat} {a:Option Addr} {c:Nat} {ns:List Int} (h:kD w lo hi a c ns):a=none→c=0:=by
 intro ha;rcases h.1.2 with ⟨hv,_⟩ | ⟨g,cap,cur,hv,_⟩
 ·simp only [qcK] at hv;exact hv.2.2
 ·simp [ha] at hv
theorem J3 (w:World) (lo hi:Nat) (h:hi≤w.heap.size):kD w lo hi none 0 []:=⟨⟨by simp,.inl ⟨rfl,rfl⟩⟩,h,fun k hk=>by cases hk⟩
theorem IK (w:World):kD (w.alloc (.cells #[] 3)) w.heap.size (w.heap.size+1) (some ⟨w.heap.size,0,none⟩) 0 []:=
 ⟨World.ownsRow_lit w #[] 0 qg (by simp [maxLen]) rfl,by simp,fun k hk=>by cases hk;simp⟩
theorem xH.cases {w:World} {a:Option Addr} {ns:List Int} (h:xH w a ns):
  ns=[]∨∃ b off,a=some ⟨b,off,none⟩∧0<ns.length∧(∀ i,i<ns.length→w.cell? ⟨b,off+i,none⟩=some (.int .i64 (ns.getD i 0))):=by
 by_cases e:ns=[]
 ·exact .inl e
 ·obtain ⟨b,off,ha,hc⟩:=h e;exact .inr ⟨b,off,ha,qe9.2 e,hc⟩
theorem xH.below {w w':World} {a:Option Addr} {ns:List Int} (h:xH w a ns) (hb:qa w w'):xH w' a ns:=by
 intro hne;obtain ⟨b,off,ha,hc⟩:=h hne;refine ⟨b,off,ha,fun i hi=>?_⟩;rw [hb.cell (p:=⟨b,off+i,none⟩) (block_lt (hc i hi))];exact hc i hi
theorem xH.nil (w:World) (a:Option Addr):xH w a []:=fun h=>absurd rfl h
def Js (zs:List Int) (k:Nat):List Int:=zs.take k++List.replicate (zs.length-k) 0
theorem IL (zs:List Int) (k:Nat) (h:k≤zs.length):(Js zs k).length=zs.length:=by simp [Js];omega
theorem IM (zs:List Int):Js zs zs.length=zs:=by simp [Js]
theorem iR (zs:List Int):Js zs 0=List.replicate zs.length 0:=by simp [Js]
theorem IP (zs:List Int) (k:Nat) (h:k<zs.length):(Js zs k).set k (zs.getD k 0)=Js zs (k+1):=by
 unfold Js;rw [qgo,qa2 (by simp;omega),qdb h];have e:zs.length-k=(zs.length-(k+1))+1:=by omega
 have e2:k-(List.take k zs).length=0:=by simp;omega
 rw [e2,e,qfl,qdL];simp only [List.getD,h,qcG,qe7,qcJ,qdr]
theorem fE (zs:List Int) (k:Nat) (h:k<zs.length):((Js zs k).map (Value.int .i64)).set k (.int .i64 (zs.getD k 0))=(Js zs (k+1)).map (Value.int .i64):=by
 rw [← IP zs k h,qeW]
theorem iT (a:Option Addr) (cap:Nat) (zs:List Int) (w:World) (hr:xH w a zs) (hl:zs.length≤1099511627776):
  Calls prog 76 #[.slice a zs.length cap] w fun e w'=>e=.returned (.slice (some ⟨w.heap.size,0,none⟩) zs.length zs.length)∧
   w'.ownsRow w.heap.size 3 1 (.slice (some ⟨w.heap.size,0,none⟩) zs.length zs.length) zs.length (zs.map (Value.int .i64))∧qa w w':=by
 obtain ⟨i0,hi,hz0,hz1,hz2⟩:=qft Tryz.NH;rcases hr.cases with rfl | ⟨b,off,rfl,hpos,hcell⟩
 ·go_enter func76,ntmps76;go_wp2_with (at_make;refine qe6 _ rfl _ _ 22 rfl w.heap.size 3 i0 (.int .i64 0) 1 underlying22 hi hz0 hz1 _ _ _ _ 0 rfl rfl (by simp) (by simp) (by omega) (by simp [maxLen]) qg ?_);intro w0 hown0 xy;go_wp2;refine qdp 1 ?_;rw [qdC];go_wp2;go_ret;exact ⟨rfl,by simpa [toList_madeCells_one] using hown0,(qab _ _).grown xy qg (fun k h=>by cases h)⟩
 ·have KZ:b<w.heap.size:=by
   have:=hcell 0 hpos;simp only [World.cell?] at this;by_cases hb:b<w.heap.size
   ·exact hb
   ·simp [Array.getElem?_eq_none (Nat.le_of_not_lt hb)] at this
  go_enter func76,ntmps76;go_wp2_with (at_make;refine qe6 _ rfl _ _ 22 rfl w.heap.size 3 i0 (.int .i64 0) 1 underlying22 hi hz0 hz1 _ _ _ _ zs.length rfl rfl rfl rfl (by rw [hz2];omega) (by simp [maxLen];omega) qg ?_);intro w0 hown0 xy;have hown1:w0.ownsRow w.heap.size 3 1 (.slice (some ⟨w.heap.size,0,none⟩) zs.length zs.length) zs.length ((Js zs 0).map (Value.int .i64)):=by
   rw [iR,List.map_replicate]
   simpa [Value.cells,toList_madeCells_one] using hown0
  have hb0:qa w w0:=(qab _ _).grown xy qg (fun k h=>by cases h);clear hown0 xy;go_wp2;go_loopw [4] (fun i wr=>∃ k:Nat,k≤zs.length∧i=.int .i64 k∧wr.ownsRow w.heap.size 3 1 (.slice (some ⟨w.heap.size,0,none⟩) zs.length zs.length) zs.length ((Js zs k).map (Value.int .i64))∧qa w wr)
   (fun i _=>zs.length-(RowKit.intOf i).toNat)
  case atStart=>exact ⟨0,qaw _,rfl,hown1,hb0⟩
  case round=>
   obtain ⟨k,hk,rfl,hown,hnx⟩:=hrel;by_cases hlt:k<zs.length
   ·have hc:wr.cell? ⟨b,off+k,none⟩=some (.int .i64 (zs.getD k 0)):=(hnx.cell (by exact KZ)).trans (hcell k hlt);have hfz:=hown.frozenAt k;have hct:=hown.cellAt k (by omega);have hp:=IL zs k hk;have HS:=hown.stored k (.int .i64 (zs.getD k 0));rw [fE zs k hlt] at HS;have HN:qa w (wr.setCell ⟨w.heap.size,k,none⟩ (.int .i64 (zs.getD k 0))):=hnx.setCell qg _;have kJ:Hid (_∧_):=⟨HS.1,HN⟩;clear HS HN hown hcell hnx hown1 hb0;generalize zs.getD k 0=z at*
    go_wp2;go_roundw
    case rel=>exact ⟨k+1,by omega,by go_num,kJ.out.1,kJ.out.2⟩
    case measure=>simp [RowKit.intOf];omega
   ·have HE:Hid (wr.ownsRow w.heap.size 3 1 (.slice (some ⟨w.heap.size,0,none⟩) zs.length zs.length) zs.length (zs.map (Value.int .i64))):=by
     have e:k=zs.length:=by omega
     rw [e,IM] at hown;exact hown
    go_wp2;go_ret;exact ⟨rfl,HE.out,hnx⟩
theorem Hq (a:Option Addr) (cap:Nat) (zs:List Int) (w:World) (hr:xH w a zs) (hl:zs.length≤1099511627776):
  Calls prog 76 #[.slice a zs.length cap] w fun e w'=>∃ a' c',e=.returned (.slice a' zs.length c')∧kD w' w.heap.size w'.heap.size a' c' zs∧qa w w':=by
 refine (iT a cap zs w hr hl).mono ?_;rintro e w' ⟨rfl,ho,hb⟩;exact ⟨_,_,rfl,⟨ho,qcN _,fun k hk=>(ho.lt k hk).2⟩,hb⟩
def Box (w:World) (B:Nat) (vs:List Value) (t:TypeId):Prop:=w.heap[B]? =some (.cells vs.toArray t (0,0))
theorem Box.lt {w:World} {B:Nat} {vs:List Value} {t:TypeId} (h:Box w B vs t):B<w.heap.size:=(qc0.1 h).1
theorem Box.cell {w:World} {B:Nat} {vs:List Value} {t:TypeId} (h:Box w B vs t) (i:Nat) (v:Value) (hv:vs[i]? =some v):w.cell? ⟨B,i,none⟩=some v:=by
 unfold Box at h;simp [World.cell?,h,hv]
theorem Box.frozen {w:World} {B:Nat} {vs:List Value} {t:TypeId} (h:Box w B vs t) (i:Nat):w.frozen? ⟨B,i,none⟩=false:=by
 unfold Box at h;simp [World.frozen?,h]
theorem Box.set {w:World} {B:Nat} {vs:List Value} {t:TypeId} (h:Box w B vs t) (i:Nat) (v:Value):Box (w.setCell ⟨B,i,none⟩ v) B (vs.set i v) t:=by
 unfold Box at h ⊢;rw [heap_setCell_same w B i _ t v h];simp
theorem Box.block {w w':World} {B:Nat} {vs:List Value} {t:TypeId} (h:Box w B vs t) (hb:w'.heap[B]? =w.heap[B]?):Box w' B vs t:=by unfold Box at h ⊢;rw [hb];exact h
theorem Box.below {w w':World} {B n:Nat} {vs:List Value} {t:TypeId} (h:Box w B vs t) (hb:Below n w w') (hn:B<n):Box w' B vs t:=h.block (hb.block B hn)
theorem Box.within {w w':World} {B l r:Nat} {vs:List Value} {t:TypeId} (h:Box w B vs t) (hb:Within l r w w') (hn:¬ (l≤B∧B<r)):Box w' B vs t:=h.block (hb.block B h.lt hn)
theorem Box.alloc {w:World} {B:Nat} {vs:List Value} {t:TypeId} (h:Box w B vs t) (o:Obj):Box (w.alloc o) B vs t:=h.block (Below.heap_alloc w o B h.lt)
theorem Box.other {w:World} {B C i:Nat} {v:Value} {vs:List Value} {t:TypeId} (h:Box w B vs t) (hne:B≠C):Box (w.setCell ⟨C,i,none⟩ v) B vs t:=h.block (heap_setCell_other w ⟨C,i,none⟩ B v hne)
theorem wF (w:World) (vs:List Value) (t:TypeId):Box (w.alloc (.cells vs.toArray t)) w.heap.size vs t:=by unfold Box;rw [heap_alloc_new]
theorem Box.drewN {w:World} {B:Nat} {vs:List Value} {t:TypeId} (h:Box w B vs t) (n:Nat):Box (w.drewN n) B vs t:=h.block (by rfl)
theorem qB (w:World) (v0:List Value) (t0:TypeId):∃ W,Hid (w.alloc (.cells v0.toArray t0)=W)∧Box W w.heap.size v0 t0∧qa w W∧W.heap.size=w.heap.size+1:=
 ⟨_,rfl,wF w _ _,(qab _ _).alloc qg _,by simp⟩
theorem jK (w:World) (v0 v1:List Value) (t0 t1:TypeId):∃ W,Hid ((w.alloc (.cells v0.toArray t0)).alloc (.cells v1.toArray t1)=W)∧Box W w.heap.size v0 t0∧Box W (w.heap.size+1) v1 t1∧qa w W∧W.heap.size=w.heap.size+2:=by
 refine ⟨_,rfl,(wF w _ _).alloc _,?_,((qab _ _).alloc qg _).alloc (by simp) _,by simp⟩;have:=wF (w.alloc (.cells v0.toArray t0)) v1 t1
 simpa using this
theorem yK (w:World) (v0 v1 v2:List Value) (t0 t1 t2:TypeId):∃ W,Hid (((w.alloc (.cells v0.toArray t0)).alloc (.cells v1.toArray t1)).alloc (.cells v2.toArray t2)=W)∧Box W w.heap.size v0 t0∧Box W (w.heap.size+1) v1 t1∧Box W (w.heap.size+1+1) v2 t2∧qa w W∧W.heap.size=w.heap.size+3:=by
 refine ⟨_,rfl,((wF w _ _).alloc _).alloc _,?_,?_,(((qab _ _).alloc qg _).alloc (by simp) _).alloc (by simp;omega) _,by simp⟩
 ·have:=(wF (w.alloc (.cells v0.toArray t0)) v1 t1).alloc (.cells v2.toArray t2)
  simpa using this
 ·have:=wF ((w.alloc (.cells v0.toArray t0)).alloc (.cells v1.toArray t1)) v2 t2
  simpa using this
theorem jZ {w:World} {B:Nat} {vs:List Value} {t:TypeId} (h:Box w B vs t) (i:Nat) (v:Value):∃ W,Hid (w.setCell ⟨B,i,none⟩ v=W)∧Box W B (vs.set i v) t∧Within B (B+1) w W∧W.heap.size=w.heap.size:=
 ⟨_,rfl,h.set i v,⟨rfl,rfl,rfl,by simp,fun k _ hn=>heap_setCell_other w ⟨B,i,none⟩ k v (fun e=>hn (by simp at e;omega))⟩,by simp⟩
theorem jL (w:World) (B i:Nat) (v:Value) {lo hi:Nat} (h:lo≤B∧B<hi):Within lo hi w (w.setCell ⟨B,i,none⟩ v):=
 ⟨rfl,rfl,rfl,by simp,fun k _ hn=>heap_setCell_other w ⟨B,i,none⟩ k v (fun e=>hn (by simp at e;omega))⟩
structure yo where
 kind:Int
 ints:List Int
 refs:List Int
structure jd (w:World) (aI:Option Addr) (cI:Nat) (aR:Option Addr) (cR:Nat) (o:yo):Prop where
 ints:xH w aI o.ints
 refs:xH w aR o.refs
 ni:aI=none→cI=0
 nr:aR=none→cR=0
structure OwnO (w:World) (lo hi:Nat) (aI:Option Addr) (cI:Nat) (aR:Option Addr) (cR:Nat) (o:yo):Prop where
 ints:kD w lo hi aI cI o.ints
 refs:kD w lo hi aR cR o.refs
 apart:∀ k,(Value.slice aI o.ints.length cI).ownBlock=some k→(Value.slice aR o.refs.length cR).ownBlock≠some k
theorem jd.below {w w':World} {aI:Option Addr} {cI:Nat} {aR:Option Addr} {cR:Nat} {o:yo} (h:jd w aI cI aR cR o) (hb:qa w w'):jd w' aI cI aR cR o:=⟨h.ints.below hb,h.refs.below hb,h.ni,h.nr⟩
theorem jd.drew {w:World} {aI:Option Addr} {cI:Nat} {aR:Option Addr} {cR:Nat} {o:yo} (h:jd w aI cI aR cR o):jd w.drew aI cI aR cR o:=h.below (qab _ _).drew
theorem OwnO.reads {w:World} {lo hi:Nat} {aI:Option Addr} {cI:Nat} {aR:Option Addr} {cR:Nat} {o:yo} (h:OwnO w lo hi aI cI aR cR o):jd w aI cI aR cR o:=⟨h.ints.reads,h.refs.reads,h.ints.Y9,h.refs.Y9⟩
theorem OwnO.within {w w':World} {lo hi l r:Nat} {aI:Option Addr} {cI:Nat} {aR:Option Addr} {cR:Nat} {o:yo} (h:OwnO w lo hi aI cI aR cR o) (hw:Within l r w w') (hd:hi≤l∨r≤lo):OwnO w' lo hi aI cI aR cR o:=⟨h.ints.within hw hd,h.refs.within hw hd,h.apart⟩
theorem OwnO.below {w w':World} {lo hi:Nat} {aI:Option Addr} {cI:Nat} {aR:Option Addr} {cR:Nat} {o:yo} (h:OwnO w lo hi aI cI aR cR o) (hb:qa w w'):OwnO w' lo hi aI cI aR cR o:=⟨h.ints.below hb,h.refs.below hb,h.apart⟩
theorem OwnO.widen {w:World} {lo hi lo' hi':Nat} {aI:Option Addr} {cI:Nat} {aR:Option Addr} {cR:Nat} {o:yo} (h:OwnO w lo hi aI cI aR cR o) (h1:lo'≤lo) (h2:hi≤hi') (h3:hi'≤w.heap.size):OwnO w lo' hi' aI cI aR cR o:=⟨h.ints.widen h1 h2 h3,h.refs.widen h1 h2 h3,h.apart⟩
theorem kD.kept {w w':World} {lo hi:Nat} {a:Option Addr} {c:Nat} {ns:List Int} {row:Option Nat} (h:kD w lo hi a c ns) (hg:w.grownBy w' row) (hne:∀ k,(Value.slice a ns.length c).ownBlock=some k→row≠some k):kD w' lo hi a c ns:=
 ⟨xk h.1 (fun k hk=>hg.block k (h.1.lt k hk).2 (fun e=>hne k hk e.symm)),qcx h.2.1 hg.size,h.2.2⟩
theorem IQ (o:yo) (aI:Option Addr) (cI:Nat) (aR:Option Addr) (cR:Nat) (w:World) (hr:jd w aI cI aR cR o) (KR:o.ints.length≤1099511627776) (J8:o.refs.length≤1099511627776):
  Calls prog 33 #[.agg #[.int .i64 o.kind,.slice aI o.ints.length cI,.slice aR o.refs.length cR]] w fun e w'=>∃ EL EM EN cR',e=.returned (.agg #[.int .i64 o.kind,.slice EL o.ints.length EM,.slice EN o.refs.length cR'])∧
   OwnO w' w.heap.size w'.heap.size EL EM EN cR' o∧qa w w':=by
 obtain ⟨k,ints,refs⟩:=o;obtain ⟨hI,hR,_,_⟩:=hr;simp only at*
 go_enter func33,ntmps33;go_wp2_with fail;obtain ⟨W,hW,b0,b1,b2,hbW,qD⟩:=yK w [.int .i64 k,.slice aI ints.length cI,.slice aR refs.length cR] [.int .i64 0,.slice none 0 0,.slice none 0 0] [.int .i64 k,.slice none 0 0,.slice none 0 0] 24 43 43;rw [hW.out];clear hW;refine (Hq aI cI ints W (hI.below hbW) KR).mono ?_;rintro e w1 ⟨a1,c1,rfl,ho1,hb1⟩;have b0':=b0.below hb1 b0.lt;have b1':=b1.below hb1 b1.lt;have b2':=b2.below hb1 b2.lt;have h02:=b0'.cell 2 _ rfl;have h21:=b2'.cell 1 _ rfl;have f21:=b2'.frozen 1;go_wp2_with fail;obtain ⟨W2,hW2,b2s,hw2,hs2⟩:=jZ b2' 1 (.slice a1 ints.length c1);rw [hW2.out];clear hW2;have IU:qa w W2:=(hbW.trans (hb1.mono (by omega))).trans (hw2.below (by omega) (by have:=hb1.size;omega));have Wh:kD W2 W.heap.size w1.heap.size a1 c1 ints:=ho1.within hw2 (.inr (by omega));refine (Hq aR cR refs W2 (hR.below IU) J8).mono ?_;rintro e w3 ⟨a3,c3,rfl,ho3,hb3⟩;have qlH:=Wh.below hb3;have vS:=b2s.below hb3 b2s.lt;have b13:=(b1'.within hw2 (by omega)).below hb3 (by have:=(b1'.within hw2 (by omega)).lt;exact this);simp only [List.set] at vS;have g22:=vS.cell 2 _ rfl;have e22:=vS.frozen 2;have bS:=vS.set 2 (.slice a3 refs.length c3);have bT:=b13.other (C:=w.heap.size+1+1) (i:=2) (v:=.slice a3 refs.length c3) (by omega);simp only [List.set] at bS;have s0:=bS.cell 0 _ rfl;have s1:=bS.cell 1 _ rfl;have s2:=bS.cell 2 _ rfl;have t0:=bT.cell 0 _ rfl;have t1:=bT.cell 1 _ rfl;have t2:=bT.cell 2 _ rfl;have u0:=bT.frozen 0;have u1:=bT.frozen 1;have u2:=bT.frozen 2;have bF:=((bT.set 0 (.int .i64 k)).set 1 (.slice a1 ints.length c1)).set 2 (.slice a3 refs.length c3);simp only [List.set] at bF;have hwF:Within (w.heap.size+1) (w.heap.size+3) w3 _:=(((jL w3 (w.heap.size+1+1) 2 (.slice a3 refs.length c3) (by omega)).trans (jL _ (w.heap.size+1) 0 (.int .i64 k) (by omega))).trans (jL _ (w.heap.size+1) 1 (.slice a1 ints.length c1) (by omega))).trans (jL _ (w.heap.size+1) 2 (.slice a3 refs.length c3) (by omega));have HF:Hid (_∧_∧_∧_):=⟨bF.cell 0 _ rfl,bF.cell 1 _ rfl,bF.cell 2 _ rfl,hwF⟩;clear bF hwF;go_wp2;obtain ⟨f0,f1,f2,hwF⟩:=HF.out;generalize (((w3.setCell ⟨w.heap.size+1+1,2,none⟩ (.slice a3 refs.length c3)).setCell ⟨w.heap.size+1,0,none⟩ (.int .i64 k)).setCell ⟨w.heap.size+1,1,none⟩ (.slice a1 ints.length c1)).setCell ⟨w.heap.size+1,2,none⟩ (.slice a3 refs.length c3)=WF at*
 have hs3:=hb3.size;have hs1:=hb1.size;have q8:=hwF.size;refine qa3 (v:=.agg #[.int .i64 k,.slice a1 ints.length c1,.slice a3 refs.length c3]) (by simp [results,results33,go_sem,f0,f1,f2]) rfl ⟨a1,c1,a3,c3,rfl,⟨(qlH.within hwF (.inr (by omega))).widen (by omega) (by omega) qg,(ho3.within hwF (.inr (by omega))).widen (by omega) (by omega) qg,fun j hj hj'=>by have:=(ho1.lt j hj).2;have:=(ho3.lt j hj').1;omega⟩,(IU.trans (hb3.mono (by omega))).trans (hwF.below (by omega) (by omega))⟩
theorem Box.three {w:World} {B:Nat} {x0 x1 x2:Value} {t:TypeId} (b:Box w B [x0,x1,x2] t):
  w.cell? ⟨B,0,none⟩=some x0∧w.cell? ⟨B,1,none⟩=some x1∧w.cell? ⟨B,2,none⟩=some x2∧w.frozen? ⟨B,0,none⟩=false∧w.frozen? ⟨B,1,none⟩=false∧w.frozen? ⟨B,2,none⟩=false:=
 ⟨b.cell 0 _ rfl,b.cell 1 _ rfl,b.cell 2 _ rfl,b.frozen 0,b.frozen 1,b.frozen 2⟩
theorem EO {w:World} {B:Nat} {x0 x1 x2:Value} {t:TypeId} (b:Box w B [x0,x1,x2] t) (v0 v1 v2:Value):
  ∃ W,Hid (((w.setCell ⟨B,0,none⟩ v0).setCell ⟨B,1,none⟩ v1).setCell ⟨B,2,none⟩ v2=W)∧Box W B [v0,v1,v2] t∧Within B (B+1) w W∧W.heap.size=w.heap.size:=by
 refine ⟨_,rfl,?_,?_,?_⟩
 ·have:=((b.set 0 v0).set 1 v1).set 2 v2
  simpa only [List.set] using this
 ·exact ((jL w B 0 v0 (by omega)).trans (jL _ B 1 v1 (by omega))).trans (jL _ B 2 v2 (by omega))
 ·simp
structure qO where
 has:Bool
 o:yo
structure qj where
 v:qO
 aI:Option Addr
 cI:Nat
 aR:Option Addr
 cR:Nat
def qj.cells (s:qj):List Value:=[.bool s.v.has,.int .i64 s.v.o.kind,.slice s.aI s.v.o.ints.length s.cI,.slice s.aR s.v.o.refs.length s.cR]
def qj.reads (w:World) (s:qj):Prop:=jd w s.aI s.cI s.aR s.cR s.v.o
def qj.own (w:World) (lo hi:Nat) (s:qj):Prop:=OwnO w lo hi s.aI s.cI s.aR s.cR s.v.o
theorem Box.four {w:World} {B:Nat} {x0 x1 x2 x3:Value} {t:TypeId} (b:Box w B [x0,x1,x2,x3] t):
  w.cell? ⟨B,0,none⟩=some x0∧w.cell? ⟨B,1,none⟩=some x1∧w.cell? ⟨B,2,none⟩=some x2∧w.cell? ⟨B,3,none⟩=some x3∧w.frozen? ⟨B,0,none⟩=false∧w.frozen? ⟨B,1,none⟩=false∧w.frozen? ⟨B,2,none⟩=false∧w.frozen? ⟨B,3,none⟩=false:=
 ⟨b.cell 0 _ rfl,b.cell 1 _ rfl,b.cell 2 _ rfl,b.cell 3 _ rfl,b.frozen 0,b.frozen 1,b.frozen 2,b.frozen 3⟩
theorem iU {w:World} {B:Nat} {x0 x1 x2 x3:Value} {t:TypeId} (b:Box w B [x0,x1,x2,x3] t) (v1 v2 v3:Value):
  ∃ W,Hid (((w.setCell ⟨B,1,none⟩ v1).setCell ⟨B,2,none⟩ v2).setCell ⟨B,3,none⟩ v3=W)∧Box W B [x0,v1,v2,v3] t∧Within B (B+1) w W∧W.heap.size=w.heap.size:=by
 refine ⟨_,rfl,?_,?_,?_⟩
 ·have:=((b.set 1 v1).set 2 v2).set 3 v3
  simpa only [List.set] using this
 ·exact ((jL w B 1 v1 (by omega)).trans (jL _ B 2 v2 (by omega))).trans (jL _ B 3 v3 (by omega))
 ·simp
theorem Y5 {w:World} {B:Nat} {x0 x1 x2 x3:Value} {t:TypeId} (b:Box w B [x0,x1,x2,x3] t) (v0 v1 v2 v3:Value):
  ∃ W,Hid ((((w.setCell ⟨B,0,none⟩ v0).setCell ⟨B,1,none⟩ v1).setCell ⟨B,2,none⟩ v2).setCell ⟨B,3,none⟩ v3=W)∧Box W B [v0,v1,v2,v3] t∧Within B (B+1) w W∧W.heap.size=w.heap.size:=by
 refine ⟨_,rfl,?_,?_,?_⟩
 ·have:=(((b.set 0 v0).set 1 v1).set 2 v2).set 3 v3
  simpa only [List.set] using this
 ·exact (((jL w B 0 v0 (by omega)).trans (jL _ B 1 v1 (by omega))).trans (jL _ B 2 v2 (by omega))).trans (jL _ B 3 v3 (by omega))
 ·simp
theorem wm (s:qj) (w:World) (hr:s.reads w) (KR:s.v.o.ints.length≤1099511627776) (J8:s.v.o.refs.length≤1099511627776):
  Calls prog 8 #[.agg s.cells.toArray] w fun e w'=>∃ t:qj,e=.returned (.agg t.cells.toArray)∧Hid (t.v=s.v)∧t.own w' w.heap.size w'.heap.size∧qa w w':=by
 obtain ⟨⟨h,⟨k,ints,refs⟩⟩,aI,cI,aR,cR⟩:=s;simp only [qj.cells,qj.reads,qj.own] at*
 obtain ⟨W,hW,b0,b1,b2,hbW,qD⟩:=yK w [.bool h,.int .i64 k,.slice aI ints.length cI,.slice aR refs.length cR] [.bool false,.int .i64 0,.slice none 0 0,.slice none 0 0] [.bool h,.int .i64 0,.slice none 0 0,.slice none 0 0] 26 45 45;go_enter func8,ntmps8;go_wp2_with fail;rw [hW.out];clear hW;have hs0:w.heap.size+1+1<W.heap.size:=by omega
 clear qD;refine (IQ ⟨k,ints,refs⟩ aI cI aR cR W (hr.below hbW) KR J8).mono ?_;rintro e w1 ⟨pI,dI,pR,dR,rfl,ho1,hb1⟩;simp only at*
 have hs1:=hb1.size;have b11:=b1.below hb1 b1.lt;have wP:=b2.below hb1 b2.lt;obtain ⟨x0,x1,x2,x3,f0,f1,f2,f3⟩:=wP.four;obtain ⟨y0,y1,y2,y3,g0,g1,g2,g3⟩:=b11.four;obtain ⟨W2,hW2,JG,hw2,hs2⟩:=iU wP (.int .i64 k) (.slice pI ints.length dI) (.slice pR refs.length dR);have b12:Box W2 (w.heap.size+1) _ _:=b11.within hw2 (by omega);obtain ⟨WF,qK,bF,hwF,q8⟩:=Y5 b12 (.bool h) (.int .i64 k) (.slice pI ints.length dI) (.slice pR refs.length dR);have zN:qa w WF:=((hbW.trans (hb1.mono (by omega))).trans (hw2.below (by omega) (by omega))).trans (hwF.below (by omega) (by omega));have wh:OwnO WF w.heap.size WF.heap.size pI dI pR dR ⟨k,ints,refs⟩:=((ho1.within hw2 (.inr (by omega))).within hwF (.inr (by omega))).widen (by omega) (by omega) qg;clear hs2 q8 hw2 hwF hbW hb1;go_wp2;rw [hW2.out,qK.out];obtain ⟨q0,q1,q2,q3,_⟩:=bF.four;exact qa3 (v:=.agg #[.bool h,.int .i64 k,.slice pI ints.length dI,.slice pR refs.length dR]) (by simp [results,results8,go_sem,q0,q1,q2,q3]) rfl ⟨⟨⟨h,⟨k,ints,refs⟩⟩,pI,dI,pR,dR⟩,rfl,rfl,wh,zN⟩
theorem jQ {P:Program} {fn:Func} {s:Nat} {ty:TypeId} {tmps:Array Value} {w:World} {v:Value} {ad:Addr} (hf:fn.results=#[.cell s ty]) (ht:tmps[s]?.getD undef=.pointer (some ad)) (hl:(loadVar ty ad).run P w=.ok v w):(results fn tmps).run P w=.ok v w:=by
 unfold results;rw [hf];simp [ht,asAddr,hl]
def cellsS (ss:List qj):List Value:=ss.flatMap qj.cells
def qw:qj:=⟨⟨false,⟨0,[],[]⟩⟩,none,0,none,0⟩
theorem yc (s:qj):s.cells.length=4:=rfl
theorem jW (ss:List qj):(cellsS ss).length=ss.length*4:=by
 induction ss with
 | nil=>rfl
 | cons s r ih=>simp only [cellsS,qaY,qai,yc,qcS] at *;omega
theorem Jc (ss:List qj) (k j:Nat) (hk:k<ss.length) (hj:j<4):(cellsS ss)[k*4+j]? =(ss.getD k qw).cells[j]? :=by
 induction ss generalizing k with
 | nil=>simp at hk
 | cons s r ih=>
  have e:cellsS (s::r)=s.cells++cellsS r:=by simp [cellsS]
  rw [e];cases k with
  | zero=>rw [qdx (by rw [yc];omega)];simp
  | succ k=>
   rw [qcQ (by rw [yc];omega),yc];have:=ih k (by simpa using hk);rw [show (k+1)*4+j-4=k*4+j by omega,this];simp
theorem GD (ss:List qj) (k:Nat) (hk:k<ss.length) (t:qj):
  ((((cellsS ss).set (k*4) (.bool t.v.has)).set (k*4+1) (.int .i64 t.v.o.kind)).set (k*4+2) (.slice t.aI t.v.o.ints.length t.cI)).set (k*4+3) (.slice t.aR t.v.o.refs.length t.cR)=cellsS (ss.set k t):=by
 induction ss generalizing k with
 | nil=>simp at hk
 | cons s r ih=>
  cases k with
  | zero=>
   simp [cellsS,qj.cells]
  | succ k=>
   have:=ih k (by simpa using hk);simp only [qe3];have e:cellsS (s::r)=[.bool s.v.has,.int .i64 s.v.o.kind,.slice s.aI s.v.o.ints.length s.cI,.slice s.aR s.v.o.refs.length s.cR]++cellsS r:=by simp [cellsS,qj.cells]
   have e2:cellsS (s::r.set k t)=[.bool s.v.has,.int .i64 s.v.o.kind,.slice s.aI s.v.o.ints.length s.cI,.slice s.aR s.v.o.refs.length s.cR]++cellsS (r.set k t):=by simp [cellsS,qj.cells]
   rw [e,e2,← this];rw [show (k+1)*4=k*4+4 by omega];simp [List.set]
theorem Box.slot {w:World} {B:Nat} {ss:List qj} {t:TypeId} (b:Box w B (cellsS ss) t) (k:Nat) (hk:k<ss.length):
  w.cell? ⟨B,k*4,none⟩=some (.bool (ss.getD k qw).v.has)∧w.cell? ⟨B,k*4+1,none⟩=some (.int .i64 (ss.getD k qw).v.o.kind)∧
  w.cell? ⟨B,k*4+2,none⟩=some (.slice (ss.getD k qw).aI (ss.getD k qw).v.o.ints.length (ss.getD k qw).cI)∧w.cell? ⟨B,k*4+3,none⟩=some (.slice (ss.getD k qw).aR (ss.getD k qw).v.o.refs.length (ss.getD k qw).cR)∧
  (∀ i,w.frozen? ⟨B,i,none⟩=false):=
 ⟨b.cell _ _ (Jc ss k 0 hk (by omega)),b.cell _ _ (Jc ss k 1 hk (by omega)),b.cell _ _ (Jc ss k 2 hk (by omega)),b.cell _ _ (Jc ss k 3 hk (by omega)),fun i=>b.frozen i⟩
theorem IV {w:World} {B:Nat} {ss:List qj} {ty:TypeId} (b:Box w B (cellsS ss) ty) (k:Nat) (hk:k<ss.length) (t:qj):
  ∃ W,Hid ((((w.setCell ⟨B,k*4,none⟩ (.bool t.v.has)).setCell ⟨B,k*4+1,none⟩ (.int .i64 t.v.o.kind)).setCell ⟨B,k*4+2,none⟩ (.slice t.aI t.v.o.ints.length t.cI)).setCell ⟨B,k*4+3,none⟩ (.slice t.aR t.v.o.refs.length t.cR)=W)∧Box W B (cellsS (ss.set k t)) ty∧Within B (B+1) w W∧W.heap.size=w.heap.size:=by
 refine ⟨_,rfl,?_,?_,?_⟩
 ·have:=(((b.set (k*4) (.bool t.v.has)).set (k*4+1) (.int .i64 t.v.o.kind)).set (k*4+2) (.slice t.aI t.v.o.ints.length t.cI)).set (k*4+3) (.slice t.aR t.v.o.refs.length t.cR);rw [GD ss k hk t] at this;exact this
 ·exact (((jL w B _ _ (by omega)).trans (jL _ B _ _ (by omega))).trans (jL _ B _ _ (by omega))).trans (jL _ B _ _ (by omega))
 ·simp
def qj.blocks (s:qj):List Nat:=(Value.slice s.aI s.v.o.ints.length s.cI).ownBlock.toList++(Value.slice s.aR s.v.o.refs.length s.cR).ownBlock.toList
structure qP (w:World) (lo hi:Nat) (ss:List qj):Prop where
 each:∀ s∈ss,s.own w lo hi
 apart:(ss.flatMap qj.blocks).Nodup
theorem qj.qC {w:World} {lo hi:Nat} {s:qj} (h:s.own w lo hi):∀ k∈s.blocks,lo≤k∧k<hi:=by
 intro k hk;rcases qaa.1 hk with h1 | h1
 ·exact h.ints.lt k (qad.1 h1)
 ·exact h.refs.lt k (qad.1 h1)
theorem qj.Q3 {w:World} {lo hi:Nat} {s:qj} (h:s.own w lo hi):s.blocks.Nodup:=by
 unfold qj.blocks;cases h1:(Value.slice s.aI s.v.o.ints.length s.cI).ownBlock with
 | none=>cases h2:(Value.slice s.aR s.v.o.refs.length s.cR).ownBlock<;>simp
 | some a=>
  cases h2:(Value.slice s.aR s.v.o.refs.length s.cR).ownBlock with
  | none=>simp
  | some b=>
   have:=h.apart a h1;rw [h2] at this;have hne:b≠a:=fun e=>this (by rw [e])
   simp [Ne.symm hne]
theorem qP.nil (w:World) (lo hi:Nat):qP w lo hi []:=⟨by simp,by simp⟩
theorem qP.below {w w':World} {lo hi:Nat} {ss:List qj} (h:qP w lo hi ss) (hb:qa w w'):qP w' lo hi ss:=⟨fun s hs=>(h.each s hs).below hb,h.apart⟩
theorem qP.within {w w':World} {lo hi l r:Nat} {ss:List qj} (h:qP w lo hi ss) (hw:Within l r w w') (hd:hi≤l∨r≤lo):qP w' lo hi ss:=⟨fun s hs=>(h.each s hs).within hw hd,h.apart⟩
theorem qP.widen {w:World} {lo hi lo' hi':Nat} {ss:List qj} (h:qP w lo hi ss) (h1:lo'≤lo) (h2:hi≤hi') (h3:hi'≤w.heap.size):qP w lo' hi' ss:=⟨fun s hs=>(h.each s hs).widen h1 h2 h3,h.apart⟩
theorem qP.qC {w:World} {lo hi:Nat} {ss:List qj} (h:qP w lo hi ss):∀ k∈ss.flatMap qj.blocks,lo≤k∧k<hi:=by
 intro k hk;obtain ⟨s,hs,hk'⟩:=qag.1 hk;exact qj.qC (h.each s hs) k hk'
theorem qP.snoc {w:World} {lo mid hi:Nat} {ss:List qj} {t:qj} (h:qP w lo mid ss) (ht:t.own w mid hi) (h1:lo≤mid) (h2:mid≤hi) (h3:hi≤w.heap.size):qP w lo hi (ss++[t]):=by
 refine ⟨fun s hs=>?_,?_⟩
 ·rcases qaa.1 hs with h' | h'
  ·exact (h.each s h').widen qg h2 h3
  ·obtain rfl:=qac.1 h';exact OwnO.widen ht h1 qg h3
 ·rw [qcy,qav];refine ⟨h.apart,by simpa using qj.Q3 ht,?_⟩;intro a ha b hb e;have:=(h.qC a ha).2;have:=(qj.qC ht b (by simpa using hb)).1;omega
def jS (w:World) (ss:List qj):Prop:=∀ s∈ss,s.reads w
theorem qP.reads {w:World} {lo hi:Nat} {ss:List qj} (h:qP w lo hi ss):jS w ss:=fun s hs=>OwnO.reads (h.each s hs)
theorem jS.below {w w':World} {ss:List qj} (h:jS w ss) (hb:qa w w'):jS w' ss:=fun s hs=>jd.below (h s hs) hb
theorem mY (a b:Option Addr) (ca cb:Nat) (zs:List Int) (w:World) (ha:xH w a zs) (hb:xH w b zs) (hl:zs.length≤1099511627776):
  Calls prog 95 #[.slice a zs.length ca,.slice b zs.length cb] w fun e w'=>e=.returned (.bool true)∧∃ n,w'=w.drewN n:=by
 rcases ha.cases with rfl | ⟨b1,o1,rfl,hpos,hc1⟩
 ·go_enter func95,ntmps95;go_wp2;refine qdp 1 ?_;rw [qdC];go_wp2;go_ret;exact ⟨rfl,0,rfl⟩
 ·rcases hb.cases with rfl | ⟨b2,o2,rfl,_,hc2⟩
  ·simp at hpos
  ·go_enter func95,ntmps95;go_wp2;go_loopw [5] (fun i wr=>∃ k:Nat,k≤zs.length∧i=.int .i64 k∧∃ n,wr=w.drewN n) (fun i _=>zs.length-(RowKit.intOf i).toNat)
   case atStart=>exact ⟨0,qaw _,rfl,0,rfl⟩
   case round=>
    obtain ⟨k,hk,rfl,n,rfl⟩:=hrel;by_cases hlt:k<zs.length
    ·have h1:=hc1 k hlt;have h2:=hc2 k hlt;clear hc1 hc2;generalize zs.getD k 0=z at*
     go_wp2
     go_quiet (fail)
     go_wp2;go_roundw
     case rel=>exact ⟨k+1,by omega,by go_num,_,rfl⟩
     case measure=>simp [RowKit.intOf];omega
    ·go_wp2;go_ret;exact ⟨rfl,n,rfl⟩
def yU (k0:Int) (n:Nat):List Int:=(List.range n).map fun i:Nat=>k0+i
theorem jq (k0:Int) (n:Nat):(yU k0 n).length=n:=by simp [yU]
theorem IW (k0:Int) (n i:Nat) (h:i<n):(yU k0 n).getD i 0=k0+i:=by
 simp [yU,List.getD,h]
theorem RU (k0:Int) (n:Nat):yU k0 (n+1)=yU k0 n++[k0+n]:=by
 simp [yU,List.range_succ]
def QQ (k0:Int) (xs:List Int) (k:Nat):List Int:=yU k0 k++xs.drop k
theorem RX (k0:Int) (xs:List Int) (k:Nat) (h:k<xs.length):(QQ k0 xs k).set k (k0+k)=QQ k0 xs (k+1):=by
 unfold QQ;rw [qgo,qa2 (by rw [jq];omega),jq,qfV,RU,qcX h,qdL];simp
theorem Hr (k0:Int) (xs:List Int) (k:Nat) (h:k<xs.length):((QQ k0 xs k).map (Value.int .i64)).set k (.int .i64 (k0+k))=(QQ k0 xs (k+1)).map (Value.int .i64):=by
 rw [← RX k0 xs k h,qeW]
theorem RY (k0:Int) (xs:List Int):QQ k0 xs xs.length=yU k0 xs.length:=by simp [QQ]
theorem YE (base:Nat) (a:Option Addr) (cap:Nat) (k0:Int) (xs:List Int) (w:World)
  (hown:w.ownsRow base 3 1 (.slice a xs.length cap) xs.length (xs.map (Value.int .i64))) (h0:0≤k0) (hl:k0+xs.length≤4611686018427387904):
  Calls prog 99 #[.slice a xs.length cap,.int .i64 k0] w fun e w'=>e=.returned (.int .i64 (k0+xs.length))∧
   w'.ownsRow base 3 1 (.slice a xs.length cap) xs.length ((yU k0 xs.length).map (Value.int .i64))∧w.grownBy w' (Value.slice a xs.length cap).ownBlock:=by
 have hlen:=hown.1;rcases hown.2 with ⟨hv,h00⟩ | ⟨g,cap',cur,hv,hg,hgg,hr⟩
 ·simp only [qcK] at hv;obtain ⟨rfl,qeY,rfl⟩:=hv;obtain rfl:=qcI.1 h00;go_enter func99,ntmps99;go_wp2;refine qdp 1 ?_;rw [qdC];go_wp2;go_ret;exact ⟨by simp,World.ownsRow_nil _ _ _ _,qeR _ _⟩
 ·simp only [qcK] at hv;obtain ⟨rfl,_,rfl⟩:=hv;clear hgg hr hlen;have hM:w.ownsRow base 3 1 (.slice (some ⟨g,0,none⟩) xs.length cap) xs.length ((QQ k0 xs 0).map (Value.int .i64)):=by simpa [QQ,yU] using hown
  clear hown;go_enter func99,ntmps99;go_wp2;go_loopw [1,5] (fun kk i wr=>∃ k:Nat,k≤xs.length∧i=.int .i64 k∧kk=.int .i64 (k0+k)∧wr.ownsRow base 3 1 (.slice (some ⟨g,0,none⟩) xs.length cap) xs.length ((QQ k0 xs k).map (Value.int .i64))∧w.grownBy wr (some g))
   (fun _ i _=>xs.length-(RowKit.intOf i).toNat)
  case atStart=>exact ⟨0,qaw _,rfl,by simp,hM,qeR _ _⟩
  case round=>
   obtain ⟨k,hk,rfl,rfl,hown,hgr⟩:=hrel;clear hM;by_cases hlt:k<xs.length
   ·have hfz:=hown.frozenAt k;obtain ⟨u,hct⟩:=qbi hown k hlt;have HS:=hown.stored k (.int .i64 (k0+k));rw [Hr k0 xs k hlt] at HS;have kJ:Hid (_∧_):=HS;clear HS hown;go_wp2;go_roundw
    case rel=>exact ⟨k+1,by omega,by go_num,by go_num,kJ.out.1,grownBy_trans hgr kJ.out.2⟩
    case measure=>simp [RowKit.intOf];omega
   ·have HE:Hid (wr.ownsRow base 3 1 (.slice (some ⟨g,0,none⟩) xs.length cap) xs.length ((yU k0 xs.length).map (Value.int .i64))∧k=xs.length):=by
     have e:k=xs.length:=by omega
     rw [e,RY] at hown;exact ⟨hown,e⟩
    go_wp2;go_ret;exact ⟨jN (by have:=HE.out.2;omega),HE.out.1,hgr⟩
theorem heldIntS_any (a:Option Addr) (cap:Nat) (k0:Int) (n:Nat) (w:World) (hr:xH w a (yU k0 n)) (h0:0≤k0) (hl:k0+n≤4611686018427387904):
  Calls prog 144 #[.slice a n cap,.int .i64 k0] w fun e w'=>e=.returned (.int .i64 (k0+n))∧w'=w:=by
 rcases hr.cases with h | ⟨b,off,rfl,hpos,hcell⟩
 ·have h':=qcz List.length h;rw [jq] at h';simp at h';subst h';go_enter func144,ntmps144;go_wp2;refine qdp 1 ?_;rw [qdC];go_wp2;go_ret;exact ⟨by simp,rfl⟩
 ·rw [jq] at hpos hcell;go_enter func144,ntmps144;go_wp2
  go_loop [1,5] (fun kk i=>∃ k:Nat,k≤n∧i=.int .i64 k∧kk=.int .i64 (k0+k)) (fun _ i=>n-(RowKit.intOf i).toNat)
  case atStart=>exact ⟨0,qaw _,rfl,by simp⟩
  case round=>
   obtain ⟨k,hk,rfl,rfl⟩:=hrel;by_cases hlt:k<n
   ·have hc:=hcell k hlt;rw [IW k0 n k hlt] at hc;clear hcell;go_wp2
    go_round
    case rel=>exact ⟨k+1,by omega,by go_num,by go_num⟩
    case measure=>simp [RowKit.intOf];omega
   ·have HE:Hid (k=n):=by show k=n;omega
    go_wp2;go_ret;exact ⟨jN (by have:=HE.out;omega),rfl⟩
theorem Wi (lo hi:Nat) (a:Option Addr) (cap:Nat) (k0:Int) (n:Nat) (w:World) (ho:kD w lo hi a cap (yU k0 n)) (h0:0≤k0) (hl:k0+n≤4611686018427387904):
  Calls prog 144 #[.slice a n cap,.int .i64 k0] w fun e w'=>e=.returned (.int .i64 (k0+n))∧w'=w:=
 heldIntS_any a cap k0 n w ho.reads h0 hl
theorem iV (o:yo) (aI:Option Addr) (cI:Nat) (aR:Option Addr) (cR:Nat) (bI:Option Addr) (dI:Nat) (bR:Option Addr) (dR:Nat) (w:World) (ha:jd w aI cI aR cR o) (hb:jd w bI dI bR dR o) (KR:o.ints.length≤1099511627776) (J8:o.refs.length≤1099511627776):
  Calls prog 46 #[.agg #[.int .i64 o.kind,.slice aI o.ints.length cI,.slice aR o.refs.length cR],.agg #[.int .i64 o.kind,.slice bI o.ints.length dI,.slice bR o.refs.length dR]] w fun e w'=>e=.returned (.bool true)∧qa w w':=by
 obtain ⟨k,ints,refs⟩:=o;obtain ⟨Dc,De,_,_⟩:=ha;obtain ⟨Df,hbR,_,_⟩:=hb;simp only at*
 obtain ⟨W,hW,b0,b1,hbW,qD⟩:=jK w [.int .i64 k,.slice aI ints.length cI,.slice aR refs.length cR] [.int .i64 k,.slice bI ints.length dI,.slice bR refs.length dR] 43 43;go_enter func46,ntmps46;go_wp2_with fail;rw [hW.out];refine (mY aI bI cI dI ints W (Dc.below hbW) (Df.below hbW) KR).mono ?_;rintro e w1 ⟨rfl,n1,rfl⟩;have c0:=(b0.drewN n1).cell 2 _ rfl;have c1:=(b1.drewN n1).cell 2 _ rfl;have hb1:qa w (W.drewN n1):=qfI hbW n1;go_wp2_with fail;refine (mY aR bR cR dR refs (W.drewN n1) (De.below hb1) (hbR.below hb1) J8).mono ?_;rintro e w2 ⟨rfl,n2,rfl⟩;go_wp2;go_ret;exact ⟨rfl,qfI hbW (n1+n2)⟩
def gP (o:yo) (k0:Int):yo:=⟨o.kind,yU k0 o.ints.length,yU (k0+o.ints.length) o.refs.length⟩
def qoP (w:World) (base:Nat) (a:Option Addr) (c:Nat) (ys:List Int):Prop:=
 (∀ z∈ys,0≤z∧z<256)∧w.ownsRow base 5 1 (.slice a ys.length c) ys.length (ys.map (Value.int .u8))
def marks (k0:Int) (n:Nat):List Int:=(List.range n).map fun i:Nat=>(k0+i) % 256
def marked (k0:Int) (xs:List Int) (k:Nat):List Int:=marks k0 k++xs.drop k
def part (zs:List Int) (k:Nat):List Int:=zs.take k++List.replicate (zs.length-k) 0
structure Touch (bl:List Nat) (w w':World):Prop where
 os:w'.os=w.os
 tape:w'.tape=w.tape
 output:w'.output=w.output
 size:w.heap.size≤w'.heap.size
 block:∀ k,k<w.heap.size→k∉bl→w'.heap[k]? =w.heap[k]?
theorem Touch.refl (bl:List Nat) (w:World):Touch bl w w:=⟨rfl,rfl,rfl,qcN _,fun _ _ _=>rfl⟩
theorem Touch.trans {bl:List Nat} {a b c:World} (h:Touch bl a b) (k:Touch bl b c):Touch bl a c:=
 ⟨k.os.trans h.os,k.tape.trans h.tape,k.output.trans h.output,qcx h.size k.size,fun i hi hn=>(k.block i (qe2 hi h.size) hn).trans (h.block i hi hn)⟩
theorem Touch.mono {bl bl':List Nat} {w w':World} (h:Touch bl w w') (hs:∀ k∈bl,k∈bl'):Touch bl' w w':=
 ⟨h.os,h.tape,h.output,h.size,fun k hk hn=>h.block k hk (fun hh=>hn (hs k hh))⟩
theorem Touch.of_below {bl:List Nat} {w w':World} (h:qa w w'):Touch bl w w':=⟨h.os,h.tape,h.output,h.size,fun k hk _=>h.block k hk⟩
theorem Touch.jO {bl:List Nat} {w w':World} {row:Option Nat} (h:w.grownBy w' row) (hr:∀ k,row=some k→k∈bl):Touch bl w w':=
 ⟨h.os,h.tape,h.output,h.size,fun k hk hn=>h.block k hk (fun e=>hn (hr k e.symm))⟩
theorem Touch.within {bl:List Nat} {lo hi:Nat} {w w':World} (h:Touch bl w w') (hb:∀ k∈bl,lo≤k∧k<hi):Within lo hi w w':=
 ⟨h.os,h.tape,h.output,h.size,fun k hk hn=>h.block k hk (fun hh=>hn (hb k hh))⟩
theorem Box.touch {w w':World} {B:Nat} {vs:List Value} {t:TypeId} {bl:List Nat} (h:Box w B vs t) (ht:Touch bl w w') (hn:B∉bl):Box w' B vs t:=h.block (ht.block B h.lt hn)
theorem kD.touch {w w':World} {lo hi:Nat} {a:Option Addr} {c:Nat} {ns:List Int} {bl:List Nat} (h:kD w lo hi a c ns) (ht:Touch bl w w') (hd:∀ k,(Value.slice a ns.length c).ownBlock=some k→k∉bl):kD w' lo hi a c ns:=
 ⟨xk h.1 (fun k hk=>ht.block k (h.1.lt k hk).2 (hd k hk)),qcx h.2.1 ht.size,h.2.2⟩
theorem qj.touch {w w':World} {lo hi:Nat} {s:qj} {bl:List Nat} (h:s.own w lo hi) (ht:Touch bl w w') (hd:∀ k∈s.blocks,k∉bl):s.own w' lo hi:=
 ⟨h.ints.touch ht (fun k hk=>hd k (qaa.2 (.inl (qad.2 hk)))),h.refs.touch ht (fun k hk=>hd k (qaa.2 (.inr (qad.2 hk)))),h.apart⟩
theorem qP.replace {w w':World} {lo hi:Nat} {A B:List qj} {s t:qj} (h:qP w lo hi (A++s::B)) (ht:Touch s.blocks w w') (ho:t.own w' lo hi) (hb:t.blocks=s.blocks):qP w' lo hi (A++t::B):=by
 have hap:=h.apart;rw [qcy,qaY,qav] at hap;obtain ⟨_,h2,h3⟩:=hap;rw [qav] at h2;obtain ⟨_,_,h5⟩:=h2;refine ⟨fun x hx=>?_,?_⟩
 ·rcases qaa.1 hx with hA | hB
  ·refine qj.touch (h.each x (by simp [hA])) ht (fun k hk hk'=>?_);exact h3 k (qag.2 ⟨x,hA,hk⟩) k (qaa.2 (.inl hk')) rfl
  ·rcases qcv.1 hB with rfl | hB
   ·exact ho
   ·refine qj.touch (h.each x (by simp [hB])) ht (fun k hk hk'=>?_);exact h5 k hk' k (qag.2 ⟨x,hB,hk⟩) rfl
 ·have:=h.apart;rw [qcy,qaY] at this ⊢;rw [hb];exact this
def qj.mark (s:qj) (k:Int):qj:={ s with v:=⟨s.v.has,gP s.v.o k⟩ }
def qj.count (s:qj):Nat:=s.v.o.ints.length+s.v.o.refs.length
def kK:List qj→Int→List qj
 | [],_=>[]
 | s::r,k=>s.mark k::kK r (k+s.count)
def jm:List qj→Nat
 | []=>0
 | s::r=>s.count+jm r
theorem mZ (s:qj) (k:Int):(s.mark k).blocks=s.blocks:=by simp [qj.mark,qj.blocks,gP,jq]
theorem ng (ss:List qj) (s:qj):jm (ss++[s])=jm ss+s.count:=by
 induction ss with
 | nil=>simp [jm]
 | cons x r ih=>simp only [qfk,jm,ih];omega
theorem RZ (ss:List qj) (s:qj):∀ k,kK (ss++[s]) k=kK ss k++[s.mark (k+jm ss)]:=by
 induction ss with
 | nil=>intro k;simp [kK,jm]
 | cons x r ih=>
  intro k;simp only [qfk,kK,ih,jm];congr 3;congr 1;omega
theorem Yk (A B:List qj):∀ k,kK (A++B) k=kK A k++kK B (k+jm A):=by
 induction A with
 | nil=>intro k;simp [kK,jm]
 | cons x r ih=>
  intro k;simp only [qfk,kK,ih,jm];congr 3;omega
theorem IX (ss:List qj) (k:Int) (j:Nat) (h:j<ss.length):(ss.getD j qw).mark (k+jm (ss.take j))∈kK ss k:=by
 have e:kK ss k=kK (ss.take j) k++kK (ss.drop j) (k+jm (ss.take j)):=by rw [← Yk,qdJ]
 have e2:ss.getD j qw=ss[j]:=by simp [List.getD,h]
 rw [e,qcX h,kK,e2];exact qaa.2 (.inr (qcv.2 (.inl rfl)))
theorem take_split (ss:List qj) (j:Nat) (h:j<ss.length):ss.drop j=ss.getD j qw::ss.drop (j+1)∧ss.take (j+1)=ss.take j++[ss.getD j qw]:=by
 refine ⟨by rw [qcX h];simp [List.getD,h],?_⟩;rw [qf9];simp [List.getD,h]
theorem Wj (ss:List qj) (M:Nat) (h:∀ s∈ss,s.v.o.ints.length≤M∧s.v.o.refs.length≤M):jm ss≤ss.length*(2*M):=by
 induction ss with
 | nil=>simp [jm]
 | cons x r ih=>
  have h1:=h x (by simp);have h2:=ih (fun s hs=>h s (by simp [hs]));simp only [jm,qj.count,qcS,Nat.add_mul];omega
theorem fG (o:yo) (lo hi:Nat) (aI:Option Addr) (cI:Nat) (aR:Option Addr) (cR:Nat) (k0:Int) (w:World) (ho:OwnO w lo hi aI cI aR cR o) (h0:0≤k0) (KR:o.ints.length≤1099511627776) (J8:o.refs.length≤1099511627776) (hk:k0≤109951162777600):
  Calls prog 52 #[.agg #[.int .i64 o.kind,.slice aI o.ints.length cI,.slice aR o.refs.length cR],.int .i64 k0] w fun e w'=>e=.returned (.int .i64 (k0+o.ints.length+o.refs.length))∧OwnO w' lo hi aI cI aR cR (gP o k0)∧
   Touch ((Value.slice aI o.ints.length cI).ownBlock.toList++(Value.slice aR o.refs.length cR).ownBlock.toList) w w':=by
 obtain ⟨k,ints,refs⟩:=o;obtain ⟨hI,hR,hap⟩:=ho;simp only at*
 obtain ⟨W,hW,b0,hbW,qD⟩:=qB w [.int .i64 k,.slice aI ints.length cI,.slice aR refs.length cR] 43;have hI':=hI.below hbW;have hR':=hR.below hbW;go_enter func52,ntmps52;go_wp2_with fail;rw [hW.out];refine (YE lo aI cI k0 ints W hI'.1 h0 (by omega)).mono ?_;rintro e w1 ⟨rfl,h1,h2⟩;have hR1:=hR'.kept h2 (fun k hk e=>hap k e hk);have b1:=b0.block (h2.block _ (by omega) (fun e=>by have h3:=(hI.lt _ e.symm).2;have:=hI.2.1;omega));have c2:=b1.cell 2 _ rfl;have hI1:kD w1 lo hi aI cI (yU k0 ints.length):=⟨by rw [jq];exact h1,qcx hI'.2.1 h2.size,by rw [jq];exact hI.2.2⟩;go_wp2_with fail;refine (YE lo aR cR (k0+ints.length) refs w1 hR1.1 (by omega) (by omega)).mono ?_;rintro e w2 ⟨rfl,h3,h4⟩;have hI2:=hI1.kept h4 (fun k hk e=>by rw [jq] at hk;exact hap k hk e);have hR2:kD w2 lo hi aR cR (yU (k0+ints.length) refs.length):=⟨by rw [jq];exact h3,qcx hR1.2.1 h4.size,by rw [jq];exact hR.2.2⟩;go_wp2;go_ret;refine ⟨rfl,⟨hI2,hR2,?_⟩,((Touch.of_below hbW).trans (Touch.jO h2 (fun j hj=>qaa.2 (.inl (qad.2 hj))))).trans (Touch.jO h4 (fun j hj=>qaa.2 (.inr (qad.2 hj))))⟩;simp only [gP,jq];exact hap
theorem R4 (o:yo) (lo hi:Nat) (aI:Option Addr) (cI:Nat) (aR:Option Addr) (cR:Nat) (k0:Int) (w:World) (ho:OwnO w lo hi aI cI aR cR (gP o k0)) (h0:0≤k0) (KR:o.ints.length≤1099511627776) (J8:o.refs.length≤1099511627776) (hk:k0≤109951162777600):
  Calls prog 195 #[.agg #[.int .i64 o.kind,.slice aI o.ints.length cI,.slice aR o.refs.length cR],.int .i64 k0] w fun e w'=>e=.returned (.int .i64 (k0+o.ints.length+o.refs.length))∧qa w w':=by
 obtain ⟨k,ints,refs⟩:=o;obtain ⟨hI,hR,hap⟩:=ho;simp only [gP] at*
 obtain ⟨W,hW,b0,hbW,qD⟩:=qB w [.int .i64 k,.slice aI ints.length cI,.slice aR refs.length cR] 43;have hI':=hI.below hbW;have hR':=hR.below hbW;have c2:=b0.cell 2 _ rfl;go_enter func195,ntmps195;go_wp2_with fail;rw [hW.out];refine (Wi lo hi aI cI k0 ints.length W hI' h0 (by omega)).mono ?_;rintro e w1 ⟨rfl,rfl⟩;go_wp2_with fail;refine (Wi lo hi aR cR (k0+ints.length) refs.length w1 hR' (by omega) (by omega)).mono ?_;rintro e w2 ⟨rfl,rfl⟩;go_wp2;go_ret;exact ⟨rfl,hbW⟩
theorem Vl (s:qj) (lo hi:Nat) (k0:Int) (w:World) (ho:s.own w lo hi) (h0:0≤k0) (KR:s.v.o.ints.length≤1099511627776) (J8:s.v.o.refs.length≤1099511627776) (hk:k0≤109951162777600):
  Calls prog 13 #[.agg s.cells.toArray,.int .i64 k0] w fun e w'=>e=.returned (.int .i64 (k0+s.count))∧(s.mark k0).own w' lo hi∧Touch s.blocks w w':=by
 obtain ⟨W,hW,b0,hbW,qD⟩:=qB w s.cells 45;have C:=fG s.v.o lo hi s.aI s.cI s.aR s.cR k0 W (OwnO.below ho hbW) h0 KR J8 hk;have HC:Hid ((s.count:Int)=s.v.o.ints.length+s.v.o.refs.length):=by simp [Hid,qj.count]
 simp only [qj.cells] at*
 go_enter func13,ntmps13;go_wp2_with fail;rw [hW.out];refine C.mono ?_;clear C;rintro e w1 ⟨rfl,ho1,ht1⟩;go_wp2;go_ret;exact ⟨jN (by rw [HC.out];omega),ho1,(Touch.of_below hbW).trans ht1⟩
theorem Bw (s:qj) (lo hi:Nat) (k0:Int) (w:World) (ho:(s.mark k0).own w lo hi) (h0:0≤k0) (KR:s.v.o.ints.length≤1099511627776) (J8:s.v.o.refs.length≤1099511627776) (hk:k0≤109951162777600):
  Calls prog 169 #[.agg s.cells.toArray,.int .i64 k0] w fun e w'=>e=.returned (.int .i64 (k0+s.count))∧qa w w':=by
 obtain ⟨W,hW,b0,hbW,qD⟩:=qB w s.cells 45;have C:=R4 s.v.o lo hi s.aI s.cI s.aR s.cR k0 W (OwnO.below ho hbW) h0 KR J8 hk;have HC:Hid ((s.count:Int)=s.v.o.ints.length+s.v.o.refs.length):=by simp [Hid,qj.count]
 simp only [qj.cells] at*
 go_enter func169,ntmps169;go_wp2_with fail;rw [hW.out];refine C.mono ?_;clear C;rintro e w1 ⟨rfl,hb1⟩;go_wp2;go_ret;exact ⟨jN (by rw [HC.out];omega),qf hbW hb1⟩
def Kh:List qj:=[qw,qw,qw,qw]
theorem QX (B o:Nat) (vs:List Value) (w:World):Within B (B+1) w (w.setCells B o vs):=by
 induction vs generalizing o w with
 | nil=>exact Within.refl _ _ _
 | cons v r ih=>exact (jL w B o v (by omega)).trans (ih (o+1) _)
theorem dF (ts:List qj) (n:Nat) (t:qj):(ts++List.replicate (n+1) qw).set ts.length t=(ts++[t])++List.replicate n qw:=by
 rw [qdh _ _ qg];simp [List.replicate_succ]
theorem xh {ss:List qj} {k:Nat} (h:k<ss.length):ss.getD k qw∈ss:=by simp [List.getD,h]
theorem Bz (ss:List qj) (h4:ss.length=4) (w:World) (hr:jS w ss) (hl:∀ s∈ss,s.v.o.ints.length≤1099511627776∧s.v.o.refs.length≤1099511627776):
  Calls prog 117 #[.agg (cellsS ss).toArray] w fun e w'=>∃ ts:List qj,e=.returned (.agg (cellsS ts).toArray)∧Hid (ts.map (·.v)=ss.map (·.v))∧qP w' w.heap.size w'.heap.size ts∧qa w w':=by
 obtain ⟨W,hW,b0,b1,b2,hbW,qD⟩:=yK w (cellsS ss) [.bool false,.int .i64 0,.slice none 0 0,.slice none 0 0,.bool false,.int .i64 0,.slice none 0 0,.slice none 0 0,.bool false,.int .i64 0,.slice none 0 0,.slice none 0 0,.bool false,.int .i64 0,.slice none 0 0,.slice none 0 0] [.bool false,.int .i64 0,.slice none 0 0,.slice none 0 0,.bool false,.int .i64 0,.slice none 0 0,.slice none 0 0,.bool false,.int .i64 0,.slice none 0 0,.slice none 0 0,.bool false,.int .i64 0,.slice none 0 0,.slice none 0 0] 27 46 46;have b1':Box W (w.heap.size+1) (cellsS Kh) 46:=b1;have b2':Box W (w.heap.size+1+1) (cellsS Kh) 46:=b2;have sP:w.heap.size+1+1<W.heap.size:=by omega
 clear b1 b2 qD;go_enter func117,ntmps117;go_wp2_with fail;rw [hW.out];clear hW;have H4:Hid (ss.length=4):=h4;clear h4;go_loopw [4] (fun i wr=>∃ (k:Nat) (ts:List qj),i=.int .i64 k∧k≤4∧Hid (ts.length=k∧ts.map (·.v)=(ss.take k).map (·.v))∧qP wr W.heap.size wr.heap.size ts∧Box wr (w.heap.size+1+1) (cellsS (ts++List.replicate (4-k) qw)) 46∧Below (w.heap.size+1+1) W wr)
  (fun i _=>4-(RowKit.intOf i).toNat)
 case atStart=>exact ⟨0,[],rfl,by omega,⟨rfl,rfl⟩,qP.nil _ _ _,b2',qab _ _⟩
 case round=>
  obtain ⟨k,ts,rfl,hk,hts,hown,uh,hbl⟩:=hrel;clear b2';have Uf:=b0.below hbl (by omega);have UK:=b1'.below hbl (by omega);have QF:=hbl.size;by_cases hlt:k<4
  ·have hkl:k<ss.length:=by rw [H4.out];exact hlt
   obtain ⟨c0,c1,c2,c3,_⟩:=Uf.slot k hkl;have Vb:=(hr _ (xh hkl)).below (hbW.trans (hbl.mono (by omega)));have hlk:=hl _ (xh hkl);have HV:Hid ((ss.take (k+1)).map (·.v)=(ss.take k).map (·.v)++[(ss.getD k qw).v]):=by
    rw [Hid,qf9,qdd];simp [List.getD,hkl]
   generalize ss.getD k qw=s at*
   go_wp2_with fail;refine (wm s wr Vb hlk.1 hlk.2).mono ?_;clear Vb hlk c0 c1 c2 c3;rintro e w1 ⟨t,rfl,hv,ho,hb1⟩;have hs1:=hb1.size;have hbx:=uh.below hb1 uh.lt;have hkt:k<(ts++List.replicate (4-k) qw).length:=by have:=hts.out.1;simp;omega
   obtain ⟨W2,hW2,b2,hw2,hs2⟩:=IV hbx k hkt t;obtain ⟨x0,x1,x2,x3,hfz⟩:=hbx.slot k hkt;have f0:=hfz (k*4);have f1:=hfz (k*4+1);have f2:=hfz (k*4+2);have f3:=hfz (k*4+3);generalize (ts++List.replicate (4-k) qw).getD k qw=old at*
   have b2':Box W2 (w.heap.size+1+1) (cellsS ((ts++[t])++List.replicate (4-(k+1)) qw)) 46:=by
    rw [show 4-k=(4-(k+1))+1 by omega] at b2;have e:=dF ts (4-(k+1)) t;rw [hts.out.1] at e;rw [e] at b2;exact b2
   have Yv:qP w1 W.heap.size w1.heap.size (ts++[t]):=(hown.below hb1).snoc ho QF hs1 qg;have hO2:qP W2 W.heap.size W2.heap.size (ts++[t]):=(Yv.within hw2 (.inr (by omega))).widen qg (by omega) qg;have hB2:Below (w.heap.size+1+1) W W2:=(hbl.trans (hb1.mono (by omega))).trans (hw2.below qg (by omega));have HT:Hid ((ts++[t]).length=k+1∧(ts++[t]).map (·.v)=(ss.take (k+1)).map (·.v)):=by
    refine ⟨by have:=hts.out.1;simp;omega,?_⟩;rw [HV.out,qdd,hts.out.2,← hv.out];rfl
   clear hfz hs2 hw2 b2 Yv hown uh hbx hts HV hkt hb1 ho;simp only [qj.cells];go_wp2_with fail;rw [hW2.out];go_roundw
   case rel=>exact ⟨k+1,ts++[t],by go_num,by omega,HT,hO2,b2',hB2⟩
   case measure=>simp [RowKit.intOf];omega
  ·obtain rfl:k=4:=by omega
   have Yw:ts++List.replicate (4-4) qw=ts:=by simp
   rw [Yw] at uh;have htl:ts.length=4:=hts.out.1;have hmv:ts.map (·.v)=ss.map (·.v):=by rw [hts.out.2,qdD (by rw [H4.out];omega)]
   have hrg:wr.rangeAt (w.heap.size+1+1) 0 (cellsS ts):=fun j v hv=>by rw [qeK];exact uh.cell j v hv
   have hth:wr.there (w.heap.size+1) 0 (cellsS ts).toArray.size:=by
    intro j hj;rw [qeK];have qlI:j<(cellsS Kh).length:=by simp only [qcY,jW] at hj ⊢;rw [htl] at hj;exact hj
    exact ⟨by rw [UK.cell j _ (qcG qlI)];rfl,UK.frozen j⟩
   have hone:(cellsS ts).toArray.all (·.oneCell')=true:=by
    apply qaf;intro v hv;obtain ⟨s,_,hs⟩:=qag.1 hv;simp only [qj.cells,qcv,qdu,qfL] at hs;rcases hs with rfl | rfl | rfl | rfl<;>rfl
   have hsz:(cellsS ts).toArray.size=16:=by simp [jW,htl]
   have hi:(prog.info? 46).map (·.size)=some (cellsS ts).toArray.size:=by rw [hsz];kernel_rfl
   have hi':(prog.info? 46).map (·.size)=some (cellsS ts).length:=by rw [hi];simp
   clear hsz htl Yw;go_wp2_with (first | (guard_target=qp 15;refine qH 46 3 (w.heap.size+1+1) 0 (cellsS ts) hrg underlying46 hi' ?_) | (guard_target=ja 2;refine jb 46 2 15 (w.heap.size+1) 0 (cellsS ts).toArray hth hi hone ?_) | fail);have hgs:Within (w.heap.size+1) (w.heap.size+1+1) wr (wr.setCells (w.heap.size+1) 0 (cellsS ts)):=QX _ _ _ _;have Vd:(wr.setCells (w.heap.size+1) 0 (cellsS ts)).rangeAt (w.heap.size+1) 0 (cellsS ts):=World.rangeAt_setCells_same _ _ _ _ (by simpa using hth);have BB:=qeI (P:=prog) _ (w.heap.size+1) 0 46 (cellsS ts) _ Vd underlying46 rfl hi';have q8:=hgs.size;exact qa3 (v:=.agg (cellsS ts).toArray) (jQ results117 rfl BB) rfl ⟨ts,rfl,hmv,(hown.within hgs (.inr (by omega))).widen (by omega) (by omega) qg,(hbW.trans (hbl.mono (by omega))).trans (hgs.below (by omega) (by omega))⟩
theorem Box.range {w:World} {B:Nat} {t:TypeId} (pre cs post:List Value) (b:Box w B (pre++(cs++post)) t):w.rangeAt B pre.length cs:=by
 intro j v hv;have hj:j<cs.length:=(qcL.1 hv).1;refine b.cell _ v ?_;rw [qcQ (by omega),qdx (by omega)];rw [show pre.length+j-pre.length=j by omega];exact hv
theorem qN {w:World}{a:Nat}{cs cs':List Value}{t:TypeId}(b:Box w a cs' t)(h:cs'=cs:=by first | rfl | simp):w.rangeAt a 0 cs:=by subst h;exact Box.range [] _ [] (by simpa using b)
theorem Box.there {w:World} {B:Nat} {vs:List Value} {t:TypeId} (b:Box w B vs t) (o n:Nat) (h:o+n≤vs.length):w.there B o n:=fun j hj=>
 ⟨by rw [b.cell (o+j) _ (qcG (by omega))];rfl,b.frozen _⟩
theorem IY (pre post:List Value):∀ (old cs:List Value),old.length=cs.length→∀ (w:World) (B:Nat) (t:TypeId),Box w B (pre++(old++post)) t→Box (w.setCells B pre.length cs) B (pre++(cs++post)) t:=by
 intro old
 induction old generalizing pre with
 | nil=>intro cs h w B t b;obtain rfl:=qcI.1 h.symm;exact b
 | cons x r ih=>
  intro cs h w B t b;obtain ⟨c,cr,rfl⟩:∃ c cr,cs=c::cr:=by
   cases cs with
   | nil=>simp at h
   | cons c cr=>exact ⟨c,cr,rfl⟩
  have hb:=b.set pre.length c;rw [qdh _ _ qg,qfV] at hb;simp only [qfk,qdL] at hb;have hb':Box (w.setCell ⟨B,pre.length,none⟩ c) B ((pre++[c])++(r++post)) t:=by simpa using hb
  have:=ih (pre++[c]) cr (by simpa using h) _ B t hb';simp only [qai,qfD] at this;rw [World.setCells]
  simpa using this
theorem jE {w:World} {B:Nat} {t:TypeId} (pre old cs post:List Value) (b:Box w B (pre++(old++post)) t) (h:old.length=cs.length):
  ∃ W,Hid (w.setCells B pre.length cs=W)∧Box W B (pre++(cs++post)) t∧Within B (B+1) w W∧W.heap.size=w.heap.size:=by
 refine ⟨_,rfl,IY pre post old cs h w B t b,QX _ _ _ _,?_⟩;have h1:=(QX B pre.length cs w).size;have:∀ (vs:List Value) (o:Nat) (w:World),(w.setCells B o vs).heap.size=w.heap.size:=by
  intro vs
  induction vs with
  | nil=>intro o w;rfl
  | cons v r ih=>intro o w;rw [World.setCells,ih];simp
 exact this _ _ _
theorem qeZ (ss:List qj):∀ v∈cellsS ss,v.oneCell'=true:=by
 intro v hv;obtain ⟨s,_,hs⟩:=qag.1 hv;simp only [qj.cells,qcv,qdu,qfL] at hs;rcases hs with rfl | rfl | rfl | rfl<;>rfl
structure qA where
 lsn:Int
 ss:List qj
def qA.cells (p:qA):List Value:=.int .i64 p.lsn::cellsS p.ss
theorem uM (p:qA):∀ v∈p.cells,v.oneCell'=true:=by
 intro v hv;rcases qcv.1 hv with rfl | h
 ·rfl
 ·exact qeZ _ v h
theorem jJ (p:qA) (h:p.ss.length=4):p.cells.length=17:=by simp [qA.cells,jW,h]
def inB (x l m:Int):Bool:=decide (l≤x∧x≤m)
theorem NV {P:Prop} (h:P:=by
 go_enter func23,ntmps23;go_wp2;go_ret;exact ⟨qm HB.out.symm,rfl⟩):P:=h
theorem j5 (x l m:Int) (w:World):Calls prog 23 #[.int .i64 x,.int .i64 l,.int .i64 m] w fun e w'=>e=.returned (.bool (inB x l m))∧w'=w:=by
 by_cases h1:l≤x
 ·by_cases h2:x≤m
  ·have HB:Hid (inB x l m=true):=by simp [Hid,inB,h1,h2]
   exact NV
  ·have HB:Hid (inB x l m=false):=by simp [Hid,inB,h2]
   exact NV
 ·have HB:Hid (inB x l m=false):=by simp [Hid,inB,h1]
  exact NV
def okB (o:yo):Bool:=inB o.kind 1 99 && (decide (o.ints.length≤5) && (decide (o.refs.length≤5) && (o.ints.all (fun z=>inB z (-1000000) 1000000) && o.refs.all (fun z=>inB z 0 31))))
theorem qbj {o:yo} (h:inB o.kind 1 99=false):okB o=false:=by simp [okB,h]
theorem qbk {o:yo} (h:¬ o.ints.length≤5):okB o=false:=by simp [okB,h]
theorem qbl {o:yo} (h:¬ o.refs.length≤5):okB o=false:=by simp [okB,h]
theorem qdR {o:yo} (j:Nat) (hj:j<o.ints.length) (h:inB (o.ints.getD j 0) (-1000000) 1000000=false):okB o=false:=by
 have:(o.ints.all (fun z=>inB z (-1000000) 1000000))=false:=by
  rw [qfw];exact ⟨o.ints.getD j 0,by simp [List.getD,hj],by rw [h];decide⟩
 simp [okB,this]
theorem qdS {o:yo} (j:Nat) (hj:j<o.refs.length) (h:inB (o.refs.getD j 0) 0 31=false):okB o=false:=by
 have:(o.refs.all (fun z=>inB z 0 31))=false:=by
  rw [qfw];exact ⟨o.refs.getD j 0,by simp [List.getD,hj],by rw [h];decide⟩
 simp [okB,this]
theorem qbm {o:yo} (h1:inB o.kind 1 99=true) (h2:o.ints.length≤5) (h3:o.refs.length≤5) (h4:∀ j,j<o.ints.length→inB (o.ints.getD j 0) (-1000000) 1000000=true) (h5:∀ j,j<o.refs.length→inB (o.refs.getD j 0) 0 31=true):okB o=true:=by
 have a4:(o.ints.all (fun z=>inB z (-1000000) 1000000))=true:=by
  rw [qdt];intro z hz;obtain ⟨j,hj,rfl⟩:=qfa hz;have:=h4 j hj
  simpa [List.getD,hj] using this
 have a5:(o.refs.all (fun z=>inB z 0 31))=true:=by
  rw [qdt];intro z hz;obtain ⟨j,hj,rfl⟩:=qfa hz;have:=h5 j hj
  simpa [List.getD,hj] using this
 simp [okB,h1,h2,h3,a4,a5]
theorem YF {P:Prop} (h:P:=by
 go_enter func66,ntmps66;go_wp2_with fail;rw [hW.out];refine (j5 _ _ _ _).mono ?_;rintro e w' ⟨rfl,rfl⟩;rw [HK.out];go_wp2;go_ret;exact ⟨qm HE.out.symm,hbW⟩):P:=h
theorem Wl {P:Prop} (h:P:=by
 go_wp2_with fail;refine (j5 _ _ _ _).mono ?_;rintro e w' ⟨rfl,rfl⟩;rw [HZ.out];go_wp2;go_ret;exact ⟨qm HE.out.symm,hbW⟩):P:=h
theorem fH (o:yo) (aI:Option Addr) (cI:Nat) (aR:Option Addr) (cR:Nat) (w:World) (hr:jd w aI cI aR cR o) (Ht:o.ints.length≤140737488355328) (hnR:o.refs.length≤140737488355328):
  Calls prog 66 #[.agg #[.int .i64 o.kind,.slice aI o.ints.length cI,.slice aR o.refs.length cR]] w fun e w'=>e=.returned (.bool (okB o))∧qa w w':=by
 obtain ⟨k,ints,refs⟩:=o;obtain ⟨hI,hR,_,_⟩:=hr;simp only at*
 obtain ⟨W,hW,b0,hbW,qD⟩:=qB w [.int .i64 k,.slice aI ints.length cI,.slice aR refs.length cR] 43;have hI':=hI.below hbW;have hR':=hR.below hbW;have x1:=b0.cell 1 _ rfl;have x2:=b0.cell 2 _ rfl;cases hk:inB k 1 99 with
 | false=>
  have HK:Hid (_=_):=hk;have HE:Hid (okB ⟨k,ints,refs⟩=false):=qbj hk;clear hk;exact YF
 | true=>
 have HK:Hid (_=_):=hk;clear hk;by_cases h5:ints.length≤5
 case neg=>
  have HE:Hid (okB ⟨k,ints,refs⟩=false):=qbk h5;exact YF
 case pos=>
 by_cases h6:refs.length≤5
 case neg=>
  have HE:Hid (okB ⟨k,ints,refs⟩=false):=qbl h6;exact YF
 case pos=>
 go_enter func66,ntmps66;go_wp2_with fail;rw [hW.out];refine (j5 _ _ _ _).mono ?_;rintro e w' ⟨rfl,rfl⟩;rw [HK.out];go_wp2
 go_loop [3] (fun i=>∃ j:Nat,j≤ints.length∧i=.int .i64 j∧Hid (∀ t,t<j→inB (ints.getD t 0) (-1000000) 1000000=true)) (fun i=>ints.length-(RowKit.intOf i).toNat)
 case atStart=>exact ⟨0,by omega,rfl,fun t ht=>by omega⟩
 case round=>
  obtain ⟨j,hj,rfl,hall⟩:=hrel;by_cases hlt:j<ints.length
  ·rcases hI'.cases with rfl | ⟨b,off,rfl,hpos,hcell⟩
   ·simp at hlt
   have hc:=hcell j hlt;clear hcell;cases hz:inB (ints.getD j 0) (-1000000) 1000000 with
   | false=>
    have HE:Hid (okB ⟨k,ints,refs⟩=false):=qdR j hlt hz;have HZ:Hid (_=_):=hz;clear hz;generalize ints.getD j 0=z at*
    exact Wl
   | true=>
    have HN:Hid (∀ t,t<j+1→inB (ints.getD t 0) (-1000000) 1000000=true):=by
     intro t ht;by_cases e:t=j
     ·rw [e];exact hz
     ·exact hall.out t (by omega)
    have HZ:Hid (_=_):=hz;clear hz;generalize ints.getD j 0=z at*
    go_wp2_with fail;refine (j5 _ _ _ _).mono ?_;rintro e w' ⟨rfl,rfl⟩;rw [HZ.out];go_wp2
    go_round
    case rel=>exact ⟨j+1,by omega,by go_num,HN⟩
    case measure=>simp [RowKit.intOf];omega
  ·have zw:Hid (∀ t,t<ints.length→inB (ints.getD t 0) (-1000000) 1000000=true):=fun t ht=>hall.out t (by omega)
   go_wp2
   go_loop [4] (fun i=>∃ j:Nat,j≤refs.length∧i=.int .i64 j∧Hid (∀ t,t<j→inB (refs.getD t 0) 0 31=true)) (fun i=>refs.length-(RowKit.intOf i).toNat)
   case atStart=>exact ⟨0,by omega,rfl,fun t ht=>by omega⟩
   case round=>
    obtain ⟨i,hi,rfl,qcC⟩:=hrel;by_cases hlt2:i<refs.length
    ·rcases hR'.cases with rfl | ⟨b,off,rfl,hpos,hcell⟩
     ·simp at hlt2
     have hc:=hcell i hlt2;clear hcell;cases hz:inB (refs.getD i 0) 0 31 with
     | false=>
      have HE:Hid (okB ⟨k,ints,refs⟩=false):=qdS i hlt2 hz;have HZ:Hid (_=_):=hz;clear hz;generalize refs.getD i 0=z at*
      exact Wl
     | true=>
      have HN:Hid (∀ t,t<i+1→inB (refs.getD t 0) 0 31=true):=by
       intro t ht;by_cases e:t=i
       ·rw [e];exact hz
       ·exact qcC.out t (by omega)
      have HZ:Hid (_=_):=hz;clear hz;generalize refs.getD i 0=z at*
      go_wp2_with fail;refine (j5 _ _ _ _).mono ?_;rintro e w' ⟨rfl,rfl⟩;rw [HZ.out];go_wp2
      go_round
      case rel=>exact ⟨i+1,by omega,by go_num,HN⟩
      case measure=>simp [RowKit.intOf];omega
    ·have HE:Hid (okB ⟨k,ints,refs⟩=true):=qbm HK.out h5 h6 zw.out (fun t ht=>qcC.out t (by simp only at ht;omega));go_wp2;go_ret;exact ⟨qm HE.out.symm,hbW⟩
def TR:Nat→Nat→List Int
 | 0,m=>[(m:Int)]
 | f+1,m=>if m<128 then [(m:Int)] else ((m % 128+128:Nat):Int)::TR f (m / 128)
def groups (m:Nat):List Int:=TR 64 m
def BC (n:Int):Int:=if n > 1000000000000 then 1000000000000 else if n < -1000000000000 then -1000000000000 else n
def zig (n:Int):Nat:=if 0≤BC n then (2*BC n).toNat else (-2*BC n-1).toNat
def sH (n:Int):List Int:=groups (zig n)
def TS (l:List Int):List Int:=sH l.length++l.flatMap sH
def qbn (o:yo):List Int:=if okB o then (sH o.kind++TS o.ints)++TS o.refs else []
def lead:List Int→Nat
 | []=>0
 | z::r=>if 128≤z then lead r+1 else 0
def valOf:List Int→Nat
 | []=>0
 | z::r=>(z % 128).toNat+128*valOf r
def qhV (m:Nat):Int:=if m % 2=0 then ((m / 2:Nat):Int) else -((m / 2:Nat):Int)-1
def qhW (L:List Int):Option (Int × Nat):=
 if lead L<L.length∧lead L<6∧¬ (0<lead L∧L.getD (lead L) 0=0)∧valOf (L.take (lead L+1))≤2000000000000 then some (qhV (valOf (L.take (lead L+1))),lead L+1) else none
def qhX (zs:List Int) (p:Int):Option (Int × Nat):=if 0≤p then (qhW (zs.drop p.toNat)).map fun r=>(r.1,p.toNat+r.2) else none
def qe0 (x:Nat):Nat:=if x % 2=1 then (x / 2) ^^^ 3988292384 else x / 2
def TU:Nat→Nat→Nat
 | 0,x=>x
 | k+1,x=>qe0 (TU k x)
def qdT (x:Nat) (c:Nat):Nat:=TU 8 (x ^^^ c)
def qhY (zs:List Int) (k:Nat):Nat:=(zs.take k).foldl (fun x c=>qdT x c.toNat) 4294967295
def qhZ (zs:List Int):Nat:=4294967295 ^^^ qhY zs zs.length
def yL (zs:List Int) (s:Int × Bool):Int × (Int × Bool):=match s.2,qhX zs s.1 with
 | false,some r=>(r.1,((r.2:Int),false))
 | _,_=>(0,(s.1,true))
def numsOf (zs:List Int):Nat→List Int→Int × Bool→List Int × (Int × Bool)
 | 0,l,s=>(l,s)
 | k+1,l,s=>if s.2 then (l,s) else numsOf zs k (l++[(yL zs s).1]) (yL zs s).2
def qh0 (b:Bool) (s:Int × Bool):Int × Bool:=(s.1,s.2 || b)
def Wm (zs:List Int) (most:Int) (s:Int × Bool):List Int × (Int × Bool):=
 numsOf zs (yL zs s).1.toNat [] (qh0 (!inB (yL zs s).1 0 most) (yL zs s).2)
def qdU (x k:Nat):Int:=((x / 256 ^ k % 256:Nat):Int)
def qe1 (x k:Nat):List Int:=(List.range k).map (qdU x)
def four (x:Nat):List Int:=qe1 x 4
def qmF (zs:List Int):List Int:=(sH zs.length++zs)++four (qhZ zs)
def fits (G:List Int):Prop:=G.length≤6∧¬ (1<G.length∧G.getD (G.length-1) 0=0)
structure qM where
 tx:Int
 last:Int
 aborts:Bool
def qM.cells (l:qM):List Value:=[.int .i64 l.tx,.int .i64 l.last,.bool l.aborts]
def qz:qM:=⟨0,0,false⟩
def jT (ls:List qM):List Value:=ls.flatMap qM.cells
theorem Kt (ls:List qM):(jT ls).length=ls.length*3:=by
 induction ls with
 | nil=>rfl
 | cons s r ih=>simp only [jT,qaY,qai,qM.cells,qcS,qdo] at *;omega
theorem Hu (a b:List qM):jT (a++b)=jT a++jT b:=by simp [jT]
theorem uT (ls:List qM) (k j:Nat) (hk:k<ls.length) (hj:j<3):(jT ls)[k*3+j]? =(ls.getD k qz).cells[j]? :=by
 induction ls generalizing k with
 | nil=>simp at hk
 | cons s r ih=>
  have e:jT (s::r)=s.cells++jT r:=by simp [jT]
  have l3:s.cells.length=3:=rfl;rw [e];cases k with
  | zero=>rw [qdx (by rw [l3];omega)];simp
  | succ k=>
   rw [qcQ (by rw [l3];omega),l3];have:=ih k (by simpa using hk);rw [show (k+1)*3+j-3=k*3+j by omega,this];simp
theorem iW (ls:List qM) (k:Nat) (hk:k<ls.length) (t:qM):
  (((jT ls).set (k*3) (.int .i64 t.tx)).set (k*3+1) (.int .i64 t.last)).set (k*3+2) (.bool t.aborts)=jT (ls.set k t):=by
 induction ls generalizing k with
 | nil=>simp at hk
 | cons s r ih=>
  cases k with
  | zero=>simp [jT,qM.cells]
  | succ k=>
   have:=ih k (by simpa using hk);have e2:∀ x,jT (s::x)=s.cells++jT x:=fun x=>by simp [jT]
   have l3:s.cells.length=3:=rfl;rw [e2,qdh _ _ (by rw [l3];omega),qdh _ _ (by rw [l3];omega),qdh _ _ (by rw [l3];omega),l3,show (k+1)*3-3=k*3 by omega,show (k+1)*3+1-3=k*3+1 by omega,show (k+1)*3+2-3=k*3+2 by omega,this,qe3,e2]
def kQ (w:World) (a:Option Addr) (ls:List qM):Prop:=ls≠[]→∃ b off,a=some ⟨b,off,none⟩∧∀ k,k<ls.length→w.cell? ⟨b,off+k*3,none⟩=some (.int .i64 (ls.getD k qz).tx)∧w.cell? ⟨b,off+k*3+1,none⟩=some (.int .i64 (ls.getD k qz).last)∧w.cell? ⟨b,off+k*3+2,none⟩=some (.bool (ls.getD k qz).aborts)
theorem kQ.nil (w:World) (a:Option Addr):kQ w a []:=fun h=>absurd rfl h
theorem kQ.below {w w':World} {a:Option Addr} {ls:List qM} (h:kQ w a ls) (hb:qa w w'):kQ w' a ls:=by
 intro hne;obtain ⟨b,off,ha,hc⟩:=h hne;refine ⟨b,off,ha,fun k hk=>?_⟩;obtain ⟨h0,h1,h2⟩:=hc k hk;have hlt:=block_lt h0;exact ⟨by rw [hb.cell (p:=⟨b,off+k*3,none⟩) hlt];exact h0,by rw [hb.cell (p:=⟨b,off+k*3+1,none⟩) hlt];exact h1,by rw [hb.cell (p:=⟨b,off+k*3+2,none⟩) hlt];exact h2⟩
theorem kQ.cases {w:World} {a:Option Addr} {ls:List qM} (h:kQ w a ls):ls=[]∨∃ b off,a=some ⟨b,off,none⟩∧0<ls.length∧∀ k,k<ls.length→w.cell? ⟨b,off+k*3,none⟩=some (.int .i64 (ls.getD k qz).tx)∧w.cell? ⟨b,off+k*3+1,none⟩=some (.int .i64 (ls.getD k qz).last)∧w.cell? ⟨b,off+k*3+2,none⟩=some (.bool (ls.getD k qz).aborts):=by
 by_cases e:ls=[]
 ·exact .inl e
 ·obtain ⟨b,off,ha,hc⟩:=h e;exact .inr ⟨b,off,ha,qe9.2 e,hc⟩
def OwnL (w:World) (lo hi:Nat) (a:Option Addr) (c:Nat) (ls:List qM):Prop:=
 w.ownsRow lo 115 3 (.slice a ls.length c) ls.length (jT ls)∧hi≤w.heap.size∧∀ k,(Value.slice a ls.length c).ownBlock=some k→k<hi
theorem OwnL.lt {w:World} {lo hi:Nat} {a:Option Addr} {c:Nat} {ls:List qM} (h:OwnL w lo hi a c ls):∀ k,(Value.slice a ls.length c).ownBlock=some k→lo≤k∧k<hi:=fun k hk=>⟨(h.1.lt k hk).1,h.2.2 k hk⟩
theorem OwnL.touch {w w':World} {lo hi:Nat} {a:Option Addr} {c:Nat} {ls:List qM} {bl:List Nat} (h:OwnL w lo hi a c ls) (ht:Touch bl w w') (hd:∀ k,(Value.slice a ls.length c).ownBlock=some k→k∉bl):OwnL w' lo hi a c ls:=
 ⟨xk h.1 (fun k hk=>ht.block k (h.1.lt k hk).2 (hd k hk)),qcx h.2.1 ht.size,h.2.2⟩
theorem OwnL.within {w w':World} {lo hi l r:Nat} {a:Option Addr} {c:Nat} {ls:List qM} (h:OwnL w lo hi a c ls) (hw:Within l r w w') (hd:hi≤l∨r≤lo):OwnL w' lo hi a c ls:=
 ⟨xk h.1 (fun k hk=>hw.block k (by have:=h.2.2 k hk;have:=h.2.1;omega) (by have:=h.lt k hk;omega)),qcx h.2.1 hw.size,h.2.2⟩
theorem OwnL.below {w w':World} {lo hi:Nat} {a:Option Addr} {c:Nat} {ls:List qM} (h:OwnL w lo hi a c ls) (hb:qa w w'):OwnL w' lo hi a c ls:=
 h.within (Within.of_below (lo:=w.heap.size) (hi:=w.heap.size) hb) (.inl h.2.1)
theorem OwnL.widen {w:World} {lo hi lo' hi':Nat} {a:Option Addr} {c:Nat} {ls:List qM} (h:OwnL w lo hi a c ls) (h1:lo'≤lo) (h2:hi≤hi') (h3:hi'≤w.heap.size):OwnL w lo' hi' a c ls:=
 ⟨xM h.1 (fun k hk=>by have:=h.lt k hk;omega),h3,fun k hk=>by have:=h.lt k hk;omega⟩
theorem K7 (w:World) (lo hi:Nat) (h:hi≤w.heap.size):OwnL w lo hi none 0 []:=⟨⟨by simp [jT],.inl ⟨rfl,rfl⟩⟩,h,fun k hk=>by cases hk⟩
theorem OwnL.Y9 {w:World} {lo hi:Nat} {a:Option Addr} {c:Nat} {ls:List qM} (h:OwnL w lo hi a c ls):a=none→c=0:=by
 intro ha;rcases h.1.2 with ⟨hv,_⟩ | ⟨g,cap,cur,hv,_⟩
 ·simp only [qcK] at hv;exact hv.2.2
 ·simp [ha] at hv
theorem dX {w:World} {base g n cap:Nat} {ls:List qM} (h:w.ownsRow base 115 3 (.slice (some ⟨g,0,none⟩) n cap) n (jT ls)) (hn:ls.length=n) (k:Nat) (hk:k<n):
  w.cell? ⟨g,k*3,none⟩=some (.int .i64 (ls.getD k qz).tx)∧w.cell? ⟨g,k*3+1,none⟩=some (.int .i64 (ls.getD k qz).last)∧w.cell? ⟨g,k*3+2,none⟩=some (.bool (ls.getD k qz).aborts)∧(∀ i,w.frozen? ⟨g,i,none⟩=false):=by
 have a0:=uT ls k 0 (by omega) (by omega);have a1:=uT ls k 1 (by omega) (by omega);have a2:=uT ls k 2 (by omega) (by omega);simp only [qM.cells,Nat.add_zero,qfQ,qdI] at a0 a1 a2;exact ⟨by rw [h.cellAt (k*3) (by omega)];exact a0,by rw [h.cellAt (k*3+1) (by omega)];exact a1,by rw [h.cellAt (k*3+2) (by omega)];exact a2,fun i=>h.frozenAt i⟩
theorem Dg {w:World} {base g n cap:Nat} {ls:List qM} (h:w.ownsRow base 115 3 (.slice (some ⟨g,0,none⟩) n cap) n (jT ls)) (hn:ls.length=n) (k:Nat) (hk:k<n) (t:qM):
  ∃ W,Hid (((w.setCell ⟨g,k*3,none⟩ (.int .i64 t.tx)).setCell ⟨g,k*3+1,none⟩ (.int .i64 t.last)).setCell ⟨g,k*3+2,none⟩ (.bool t.aborts)=W)∧W.ownsRow base 115 3 (.slice (some ⟨g,0,none⟩) n cap) n (jT (ls.set k t))∧w.grownBy W (some g):=by
 have s1:=h.stored (k*3) (.int .i64 t.tx);have s2:=s1.1.stored (k*3+1) (.int .i64 t.last);have s3:=s2.1.stored (k*3+2) (.bool t.aborts);refine ⟨_,rfl,?_,grownBy_trans (grownBy_trans s1.2 s2.2) s3.2⟩;have:=s3.1;rw [iW ls k (by omega) t] at this;exact this
theorem OwnL.reads {w:World} {lo hi:Nat} {a:Option Addr} {c:Nat} {ls:List qM} (h:OwnL w lo hi a c ls):kQ w a ls:=by
 intro hne;rcases h.1.2 with ⟨_,h0⟩ | ⟨g,cap',cur,hv,hb,hg,hr⟩
 ·exact absurd (qcI.1 h0) hne
 ·simp only [qcK] at hv;obtain ⟨rfl,_,rfl⟩:=hv;refine ⟨g,0,rfl,fun k hk=>?_⟩;obtain ⟨a0,a1,a2,_⟩:=dX h.1 rfl k hk;rw [qeK];exact ⟨a0,a1,a2⟩
theorem iX (l:qM) (w:World):
  Calls prog 74 #[.agg l.cells.toArray] w fun e w'=>e=.returned (.agg l.cells.toArray)∧qa w w':=by
 obtain ⟨x,y,z⟩:=l;simp only [qM.cells];obtain ⟨W,hW,b0,b1,b2,hbW,qD⟩:=yK w [.int .i64 x,.int .i64 y,.bool z] [.int .i64 x,.int .i64 y,.bool z] [.int .i64 x,.int .i64 y,.bool z] 130 115 115;obtain ⟨q0,q1,q2,_⟩:=b1.three;clear b0 b2 qD;go_enter func74,ntmps74;go_wp2;rw [hW.out];exact qa3 (v:=.agg #[.int .i64 x,.int .i64 y,.bool z]) (by simp [results,results74,go_sem,q0,q1,q2]) rfl ⟨rfl,hbW⟩
theorem R5 (n:Nat):(madeCells #[.int .i64 0,.int .i64 0,.bool false] (n*3)).toList=jT (List.replicate n qz):=by
 apply qgc;intro i;by_cases h:i<n*3
 ·have e:=uT (List.replicate n qz) (i / 3) (i % 3) (by simp;omega) (qfc _ (by omega));rw [show i / 3*3+i % 3=i by omega] at e;rw [e];have hg:(List.replicate n qz).getD (i / 3) qz=qz:=by simp [List.getD,show i / 3<n by omega]
  rw [hg];simp only [madeCells,Array.toList_map,qdy,Array.toList_range,List.getElem?_range h,qfS,qM.cells,qz];have:i % 3<3:=qfc _ (by omega);show some (#[Value.int .i64 0,.int .i64 0,.bool false][i % 3]!)=_;rcases (by omega:i % 3=0∨i % 3=1∨i % 3=2) with h' | h' | h'<;>rw [h']<;>rfl
 ·rw [qeE (by simp [size_madeCells];omega),qeE (by rw [Kt];simp;omega)]
theorem Dh (n:Nat):(madeCells (Value.agg #[.int .i64 0,.int .i64 0,.bool false]).cells (n*3)).toList=jT (List.replicate n qz):=R5 n
def QY (ls:List qM) (k:Nat):List qM:=ls.take k++List.replicate (ls.length-k) qz
theorem IZ (ls:List qM) (k:Nat) (h:k≤ls.length):(QY ls k).length=ls.length:=by simp [QY];omega
theorem I4 (ls:List qM):QY ls ls.length=ls:=by simp [QY]
theorem iY (ls:List qM):QY ls 0=List.replicate ls.length qz:=by simp [QY]
theorem I5 (ls:List qM) (k:Nat) (h:k<ls.length):(QY ls k).set k (ls.getD k qz)=QY ls (k+1):=by
 unfold QY;rw [qgo,qa2 (by simp;omega),qdb h];have e:ls.length-k=(ls.length-(k+1))+1:=by omega
 have e2:k-(List.take k ls).length=0:=by simp;omega
 rw [e2,e,qfl,qdL];simp only [List.getD,h,qcG,qe7,qcJ,qdr]
theorem Tryz.dY:(prog.info? 115).map (fun i=>(i.zero,i.size,i.bytes))=some (some (.agg #[.int .i64 0,.int .i64 0,.bool false]),3,24):=by kernel_rfl
theorem nk (a:Option Addr) (cap:Nat) (ls:List qM) (w:World) (hr:kQ w a ls) (hl:ls.length≤1099511627776):
  Calls prog 31 #[.slice a ls.length cap] w fun e w'=>∃ a' c',e=.returned (.slice a' ls.length c')∧OwnL w' w.heap.size w'.heap.size a' c' ls∧qa w w':=by
 obtain ⟨i0,hi,hz0,hz1,hz2⟩:=qft Tryz.dY;rcases hr.cases with rfl | ⟨b,off,rfl,hpos,hcell⟩
 ·go_enter func31,ntmps31;go_wp2_with (at_make;refine qe6 _ rfl _ _ 56 rfl w.heap.size 115 i0 (.agg #[.int .i64 0,.int .i64 0,.bool false]) 3 underlying56 hi hz0 hz1 _ _ _ _ 0 rfl rfl (by simp) (by simp) (by omega) (by simp [maxLen]) qg ?_);intro w0 hown0 xy;go_wp2;refine qdp 1 ?_;rw [qdC];go_wp2;go_ret;have ho:w0.ownsRow w.heap.size 115 3 (.slice (some ⟨w.heap.size,0,none⟩) 0 0) 0 (jT []):=by
   have e:=Dh 0;simp only [qgm] at e;rw [← e];exact hown0
  exact ⟨_,_,rfl,⟨ho,qcN _,fun k hk=>(ho.lt k hk).2⟩,(qab _ _).grown xy qg (fun k h=>by cases h)⟩
 ·have KZ:b<w.heap.size:=block_lt (hcell 0 hpos).1;go_enter func31,ntmps31;go_wp2_with (at_make;refine qe6 _ rfl _ _ 56 rfl w.heap.size 115 i0 (.agg #[.int .i64 0,.int .i64 0,.bool false]) 3 underlying56 hi hz0 hz1 _ _ _ _ ls.length rfl rfl rfl rfl (by rw [hz2];omega) (by simp [maxLen];omega) qg ?_);intro w0 hown0 xy;have hown1:w0.ownsRow w.heap.size 115 3 (.slice (some ⟨w.heap.size,0,none⟩) ls.length ls.length) ls.length (jT (QY ls 0)):=by
   rw [iY,← Dh];exact hown0
  have hb0:qa w w0:=(qab _ _).grown xy qg (fun k h=>by cases h);clear hown0 xy;go_wp2;go_loopw [4] (fun i wr=>∃ k:Nat,k≤ls.length∧i=.int .i64 k∧wr.ownsRow w.heap.size 115 3 (.slice (some ⟨w.heap.size,0,none⟩) ls.length ls.length) ls.length (jT (QY ls k))∧qa w wr)
   (fun i _=>ls.length-(intOf i).toNat)
  case atStart=>exact ⟨0,qaw _,rfl,hown1,hb0⟩
  case round=>
   obtain ⟨k,hk,rfl,hown,hnx⟩:=hrel;by_cases hlt:k<ls.length
   ·obtain ⟨c0,c1,c2⟩:=hcell k hlt;have d0:wr.cell? ⟨b,off+k*3,none⟩=_:=(hnx.cell (by exact KZ)).trans c0;have d1:wr.cell? ⟨b,off+k*3+1,none⟩=_:=(hnx.cell (by exact KZ)).trans c1;have d2:wr.cell? ⟨b,off+k*3+2,none⟩=_:=(hnx.cell (by exact KZ)).trans c2;have hp:=IZ ls k hk;have BF:Hid ((QY ls k).set k (ls.getD k qz)=QY ls (k+1)):=I5 ls k hlt;clear c0 c1 c2 hcell hown1 hb0;generalize ls.getD k qz=z at*
    have C:=iX z wr;simp only [qM.cells] at C;go_wp2_with fail;refine C.mono ?_;clear C d0 d1 d2;rintro e w1 ⟨rfl,hb1⟩;have VO:=xk hown (fun j hj=>hb1.block j (hown.lt j hj).2);obtain ⟨x0,x1,x2,hfz⟩:=dX VO hp k hlt;have f0:=hfz (k*3);have f1:=hfz (k*3+1);have f2:=hfz (k*3+2);obtain ⟨W2,hW2,ho2,hg2⟩:=Dg VO hp k hlt z;rw [BF.out] at ho2;have hB2:qa w W2:=(qf hnx hb1).grown hg2 (by have:=hnx.size;have:=hb1.size;omega) (fun j hj=>by cases hj;omega);have HH:Hid (_∧_):=⟨ho2,hB2⟩;clear ho2 hB2 hg2 hfz VO hown hb1 hnx BF;generalize (QY ls k).getD k qz=old at*
    go_wp2_with fail;rw [hW2.out];go_roundw
    case rel=>exact ⟨k+1,by omega,by go_num,HH.out.1,HH.out.2⟩
    case measure=>simp [intOf];omega
   ·have HE:Hid (wr.ownsRow w.heap.size 115 3 (.slice (some ⟨w.heap.size,0,none⟩) ls.length ls.length) ls.length (jT ls)):=by
     have e:k=ls.length:=by omega
     rw [e,I4] at hown;exact hown
    go_wp2;go_ret;exact ⟨_,_,rfl,⟨HE.out,qcN _,fun k hk=>(HE.out.lt k hk).2⟩,hnx⟩
theorem R7 (l:qM) (w:World):
  Calls prog 93 #[.agg l.cells.toArray,.agg l.cells.toArray] w fun e w'=>e=.returned (.bool true)∧qa w w':=by
 obtain ⟨x,y,z⟩:=l;simp only [qM.cells];obtain ⟨W,hW,b0,b1,hbW,qD⟩:=jK w [.int .i64 x,.int .i64 y,.bool z] [.int .i64 x,.int .i64 y,.bool z] 115 115;clear b0 b1 qD;go_enter func93,ntmps93;go_wp2;rw [hW.out];go_ret;exact ⟨rfl,hbW⟩
theorem Wn (a b:Option Addr) (ca cb:Nat) (ls:List qM) (w:World) (ha:kQ w a ls) (hb:kQ w b ls) (hl:ls.length≤1099511627776):
  Calls prog 44 #[.slice a ls.length ca,.slice b ls.length cb] w fun e w'=>e=.returned (.bool true)∧qa w w':=by
 rcases ha.cases with rfl | ⟨b1,o1,rfl,hpos,hc1⟩
 ·go_enter func44,ntmps44;go_wp2;refine qdp 1 ?_;rw [qdC];go_wp2;go_ret;exact ⟨rfl,qab _ _⟩
 ·rcases hb.cases with rfl | ⟨b2,o2,rfl,_,hc2⟩
  ·simp at hpos
  ·go_enter func44,ntmps44;go_wp2;go_loopw [5] (fun i wr=>∃ k:Nat,k≤ls.length∧i=.int .i64 k∧qa w wr) (fun i _=>ls.length-(intOf i).toNat)
   case atStart=>exact ⟨0,qaw _,rfl,qab _ _⟩
   case round=>
    obtain ⟨k,hk,rfl,hbl⟩:=hrel;by_cases hlt:k<ls.length
    ·have h1:=hc1 k hlt;have h2:=hc2 k hlt;clear hc1 hc2;generalize ls.getD k qz=z at*
     have HS:Hid (∀ w1,qa w w1→(w1.cell? ⟨b1,o1+k*3,none⟩=some (.int .i64 z.tx)∧w1.cell? ⟨b1,o1+k*3+1,none⟩=some (.int .i64 z.last)∧w1.cell? ⟨b1,o1+k*3+2,none⟩=some (.bool z.aborts))∧(w1.cell? ⟨b2,o2+k*3,none⟩=some (.int .i64 z.tx)∧w1.cell? ⟨b2,o2+k*3+1,none⟩=some (.int .i64 z.last)∧w1.cell? ⟨b2,o2+k*3+2,none⟩=some (.bool z.aborts))):=fun w1 hh=>
      ⟨⟨(hh.cell (block_lt h1.1)).trans h1.1,(hh.cell (block_lt h1.2.1)).trans h1.2.1,(hh.cell (block_lt h1.2.2)).trans h1.2.2⟩,(hh.cell (block_lt h2.1)).trans h2.1,(hh.cell (block_lt h2.2.1)).trans h2.2.1,(hh.cell (block_lt h2.2.2)).trans h2.2.2⟩
     have hh:=HS.out wr hbl;clear h1 h2;go_wp2_with fail
     go_region_held3 (fun w1=>(w1.cell? ⟨b1,o1+k*3,none⟩=some (.int .i64 z.tx)∧w1.cell? ⟨b1,o1+k*3+1,none⟩=some (.int .i64 z.last)∧w1.cell? ⟨b1,o1+k*3+2,none⟩=some (.bool z.aborts))∧(w1.cell? ⟨b2,o2+k*3,none⟩=some (.int .i64 z.tx)∧w1.cell? ⟨b2,o2+k*3+1,none⟩=some (.int .i64 z.last)∧w1.cell? ⟨b2,o2+k*3+2,none⟩=some (.bool z.aborts)))
      (first | exact HS.out _ hw2 | go_keep | fail)
      ((first | (go_at_call 93;refine (R7 z _).mono ?_;rintro e w2 ⟨rfl,hb2⟩;have hw2:qa w w2:=(hbl.drew).trans (hb2.mono hbl.size)) | fail))
     all_goals
      go_wp2_with fail;go_roundw
      case rel=>exact ⟨k+1,by omega,by go_num,hw2⟩
      case measure=>simp [intOf];omega
    ·go_wp2;go_ret;exact ⟨rfl,hbl⟩
def zn (n:Nat) (left:Int):Int:=if left-n<0 then -1 else left-n
theorem BG {P:Prop} (h:P:=by
 go_enter func61,ntmps61;go_wp2;go_ret;exact ⟨jN HS.out.symm,rfl⟩):P:=h
theorem VP (a:Option Addr) (c n:Nat) (left:Int) (w:World) (hn:n≤9223372036854775807) (h0:0≤left∧left≤1048576):
  Calls prog 61 #[.slice a n c,.int .i64 left] w fun e w'=>e=.returned (.int .i64 (zn n left))∧w'=w:=by
 by_cases h:left-n<0
 ·have HS:Hid (zn n left= -1):=by unfold zn;rw [Hid,qan h]
  exact BG
 ·have HS:Hid (zn n left=left-n):=by unfold zn;rw [Hid,qa2 h]
  exact BG
def QR (o:yo) (left:Int):Int:=if left-o.ints.length<0 then -1 else if left-o.ints.length-o.refs.length<0 then -1 else left-o.ints.length-o.refs.length
theorem BH {P:Prop} (h:P:=by
 go_enter func20,ntmps20;go_wp2_with fail;rw [hW.out];refine (VP aI cI ints.length left W Ht h0).mono ?_;rintro e w' ⟨rfl,rfl⟩;rw [HZ.out];go_wp2_with fail;refine (VP aR cR refs.length (left-ints.length) _ hnR (by omega)).mono ?_;rintro e w' ⟨rfl,rfl⟩;rw [HZ2.out];go_wp2;go_ret;exact ⟨jN HS.out.symm,hbW⟩):P:=h
theorem I6 (o:yo) (aI:Option Addr) (cI:Nat) (aR:Option Addr) (cR:Nat) (left:Int) (w:World) (Ht:o.ints.length≤9223372036854775807) (hnR:o.refs.length≤9223372036854775807) (h0:0≤left∧left≤1048576):
  Calls prog 20 #[.agg #[.int .i64 o.kind,.slice aI o.ints.length cI,.slice aR o.refs.length cR],.int .i64 left] w fun e w'=>e=.returned (.int .i64 (QR o left))∧qa w w':=by
 obtain ⟨k,ints,refs⟩:=o;simp only at*
 obtain ⟨W,hW,b0,hbW,qD⟩:=qB w [.int .i64 k,.slice aI ints.length cI,.slice aR refs.length cR] 24;have c2:=b0.cell 2 _ rfl;by_cases h:left-ints.length<0
 ·have HS:Hid (QR ⟨k,ints,refs⟩ left= -1):=by unfold QR;rw [Hid,qan h]
  have HZ:Hid (zn ints.length left= -1):=by unfold zn;rw [Hid,qan h]
  go_enter func20,ntmps20;go_wp2_with fail;rw [hW.out];refine (VP aI cI ints.length left W Ht h0).mono ?_;rintro e w' ⟨rfl,rfl⟩;rw [HZ.out];go_wp2;go_ret;exact ⟨jN HS.out.symm,hbW⟩
 ·have HZ:Hid (zn ints.length left=left-ints.length):=by unfold zn;rw [Hid,qa2 h]
  have hn1:¬ left<ints.length:=by omega
  by_cases h2:left-ints.length-refs.length<0
  ·have HS:Hid (QR ⟨k,ints,refs⟩ left= -1):=by unfold QR;rw [Hid,qa2 h,qan h2]
   have HZ2:Hid (zn refs.length (left-ints.length)= -1):=by unfold zn;rw [Hid,qan h2]
   exact BH
  ·have HS:Hid (QR ⟨k,ints,refs⟩ left=left-ints.length-refs.length):=by unfold QR;rw [Hid,qa2 h,qa2 h2]
   have HZ2:Hid (zn refs.length (left-ints.length)=left-ints.length-refs.length):=by unfold zn;rw [Hid,qa2 h2]
   exact BH
theorem qcD {xs ys:List Int} (j:Nat) (h:xs.getD j 0≠ys.getD j 0):decide (xs=ys)=false:=by
 rw [decide_eq_false_iff_not];intro e;exact h (by rw [e])
theorem I7 {xs ys:List Int} (h:xs.length≠ys.length):decide (xs=ys)=false:=by
 rw [decide_eq_false_iff_not];intro e;exact h (by rw [e])
theorem I8 {xs ys:List Int} (hl:xs.length=ys.length) (h:∀ t,t<xs.length→xs.getD t 0=ys.getD t 0):decide (xs=ys)=true:=by
 rw [qcB];apply List.ext_getElem hl;intro i h1 h2;have:=h i h1
 simpa [List.getD,h1,h2] using this
theorem Vm (a b:Option Addr) (ca cb:Nat) (xs ys:List Int) (w:World) (ha:xH w a xs) (hb:xH w b ys) (hl:xs.length≤1099511627776) (hl2:ys.length≤1099511627776):
  Calls prog 196 #[.slice a xs.length ca,.slice b ys.length cb] w fun e w'=>e=.returned (.bool (decide (xs=ys)))∧∃ n,w'=w.drewN n:=by
 by_cases hle:xs.length=ys.length
 case neg=>
  have HE:Hid (_=_):=I7 hle;have Wd:((xs.length:Int) == (ys.length:Int))=false:=by simp;omega
  go_enter func196,ntmps196;go_wp2;go_ret;exact ⟨qm HE.out.symm,0,rfl⟩
 case pos=>
 have HL:Hid (xs.length=ys.length):=hle;have Wd:((xs.length:Int) == (ys.length:Int))=true:=by simp;omega
 rcases ha.cases with rfl | ⟨b1,o1,rfl,hpos,hc1⟩
 ·obtain rfl:ys=[]:=qcI.1 (by simpa using hle.symm);have HE:Hid (decide (([]:List Int)=[])=true):=by simp [Hid]
  clear hle Wd HL;go_enter func196,ntmps196;go_wp2;refine qdp 1 ?_;rw [qdC];go_wp2;go_ret;exact ⟨qm HE.out.symm,0,rfl⟩
 ·rcases hb.cases with rfl | ⟨b2,o2,rfl,_,hc2⟩
  ·simp at hle;simp [hle] at hpos
  ·clear hle;go_enter func196,ntmps196;go_wp2;go_loopw [5] (fun i wr=>∃ k:Nat,k≤xs.length∧i=.int .i64 k∧Hid (∀ t,t<k→xs.getD t 0=ys.getD t 0)∧∃ n,wr=w.drewN n) (fun i _=>xs.length-(RowKit.intOf i).toNat)
   case atStart=>exact ⟨0,qaw _,rfl,fun t ht=>by omega,0,rfl⟩
   case round=>
    obtain ⟨k,hk,rfl,hall,n,rfl⟩:=hrel;by_cases hlt:k<xs.length
    ·have h1:=hc1 k hlt;have h2:=hc2 k (by have:=HL.out;omega);have hlt2:(k:Int)<(ys.length:Int):=by have:=HL.out;omega
     clear hc1 hc2;by_cases hz:xs.getD k 0=ys.getD k 0
     ·have HN:Hid (∀ t,t<k+1→xs.getD t 0=ys.getD t 0):=by
       intro t ht;by_cases e:t=k
       ·rw [e];exact hz
       ·exact hall.out t (by omega)
      rw [← hz] at h2;clear hz;generalize xs.getD k 0=z at*
      go_wp2
      go_quiet (fail)
      go_wp2;go_roundw
      case rel=>exact ⟨k+1,by omega,by go_num,HN,_,rfl⟩
      case measure=>simp [RowKit.intOf];omega
     ·have HE:Hid (_=_):=qcD k hz;have hzb:(xs.getD k 0 == ys.getD k 0)=false:=by simpa using hz
      clear hz;generalize xs.getD k 0=z at*
      generalize ys.getD k 0=y at*
      go_wp2
      go_quiet (fail)
      go_wp2;go_ret;exact ⟨qm HE.out.symm,n+nq,by first | rfl | simp⟩
    ·have HE:Hid (_=_):=I8 HL.out (fun t ht=>hall.out t (by omega));go_wp2;go_ret;exact ⟨qm HE.out.symm,n,rfl⟩
def zR (a b:yo):Bool:=decide (a.kind=b.kind) && (decide (a.ints=b.ints) && decide (a.refs=b.refs))
theorem Zn (o p:yo) (aI:Option Addr) (cI:Nat) (aR:Option Addr) (cR:Nat) (bI:Option Addr) (dI:Nat) (bR:Option Addr) (dR:Nat) (w:World) (ha:jd w aI cI aR cR o) (hb:jd w bI dI bR dR p) (h1:o.ints.length≤1099511627776) (h2:o.refs.length≤1099511627776) (h3:p.ints.length≤1099511627776) (h4:p.refs.length≤1099511627776):
  Calls prog 172 #[.agg #[.int .i64 o.kind,.slice aI o.ints.length cI,.slice aR o.refs.length cR],.agg #[.int .i64 p.kind,.slice bI p.ints.length dI,.slice bR p.refs.length dR]] w fun e w'=>e=.returned (.bool (zR o p))∧qa w w':=by
 obtain ⟨k,ints,refs⟩:=o;obtain ⟨k',Jt,refs'⟩:=p;obtain ⟨Dc,De,_,_⟩:=ha;obtain ⟨Df,hbR,_,_⟩:=hb;simp only at*
 obtain ⟨W,hW,b0,b1,hbW,qD⟩:=jK w [.int .i64 k,.slice aI ints.length cI,.slice aR refs.length cR] [.int .i64 k',.slice bI Jt.length dI,.slice bR refs'.length dR] 43 43;by_cases hk:k=k'
 case neg=>
  have HE:Hid (zR ⟨k,ints,refs⟩ ⟨k',Jt,refs'⟩=false):=by simp [Hid,zR,hk]
  have hkb:(k == k')=false:=by simpa using hk
  clear hk;go_enter func172,ntmps172;go_wp2;go_ret;exact ⟨qm HE.out.symm,by rw [hW.out];exact hbW⟩
 case pos=>
 subst hk;have HE:Hid (zR ⟨k,ints,refs⟩ ⟨k,Jt,refs'⟩=(decide (ints=Jt) && decide (refs=refs'))):=by simp [Hid,zR]
 go_enter func172,ntmps172;go_wp2_with fail;rw [hW.out];refine (Vm aI bI cI dI ints Jt W (Dc.below hbW) (Df.below hbW) h1 h3).mono ?_;rintro e w1 ⟨rfl,n1,rfl⟩;have c0:=(b0.drewN n1).cell 2 _ rfl;have c1:=(b1.drewN n1).cell 2 _ rfl;have hb1:qa w (W.drewN n1):=qfI hbW n1;cases hd:decide (ints=Jt) with
 | false=>
  rw [hd] at HE;clear hd;go_wp2;go_ret;exact ⟨qm (by rw [HE.out];rfl),hb1⟩
 | true=>
  rw [hd] at HE;clear hd;go_wp2_with fail;refine (Vm aR bR cR dR refs refs' (W.drewN n1) (De.below hb1) (hbR.below hb1) h2 h4).mono ?_;rintro e w2 ⟨rfl,n2,rfl⟩;generalize decide (refs=refs')=D at*
  go_wp2;go_ret;exact ⟨qm (by rw [HE.out];rfl),qfI hbW (n1+n2)⟩
end Go.Proofs.YtnfdccldabbobaaGreatDoor
