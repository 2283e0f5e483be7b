/- Several texts in one, in their order. -/
import Derived.Test.YtjaojcgfgkppgaaGreatDoorPart6
import Derived.Test.YtjaojcgfgkppgaaGreatDoorPart7
import Derived.Test.YtjaojcgfgkppgaaGreatDoorPart2
import Derived.Test.YtjaojcgfgkppgaaGreatDoorPart4
import Derived.Deep.QuietTactic
import Derived.BigQuiet
import Derived.Test.YtjaojcgfgkppgaaGreatDoorPart1
import Derived.Deep.AppendLies
import Derived.Laws.AppendOwnNone
import Derived.Deep.RegionHeld3
import Derived.Laws.CopyOwn
import Derived.Test.YtjaojcgfgkppgaaGreatDoorPart3
/- Plain mathematics of SetSlot; results that are a page and a flag. -/
namespace Go.Proofs.YtjaojcgfgkppgaaGreatDoor
open Go.RowKit

def setOk (n : Int) (vs : List SlotV) (slot : Int) (s : SlotV) (lsn : Int) : Bool := okP n vs && (inB slot 0 3 && (slotB s && inB lsn n 1000000))
def setOf (n : Int) (vs : List SlotV) (slot : Int) (s : SlotV) (lsn : Int) : Int × List SlotV := if setOk n vs slot s lsn then (lsn, vs.set slot.toNat s) else (n, vs)
theorem setOf_no {n : Int} {vs : List SlotV} {slot : Int} {s : SlotV} {lsn : Int} (h : setOk n vs slot s lsn = false) : setOf n vs slot s lsn = (n, vs) := by unfold setOf; rw [if_neg (by rw [h]; decide)]
theorem setOf_ok {n : Int} {vs : List SlotV} {slot : Int} {s : SlotV} {lsn : Int} (h : setOk n vs slot s lsn = true) : setOf n vs slot s lsn = (lsn, vs.set slot.toNat s) := by unfold setOf; rw [if_pos h]
theorem setOk_p {n : Int} {vs : List SlotV} {slot : Int} {s : SlotV} {lsn : Int} (h : okP n vs = false) : setOk n vs slot s lsn = false := by simp [setOk, h]
theorem setOk_slot {n : Int} {vs : List SlotV} {slot : Int} {s : SlotV} {lsn : Int} (h : inB slot 0 3 = false) : setOk n vs slot s lsn = false := by simp [setOk, h]
theorem setOk_s {n : Int} {vs : List SlotV} {slot : Int} {s : SlotV} {lsn : Int} (h : slotB s = false) : setOk n vs slot s lsn = false := by simp [setOk, h]
theorem setOk_lsn {n : Int} {vs : List SlotV} {slot : Int} {s : SlotV} {lsn : Int} (h : inB lsn n 1000000 = false) : setOk n vs slot s lsn = false := by simp [setOk, h]
theorem setOk_all {n : Int} {vs : List SlotV} {slot : Int} {s : SlotV} {lsn : Int} (h1 : okP n vs = true) (h2 : inB slot 0 3 = true) (h3 : slotB s = true) (h4 : inB lsn n 1000000 = true) : setOk n vs slot s lsn = true := by simp [setOk, h1, h2, h3, h4]

theorem results_cell_flag {P : Program} {fn : Func} {s t : Nat} {ty : TypeId} {tmps : Array Value} {w : World} {v b : Value} {ad : Addr} (hf : fn.results = #[.cell s ty, .tmp t]) (ht : tmps[s]?.getD undef = .pointer (some ad)) (hl : (loadVar ty ad).run P w = .ok v w) (hb : tmps[t]?.getD undef = b) : (results fn tmps).run P w = .ok (.tuple #[v, b]) w := by
  unfold results
  rw [hf]
  simp [ht, asAddr, hl, hb]

/-- A whole value loaded where a guard stands ahead of it that lets it by. -/
theorem wpList_load_mid_if {ops : Array Oper} {rest : List Oper} {op : Oper} {a : Act} {w : World} {Q : Exit → Act → World → Prop} {P : Program} (hw : Region.wanted op (yielded ops a.tmps) = true) (ty : TypeId) (x : Operand) (ho : op.op = .load ty x)
    (b o : Nat) (hx : a.eval x = .pointer (some ⟨b, o, none⟩)) (cs : List Value) (d : TypeDesc) (hc : w.rangeAt b o cs)
    (hu : P.underlying ty = some d) (hd : d.isRow = true) (hi : (P.info? ty).map (·.size) = some cs.length)
    (h : wpList P ops Q rest (a.put op.dst (.agg cs.toArray)) w) : wpList P ops Q (op :: rest) a w :=
  wpList_step fun _ hK => by
    simp only [hw, if_true]
    exact wp_load_mid ty x ho b o hx cs d hc hu hd hi (hK _ _ h)

def zero17 : List Value := [.int .i64 0, .bool false, .int .i64 0, .slice none 0 0, .slice none 0 0, .bool false, .int .i64 0, .slice none 0 0, .slice none 0 0, .bool false, .int .i64 0, .slice none 0 0, .slice none 0 0, .bool false, .int .i64 0, .slice none 0 0, .slice none 0 0]

/-- A page at B is stored at C, which holds a page: what is there then, and what the result reads. -/
theorem page_out {w : World} {C : Nat} {T : TypeId} {d : TypeDesc} (q : PageA) (hq : q.ss.length = 4) (old : List Value) (ho : old.length = 17) (bC : Box w C old T) (hu : Tryz.prog.underlying T = some d) (hd : d.isRow = true) (hi : (Tryz.prog.info? T).map (·.size) = some 17) :
    ∃ WF, Hid (w.setCells C 0 q.cells = WF) ∧ Within C (C + 1) w WF ∧ WF.heap.size = w.heap.size ∧ Hid (w.there C 0 q.cells.toArray.size) ∧ Hid ((loadVar T ⟨C, 0, none⟩).run Tryz.prog WF = .ok (.agg q.cells.toArray) WF) ∧ Box WF C q.cells T := by
  have hl : q.cells.length = 17 := page_len q hq
  obtain ⟨WF, hWF, bF, hwF, hsF⟩ := range_fill [] old q.cells [] (by simpa using bC) (by rw [hl, ho])
  have bF' : Box WF C q.cells T := by simpa using bF
  refine ⟨WF, hWF, hwF, hsF, bC.there 0 _ (by rw [List.size_toArray, hl, ho]; omega), ?_, bF'⟩
  exact run_loadVar_mid (P := Tryz.prog) WF C 0 T q.cells d (Box.range [] q.cells [] (by simpa using bF')) hu hd (by rw [hi, hl])
end Go.Proofs.YtjaojcgfgkppgaaGreatDoor

/- The cursor of a draw: what spec.l1Byte and spec.l1Below answer and leave. -/
namespace Go.Proofs.YtjaojcgfgkppgaaGreatDoor
open Go.RowKit

theorem cell_of3 {w : World} {B : Nat} {v0 v1 v2 : Value} {t : TypeId} (h : w.heap[B]? = some (.cells #[v0, v1, v2] t (0, 0))) :
    w.cell? ⟨B, 0, none⟩ = some v0 ∧ w.cell? ⟨B, 1, none⟩ = some v1 ∧ w.cell? ⟨B, 2, none⟩ = some v2 ∧ (∀ o, w.frozen? ⟨B, o, none⟩ = false) := by
  refine ⟨?_, ?_, ?_, fun o => ?_⟩
  · simp [World.cell?, h]
  · simp [World.cell?, h]
  · simp [World.cell?, h]
  · simp [World.frozen?, h]

theorem set_of3 {w : World} {B : Nat} {v0 v1 v2 u : Value} {t : TypeId} (h : w.heap[B]? = some (.cells #[v0, v1, v2] t (0, 0))) :
    (w.setCell ⟨B, 1, none⟩ u).heap[B]? = some (.cells #[v0, u, v2] t (0, 0)) ∧ (w.setCell ⟨B, 2, none⟩ u).heap[B]? = some (.cells #[v0, v1, u] t (0, 0)) := by
  constructor
  · rw [heap_setCell_same w B 1 _ t u h]; simp
  · rw [heap_setCell_same w B 2 _ t u h]; simp

theorem grown_set (w : World) (B o : Nat) (u : Value) : w.grownBy (w.setCell ⟨B, o, none⟩ u) (some B) :=
  ⟨rfl, rfl, rfl, by simp, fun k _ hk => heap_setCell_other w ⟨B, o, none⟩ k u (fun e => hk (by simp [e]))⟩

theorem grown_drew_set (w : World) (n B o : Nat) (u : Value) : w.grownBy ((w.drewN n).setCell ⟨B, o, none⟩ u) (some B) :=
  ⟨rfl, rfl, rfl, by simp, fun k _ hk => heap_setCell_other (w.drewN n) ⟨B, o, none⟩ k u (fun e => hk (by simp [e]))⟩

theorem Reads.grown {w w' : World} {a : Option Addr} {zs : List Int} {B : Nat} (h : Reads w a zs) (hg : w.grownBy w' (some B)) (hne : zs ≠ [] → ∀ b off, a = some ⟨b, off, none⟩ → b ≠ B) : Reads w' a zs := by
  refine ⟨h.1, fun e => ?_⟩
  obtain ⟨b, off, ha, hc⟩ := h.2 e
  refine ⟨b, off, ha, fun i hi => hg.cell (hc i hi) ?_⟩
  intro he
  exact hne e b off ha (Option.some.inj he)

theorem grownBy_new {w w1 w2 : World} {r row : Option Nat} (h : w.grownBy w1 r) (hg : w1.grownBy w2 row) (hrow : ∀ k, row = some k → w.heap.size ≤ k) : w.grownBy w2 r :=
  ⟨hg.os.trans h.os, hg.tape.trans h.tape, hg.output.trans h.output, Nat.le_trans h.size hg.size, fun k hk hr => (hg.block k (Nat.lt_of_lt_of_le hk h.size) (fun e => by have := hrow k e.symm; omega)).trans (h.block k hk hr)⟩

theorem i64_and255 (n : Int) : bits .and .i64 n 255 = n % 256 := by
  have h1 : (BitVec.ofInt 64 255).toNat = 2 ^ 8 - 1 := by decide
  have key : (BitVec.ofInt 64 n &&& BitVec.ofInt 64 255).toNat = (n % ((2 ^ 64 : Nat) : Int)).toNat % 2 ^ 8 := by
    rw [BitVec.toNat_and, BitVec.toNat_ofInt, h1, Nat.and_two_pow_sub_one_eq_mod]
  show IntKind.i64.wrap ((BitVec.ofInt 64 n &&& BitVec.ofInt 64 255).toNat : Nat) = n % 256
  rw [key, IntKind.wrap_i64]
  omega

theorem ret_nat {a : Int} (h0 : 0 ≤ a) : Ending.returned (.int .i64 a) = .returned (.int .i64 ((a.toNat : Nat) : Int)) := by rw [Int.toNat_of_nonneg h0]

end Go.Proofs.YtjaojcgfgkppgaaGreatDoor

/- The walks of spec.l1Int, l1Bytes and l1New. -/
namespace Go.Proofs.YtjaojcgfgkppgaaGreatDoor
open Go.RowKit

end Go.Proofs.YtjaojcgfgkppgaaGreatDoor

/- Appending numbers as a step of a region that draws its order; an object in a box of the call. -/
namespace Go.Proofs.YtjaojcgfgkppgaaGreatDoor
open Go.RowKit

theorem run_append_ints {w : World} (ty : TypeId) (lo hi : Nat) (a : Option Addr) (c : Nat) (xs : List Int) (hown : OwnI w lo hi a c xs)
    (sa : Option Addr) (sc : Nat) (zs : List Int) (hr : ReadsI w sa zs) (hc : sa = none → sc = 0) (hb : xs.length + zs.length ≤ 1099511627776) (hlo : lo ≤ w.heap.size) :
    ∃ a' c' ys w', (Builtin.append_ #[23, 23] ty #[.slice a xs.length c, .slice sa zs.length sc]).run Tryz.prog w = .ok (.slice a' ys.length c') w' ∧ Hid (ys = xs ++ zs) ∧ OwnI w' lo w'.heap.size a' c' ys ∧ w.grownBy w' (Value.slice a xs.length c).ownBlock ∧
      (∀ k, (Value.slice a' ys.length c').ownBlock = some k → (Value.slice a xs.length c).ownBlock = some k ∨ k = w.heap.size) := by
  obtain ⟨i0, hi0, hz0, hz1, hz2⟩ := info_parts Tryz.infoInt
  cases sa with
  | none =>
    have hz : zs = [] := by
      by_cases e : zs = []
      · exact e
      · obtain ⟨b, off, hh, _⟩ := hr e
        cases hh
    subst hz
    have := hc rfl
    subst this
    refine ⟨a, c, xs, w, run_append_owned_none (P := Tryz.prog) (w := w) lo 23 ty 3 i0 1 Tryz.underlying23 hi0 _ _ _ hown.1, (by simp [Hid]), ⟨hown.1, Nat.le_refl _, fun k hk => (hown.1.lt k hk).2⟩, World.grownBy.refl _ _, fun k hk => .inl hk⟩
  | some ad =>
    obtain ⟨v', w', h1, h2, h3, _, h5⟩ := run_append_own_at (P := Tryz.prog) w lo 23 ty 3 i0 (.int .i64 0) 1 8 Tryz.underlying23 hi0 hz0 hz1 hz2 rfl (by decide) _ _ _ hown.1 ad zs.length sc (zs.map (Value.int .i64)) (by simp) (by
      intro j u hj
      have hjl : j < zs.length := by
        by_cases e : j < zs.length
        · exact e
        · simp [List.getElem?_eq_none (Nat.le_of_not_lt e)] at hj
      have hne : zs ≠ [] := by intro e; simp [e] at hjl
      obtain ⟨b, off, hh, hcell⟩ := hr hne
      cases hh
      rw [Addr_add, hcell j hjl]
      simpa [hjl] using hj) (ints_oneCell _ _) (by simp only [maxLen]; omega) (by omega) hlo
    rw [← List.map_append, ← List.length_append] at h2
    have sh : ∃ a' c', v' = .slice a' (xs ++ zs).length c' := by
      rcases h2.2 with ⟨rfl, h0⟩ | ⟨g, cap, cur, rfl, _⟩
      · exact ⟨none, 0, by rw [h0]⟩
      · exact ⟨_, _, rfl⟩
    obtain ⟨a', c', rfl⟩ := sh
    refine ⟨a', c', xs ++ zs, w', h1, rfl, ⟨h2, Nat.le_refl _, fun k hk => (h2.lt k hk).2⟩, h3, fun k hk => ?_⟩
    rcases h5 with h5 | h5
    · exact .inl (by rw [← h5]; exact hk)
    · rw [h5] at hk
      exact .inr (Option.some.inj hk).symm

theorem step_append_ints {w : World} {ops : Array Oper} {o : Oper} {act : Act} {K : Act → World → Prop} {Q : Exit → Act → World → Prop} {E : Prop} (hgd : o.guard = none) (s x : Operand)
    (ho : o.op = .call { callee := .builtin .append, args := #[s, x], argTypes := #[23, 23] })
    (lo hi : Nat) (a : Option Addr) (c : Nat) (xs : List Int) (hs : act.eval s = .slice a xs.length c) (hown : OwnI w lo hi a c xs)
    (sa : Option Addr) (sc : Nat) (zs : List Int) (hx : act.eval x = .slice sa zs.length sc) (hr : ReadsI w sa zs) (hc : sa = none → sc = 0)
    (hb : xs.length + zs.length ≤ 1099511627776) (hlo : lo ≤ w.heap.size)
    (h : ∀ a' c' ys w', Hid (ys = xs ++ zs) → OwnI w' lo w'.heap.size a' c' ys → w.grownBy w' (Value.slice a xs.length c).ownBlock →
      (∀ k, (Value.slice a' ys.length c').ownBlock = some k → (Value.slice a xs.length c).ownBlock = some k ∨ k = w.heap.size) → K (act.put o.dst (.slice a' ys.length c')) w') :
    if Region.wanted o (yielded ops act.tmps) = true then Oper.wp Tryz.prog o act w K Q else E := by
  have hw : Region.wanted o (yielded ops act.tmps) = true := by simp [Region.wanted, hgd]
  rw [if_pos hw]
  obtain ⟨a', c', ys, w', hrun, h1, h2, h3, h4⟩ := run_append_ints (w := w) o.type lo hi a c xs hown sa sc zs hr hc hb hlo
  unfold Oper.wp execOp
  simp only [ho, resolve, invoke, builtin, Sem.run_bind, Sem.run_pure, Result.andThen_ok, List.map_toArray, List.map_cons, List.map_nil, hs, hx, hrun]
  exact h a' c' ys w' h1 h2 h3 h4

/-- An object lies in block Bo; its lists lie from lo on, and the call owns them. -/
structure ObjAt (w : World) (lo Bo : Nat) (o : ObjV) (aI : Option Addr) (cI : Nat) (aR : Option Addr) (cR : Nat) : Prop where
  box : Box w Bo [.int .i64 o.kind, .slice aI o.ints.length cI, .slice aR o.refs.length cR] 25
  own : OwnO w lo w.heap.size aI cI aR cR o
  lt : Bo < lo

theorem OwnO.kept {w w' : World} {lo hi : Nat} {aI : Option Addr} {cI : Nat} {aR : Option Addr} {cR : Nat} {o : ObjV} {B : Nat} (h : OwnO w lo hi aI cI aR cR o) (hg : w.grownBy w' (some B)) (hB : B < lo) : OwnO w' lo w'.heap.size aI cI aR cR o := by
  have h1 := h.ints.kept hg (fun k hk e => by have := (h.ints.lt k hk).1; cases e; omega)
  have h2 := h.refs.kept hg (fun k hk e => by have := (h.refs.lt k hk).1; cases e; omega)
  exact ⟨h1.widen (Nat.le_refl _) h1.2.1 (Nat.le_refl _), h2.widen (Nat.le_refl _) h2.2.1 (Nat.le_refl _), h.apart⟩

theorem ObjAt.kept {w w' : World} {lo Bo : Nat} {aI : Option Addr} {cI : Nat} {aR : Option Addr} {cR : Nat} {o : ObjV} {B : Nat} (h : ObjAt w lo Bo o aI cI aR cR) (hg : w.grownBy w' (some B)) (hB : B < Bo) : ObjAt w' lo Bo o aI cI aR cR :=
  ⟨h.box.block (hg.block Bo h.box.lt (fun e => by cases e; omega)), h.own.kept hg (by have := h.lt; omega), h.lt⟩
theorem ObjAt.alloc {w : World} {lo Bo : Nat} {aI : Option Addr} {cI : Nat} {aR : Option Addr} {cR : Nat} {o : ObjV} (h : ObjAt w lo Bo o aI cI aR cR) (ob : Obj) : ObjAt (w.alloc ob) lo Bo o aI cI aR cR :=
  ⟨h.box.alloc ob, (h.own.below ((Below.refl _ _).alloc (Nat.le_refl _) ob)).widen (Nat.le_refl _) (by simp) (Nat.le_refl _), h.lt⟩
theorem ObjAt.drew {w : World} {lo Bo : Nat} {aI : Option Addr} {cI : Nat} {aR : Option Addr} {cR : Nat} {o : ObjV} (h : ObjAt w lo Bo o aI cI aR cR) : ObjAt w.drew lo Bo o aI cI aR cR :=
  ⟨h.box, h.own.below (Below.refl _ _).drew, h.lt⟩
theorem ObjAt.three {w : World} {lo Bo : Nat} {aI : Option Addr} {cI : Nat} {aR : Option Addr} {cR : Nat} {o : ObjV} (h : ObjAt w lo Bo o aI cI aR cR) :
    w.cell? ⟨Bo, 0, none⟩ = some (.int .i64 o.kind) ∧ w.cell? ⟨Bo, 1, none⟩ = some (.slice aI o.ints.length cI) ∧ w.cell? ⟨Bo, 2, none⟩ = some (.slice aR o.refs.length cR) ∧ w.frozen? ⟨Bo, 0, none⟩ = false ∧ w.frozen? ⟨Bo, 1, none⟩ = false ∧ w.frozen? ⟨Bo, 2, none⟩ = false := h.box.three

theorem Box.grown {w w' : World} {C B : Nat} {vs : List Value} {t : TypeId} (h : Box w C vs t) (hg : w.grownBy w' (some B)) (hne : C ≠ B) : Box w' C vs t := h.block (hg.block C h.lt (fun e => hne (Option.some.inj e)))
theorem grown_drew (w : World) (r : Option Nat) : w.grownBy w.drew r := ⟨rfl, rfl, rfl, Nat.le_refl _, fun _ _ _ => rfl⟩

end Go.Proofs.YtjaojcgfgkppgaaGreatDoor

/- The walk of spec.l2Copy. -/
namespace Go.Proofs.YtjaojcgfgkppgaaGreatDoor
open Go.RowKit

theorem blA {W w' : World} (h : Below W.heap.size W w') (o : Obj) : Below W.heap.size W (w'.alloc o) := h.alloc h.size o
theorem blG {W w' w2 : World} {g : Nat} (h : Below W.heap.size W w') (hg : w'.grownBy w2 (some g)) (hn : W.heap.size ≤ g) : Below W.heap.size W w2 := h.grown hg h.size (fun k e => by cases e; exact hn)
theorem ownI_box0 {w : World} {g lo : Nat} (h : Box w g [] 3) (hlo : lo ≤ g) : OwnI w lo w.heap.size (some ⟨g, 0, none⟩) 0 [] :=
  ⟨⟨by simp, .inr ⟨g, 0, #[], rfl, hlo, h, Nat.le_refl _, by simp [maxLen], rfl, rfl⟩⟩, Nat.le_refl _, fun k hk => by cases hk; exact h.lt⟩

set_option maxHeartbeats 4000000 in
set_option maxRecDepth 100000 in
theorem l2Copy_any (o : ObjV) (aI : Option Addr) (cI : Nat) (aR : Option Addr) (cR : Nat) (w : World) (hr : ReadsO w aI cI aR cR o) (hlI : o.ints.length ≤ 1099511627776) (hlR : o.refs.length ≤ 1099511627776) :
    Calls Tryz.prog 101 #[.agg #[.int .i64 o.kind, .slice aI o.ints.length cI, .slice aR o.refs.length cR]] w fun e w' => ∃ aI' cI' aR' cR', e = .returned (.agg #[.int .i64 o.kind, .slice aI' o.ints.length cI', .slice aR' o.refs.length cR']) ∧
      OwnO w' w.heap.size w'.heap.size aI' cI' aR' cR' o ∧ Below w.heap.size w w' := by
  obtain ⟨k, ints, refs⟩ := o
  obtain ⟨hI, hR, hni, hnr⟩ := hr
  simp only at *
  obtain ⟨W, hW, b0, b1, hbW, hsW⟩ := boxes2 w [.int .i64 k, .slice aI ints.length cI, .slice aR refs.length cR] [.int .i64 0, .slice none 0 0, .slice none 0 0] 25 25
  have hI' := hI.below hbW
  have hR' := hR.below hbW
  have hwW : w.heap.size + 1 < W.heap.size := by omega
  clear hsW hI hR
  go_enter Tryz.func101, Tryz.ntmps101
  go_wp2_with fail
  rw [hW.out]
  clear hW
  have hkeep : ∀ w'', Below W.heap.size W w'' → Box w'' w.heap.size [.int .i64 k, .slice aI ints.length cI, .slice aR refs.length cR] 25 ∧ Box w'' (w.heap.size + 1) [.int .i64 0, .slice none 0 0, .slice none 0 0] 25 :=
    fun w'' hh => ⟨b0.below hh b0.lt, b1.below hh b1.lt⟩
  have hcells : ∀ w'', Below W.heap.size W w'' → (w''.cell? ⟨w.heap.size, 0, none⟩ = some (.int .i64 k) ∧ w''.cell? ⟨w.heap.size, 1, none⟩ = some (.slice aI ints.length cI) ∧ w''.cell? ⟨w.heap.size, 2, none⟩ = some (.slice aR refs.length cR)) ∧ (w''.cell? ⟨w.heap.size + 1, 0, none⟩ = some (.int .i64 0) ∧ w''.cell? ⟨w.heap.size + 1, 1, none⟩ = some (.slice none 0 0) ∧ w''.cell? ⟨w.heap.size + 1, 2, none⟩ = some (.slice none 0 0)) ∧ (w''.frozen? ⟨w.heap.size + 1, 0, none⟩ = false ∧ w''.frozen? ⟨w.heap.size + 1, 1, none⟩ = false ∧ w''.frozen? ⟨w.heap.size + 1, 2, none⟩ = false) := by
    intro w'' hh
    obtain ⟨ba, bb⟩ := hkeep w'' hh
    exact ⟨⟨ba.cell 0 _ rfl, ba.cell 1 _ rfl, ba.cell 2 _ rfl⟩, ⟨bb.cell 0 _ rfl, bb.cell 1 _ rfl, bb.cell 2 _ rfl⟩, bb.frozen 0, bb.frozen 1, bb.frozen 2⟩
  have hh := hcells W (Below.refl _ _)
  have q1 : Box (W.drew.alloc (.cells #[] 3)) W.heap.size [] 3 := box_new W.drew [] _
  have q2a : Box ((W.drew.alloc (.cells #[] 3)).alloc (.cells #[] 3)) W.heap.size [] 3 := (box_new W.drew [] _).alloc _
  have q2b : Box ((W.drew.alloc (.cells #[] 3)).alloc (.cells #[] 3)) (W.heap.size + 1) [] 3 := by
    have := box_new (W.drew.alloc (.cells #[] 3)) [] 3
    simpa using this
  have Q1 : Hid (_ ∧ _ ∧ _) := ⟨q1, q2a, q2b⟩
  clear q1 q2a q2b
  have HK : Hid _ := hkeep
  have HC : Hid _ := hcells
  have hne : ¬ (w.heap.size = w.heap.size + 1) := by omega
  have HNI : Hid _ := hni
  have HNR : Hid _ := hnr
  clear hkeep hcells b0 b1 hni hnr
  go_region_held3 (fun w'' => w''.cell? ⟨w.heap.size, 0, none⟩ = some (.int .i64 k) ∧ w''.cell? ⟨w.heap.size, 1, none⟩ = some (.slice aI ints.length cI) ∧ w''.cell? ⟨w.heap.size, 2, none⟩ = some (.slice aR refs.length cR))
    (first | exact (HC.out _ (by first | exact hb2 | exact hb1 | exact blA hb2 _ | exact blA hb1 _ | exact (Below.refl _ _).drew | exact blA (Below.refl _ _).drew _ | exact blA (blA (Below.refl _ _).drew _) _ | fail)).1 | exact ⟨((((HK.out _ (by first | exact hb2 | exact hb1 | fail)).1.other hne).other hne).other hne).cell 0 _ rfl, ((((HK.out _ (by first | exact hb2 | exact hb1 | fail)).1.other hne).other hne).other hne).cell 1 _ rfl, ((((HK.out _ (by first | exact hb2 | exact hb1 | fail)).1.other hne).other hne).other hne).cell 2 _ rfl⟩ | go_keep | fail)
    ((first
      | (refine step_append_ints rfl (.tmp 5) (.tmp 7) (by rfl) (w.heap.size + 1 + 1) _ _ _ [] (by rfl) (ownI_box0 (by first | exact Q1.out.1 | exact Q1.out.2.1 | exact Q1.out.2.2 | assumption | exact (Q1.out.2.2).grown hg1 (by dsimp only; omega) | exact (Q1.out.2.1).grown hg1 (by dsimp only; omega) | exact box_new _ [] _ | fail) (by first | omega | (have := hb1.size; omega))) aI cI ints (by rfl) (hI'.below (by first | exact hb2 | exact hb1 | exact blA hb2 _ | exact blA hb1 _ | exact (Below.refl _ _).drew | exact blA (Below.refl _ _).drew _ | exact blA (blA (Below.refl _ _).drew _) _ | fail)) HNI.out (by simp only [List.length_nil]; omega) (Nat.le_trans (by omega) (Below.size (B := W.heap.size) (w := W) (by first | exact hb2 | exact hb1 | exact blA hb2 _ | exact blA hb1 _ | exact (Below.refl _ _).drew | exact blA (Below.refl _ _).drew _ | exact blA (blA (Below.refl _ _).drew _) _ | fail))) ?_; intro a1 c1 y1 u1 hy1 hO1 hg1 hat1; have HA1 : Hid _ := hat1; clear hat1; have hyy : ints = y1 := (by simpa using hy1.out.symm); subst hyy; have hb1 := blG (W := W) (by first | exact hb2 | exact hb1 | exact blA hb2 _ | exact blA hb1 _ | exact (Below.refl _ _).drew | exact blA (Below.refl _ _).drew _ | exact blA (blA (Below.refl _ _).drew _) _ | fail) hg1 (by dsimp only; omega))
      | (refine step_append_ints rfl (.tmp 9) (.tmp 11) (by rfl) (w.heap.size + 1 + 1) _ _ _ [] (by rfl) (ownI_box0 (by first | exact Q1.out.1 | exact Q1.out.2.1 | exact Q1.out.2.2 | assumption | exact (Q1.out.2.2).grown hg1 (by dsimp only; omega) | exact (Q1.out.2.1).grown hg1 (by dsimp only; omega) | exact box_new _ [] _ | fail) (by first | omega | (have := hb1.size; omega))) aR cR refs (by rfl) (hR'.below (by first | exact hb2 | exact hb1 | exact blA hb2 _ | exact blA hb1 _ | exact (Below.refl _ _).drew | exact blA (Below.refl _ _).drew _ | exact blA (blA (Below.refl _ _).drew _) _ | fail)) HNR.out (by simp only [List.length_nil]; omega) (Nat.le_trans (by omega) (Below.size (B := W.heap.size) (w := W) (by first | exact hb2 | exact hb1 | exact blA hb2 _ | exact blA hb1 _ | exact (Below.refl _ _).drew | exact blA (Below.refl _ _).drew _ | exact blA (blA (Below.refl _ _).drew _) _ | fail))) ?_; intro a2 c2 y2 u2 hy2 hO2 hg2 hat2; have HA2 : Hid _ := hat2; clear hat2; have hyy : refs = y2 := (by simpa using hy2.out.symm); subst hyy; have hb2 := blG (W := W) (by first | exact hb2 | exact hb1 | exact blA hb2 _ | exact blA hb1 _ | exact (Below.refl _ _).drew | exact blA (Below.refl _ _).drew _ | exact blA (blA (Below.refl _ _).drew _) _ | fail) hg2 (by dsimp only; first | omega | (have := hb1.size; omega)); obtain ⟨⟨m0, m1, m2⟩, ⟨n0, n1, n2⟩, e0, e1, e2⟩ := HC.out _ hb2) | fail))
  all_goals
    have hO1' : OwnI u2 (w.heap.size + 1 + 1) u2.heap.size a1 c1 ints := by
      first
      | exact (hO1.kept hg2 (fun k hk e => by have h1 := HA1.out k hk; have h2 := (hO1.lt k hk).2; simp [Value.ownBlock] at h1 e; omega)).widen (Nat.le_refl _) hg2.size (Nat.le_refl _)
      | exact ((hO1.below ((Below.refl _ _).alloc (Nat.le_refl _) _)).kept hg2 (fun k hk e => by have h2 := (hO1.lt k hk).2; simp [Value.ownBlock] at e; omega)).widen (Nat.le_refl _) (Nat.le_trans (by simp) hg2.size) (Nat.le_refl _)
      | fail
    have hap : ∀ k, (Value.slice a1 ints.length c1).ownBlock = some k → (Value.slice a2 refs.length c2).ownBlock ≠ some k := by
      intro k hk hk'
      have h1 := HA1.out k hk
      have h2 := HA2.out k hk'
      have h3 := (hO1.lt k hk).2
      simp [Value.ownBlock] at h1 h2
      omega
    obtain ⟨WF, hWF, bF, hwF, hsF⟩ := box3_fill (HK.out _ hb2).2 (.int .i64 k) (.slice a1 ints.length c1) (.slice a2 refs.length c2)
    clear HA1 HA2 hg1 hg2 Q1 hb1 hO1
    rw [hWF.out]
    go_wp2
    obtain ⟨q0, q1, q2, _, _, _⟩ := bF.three
    have hs2 := hb2.size
    have hOF : OwnO WF (w.heap.size + 1 + 1) u2.heap.size a1 c1 a2 c2 ⟨k, ints, refs⟩ := (⟨hO1', hO2, hap⟩ : OwnO u2 (w.heap.size + 1 + 1) u2.heap.size a1 c1 a2 c2 ⟨k, ints, refs⟩).within hwF (.inr (by omega))
    exact bodyPost_ret (v := .agg #[.int .i64 k, .slice a1 ints.length c1, .slice a2 refs.length c2]) (by simp [results, Tryz.results101, go_sem, q0, q1, q2]) rfl ⟨a1, c1, a2, c2, rfl, hOF.widen (by omega) (by omega) (Nat.le_refl _), (hbW.trans (hb2.mono (by omega))).trans (hwF.below (by omega) (by omega))⟩
end Go.Proofs.YtjaojcgfgkppgaaGreatDoor

/- The walks of spec.l3CopySlot and spec.l3Copy. -/
namespace Go.Proofs.YtjaojcgfgkppgaaGreatDoor
open Go.RowKit

set_option maxHeartbeats 4000000 in
set_option maxRecDepth 100000 in
theorem l3CopySlot_own (s : SlotA) (w : World) (hr : s.reads w) (hlI : s.v.o.ints.length ≤ 1099511627776) (hlR : s.v.o.refs.length ≤ 1099511627776) :
    Calls Tryz.prog 70 #[.agg s.cells.toArray] w fun e w' => ∃ t : SlotA, e = .returned (.agg t.cells.toArray) ∧ Hid (t.v = s.v) ∧ t.own w' w.heap.size w'.heap.size ∧ Below w.heap.size w w' := by
  obtain ⟨⟨h, ⟨k, ints, refs⟩⟩, aI, cI, aR, cR⟩ := s
  simp only [SlotA.cells, SlotA.reads, SlotA.own] at *
  obtain ⟨W, hW, b0, b1, hbW, hsW⟩ := boxes2 w [.bool h, .int .i64 k, .slice aI ints.length cI, .slice aR refs.length cR] [.bool false, .int .i64 0, .slice none 0 0, .slice none 0 0] 27 27
  have hr' := hr.below hbW
  have hwW : w.heap.size + 1 < W.heap.size := by omega
  clear hsW
  have HC : Hid (∀ w'', Below W.heap.size W w'' → w''.cell? ⟨w.heap.size, 0, none⟩ = some (.bool h) ∧ w''.cell? ⟨w.heap.size, 1, none⟩ = some (.int .i64 k) ∧ w''.cell? ⟨w.heap.size, 2, none⟩ = some (.slice aI ints.length cI) ∧ w''.cell? ⟨w.heap.size, 3, none⟩ = some (.slice aR refs.length cR)) := by
    intro w'' hh
    have ba := b0.below hh b0.lt
    exact ⟨ba.cell 0 _ rfl, ba.cell 1 _ rfl, ba.cell 2 _ rfl, ba.cell 3 _ rfl⟩
  have HB : Hid (∀ w'', Below W.heap.size W w'' → Box w'' w.heap.size [.bool h, .int .i64 k, .slice aI ints.length cI, .slice aR refs.length cR] 27 ∧ Box w'' (w.heap.size + 1) [.bool false, .int .i64 0, .slice none 0 0, .slice none 0 0] 27) := fun w'' hh => ⟨b0.below hh b0.lt, b1.below hh b1.lt⟩
  have hh := HC.out W (Below.refl _ _)
  have hne : ¬ (w.heap.size = w.heap.size + 1) := by omega
  clear b0 b1
  go_enter Tryz.func70, Tryz.ntmps70
  go_wp2_with fail
  rw [hW.out]
  clear hW
  go_region_held3 (fun w'' => w''.cell? ⟨w.heap.size, 0, none⟩ = some (.bool h) ∧ w''.cell? ⟨w.heap.size, 1, none⟩ = some (.int .i64 k) ∧ w''.cell? ⟨w.heap.size, 2, none⟩ = some (.slice aI ints.length cI) ∧ w''.cell? ⟨w.heap.size, 3, none⟩ = some (.slice aR refs.length cR))
    (first | exact HC.out _ hB1 | exact HC.out _ (Below.refl _ _).drew | exact ⟨(((((HB.out _ (by first | exact hB1 | fail)).1.other hne).other hne).other hne).other hne).cell 0 _ rfl, (((((HB.out _ (by first | exact hB1 | fail)).1.other hne).other hne).other hne).other hne).cell 1 _ rfl, (((((HB.out _ (by first | exact hB1 | fail)).1.other hne).other hne).other hne).other hne).cell 2 _ rfl, (((((HB.out _ (by first | exact hB1 | fail)).1.other hne).other hne).other hne).other hne).cell 3 _ rfl⟩ | go_keep | fail)
    (first
    | (go_at_call 101; refine (l2Copy_any ⟨k, ints, refs⟩ aI cI aR cR _ hr'.drew hlI hlR).mono ?_; rintro e u1 ⟨a1, c1, a2, c2, rfl, ho1, hb1⟩; have hB1 : Below W.heap.size W u1 := ((Below.refl _ _).drew).trans hb1; obtain ⟨m0, m1, m2, m3, e0, e1, e2, e3⟩ := (HB.out _ hB1).2.four)
    | fail)
  obtain ⟨WF, hWF, bF, hwF, hsF⟩ := box4_fill (HB.out _ hB1).2 (.bool h) (.int .i64 k) (.slice a1 ints.length c1) (.slice a2 refs.length c2)
  have hsu1 : W.heap.size ≤ u1.heap.size := hB1.size
  have hO : OwnO u1 W.heap.size u1.heap.size a1 c1 a2 c2 ⟨k, ints, refs⟩ := ho1
  have hOF : OwnO WF W.heap.size u1.heap.size a1 c1 a2 c2 ⟨k, ints, refs⟩ := hO.within hwF (.inr (by omega))
  have HBF : Hid (Below w.heap.size w WF) := (hbW.trans (hB1.mono (by omega))).trans (hwF.below (by omega) (by omega))
  rw [hWF.out]
  clear hwF ho1 hO
  go_wp2
  obtain ⟨q0, q1, q2, q3, _⟩ := bF.four
  exact bodyPost_ret (v := .agg #[.bool h, .int .i64 k, .slice a1 ints.length c1, .slice a2 refs.length c2]) (by simp [results, Tryz.results70, go_sem, q0, q1, q2, q3]) rfl ⟨⟨⟨h, ⟨k, ints, refs⟩⟩, a1, c1, a2, c2⟩, rfl, rfl, hOF.widen (by omega) (by omega) (Nat.le_refl _), HBF.out⟩

set_option maxHeartbeats 2000000 in
set_option maxRecDepth 100000 in
theorem l3Copy_own (p : PageA) (h4 : p.ss.length = 4) (w : World) (hr : ReadsS w p.ss) (hl : Fit p.ss) :
    Calls Tryz.prog 39 #[.agg p.cells.toArray] w fun e w' => ∃ ts : List SlotA, e = .returned (.agg (PageA.cells ⟨p.lsn, ts⟩).toArray) ∧ Hid (ts.map (·.v) = p.ss.map (·.v)) ∧ OwnS w' w.heap.size w'.heap.size ts ∧ Below w.heap.size w w' := by
  obtain ⟨n, ss⟩ := p
  simp only [PageA.cells] at *
  obtain ⟨W, hW, b0, b1, b2, hbW, hsW⟩ := boxes3 w (.int .i64 n :: cellsS ss) [.int .i64 0, .bool false, .int .i64 0, .slice none 0 0, .slice none 0 0, .bool false, .int .i64 0, .slice none 0 0, .slice none 0 0, .bool false, .int .i64 0, .slice none 0 0, .slice none 0 0, .bool false, .int .i64 0, .slice none 0 0, .slice none 0 0] [.int .i64 n, .bool false, .int .i64 0, .slice none 0 0, .slice none 0 0, .bool false, .int .i64 0, .slice none 0 0, .slice none 0 0, .bool false, .int .i64 0, .slice none 0 0, .slice none 0 0, .bool false, .int .i64 0, .slice none 0 0, .slice none 0 0] 52 52 52
  have b1' : Box W (w.heap.size + 1) ([] ++ ((.int .i64 0 :: cellsS zero4) ++ [])) 52 := b1
  have b2' : Box W (w.heap.size + 1 + 1) (.int .i64 n :: cellsS ([] ++ List.replicate (4 - 0) zeroS)) 52 := b2
  have hsW' : w.heap.size + 1 + 1 < W.heap.size := by omega
  have hc0 : (((w.alloc (.cells (.int .i64 n :: cellsS ss).toArray 52)).alloc (.cells #[.int .i64 0, .bool false, .int .i64 0, .slice none 0 0, .slice none 0 0, .bool false, .int .i64 0, .slice none 0 0, .slice none 0 0, .bool false, .int .i64 0, .slice none 0 0, .slice none 0 0, .bool false, .int .i64 0, .slice none 0 0, .slice none 0 0] 52))).cell? ⟨w.heap.size, 0, none⟩ = some (.int .i64 n) := ((box_new w (.int .i64 n :: cellsS ss) 52).alloc _).cell 0 _ rfl
  have H4 : Hid (ss.length = 4) := h4
  clear b1 b2 hsW h4
  go_enter Tryz.func39, Tryz.ntmps39
  go_wp2_with fail
  rw [hW.out]
  clear hW hc0
  go_loopw [4] (fun i wr => ∃ (k : Nat) (ts : List SlotA), i = .int .i64 k ∧ k ≤ 4 ∧ Hid (ts.length = k ∧ ts.map (·.v) = (ss.take k).map (·.v)) ∧ OwnS wr W.heap.size wr.heap.size ts ∧ Box wr (w.heap.size + 1 + 1) (.int .i64 n :: cellsS (ts ++ List.replicate (4 - k) zeroS)) 52 ∧ Below (w.heap.size + 1 + 1) W wr)
    (fun i _ => 4 - (intOf i).toNat)
  case atStart => exact ⟨0, [], rfl, by omega, ⟨rfl, rfl⟩, OwnS.nil _ _ _, b2', Below.refl _ _⟩
  case round =>
    obtain ⟨k, ts, rfl, hk, hts, hown, hbox, hbl⟩ := hrel
    clear b2'
    have b0r := b0.below hbl (by omega)
    have b1r := b1'.below hbl (by omega)
    have hsr := hbl.size
    have hsz := hbox.lt
    by_cases hlt : k < 4
    · have hkl : k < ss.length := by rw [H4.out]; exact hlt
      obtain ⟨c0, c1, c2, c3, _⟩ := b0r.pslot k hkl
      have hi0 : (0 : Int) ≤ (k : Int) := by omega
      have hi4 : (k : Int) < 4 := by omega
      have hrk := (hr _ (getD_mem hkl)).below (hbW.trans (hbl.mono (by omega)))
      have hlk := hl _ (getD_mem hkl)
      have HV : Hid ((ss.take (k + 1)).map (·.v) = (ss.take k).map (·.v) ++ [(ss.getD k zeroS).v]) := by
        rw [Hid, List.take_add_one, List.map_append]
        simp [List.getD, hkl]
      generalize ss.getD k zeroS = s at *
      have C := l3CopySlot_own s wr hrk hlk.1 hlk.2
      simp only [SlotA.cells] at C
      go_wp2_with fail
      refine C.mono ?_
      clear C hrk hlk c0 c1 c2 c3
      rintro e w1 ⟨t, rfl, hv, ho, hb1⟩
      have hs1 := hb1.size
      have hbx := hbox.below hb1 hsz
      have hkt : k < (ts ++ List.replicate (4 - k) zeroS).length := by have := hts.out.1; simp; omega
      obtain ⟨W2, hW2, b2, hw2, hs2⟩ := pslot_fill hbx k hkt t
      obtain ⟨x0, x1, x2, x3, hfz⟩ := hbx.pslot k hkt
      have f0 := hfz (1 + k * 4)
      have f1 := hfz (1 + k * 4 + 1)
      have f2 := hfz (1 + k * 4 + 2)
      have f3 := hfz (1 + k * 4 + 3)
      generalize (ts ++ List.replicate (4 - k) zeroS).getD k zeroS = old at *
      have b2' : Box W2 (w.heap.size + 1 + 1) (.int .i64 n :: cellsS ((ts ++ [t]) ++ List.replicate (4 - (k + 1)) zeroS)) 52 := by
        rw [show 4 - k = (4 - (k + 1)) + 1 by omega] at b2
        have e := set_snoc ts (4 - (k + 1)) t
        rw [hts.out.1] at e
        rw [e] at b2
        exact b2
      have hO1 : OwnS w1 W.heap.size w1.heap.size (ts ++ [t]) := (hown.below hb1).snoc ho hsr hs1 (Nat.le_refl _)
      have hO2 : OwnS W2 W.heap.size W2.heap.size (ts ++ [t]) := (hO1.within hw2 (.inr (by omega))).widen (Nat.le_refl _) (by omega) (Nat.le_refl _)
      have hB2 : Below (w.heap.size + 1 + 1) W W2 := (hbl.trans (hb1.mono (by omega))).trans (hw2.below (Nat.le_refl _) (by omega))
      have HT : Hid ((ts ++ [t]).length = k + 1 ∧ (ts ++ [t]).map (·.v) = (ss.take (k + 1)).map (·.v)) := by
        refine ⟨by have := hts.out.1; simp; omega, ?_⟩
        rw [HV.out, List.map_append, hts.out.2, ← hv.out]
        rfl
      clear hfz hs2 hw2 b2 hO1 hown hbox hbx hts HV hkt hb1 ho
      go_wp2_with fail
      rw [hW2.out]
      go_roundw
      case rel => exact ⟨k + 1, ts ++ [t], by go_num, by omega, HT, hO2, b2', hB2⟩
      case measure => simp [intOf]; omega
    · obtain rfl : k = 4 := by omega
      have hkk : ¬ ((4 : Nat) : Int) < 4 := by omega
      have hrp : ts ++ List.replicate (4 - 4) zeroS = ts := by simp
      rw [hrp] at hbox
      have htl : ts.length = 4 := hts.out.1
      have HMV : Hid (ts.map (·.v) = ss.map (·.v)) := by rw [Hid, hts.out.2, List.take_of_length_le (by rw [H4.out]; omega)]
      obtain ⟨WF, hWF, bF, hwF, hsF⟩ := range_fill [] (.int .i64 0 :: cellsS zero4) (.int .i64 n :: cellsS ts) [] b1r (by simp only [List.length_cons, cellsS_len, htl]; rfl)
      have HWF : Hid (wr.setCells (w.heap.size + 1) 0 (.int .i64 n :: cellsS ts) = WF) := hWF.out
      have HR2 : Hid (wr.rangeAt (w.heap.size + 1 + 1) 0 (.int .i64 n :: cellsS ts)) := Box.range [] (.int .i64 n :: cellsS ts) [] (by simpa using hbox)
      have HTF : Hid (wr.there (w.heap.size + 1) 0 (.int .i64 n :: cellsS ts).toArray.size) := b1r.there 0 _ (by simp only [List.size_toArray, cellsS_len, htl, List.length_append, List.length_cons, List.length_nil]; decide)
      have hrF : WF.rangeAt (w.heap.size + 1) 0 (.int .i64 n :: cellsS ts) := Box.range [] (.int .i64 n :: cellsS ts) [] (by simpa using bF)
      have HI : Hid ((Tryz.prog.info? 52).map (·.size) = some (.int .i64 n :: cellsS ts).length) := by rw [Hid, List.length_cons, cellsS_len, htl]; kernel_rfl
      have HO : Hid (_) := all_oneCell_toArray (oneP ⟨n, ts⟩)
      have HLF : Hid (_) := run_loadVar_mid (P := Tryz.prog) _ (w.heap.size + 1) 0 52 (.int .i64 n :: cellsS ts) _ hrF Tryz.underlying52 rfl HI.out
      have HOF : Hid (OwnS WF w.heap.size WF.heap.size ts) := (hown.within hwF (.inr (by omega))).widen (by omega) (by omega) (Nat.le_refl _)
      have HBF : Hid (Below w.heap.size w WF) := (hbW.trans (hbl.mono (by omega))).trans (hwF.below (by omega) (by omega))
      simp only [PageA.cells] at HO
      clear hWF bF hwF hsF hrF hrp htl hbox hown hts
      go_wp2_with (first | (guard_target = wpList _ _ _ (Oper.mk (some 20) _ _ _ _ _ :: _) _ _; refine wpList_load_mid rfl 52 (.tmp 3) rfl (w.heap.size + 1 + 1) 0 rfl (.int .i64 n :: cellsS ts) _ HR2.out Tryz.underlying52 rfl HI.out ?_) | (guard_target = wpList _ _ _ (Oper.mk none (Op.store _ (Operand.tmp 2) _) _ _ _ _ :: _) _ _; refine wpList_store_mid rfl 52 (.tmp 2) (.tmp 20) rfl (w.heap.size + 1) 0 (.int .i64 n :: cellsS ts).toArray rfl rfl HTF.out (by rw [List.size_toArray]; exact HI.out) HO.out ?_) | fail)
      rw [HWF.out]
      exact bodyPost_ret (v := .agg (.int .i64 n :: cellsS ts).toArray) (results_one Tryz.results39 rfl HLF.out) rfl ⟨ts, rfl, HMV, HOF.out, HBF.out⟩
end Go.Proofs.YtjaojcgfgkppgaaGreatDoor

/- The walk of impl.copyInts. -/
namespace Go.Proofs.YtjaojcgfgkppgaaGreatDoor
open Go.RowKit

set_option maxHeartbeats 400000 in
set_option maxRecDepth 100000 in
theorem copyInts_any (a : Option Addr) (cap : Nat) (zs : List Int) (w : World) (hr : ReadsI w a zs) (hl : zs.length ≤ 1099511627776) :
    Calls Tryz.prog 103 #[.slice a zs.length cap] w fun e w' => ∃ a' c', e = .returned (.slice a' zs.length c') ∧ OwnI w' w.heap.size w'.heap.size a' c' zs ∧ Below w.heap.size w w' := by
  obtain ⟨i0, hi, hz0, hz1, hz2⟩ := info_parts Tryz.infoInt
  rcases hr.cases with rfl | ⟨b, off, rfl, hpos, hcell⟩
  · go_enter Tryz.func103, Tryz.ntmps103
    go_wp2
    go_ret
    exact ⟨none, 0, rfl, ownI_nil _ _ _ (Nat.le_refl _), Below.refl _ _⟩
  · have hnz : ((zs.length : Int) == 0) = false := by simp; intro e; simp [e] at hpos
    have hsz : (Tryz.prog.info? 3).map (·.size) = some 1 := by kernel_rfl
    go_enter Tryz.func103, Tryz.ntmps103
    go_wp2_with (at_make; refine wpList_make_full _ rfl _ _ 23 rfl w.heap.size 3 i0 (.int .i64 0) 1 Tryz.underlying23 hi hz0 hz1 _ _ _ _ zs.length rfl rfl rfl rfl (by rw [hz2]; omega) (by simp [maxLen]; omega) (Nat.le_refl _) ?_)
    intro w0 hown0 hgrow0
    have hb0 : Below w.heap.size w w0 := (Below.refl _ _).grown hgrow0 (Nat.le_refl _) (fun k h => by cases h)
    obtain ⟨hlen, hcase⟩ := hown0
    rcases hcase with ⟨hv, _⟩ | ⟨g, cap', cur, hv, hg, hgg, hn, hm, hcs, htk⟩
    · cases hv
    simp only [Value.slice.injEq, Option.some.injEq, Addr.mk.injEq, and_true, true_and] at hv
    obtain ⟨rfl, rfl⟩ := hv
    have hcl : cur.toList.length = zs.length := by rw [Array.length_toList, hcs]; omega
    have HC : Hid (0 < (zs.map (Value.int .i64)).length → some (⟨w.heap.size, 0, none⟩ : Addr) = some ⟨w.heap.size, 0, none⟩ ∧ ∃ ad : Addr, some (⟨b, off, none⟩ : Addr) = some ad ∧ ∀ j v, (zs.map (Value.int .i64))[j]? = some v → w0.cell? (ad.add j) = some v) := by
      intro _
      refine ⟨rfl, _, rfl, fun j v hv => ?_⟩
      rw [List.getElem?_map] at hv
      cases hzj : zs[j]? with
      | none => rw [hzj] at hv; cases hv
      | some z =>
        rw [hzj] at hv
        simp only [Option.map_some, Option.some.injEq] at hv
        have hj : j < zs.length := (List.getElem?_eq_some_iff.1 hzj).1
        have hc := hcell j hj
        have hadd : (⟨b, off, none⟩ : Addr).add j = ⟨b, off + j, none⟩ := by unfold Addr.add; split <;> simp_all
        rw [hadd, hb0.cell (block_lt hc), hc, ← hv]
        simp [List.getD, hzj]
    have HG : Hid (w0.heap[w.heap.size]? = some (.cells cur.toList.toArray 3 (0, 0))) := by rw [Hid, hgg]
    have HN : Hid ((zs.map (Value.int .i64)).length = Nat.min zs.length zs.length) := by rw [Hid, List.length_map]; exact (Nat.min_self _).symm
    have HFt : Hid (0 + (zs.map (Value.int .i64)).length ≤ cur.toList.length) := by rw [Hid, List.length_map, hcl]; omega
    have H1 : Hid (∀ v ∈ zs.map (Value.int .i64), v.oneCell' = true) := fun v hv => by obtain ⟨z, _, rfl⟩ := List.mem_map.1 hv; rfl
    have HSP : Hid (splice cur.toList 0 (zs.map (Value.int .i64)) = zs.map (Value.int .i64)) := by
      unfold Hid splice
      rw [List.take_zero, List.nil_append, Nat.zero_add, List.drop_eq_nil_of_le (by rw [hcl, List.length_map]; exact Nat.le_refl _), List.append_nil]
    clear hlen htk hcs hgg hgrow0 hcell hn hm
    have key : ∀ {ops : Array Oper} {rest : List Oper} {o : Oper} {act : Act} {Q : Exit → Act → World → Prop}, o.guard = none → o.op = .call { callee := .builtin .copy, args := #[.tmp 10, .tmp 11], argTypes := #[23, 23] } → act.eval (.tmp 10) = .slice (some ⟨w.heap.size, 0, none⟩) zs.length zs.length → act.eval (.tmp 11) = .slice (some ⟨b, off, none⟩) zs.length cap → (∀ w1, OwnI w1 w.heap.size w1.heap.size (some ⟨w.heap.size, 0, none⟩) zs.length zs → Below w.heap.size w w1 → wpList Tryz.prog ops Q rest (act.put o.dst (goInt (zs.map (Value.int .i64)).length)) w1) → wpList Tryz.prog ops Q (o :: rest) act w0 := by
      intro ops rest o act Q h1 h2 h3 h4 h5
      refine wpList_copy_splice h1 (.tmp 10) (.tmp 11) 23 23 h2 3 Tryz.underlying23 hsz _ _ zs.length zs.length zs.length cap h3 h4 w.heap.size 0 cur.toList 3 HG.out (zs.map (Value.int .i64)) HN.out HC.out HFt.out H1.out w.heap.size w hb0 (Nat.le_refl _) ?_
      intro w1 hrow hb1
      refine h5 w1 ?_ hb1
      have h := hrow.out
      rw [HSP.out] at h
      refine ⟨⟨by simp, .inr ⟨w.heap.size, zs.length, _, rfl, Nat.le_refl _, h, Nat.le_refl _, by simp [maxLen]; omega, by simp, by simp; exact List.take_of_length_le (by simp)⟩⟩, Nat.le_refl _, fun k hk => ?_⟩
      cases hk
      exact (Array.getElem?_eq_some_iff.1 h).1
    have KEY : Hid _ := @key
    clear key HG HN HFt H1 HSP HC hcl
    go_wp2_with (guard_target = wpList _ _ _ (Oper.mk (some 12) _ _ _ _ _ :: _) _ _; refine KEY.out rfl rfl rfl rfl ?_; intro w1 HO hb1)
    go_ret
    exact ⟨_, _, rfl, HO, hb1⟩
end Go.Proofs.YtjaojcgfgkppgaaGreatDoor

/- The walk of impl.copySlot. -/
namespace Go.Proofs.YtjaojcgfgkppgaaGreatDoor
open Go.RowKit

set_option maxHeartbeats 4000000 in
set_option maxRecDepth 100000 in
theorem copySlot_own (s : SlotA) (w : World) (hr : s.reads w) (hlI : s.v.o.ints.length ≤ 1099511627776) (hlR : s.v.o.refs.length ≤ 1099511627776) :
    Calls Tryz.prog 73 #[.agg s.cells.toArray] w fun e w' => ∃ t : SlotA, e = .returned (.agg t.cells.toArray) ∧ Hid (t.v = s.v) ∧ t.own w' w.heap.size w'.heap.size ∧ Below w.heap.size w w' := by
  obtain ⟨⟨h, ⟨k, ints, refs⟩⟩, aI, cI, aR, cR⟩ := s
  simp only [SlotA.cells, SlotA.reads, SlotA.own] at *
  obtain ⟨hI, hR, _, _⟩ := hr
  simp only at hI hR
  obtain ⟨W, hW, b0, b1, hbW, hsW⟩ := boxes2 w [.bool h, .int .i64 k, .slice aI ints.length cI, .slice aR refs.length cR] [.bool false, .int .i64 0, .slice none 0 0, .slice none 0 0] 27 27
  have hI' := hI.below hbW
  have hR' := hR.below hbW
  have hwW : w.heap.size + 1 < W.heap.size := by omega
  clear hsW hI hR
  have HC : Hid (∀ w'', Below W.heap.size W w'' → w''.cell? ⟨w.heap.size, 0, none⟩ = some (.bool h) ∧ w''.cell? ⟨w.heap.size, 1, none⟩ = some (.int .i64 k) ∧ w''.cell? ⟨w.heap.size, 2, none⟩ = some (.slice aI ints.length cI) ∧ w''.cell? ⟨w.heap.size, 3, none⟩ = some (.slice aR refs.length cR)) := by
    intro w'' hh
    have ba := b0.below hh b0.lt
    exact ⟨ba.cell 0 _ rfl, ba.cell 1 _ rfl, ba.cell 2 _ rfl, ba.cell 3 _ rfl⟩
  have HB : Hid (∀ w'', Below W.heap.size W w'' → Box w'' w.heap.size [.bool h, .int .i64 k, .slice aI ints.length cI, .slice aR refs.length cR] 27 ∧ Box w'' (w.heap.size + 1) [.bool false, .int .i64 0, .slice none 0 0, .slice none 0 0] 27) := fun w'' hh => ⟨b0.below hh b0.lt, b1.below hh b1.lt⟩
  have hh := HC.out W (Below.refl _ _)
  have hne : ¬ (w.heap.size = w.heap.size + 1) := by omega
  clear b0 b1
  go_enter Tryz.func73, Tryz.ntmps73
  go_wp2_with fail
  rw [hW.out]
  clear hW
  go_region_held3 (fun w'' => w''.cell? ⟨w.heap.size, 0, none⟩ = some (.bool h) ∧ w''.cell? ⟨w.heap.size, 1, none⟩ = some (.int .i64 k) ∧ w''.cell? ⟨w.heap.size, 2, none⟩ = some (.slice aI ints.length cI) ∧ w''.cell? ⟨w.heap.size, 3, none⟩ = some (.slice aR refs.length cR))
    (first | exact HC.out _ hB2 | exact HC.out _ hB1 | exact HC.out _ (Below.refl _ _).drew | exact ⟨(((((HB.out _ (by first | exact hBL | fail)).1.other hne).other hne).other hne).other hne).cell 0 _ rfl, (((((HB.out _ (by first | exact hBL | fail)).1.other hne).other hne).other hne).other hne).cell 1 _ rfl, (((((HB.out _ (by first | exact hBL | fail)).1.other hne).other hne).other hne).other hne).cell 2 _ rfl, (((((HB.out _ (by first | exact hBL | fail)).1.other hne).other hne).other hne).other hne).cell 3 _ rfl⟩ | go_keep | fail)
    (first
    | (go_at_call_of 103 (Value.slice aI ints.length cI); refine (copyInts_any aI cI ints _ (hI'.below (by first | exact hB2 | exact (Below.refl _ _).drew | fail)) hlI).mono ?_; rintro e u1 ⟨a1, c1, rfl, ho1, hb1⟩; have hB1 : Below W.heap.size W u1 := (by first | exact hB2.trans (hb1.mono hB2.size) | exact ((Below.refl _ _).drew).trans hb1 | fail); have hBL := hB1; obtain ⟨m0, m1, m2, m3, e0, e1, e2, e3⟩ := (HB.out _ hB1).2.four)
    | (go_at_call_of 103 (Value.slice aR refs.length cR); refine (copyInts_any aR cR refs _ (hR'.below (by first | exact hB1 | exact (Below.refl _ _).drew | fail)) hlR).mono ?_; rintro e u2 ⟨a2, c2, rfl, ho2, hb2⟩; have hB2 : Below W.heap.size W u2 := (by first | exact hB1.trans (hb2.mono hB1.size) | exact ((Below.refl _ _).drew).trans hb2 | fail); have hBL := hB2; obtain ⟨n0, n1, n2, n3, f0, f1, f2, f3⟩ := (HB.out _ hB2).2.four)
    | fail)
  obtain ⟨WF, hWF, bF, hwF, hsF⟩ := box4_fill (HB.out _ hB2).2 (.bool h) (.int .i64 k) (.slice a1 ints.length c1) (.slice a2 refs.length c2)
  have ho1' : OwnI u1 W.heap.size u1.heap.size a1 c1 ints := ho1
  have hsu1 : W.heap.size ≤ u1.heap.size := hB1.size
  have hsu2 := hb2.size
  have hO : OwnO u2 W.heap.size u2.heap.size a1 c1 a2 c2 ⟨k, ints, refs⟩ := ⟨(ho1'.below hb2).widen (Nat.le_refl _) hsu2 (Nat.le_refl _), ho2.widen hsu1 (Nat.le_refl _) (Nat.le_refl _), fun j hj hj' => by have h1 := (ho1'.lt j hj).2; have h2 := (ho2.lt j hj').1; omega⟩
  have hOF : OwnO WF W.heap.size u2.heap.size a1 c1 a2 c2 ⟨k, ints, refs⟩ := hO.within hwF (.inr (by omega))
  have HBF : Hid (Below w.heap.size w WF) := (hbW.trans (hB2.mono (by omega))).trans (hwF.below (by omega) (by omega))
  rw [hWF.out]
  clear hwF ho1 ho2 ho1' hO
  go_wp2
  obtain ⟨q0, q1, q2, q3, _⟩ := bF.four
  exact bodyPost_ret (v := .agg #[.bool h, .int .i64 k, .slice a1 ints.length c1, .slice a2 refs.length c2]) (by simp [results, Tryz.results73, go_sem, q0, q1, q2, q3]) rfl ⟨⟨⟨h, ⟨k, ints, refs⟩⟩, a1, c1, a2, c2⟩, rfl, rfl, hOF.widen (by omega) (by omega) (Nat.le_refl _), HBF.out⟩
end Go.Proofs.YtjaojcgfgkppgaaGreatDoor

/- The walks of laws.markLiveS and laws.heldLiveS. -/
namespace Go.Proofs.YtjaojcgfgkppgaaGreatDoor
open Go.RowKit

def markL1 (k0 : Int) (i : Nat) : LiveV := ⟨k0 + 3 * i, k0 + 3 * i + 1, ((k0 + 3 * i + 1 + 1) % 3 == 0)⟩
def marksL (k0 : Int) (n : Nat) : List LiveV := (List.range n).map fun i : Nat => markL1 k0 i
theorem marksL_len (k0 : Int) (n : Nat) : (marksL k0 n).length = n := by simp [marksL]
theorem marksL_at (k0 : Int) (n i : Nat) (h : i < n) : (marksL k0 n).getD i zeroL = markL1 k0 i := by simp [marksL, List.getD, h]
theorem marksL_succ (k0 : Int) (n : Nat) : marksL k0 (n + 1) = marksL k0 n ++ [markL1 k0 n] := by simp [marksL, List.range_succ]
def markedL (k0 : Int) (xs : List LiveV) (k : Nat) : List LiveV := marksL k0 k ++ xs.drop k
theorem markedL_len (k0 : Int) (xs : List LiveV) (k : Nat) (h : k ≤ xs.length) : (markedL k0 xs k).length = xs.length := by simp [markedL, marksL_len]; omega
theorem markedL_set (k0 : Int) (xs : List LiveV) (k : Nat) (h : k < xs.length) : (markedL k0 xs k).set k (markL1 k0 k) = markedL k0 xs (k + 1) := by
  unfold markedL
  rw [List.set_append, if_neg (by rw [marksL_len]; omega), marksL_len, Nat.sub_self, marksL_succ, List.drop_eq_getElem_cons h, List.set_cons_zero]
  simp
theorem markedL_all (k0 : Int) (xs : List LiveV) : markedL k0 xs xs.length = marksL k0 xs.length := by simp [markedL]

set_option maxHeartbeats 1000000 in
set_option maxRecDepth 100000 in
theorem markLiveS_any (base : Nat) (a : Option Addr) (cap : Nat) (k0 : Int) (xs : List LiveV) (w : World)
    (hown : w.ownsRow base 66 3 (.slice a xs.length cap) xs.length (cellsL xs)) (h0 : 0 ≤ k0) (hl : k0 + 3 * xs.length ≤ 4611686018427387904) :
    Calls Tryz.prog 32 #[.slice a xs.length cap, .int .i64 k0] w fun e w' => e = .returned (.int .i64 (k0 + 3 * xs.length)) ∧
      w'.ownsRow base 66 3 (.slice a xs.length cap) xs.length (cellsL (marksL k0 xs.length)) ∧ w.grownBy w' (Value.slice a xs.length cap).ownBlock := by
  have hlen := hown.1
  rcases hown.2 with ⟨hv, h00⟩ | ⟨g, cap', cur, hv, hg, hgg, hr⟩
  · simp only [Value.slice.injEq] at hv
    obtain ⟨rfl, h00', rfl⟩ := hv
    obtain rfl := List.length_eq_zero_iff.1 h00
    go_enter Tryz.func32, Tryz.ntmps32
    go_wp2
    refine wp_loop_rounds 1 ?_
    rw [rounds_succ]
    go_wp2
    go_ret
    exact ⟨by simp, hown, World.grownBy.refl _ _⟩
  · simp only [Value.slice.injEq] at hv
    obtain ⟨rfl, _, rfl⟩ := hv
    clear hgg hr hlen
    have hM : w.ownsRow base 66 3 (.slice (some ⟨g, 0, none⟩) xs.length cap) xs.length (cellsL (markedL k0 xs 0)) := by simpa [markedL, marksL] using hown
    clear hown
    go_enter Tryz.func32, Tryz.ntmps32
    go_wp2
    go_loopw [1, 5] (fun kk i wr => ∃ k : Nat, k ≤ xs.length ∧ i = .int .i64 k ∧ kk = .int .i64 (k0 + 3 * k) ∧ wr.ownsRow base 66 3 (.slice (some ⟨g, 0, none⟩) xs.length cap) xs.length (cellsL (markedL k0 xs k)) ∧ w.grownBy wr (some g))
      (fun _ i _ => xs.length - (intOf i).toNat)
    case atStart => exact ⟨0, Nat.zero_le _, rfl, by simp, hM, World.grownBy.refl _ _⟩
    case round =>
      obtain ⟨k, hk, rfl, rfl, hown, hgr⟩ := hrel
      clear hM
      by_cases hlt : k < xs.length
      · have hp := markedL_len k0 xs k hk
        obtain ⟨x0, x1, x2, hfz⟩ := row_live hown hp k hlt
        have f0 := hfz (k * 3)
        have f1 := hfz (k * 3 + 1)
        have f2 := hfz (k * 3 + 2)
        obtain ⟨W2, hW2, ho2, hg2⟩ := row_store hown hp k hlt (markL1 k0 k)
        rw [markedL_set k0 xs k hlt] at ho2
        have HH : Hid (_ ∧ _) := ⟨ho2, grownBy_trans hgr hg2⟩
        clear ho2 hg2 hfz hown hgr
        generalize (markedL k0 xs k).getD k zeroL = old at *
        simp only [markL1] at hW2
        go_wp2
        rw [hW2.out]
        go_roundw
        case rel => exact ⟨k + 1, by omega, by go_num, by go_num, HH.out.1, HH.out.2⟩
        case measure => simp [intOf]; omega
      · have HE : Hid (wr.ownsRow base 66 3 (.slice (some ⟨g, 0, none⟩) xs.length cap) xs.length (cellsL (marksL k0 xs.length)) ∧ k = xs.length) := by
          have e : k = xs.length := by omega
          rw [e, markedL_all] at hown
          exact ⟨hown, e⟩
        go_wp2
        go_ret
        exact ⟨ret_int (by have := HE.out.2; omega), HE.out.1, hgr⟩

theorem markLiveS_own (lo hi : Nat) (a : Option Addr) (cap : Nat) (k0 : Int) (xs : List LiveV) (w : World) (ho : OwnL w lo hi a cap xs) (h0 : 0 ≤ k0) (hl : k0 + 3 * xs.length ≤ 4611686018427387904) :
    Calls Tryz.prog 32 #[.slice a xs.length cap, .int .i64 k0] w fun e w' => e = .returned (.int .i64 (k0 + 3 * xs.length)) ∧
      OwnL w' lo hi a cap (marksL k0 xs.length) ∧ Touch (Value.slice a xs.length cap).ownBlock.toList w w' := by
  refine (markLiveS_any lo a cap k0 xs w ho.1 h0 hl).mono ?_
  rintro e w' ⟨rfl, h1, h2⟩
  refine ⟨rfl, ⟨by rw [marksL_len]; exact h1, Nat.le_trans ho.2.1 h2.size, by rw [marksL_len]; exact ho.2.2⟩, Touch.of_grown h2 (fun j hj => Option.mem_toList.2 hj)⟩

set_option maxHeartbeats 1000000 in
set_option maxRecDepth 100000 in
theorem heldLiveS_any (a : Option Addr) (cap : Nat) (k0 : Int) (n : Nat) (w : World) (hr : ReadsL w a (marksL k0 n)) (h0 : 0 ≤ k0) (hl : k0 + 3 * n ≤ 4611686018427387904) :
    Calls Tryz.prog 34 #[.slice a n cap, .int .i64 k0] w fun e w' => e = .returned (.int .i64 (k0 + 3 * n)) ∧ w' = w := by
  rcases hr.cases with h | ⟨b, off, rfl, hpos, hcell⟩
  · have h' := congrArg List.length h
    rw [marksL_len] at h'
    simp at h'
    subst h'
    go_enter Tryz.func34, Tryz.ntmps34
    go_wp2
    refine wp_loop_rounds 1 ?_
    rw [rounds_succ]
    go_wp2
    go_ret
    exact ⟨by simp, rfl⟩
  · rw [marksL_len] at hpos hcell
    go_enter Tryz.func34, Tryz.ntmps34
    go_wp2
    go_loop [1, 5] (fun kk i => ∃ k : Nat, k ≤ n ∧ i = .int .i64 k ∧ kk = .int .i64 (k0 + 3 * k)) (fun _ i => n - (intOf i).toNat)
    case atStart => exact ⟨0, Nat.zero_le _, rfl, by simp⟩
    case round =>
      obtain ⟨k, hk, rfl, rfl⟩ := hrel
      by_cases hlt : k < n
      · obtain ⟨c0, c1, c2⟩ := hcell k hlt
        rw [marksL_at k0 n k hlt] at c0 c1 c2
        simp only [markL1] at c0 c1 c2
        clear hcell
        go_wp2
        go_round
        case rel => exact ⟨k + 1, by omega, by go_num, by go_num⟩
        case measure => simp [intOf]; omega
      · have HE : Hid (k = n) := by show k = n; omega
        go_wp2
        go_ret
        exact ⟨ret_int (by have := HE.out; omega), rfl⟩
end Go.Proofs.YtjaojcgfgkppgaaGreatDoor

/- The walks of laws.markRec and laws.heldRec. -/
namespace Go.Proofs.YtjaojcgfgkppgaaGreatDoor
open Go.RowKit

def RecA.mark (r : RecA) (k : Int) : RecA := { r with bf := r.bf.mark k, af := r.af.mark (k + r.bf.count), txs := marksL (k + r.bf.count + r.af.count) r.txs.length }
def RecA.count (r : RecA) : Nat := r.bf.count + r.af.count + 3 * r.txs.length
theorem markR_blocks (r : RecA) (k : Int) : (r.mark k).blocks = r.blocks := by simp [RecA.mark, RecA.blocks, mark_blocks, marksL_len]
theorem markR_cells (r : RecA) (k : Int) : (r.mark k).cells = r.cells := by simp [RecA.mark, RecA.cells, SlotA.mark, markO, marksI_len, marksL_len]

set_option maxHeartbeats 1000000 in
set_option maxRecDepth 100000 in
theorem markRec_touch (r : RecA) (lo hi : Nat) (k0 : Int) (w : World) (ho : r.own w lo hi) (hl : r.short 1099511627776) (h0 : 0 ≤ k0) (hk : k0 ≤ 1099511627776) :
    Calls Tryz.prog 11 #[.agg r.cells.toArray, .int .i64 k0] w fun e w' => e = .returned (.int .i64 (k0 + r.count)) ∧ (r.mark k0).own w' lo hi ∧ Touch r.blocks w w' := by
  obtain ⟨W, hW, b0, hbW, hsW⟩ := boxes1 w r.cells 30
  have hoW := ho.below hbW
  have hlw := ho.txs.2.1
  have hap := ho.apart
  have HC : Hid (r.count = r.bf.count + r.af.count + 3 * r.txs.length ∧ r.bf.count ≤ 2199023255552 ∧ r.af.count ≤ 2199023255552) := ⟨rfl, by have := hl.bf; simp only [SlotA.count]; omega, by have := hl.af; simp only [SlotA.count]; omega⟩
  have hbl : ∀ k ∈ r.blocks, k < w.heap.size := by
    intro k hk
    simp only [RecA.blocks, List.mem_append] at hk
    rcases hk with h | h | h
    · have := (SlotA.blocks_lt ho.bf k h).2; omega
    · have := (SlotA.blocks_lt ho.af k h).2; omega
    · have := (ho.txs.lt k (Option.mem_toList.1 h)).2; omega
  have hd1 : ∀ k ∈ r.bf.blocks, k ∉ r.af.blocks ∧ k ∉ (Value.slice r.aL r.txs.length r.cL).ownBlock.toList := by
    intro k hk
    have := (List.nodup_append.1 hap).2.2 k hk
    exact ⟨fun h => this k (List.mem_append.2 (.inl h)) rfl, fun h => this k (List.mem_append.2 (.inr h)) rfl⟩
  have hd2 : ∀ k ∈ r.af.blocks, k ∉ (Value.slice r.aL r.txs.length r.cL).ownBlock.toList := by
    intro k hk h
    exact (List.nodup_append.1 (List.nodup_append.1 hap).2.1).2.2 k hk k h rfl
  have C1 := markSlot_touch r.bf lo hi k0 W hoW.bf h0 hl.bf.1 hl.bf.2 (by omega)
  simp only [SlotA.cells] at C1
  have HB : Hid (∀ w', Touch r.blocks W w' → Box w' w.heap.size r.cells 30) := fun w' ht => b0.touch ht (fun h => by have := hbl _ h; omega)
  have hsub1 : ∀ k ∈ r.bf.blocks, k ∈ r.blocks := fun k hk => List.mem_append.2 (.inl hk)
  have hsub2 : ∀ k ∈ r.af.blocks, k ∈ r.blocks := fun k hk => List.mem_append.2 (.inr (List.mem_append.2 (.inl hk)))
  have hsub3 : ∀ k ∈ (Value.slice r.aL r.txs.length r.cL).ownBlock.toList, k ∈ r.blocks := fun k hk => List.mem_append.2 (.inr (List.mem_append.2 (.inr hk)))
  have HX : Hid (_ ∧ _ ∧ _ ∧ _ ∧ _) := ⟨hd1, hd2, hsub1, hsub2, hsub3⟩
  have HBW : Hid (Below w.heap.size w W) := hbW
  have HAP : Hid (r.blocks.Nodup) := hap
  have HL : Hid _ := hl
  clear hsW hbW hd1 hd2 hsub1 hsub2 hsub3 hbl hap hlw ho hl
  simp only [RecA.cells] at *
  go_enter Tryz.func11, Tryz.ntmps11
  go_wp2_with fail
  rw [hW.out]
  clear hW b0
  refine C1.mono ?_
  clear C1
  rintro e w1 ⟨rfl, ho1, ht1⟩
  have T1 : Touch r.blocks W w1 := ht1.mono HX.out.2.2.1
  have b1 := HB.out w1 T1
  have c9 := b1.cell 9 _ rfl
  have c10 := b1.cell 10 _ rfl
  have c11 := b1.cell 11 _ rfl
  have c12 := b1.cell 12 _ rfl
  have hoA1 := SlotA.touch hoW.af ht1 (fun k hk h => (HX.out.1 k h).1 hk)
  have hoL1 := hoW.txs.touch ht1 (fun k hk h => (HX.out.1 k h).2 (Option.mem_toList.2 hk))
  have C2 := markSlot_touch r.af lo hi (k0 + r.bf.count) w1 hoA1 (by omega) HL.out.af.1 HL.out.af.2 (by have := HC.out.2.1; omega)
  simp only [SlotA.cells] at C2
  clear b1 ht1 hoA1
  go_wp2_with fail
  refine C2.mono ?_
  clear C2 c9 c10 c11 c12
  rintro e w2 ⟨rfl, ho2, ht2⟩
  have T2 : Touch r.blocks W w2 := T1.trans (ht2.mono HX.out.2.2.2.1)
  have b2 := HB.out w2 T2
  have c14 := b2.cell 14 _ rfl
  have hoB2 := SlotA.touch ho1 ht2 (fun k hk h => by rw [mark_blocks] at hk; exact (HX.out.1 k hk).1 h)
  have hoL2 := hoL1.touch ht2 (fun k hk h => HX.out.2.1 k h (Option.mem_toList.2 hk))
  have C3 := markLiveS_own lo hi r.aL r.cL (k0 + r.bf.count + r.af.count) r.txs w2 hoL2 (by omega) (by have := HC.out.2; have := HL.out.txs; omega)
  clear b2 ht2 hoL1 ho1 T1 hoL2
  go_wp2_with fail
  refine C3.mono ?_
  clear C3 c14
  rintro e w3 ⟨rfl, ho3, ht3⟩
  have T3 : Touch r.blocks W w3 := T2.trans (ht3.mono HX.out.2.2.2.2)
  have hoB3 := SlotA.touch hoB2 ht3 (fun k hk h => by rw [mark_blocks] at hk; exact (HX.out.1 k hk).2 h)
  have hoA3 := SlotA.touch ho2 ht3 (fun k hk h => by rw [mark_blocks] at hk; exact HX.out.2.1 k hk h)
  clear hoB2 ho2 ht3 T2
  go_wp2
  go_ret
  refine ⟨ret_int (by have := HC.out.1; omega), ⟨hoB3, hoA3, ?_, ?_⟩, (Touch.of_below HBW.out).trans T3⟩
  · exact ho3
  · rw [markR_blocks]; exact HAP.out

set_option maxHeartbeats 1000000 in
set_option maxRecDepth 100000 in
theorem heldRec_any (r : RecA) (lo hi : Nat) (k0 : Int) (w : World) (ho : (r.mark k0).own w lo hi) (hl : r.short 1099511627776) (h0 : 0 ≤ k0) (hk : k0 ≤ 1099511627776) :
    Calls Tryz.prog 12 #[.agg r.cells.toArray, .int .i64 k0] w fun e w' => e = .returned (.int .i64 (k0 + r.count)) ∧ Below w.heap.size w w' := by
  obtain ⟨W, hW, b0, hbW, hsW⟩ := boxes1 w r.cells 30
  have hoW := ho.below hbW
  have HC : Hid (r.count = r.bf.count + r.af.count + 3 * r.txs.length ∧ r.bf.count ≤ 2199023255552 ∧ r.af.count ≤ 2199023255552) := ⟨rfl, by have := hl.bf; simp only [SlotA.count]; omega, by have := hl.af; simp only [SlotA.count]; omega⟩
  have C1 := heldSlot_any r.bf lo hi k0 W hoW.bf h0 hl.bf.1 hl.bf.2 (by omega)
  simp only [SlotA.cells] at C1
  have HL : Hid _ := hl
  clear hsW ho hl
  simp only [RecA.cells] at *
  go_enter Tryz.func12, Tryz.ntmps12
  go_wp2_with fail
  rw [hW.out]
  clear hW
  refine C1.mono ?_
  clear C1
  rintro e w1 ⟨rfl, hb1⟩
  have b1 := b0.below hb1 b0.lt
  have B1 : Below w.heap.size w w1 := hbW.trans (hb1.mono hbW.size)
  have hoA1 := OwnO.below hoW.af hb1
  have hoL1 := hoW.txs.below hb1
  have c9 := b1.cell 9 _ rfl
  have c10 := b1.cell 10 _ rfl
  have c11 := b1.cell 11 _ rfl
  have c12 := b1.cell 12 _ rfl
  have C2 := heldSlot_any r.af lo hi (k0 + r.bf.count) w1 hoA1 (by omega) HL.out.af.1 HL.out.af.2 (by have := HC.out.2.1; omega)
  simp only [SlotA.cells] at C2
  clear hoW hbW b0 hb1 hoA1
  go_wp2_with fail
  refine C2.mono ?_
  clear C2 c9 c10 c11 c12
  rintro e w2 ⟨rfl, hb2⟩
  have b2 := b1.below hb2 b1.lt
  have B2 : Below w.heap.size w w2 := B1.trans (hb2.mono B1.size)
  have c14 := b2.cell 14 _ rfl
  have hoL2 := hoL1.below hb2
  have C3 := heldLiveS_any r.aL r.cL (k0 + r.bf.count + r.af.count) r.txs.length w2 hoL2.reads (by omega) (by have := HC.out.2; have := HL.out.txs; omega)
  clear b1 b2 hb2 hoL1 hoL2 B1
  go_wp2_with fail
  refine C3.mono ?_
  clear C3 c14
  rintro e w3 ⟨rfl, rfl⟩
  go_wp2
  go_ret
  exact ⟨ret_int (by have := HC.out.1; omega), B2⟩
end Go.Proofs.YtjaojcgfgkppgaaGreatDoor
