/- Several texts in one, in their order. -/
import Derived.Test.YtoboickdkednkaaDoorPFnPoolsx1
import Derived.Deep.AppendLies
import Derived.Laws.AppendOwnNone
import Derived.Deep.RegionLaw
import Derived.Deep.DrawnRows
import Derived.Deep.RegionHeld3
/- Objects: what they are, what a walk reads and owns of them. -/
namespace Go.Proofs.YtoboickdkednkaaDoor
open Go.RowKit

structure ObjV where
  kind : Int
  ints : List Int
  refs : List Int

/-- The value of an object whose lists lie at aI and aR. -/
def ObjV.val (o : ObjV) (aI : Option Addr) (cI : Nat) (aR : Option Addr) (cR : Nat) : Value := .agg #[.int .i64 o.kind, .slice aI o.ints.length cI, .slice aR o.refs.length cR]

structure ReadsO (w : World) (aI : Option Addr) (cI : Nat) (aR : Option Addr) (cR : Nat) (o : ObjV) : Prop where
  ints : ReadsI w aI o.ints
  refs : ReadsI w aR o.refs
  ni : aI = none → cI = 0
  nr : aR = none → cR = 0

structure OwnO (w : World) (lo hi : Nat) (aI : Option Addr) (cI : Nat) (aR : Option Addr) (cR : Nat) (o : ObjV) : Prop where
  ints : OwnI w lo hi aI cI o.ints
  refs : OwnI w lo hi aR cR o.refs
  apart : ∀ k, (Value.slice aI o.ints.length cI).ownBlock = some k → (Value.slice aR o.refs.length cR).ownBlock ≠ some k

theorem ReadsO.below {w w' : World} {aI : Option Addr} {cI : Nat} {aR : Option Addr} {cR : Nat} {o : ObjV} (h : ReadsO w aI cI aR cR o) (hb : Below w.heap.size w w') : ReadsO w' aI cI aR cR o := ⟨h.ints.below hb, h.refs.below hb, h.ni, h.nr⟩
theorem ReadsO.drew {w : World} {aI : Option Addr} {cI : Nat} {aR : Option Addr} {cR : Nat} {o : ObjV} (h : ReadsO w aI cI aR cR o) : ReadsO w.drew aI cI aR cR o := h.below (Below.refl _ _).drew
theorem OwnO.reads {w : World} {lo hi : Nat} {aI : Option Addr} {cI : Nat} {aR : Option Addr} {cR : Nat} {o : ObjV} (h : OwnO w lo hi aI cI aR cR o) : ReadsO w aI cI aR cR o := ⟨h.ints.reads, h.refs.reads, h.ints.nocap, h.refs.nocap⟩
theorem OwnO.within {w w' : World} {lo hi l r : Nat} {aI : Option Addr} {cI : Nat} {aR : Option Addr} {cR : Nat} {o : ObjV} (h : OwnO w lo hi aI cI aR cR o) (hw : Within l r w w') (hd : hi ≤ l ∨ r ≤ lo) : OwnO w' lo hi aI cI aR cR o := ⟨h.ints.within hw hd, h.refs.within hw hd, h.apart⟩
theorem OwnO.below {w w' : World} {lo hi : Nat} {aI : Option Addr} {cI : Nat} {aR : Option Addr} {cR : Nat} {o : ObjV} (h : OwnO w lo hi aI cI aR cR o) (hb : Below w.heap.size w w') : OwnO w' lo hi aI cI aR cR o := ⟨h.ints.below hb, h.refs.below hb, h.apart⟩
theorem OwnO.widen {w : World} {lo hi lo' hi' : Nat} {aI : Option Addr} {cI : Nat} {aR : Option Addr} {cR : Nat} {o : ObjV} (h : OwnO w lo hi aI cI aR cR o) (h1 : lo' ≤ lo) (h2 : hi ≤ hi') (h3 : hi' ≤ w.heap.size) : OwnO w lo' hi' aI cI aR cR o := ⟨h.ints.widen h1 h2 h3, h.refs.widen h1 h2 h3, h.apart⟩

theorem OwnI.kept {w w' : World} {lo hi : Nat} {a : Option Addr} {c : Nat} {ns : List Int} {row : Option Nat} (h : OwnI w lo hi a c ns) (hg : w.grownBy w' row) (hne : ∀ k, (Value.slice a ns.length c).ownBlock = some k → row ≠ some k) : OwnI w' lo hi a c ns :=
  ⟨ownsRow_block h.1 (fun k hk => hg.block k (h.1.lt k hk).2 (fun e => hne k hk e.symm)), Nat.le_trans h.2.1 hg.size, h.2.2⟩
end Go.Proofs.YtoboickdkednkaaDoor

/- A box of three cells, filled. -/
namespace Go.Proofs.YtoboickdkednkaaDoor
open Go.RowKit

/-- The facts that a walk wants of a box of three cells. -/
theorem Box.three {w : World} {B : Nat} {x0 x1 x2 : Value} {t : TypeId} (b : Box w B [x0, x1, x2] t) :
    w.cell? ⟨B, 0, none⟩ = some x0 ∧ w.cell? ⟨B, 1, none⟩ = some x1 ∧ w.cell? ⟨B, 2, none⟩ = some x2 ∧ w.frozen? ⟨B, 0, none⟩ = false ∧ w.frozen? ⟨B, 1, none⟩ = false ∧ w.frozen? ⟨B, 2, none⟩ = false :=
  ⟨b.cell 0 _ rfl, b.cell 1 _ rfl, b.cell 2 _ rfl, b.frozen 0, b.frozen 1, b.frozen 2⟩

theorem box3_fill {w : World} {B : Nat} {x0 x1 x2 : Value} {t : TypeId} (b : Box w B [x0, x1, x2] t) (v0 v1 v2 : Value) :
    ∃ W, Hid (((w.setCell ⟨B, 0, none⟩ v0).setCell ⟨B, 1, none⟩ v1).setCell ⟨B, 2, none⟩ v2 = W) ∧ Box W B [v0, v1, v2] t ∧ Within B (B + 1) w W ∧ W.heap.size = w.heap.size := by
  refine ⟨_, rfl, ?_, ?_, ?_⟩
  · have := ((b.set 0 v0).set 1 v1).set 2 v2
    simpa only [List.set] using this
  · exact ((within_set w B 0 v0 (by omega)).trans (within_set _ B 1 v1 (by omega))).trans (within_set _ B 2 v2 (by omega))
  · simp
end Go.Proofs.YtoboickdkednkaaDoor

/- Appending numbers as a step of a region that draws its order; an object in a box of the call. -/
namespace Go.Proofs.YtoboickdkednkaaDoor
open Go.RowKit

theorem run_append_ints {w : World} (ty : TypeId) (lo hi : Nat) (a : Option Addr) (c : Nat) (xs : List Int) (hown : OwnI w lo hi a c xs)
    (sa : Option Addr) (sc : Nat) (zs : List Int) (hr : ReadsI w sa zs) (hc : sa = none → sc = 0) (hb : xs.length + zs.length ≤ 1099511627776) (hlo : lo ≤ w.heap.size) :
    ∃ a' c' ys w', (Builtin.append_ #[27, 27] ty #[.slice a xs.length c, .slice sa zs.length sc]).run Tryd.prog w = .ok (.slice a' ys.length c') w' ∧ Hid (ys = xs ++ zs) ∧ OwnI w' lo w'.heap.size a' c' ys ∧ w.grownBy w' (Value.slice a xs.length c).ownBlock ∧
      (∀ k, (Value.slice a' ys.length c').ownBlock = some k → (Value.slice a xs.length c).ownBlock = some k ∨ k = w.heap.size) := by
  obtain ⟨i0, hi0, hz0, hz1, hz2⟩ := info_parts Tryd.infoInt
  cases sa with
  | none =>
    have hz : zs = [] := by
      by_cases e : zs = []
      · exact e
      · obtain ⟨b, off, hh, _⟩ := hr e
        cases hh
    subst hz
    have := hc rfl
    subst this
    refine ⟨a, c, xs, w, run_append_owned_none (P := Tryd.prog) (w := w) lo 27 ty 3 i0 1 Tryd.underlying27 hi0 _ _ _ hown.1, (by simp [Hid]), ⟨hown.1, Nat.le_refl _, fun k hk => (hown.1.lt k hk).2⟩, World.grownBy.refl _ _, fun k hk => .inl hk⟩
  | some ad =>
    obtain ⟨v', w', h1, h2, h3, _, h5⟩ := run_append_own_at (P := Tryd.prog) w lo 27 ty 3 i0 (.int .i64 0) 1 8 Tryd.underlying27 hi0 hz0 hz1 hz2 rfl (by decide) _ _ _ hown.1 ad zs.length sc (zs.map (Value.int .i64)) (by simp) (by
      intro j u hj
      have hjl : j < zs.length := by
        by_cases e : j < zs.length
        · exact e
        · simp [List.getElem?_eq_none (Nat.le_of_not_lt e)] at hj
      have hne : zs ≠ [] := by intro e; simp [e] at hjl
      obtain ⟨b, off, hh, hcell⟩ := hr hne
      cases hh
      rw [Addr_add, hcell j hjl]
      simpa [hjl] using hj) (ints_oneCell _ _) (by simp only [maxLen]; omega) (by omega) hlo
    rw [← List.map_append, ← List.length_append] at h2
    have sh : ∃ a' c', v' = .slice a' (xs ++ zs).length c' := by
      rcases h2.2 with ⟨rfl, h0⟩ | ⟨g, cap, cur, rfl, _⟩
      · exact ⟨none, 0, by rw [h0]⟩
      · exact ⟨_, _, rfl⟩
    obtain ⟨a', c', rfl⟩ := sh
    refine ⟨a', c', xs ++ zs, w', h1, rfl, ⟨h2, Nat.le_refl _, fun k hk => (h2.lt k hk).2⟩, h3, fun k hk => ?_⟩
    rcases h5 with h5 | h5
    · exact .inl (by rw [← h5]; exact hk)
    · rw [h5] at hk
      exact .inr (Option.some.inj hk).symm

theorem step_append_ints {w : World} {ops : Array Oper} {o : Oper} {act : Act} {K : Act → World → Prop} {Q : Exit → Act → World → Prop} {E : Prop} (hgd : o.guard = none) (s x : Operand)
    (ho : o.op = .call { callee := .builtin .append, args := #[s, x], argTypes := #[27, 27] })
    (lo hi : Nat) (a : Option Addr) (c : Nat) (xs : List Int) (hs : act.eval s = .slice a xs.length c) (hown : OwnI w lo hi a c xs)
    (sa : Option Addr) (sc : Nat) (zs : List Int) (hx : act.eval x = .slice sa zs.length sc) (hr : ReadsI w sa zs) (hc : sa = none → sc = 0)
    (hb : xs.length + zs.length ≤ 1099511627776) (hlo : lo ≤ w.heap.size)
    (h : ∀ a' c' ys w', Hid (ys = xs ++ zs) → OwnI w' lo w'.heap.size a' c' ys → w.grownBy w' (Value.slice a xs.length c).ownBlock →
      (∀ k, (Value.slice a' ys.length c').ownBlock = some k → (Value.slice a xs.length c).ownBlock = some k ∨ k = w.heap.size) → K (act.put o.dst (.slice a' ys.length c')) w') :
    if Region.wanted o (yielded ops act.tmps) = true then Oper.wp Tryd.prog o act w K Q else E := by
  have hw : Region.wanted o (yielded ops act.tmps) = true := by simp [Region.wanted, hgd]
  rw [if_pos hw]
  obtain ⟨a', c', ys, w', hrun, h1, h2, h3, h4⟩ := run_append_ints (w := w) o.type lo hi a c xs hown sa sc zs hr hc hb hlo
  unfold Oper.wp execOp
  simp only [ho, resolve, invoke, builtin, Sem.run_bind, Sem.run_pure, Result.andThen_ok, List.map_toArray, List.map_cons, List.map_nil, hs, hx, hrun]
  exact h a' c' ys w' h1 h2 h3 h4

/-- An object lies in block Bo; its lists lie from lo on, and the call owns them. -/
structure ObjAt (w : World) (lo Bo : Nat) (o : ObjV) (aI : Option Addr) (cI : Nat) (aR : Option Addr) (cR : Nat) : Prop where
  box : Box w Bo [.int .i64 o.kind, .slice aI o.ints.length cI, .slice aR o.refs.length cR] 29
  own : OwnO w lo w.heap.size aI cI aR cR o
  lt : Bo < lo

theorem OwnO.kept {w w' : World} {lo hi : Nat} {aI : Option Addr} {cI : Nat} {aR : Option Addr} {cR : Nat} {o : ObjV} {B : Nat} (h : OwnO w lo hi aI cI aR cR o) (hg : w.grownBy w' (some B)) (hB : B < lo) : OwnO w' lo w'.heap.size aI cI aR cR o := by
  have h1 := h.ints.kept hg (fun k hk e => by have := (h.ints.lt k hk).1; cases e; omega)
  have h2 := h.refs.kept hg (fun k hk e => by have := (h.refs.lt k hk).1; cases e; omega)
  exact ⟨h1.widen (Nat.le_refl _) h1.2.1 (Nat.le_refl _), h2.widen (Nat.le_refl _) h2.2.1 (Nat.le_refl _), h.apart⟩

theorem ObjAt.kept {w w' : World} {lo Bo : Nat} {aI : Option Addr} {cI : Nat} {aR : Option Addr} {cR : Nat} {o : ObjV} {B : Nat} (h : ObjAt w lo Bo o aI cI aR cR) (hg : w.grownBy w' (some B)) (hB : B < Bo) : ObjAt w' lo Bo o aI cI aR cR :=
  ⟨h.box.block (hg.block Bo h.box.lt (fun e => by cases e; omega)), h.own.kept hg (by have := h.lt; omega), h.lt⟩
theorem ObjAt.alloc {w : World} {lo Bo : Nat} {aI : Option Addr} {cI : Nat} {aR : Option Addr} {cR : Nat} {o : ObjV} (h : ObjAt w lo Bo o aI cI aR cR) (ob : Obj) : ObjAt (w.alloc ob) lo Bo o aI cI aR cR :=
  ⟨h.box.alloc ob, (h.own.below ((Below.refl _ _).alloc (Nat.le_refl _) ob)).widen (Nat.le_refl _) (by simp) (Nat.le_refl _), h.lt⟩
theorem ObjAt.drew {w : World} {lo Bo : Nat} {aI : Option Addr} {cI : Nat} {aR : Option Addr} {cR : Nat} {o : ObjV} (h : ObjAt w lo Bo o aI cI aR cR) : ObjAt w.drew lo Bo o aI cI aR cR :=
  ⟨h.box, h.own.below (Below.refl _ _).drew, h.lt⟩
theorem ObjAt.three {w : World} {lo Bo : Nat} {aI : Option Addr} {cI : Nat} {aR : Option Addr} {cR : Nat} {o : ObjV} (h : ObjAt w lo Bo o aI cI aR cR) :
    w.cell? ⟨Bo, 0, none⟩ = some (.int .i64 o.kind) ∧ w.cell? ⟨Bo, 1, none⟩ = some (.slice aI o.ints.length cI) ∧ w.cell? ⟨Bo, 2, none⟩ = some (.slice aR o.refs.length cR) ∧ w.frozen? ⟨Bo, 0, none⟩ = false ∧ w.frozen? ⟨Bo, 1, none⟩ = false ∧ w.frozen? ⟨Bo, 2, none⟩ = false := h.box.three

theorem Box.grown {w w' : World} {C B : Nat} {vs : List Value} {t : TypeId} (h : Box w C vs t) (hg : w.grownBy w' (some B)) (hne : C ≠ B) : Box w' C vs t := h.block (hg.block C h.lt (fun e => hne (Option.some.inj e)))
theorem CurAt.drew {w : World} {B : Nat} {zs : List Int} (h : CurAt w B zs) : CurAt w.drew B zs := h
theorem grown_drew (w : World) (r : Option Nat) : w.grownBy w.drew r := ⟨rfl, rfl, rfl, Nat.le_refl _, fun _ _ _ => rfl⟩

/-- The lists after an append to the first: the object in its box, the cursor, and all that was there. -/
theorem ObjAt.pushI {w0 w w' : World} {lo Bo B : Nat} {aI : Option Addr} {cI : Nat} {aR : Option Addr} {cR : Nat} {o : ObjV} {zs : List Int} (h : ObjAt w lo Bo o aI cI aR cR) (hc : CurAt w B zs) (hB : B < Bo) (hg0 : w0.grownBy w (some B)) (h0 : w0.heap.size ≤ Bo)
    {a' : Option Addr} {c' : Nat} {ys : List Int} (ho : OwnI w' lo w'.heap.size a' c' ys) (hg : w.grownBy w' (Value.slice aI o.ints.length cI).ownBlock)
    (hat : ∀ k, (Value.slice a' ys.length c').ownBlock = some k → (Value.slice aI o.ints.length cI).ownBlock = some k ∨ k = w.heap.size) :
    (w'.cell? ⟨Bo, 1, none⟩ = some (.slice aI o.ints.length cI) ∧ w'.frozen? ⟨Bo, 1, none⟩ = false) ∧
    ObjAt (w'.setCell ⟨Bo, 1, none⟩ (.slice a' ys.length c')) lo Bo ⟨o.kind, ys, o.refs⟩ a' c' aR cR ∧ CurAt (w'.setCell ⟨Bo, 1, none⟩ (.slice a' ys.length c')) B zs ∧ w0.grownBy (w'.setCell ⟨Bo, 1, none⟩ (.slice a' ys.length c')) (some B) ∧ (∀ b, b < lo → b ≠ Bo → b < w.heap.size → (w'.setCell ⟨Bo, 1, none⟩ (.slice a' ys.length c')).heap[b]? = w.heap[b]?) := by
  have hlt := h.lt
  have hb' : Box w' Bo _ _ := h.box.block (hg.block Bo h.box.lt (fun e => by have := (h.own.ints.lt Bo e.symm).1; omega))
  have hbs := hb'.set 1 (.slice a' ys.length c')
  simp only [List.set] at hbs
  have hgs := grown_set w' Bo 1 (.slice a' ys.length c')
  have hR' := h.own.refs.kept hg (fun k hk e => h.own.apart k e hk)
  have hI2 := ho.kept hgs (fun k hk e => by have := (ho.lt k hk).1; cases e; omega)
  have hR2 := hR'.kept hgs (fun k hk e => by have := (hR'.lt k hk).1; cases e; omega)
  refine ⟨⟨hb'.cell 1 _ rfl, hb'.frozen 1⟩, ⟨hbs, ⟨hI2.widen (Nat.le_refl _) hI2.2.1 (Nat.le_refl _), hR2.widen (Nat.le_refl _) hR2.2.1 (Nat.le_refl _), fun k hk => ?_⟩, hlt⟩, ?_, ?_, ?_⟩
  · rcases hat k hk with e | e
    · exact h.own.apart k e
    · intro e'
      have := (h.own.refs.lt k e').2
      omega
  · exact (hc.kept hg (fun k e => by have := (h.own.ints.lt k e).1; omega)).kept hgs (fun k e => by cases e; omega)
  · exact grownBy_new (grownBy_new hg0 hg (fun k e => by have := (h.own.ints.lt k e).1; omega)) hgs (fun k e => by cases e; omega)
  · intro b hb hn hbl
    rw [hgs.block b (by have := hg.size; omega) (fun e => hn (Option.some.inj e))]
    exact hg.block b hbl (fun e => by have := (h.own.ints.lt b e.symm).1; omega)

theorem ObjAt.pushR {w0 w w' : World} {lo Bo B : Nat} {aI : Option Addr} {cI : Nat} {aR : Option Addr} {cR : Nat} {o : ObjV} {zs : List Int} (h : ObjAt w lo Bo o aI cI aR cR) (hc : CurAt w B zs) (hB : B < Bo) (hg0 : w0.grownBy w (some B)) (h0 : w0.heap.size ≤ Bo)
    {a' : Option Addr} {c' : Nat} {ys : List Int} (ho : OwnI w' lo w'.heap.size a' c' ys) (hg : w.grownBy w' (Value.slice aR o.refs.length cR).ownBlock)
    (hat : ∀ k, (Value.slice a' ys.length c').ownBlock = some k → (Value.slice aR o.refs.length cR).ownBlock = some k ∨ k = w.heap.size) :
    (w'.cell? ⟨Bo, 2, none⟩ = some (.slice aR o.refs.length cR) ∧ w'.frozen? ⟨Bo, 2, none⟩ = false) ∧
    ObjAt (w'.setCell ⟨Bo, 2, none⟩ (.slice a' ys.length c')) lo Bo ⟨o.kind, o.ints, ys⟩ aI cI a' c' ∧ CurAt (w'.setCell ⟨Bo, 2, none⟩ (.slice a' ys.length c')) B zs ∧ w0.grownBy (w'.setCell ⟨Bo, 2, none⟩ (.slice a' ys.length c')) (some B) ∧ (∀ b, b < lo → b ≠ Bo → b < w.heap.size → (w'.setCell ⟨Bo, 2, none⟩ (.slice a' ys.length c')).heap[b]? = w.heap[b]?) := by
  have hlt := h.lt
  have hb' : Box w' Bo _ _ := h.box.block (hg.block Bo h.box.lt (fun e => by have := (h.own.refs.lt Bo e.symm).1; omega))
  have hbs := hb'.set 2 (.slice a' ys.length c')
  simp only [List.set] at hbs
  have hgs := grown_set w' Bo 2 (.slice a' ys.length c')
  have hI' := h.own.ints.kept hg (fun k hk e => h.own.apart k hk e)
  have hR2 := ho.kept hgs (fun k hk e => by have := (ho.lt k hk).1; cases e; omega)
  have hI2 := hI'.kept hgs (fun k hk e => by have := (hI'.lt k hk).1; cases e; omega)
  refine ⟨⟨hb'.cell 2 _ rfl, hb'.frozen 2⟩, ⟨hbs, ⟨hI2.widen (Nat.le_refl _) hI2.2.1 (Nat.le_refl _), hR2.widen (Nat.le_refl _) hR2.2.1 (Nat.le_refl _), fun k hk => ?_⟩, hlt⟩, ?_, ?_, ?_⟩
  · intro e'
    rcases hat k e' with e | e
    · exact h.own.apart k hk e
    · have := (h.own.ints.lt k hk).2
      omega
  · exact (hc.kept hg (fun k e => by have := (h.own.refs.lt k e).1; omega)).kept hgs (fun k e => by cases e; omega)
  · exact grownBy_new (grownBy_new hg0 hg (fun k e => by have := (h.own.refs.lt k e).1; omega)) hgs (fun k e => by cases e; omega)
  · intro b hb hn hbl
    rw [hgs.block b (by have := hg.size; omega) (fun e => hn (Option.some.inj e))]
    exact hg.block b hbl (fun e => by have := (h.own.refs.lt b e.symm).1; omega)
end Go.Proofs.YtoboickdkednkaaDoor

/- The walk of spec.l2Obj. -/
namespace Go.Proofs.YtoboickdkednkaaDoor
open Go.RowKit
attribute [local go_sem ↓] Go.wp_at_zero Go.wp_at_succ

set_option maxHeartbeats 4000000 in
set_option maxRecDepth 100000 in
theorem l2Obj_any (B : Nat) (zs : List Int) (w : World) (hc : CurAt w B zs) (hl : zs.length ≤ 70368744177664) :
    Calls Tryd.prog 56 #[.pointer (some ⟨B, 0, none⟩)] w fun e w' => ∃ aI cI aR cR o, e = .returned (.agg #[.int .i64 o.kind, .slice aI o.ints.length cI, .slice aR o.refs.length cR]) ∧ o.ints.length ≤ 3 ∧ o.refs.length ≤ 3 ∧ OwnO w' w.heap.size w'.heap.size aI cI aR cR o ∧ CurAt w' B zs ∧ w.grownBy w' (some B) := by
  have hB := hc.lt
  obtain ⟨W, hW, b0, hbW, hsW⟩ := boxes1 w [.int .i64 0, .slice none 0 0, .slice none 0 0] 29
  have hg0 : w.grownBy W (some B) := ⟨hbW.os, hbW.tape, hbW.output, hbW.size, fun k hk _ => hbW.block k hk⟩
  have hcW : CurAt W B zs := hc.below hbW
  have hsW' : w.heap.size < W.heap.size := by omega
  clear hsW hc
  go_enter Tryd.func56, Tryd.ntmps56
  go_wp2_with fail
  rw [hW.out]
  clear hW hbW
  refine (l1Below_any B zs 5 W hcW hl (by omega)).mono ?_
  rintro e w1 ⟨x, rfl, hx, hc1, hg1⟩
  have hx5 : (x : Int) < 5 := hx (by omega)
  have b1 : Box w1 w.heap.size _ _ := b0.block (hg1.block w.heap.size b0.lt (fun e => by cases e; omega))
  have hg01 := grownBy_trans hg0 hg1
  have hs1 := hg1.size
  clear hx b0 hg1 hg0 hcW
  obtain ⟨W2, hW2, b2, hbW2, hsW2⟩ := boxes1 w1 [.int .i64 (1 + (x : Int)), .slice none 0 0, .slice none 0 0] 29
  have hb1' := b1.below hbW2 b1.lt
  have hc2 : CurAt W2 B zs := hc1.below hbW2
  have hg2 : w.grownBy W2 (some B) := grownBy_new (row := none) hg01 ⟨hbW2.os, hbW2.tape, hbW2.output, hbW2.size, fun k hk _ => hbW2.block k hk⟩ (fun k e => by cases e)
  have ho2 : ObjAt W2 (w1.heap.size + 1) w1.heap.size ⟨1 + (x : Int), [], []⟩ none 0 none 0 := ⟨b2, ⟨ownI_nil _ _ _ (Nat.le_refl _), ownI_nil _ _ _ (Nat.le_refl _), fun k hk => by cases hk⟩, by omega⟩
  have hsW2' : w1.heap.size < W2.heap.size := by omega
  clear hsW2 b1 b2 hbW2 hg01 hc1
  go_wp2_with fail
  rw [hW2.out]
  clear hW2
  generalize 1 + (x : Int) = q at *
  generalize w1.heap.size = Bo at *
  refine (l1Below_any B zs 3 W2 hc2 hl (by omega)).mono ?_
  rintro e w3 ⟨y, rfl, hy, hc3, hg3⟩
  have hy3 : (y : Int) < 3 := hy (by omega)
  have hBB : B < Bo := by omega
  have hwB : w.heap.size < Bo := by omega
  have b3 : Box w3 w.heap.size _ _ := hb1'.block (hg3.block w.heap.size hb1'.lt (fun e => by cases e; omega))
  have ho3 := ho2.kept hg3 hBB
  have hgw3 := grownBy_trans hg2 hg3
  clear hy hb1' hc2 hg2 hg3 ho2 hsW2' hs1 hsW' hx5
  go_wp2_with fail
  go_loopw [4] (fun i wr => ∃ (k : Nat) (aI : Option Addr) (cI : Nat) (is : List Int), i = .int .i64 k ∧ k ≤ 2 ∧ is.length + k ≤ 2 ∧ ObjAt wr (Bo + 1) Bo ⟨q, is, []⟩ aI cI none 0 ∧ Box wr w.heap.size [.int .i64 0, .slice none 0 0, .slice none 0 0] 29 ∧ CurAt wr B zs ∧ w.grownBy wr (some B))
    (fun i _ => (intOf i).toNat)
  case atStart => exact ⟨y, none, 0, [], rfl, by omega, by simp; omega, ho3, b3, hc3, hgw3⟩
  case round =>
    obtain ⟨k, aI, cI, is, rfl, hk, hik, ho, hb, hcr, hgr⟩ := hrel
    clear ho3 b3 hc3 hgw3 hy3
    cases k with
    | zero =>
      have hil : is.length ≤ 2 := by omega
      clear hik hk
      go_wp2_with fail
      refine (l1Below_any B zs 4 wr hcr hl (by omega)).mono ?_
      rintro e w4 ⟨z, rfl, hz, hc4, hg4⟩
      have hz4 : (z : Int) < 4 := hz (by omega)
      have b4 := hb.grown hg4 (by omega)
      have ho4 := ho.kept hg4 hBB
      have hgw4 := grownBy_trans hgr hg4
      clear hz hcr hb ho hgr hg4
      go_wp2_with fail
      go_loopw [5] (fun i wr => ∃ (k : Nat) (aR : Option Addr) (cR : Nat) (rs : List Int), i = .int .i64 k ∧ k ≤ 3 ∧ rs.length + k ≤ 3 ∧ ObjAt wr (Bo + 1) Bo ⟨q, is, rs⟩ aI cI aR cR ∧ Box wr w.heap.size [.int .i64 0, .slice none 0 0, .slice none 0 0] 29 ∧ CurAt wr B zs ∧ w.grownBy wr (some B))
        (fun i _ => (intOf i).toNat)
      case atStart => exact ⟨z, none, 0, [], rfl, by omega, by simp; omega, ho4, b4, hc4, hgw4⟩
      case round =>
        clear ho4 b4 hc4 hgw4 hz4 w4
        rename_i _ wx
        obtain ⟨k, aR, cR, rs, rfl, hk, hik, ho, hb, hcr, hgr⟩ := hrel
        cases k with
        | zero =>
          have hrl : rs.length ≤ 3 := by omega
          clear hik hk
          obtain ⟨c0, c1, c2, _, _, _⟩ := ho.three
          obtain ⟨x0, x1, x2, g0, g1, g2⟩ := hb.three
          obtain ⟨WF, hWF, bF, hwF, hsF⟩ := box3_fill hb (.int .i64 q) (.slice aI is.length cI) (.slice aR rs.length cR)
          go_wp2
          rw [hWF.out]
          obtain ⟨q0, q1, q2, _, _, _⟩ := bF.three
          have hlo := ho.lt
          have hgF : wr.grownBy WF (some w.heap.size) := ⟨hwF.os, hwF.tape, hwF.output, hwF.size, fun k hk hn => hwF.block k hk (fun h => hn (by rw [show k = w.heap.size by omega]))⟩
          exact bodyPost_ret (v := .agg #[.int .i64 q, .slice aI is.length cI, .slice aR rs.length cR]) (by simp [results, Tryd.results56, go_sem, q0, q1, q2]) rfl ⟨aI, cI, aR, cR, ⟨q, is, rs⟩, rfl, by simp only; omega, hrl, (ho.own.kept hgF (by omega)).widen (by omega) (Nat.le_refl _) (Nat.le_refl _), hcr.kept hgF (fun k e => by cases e; exact hB), grownBy_new hgr hgF (fun k e => by cases e; exact Nat.le_refl _)⟩
        | succ m =>
          have hkp : (0 : Int) < ((m + 1 : Nat) : Int) := by omega
          obtain ⟨_, _, c2, _, _, f2⟩ := ho.three
          go_wp2_with fail
          go_region_law ((first
            | (go_simp; go_at_call 35; refine (l1Below_any B zs 32 _ (by exact hcr.drew) hl (by omega)).mono ?_; rintro e u1 ⟨x, rfl, hx, hc1, hg1⟩; have hg1' := grownBy_trans (grown_drew _ (some B)) hg1; have ho1 := ho.kept hg1' hBB; obtain ⟨_, _, d2, _, _, _⟩ := ho1.three; have dA := fun ob => (ho1.alloc ob).three.2.2.1)
            | (go_simp; go_at_call 21; refine (l1Int_any B zs _ _ [0, 1, 2, 3, 5, 8, 12, 31, (x : Int)] _ (hc1.alloc _) hl (readsI_lit u1 _ _) (fun b off e => by cases e; have := hc1.lt; omega) (by simp) (by simp)).mono ?_; rintro e u2 ⟨j, hj, rfl, hc2, hg2⟩; generalize List.getD _ j (0 : Int) = n; have hg2' := grownBy_trans (World.grownBy_alloc u1 _ (some B)) hg2; have ho2 := ho1.kept hg2' hBB; obtain ⟨_, _, d2, _, _, _⟩ := ho2.three; have dA := fun ob => (ho2.alloc ob).three.2.2.1)
            | (refine step_append_ints rfl (.tmp 33) (.tmp 39) (by rfl) (Bo + 1) _ aR cR rs (by rfl) (ho2.alloc _).own.refs _ _ [n] (by rfl) (readsI_lit u2 [n] _) (by intro h; cases h) (by simp; omega) (by have := ho2.box.lt; simp; omega) ?_; intro a3 c3 y3 u3 hy3 ho3 hg3 hat3; obtain ⟨⟨d2, f2⟩, hO, hC, hG, hT⟩ := (ho2.alloc _).pushR (hc2.alloc _) hBB (grownBy_new (grownBy_trans (grownBy_trans hgr hg1') hg2') (World.grownBy_alloc u2 _ none) (fun j e => by cases e)) (by omega) ho3 hg3 hat3)))
          all_goals
            have hbF := (((hb.grown hg1' (by omega)).grown hg2' (by omega)).alloc _).block (hT w.heap.size (by omega) (by omega) (((hb.grown hg1' (by omega)).grown hg2' (by omega)).alloc _).lt)
            have hyl : y3.length + m ≤ 3 := by have := congrArg List.length hy3.out; simp at this; omega
            clear hT hat3 hg3 ho3 dA d2 f2 hc1 hc2 ho1 ho2 hg1' hg2' hcr hgr hb ho hg1 hg2 hy3
            generalize u3.setCell _ _ = wf at *
            go_wp2_with fail
            go_roundw
            case rel => exact ⟨m, a3, c3, y3, by go_num, by omega, hyl, hO, hbF, hC, hG⟩
            case measure => simp [intOf]
    | succ m =>
      have hkp : (0 : Int) < ((m + 1 : Nat) : Int) := by omega
      obtain ⟨_, c1, _, _, f1, _⟩ := ho.three
      go_wp2_with fail
      go_region_law ((first
        | (go_simp; go_at_call 35; refine (l1Below_any B zs 50 _ (by exact hcr.drew) hl (by omega)).mono ?_; rintro e u1 ⟨x, rfl, hx, hc1, hg1⟩; have hg1' := grownBy_trans (grown_drew wr (some B)) hg1; have ho1 := ho.kept hg1' hBB; obtain ⟨_, d1, _, _, _, _⟩ := ho1.three; have dA := fun ob => (ho1.alloc ob).three.2.1)
        | (go_simp; go_at_call 21; refine (l1Int_any B zs _ _ [0, 1, -1, 7, 1000000, -1000000, (x : Int)] _ (hc1.alloc _) hl (readsI_lit u1 _ _) (fun b off e => by cases e; have := hc1.lt; omega) (by simp) (by simp)).mono ?_; rintro e u2 ⟨j, hj, rfl, hc2, hg2⟩; generalize List.getD _ j (0 : Int) = n; have hg2' := grownBy_trans (World.grownBy_alloc u1 _ (some B)) hg2; have ho2 := ho1.kept hg2' hBB; obtain ⟨_, d1, _, _, _, _⟩ := ho2.three; have dA := fun ob => (ho2.alloc ob).three.2.1)
        | (refine step_append_ints rfl (.tmp 17) (.tmp 23) (by rfl) (Bo + 1) _ aI cI is (by rfl) (ho2.alloc _).own.ints _ _ [n] (by rfl) (readsI_lit u2 [n] _) (by intro h; cases h) (by simp; omega) (by have := ho2.box.lt; simp; omega) ?_; intro a3 c3 y3 u3 hy3 ho3 hg3 hat3; obtain ⟨⟨d1, f1⟩, hO, hC, hG, hT⟩ := (ho2.alloc _).pushI (hc2.alloc _) hBB (grownBy_new (grownBy_trans (grownBy_trans hgr hg1') hg2') (World.grownBy_alloc u2 _ none) (fun j e => by cases e)) (by omega) ho3 hg3 hat3)))
      all_goals
        have hbF := (((hb.grown hg1' (by omega)).grown hg2' (by omega)).alloc _).block (hT w.heap.size (by omega) (by omega) (((hb.grown hg1' (by omega)).grown hg2' (by omega)).alloc _).lt)
        have hyl : y3.length + m ≤ 2 := by have := congrArg List.length hy3.out; simp at this; omega
        clear hT hat3 hg3 ho3 dA d1 f1 hc1 hc2 ho1 ho2 hg1' hg2' hcr hgr hb ho hg1 hg2 hy3
        generalize u3.setCell _ _ = wf at *
        go_wp2_with fail
        go_roundw
        case rel => exact ⟨m, a3, c3, y3, by go_num, by omega, hyl, hO, hbF, hC, hG⟩
        case measure => simp [intOf]
end Go.Proofs.YtoboickdkednkaaDoor

/- The walk of spec.l2Copy. -/
namespace Go.Proofs.YtoboickdkednkaaDoor
open Go.RowKit

theorem blA {W w' : World} (h : Below W.heap.size W w') (o : Obj) : Below W.heap.size W (w'.alloc o) := h.alloc h.size o
theorem blG {W w' w2 : World} {g : Nat} (h : Below W.heap.size W w') (hg : w'.grownBy w2 (some g)) (hn : W.heap.size ≤ g) : Below W.heap.size W w2 := h.grown hg h.size (fun k e => by cases e; exact hn)
theorem ownI_box0 {w : World} {g lo : Nat} (h : Box w g [] 3) (hlo : lo ≤ g) : OwnI w lo w.heap.size (some ⟨g, 0, none⟩) 0 [] :=
  ⟨⟨by simp, .inr ⟨g, 0, #[], rfl, hlo, h, Nat.le_refl _, by simp [maxLen], rfl, rfl⟩⟩, Nat.le_refl _, fun k hk => by cases hk; exact h.lt⟩

set_option maxHeartbeats 4000000 in
set_option maxRecDepth 100000 in
theorem l2Copy_any (o : ObjV) (aI : Option Addr) (cI : Nat) (aR : Option Addr) (cR : Nat) (w : World) (hr : ReadsO w aI cI aR cR o) (hlI : o.ints.length ≤ 1099511627776) (hlR : o.refs.length ≤ 1099511627776) :
    Calls Tryd.prog 50 #[.agg #[.int .i64 o.kind, .slice aI o.ints.length cI, .slice aR o.refs.length cR]] w fun e w' => ∃ aI' cI' aR' cR', e = .returned (.agg #[.int .i64 o.kind, .slice aI' o.ints.length cI', .slice aR' o.refs.length cR']) ∧
      OwnO w' w.heap.size w'.heap.size aI' cI' aR' cR' o ∧ Below w.heap.size w w' := by
  obtain ⟨k, ints, refs⟩ := o
  obtain ⟨hI, hR, hni, hnr⟩ := hr
  simp only at *
  obtain ⟨W, hW, b0, b1, hbW, hsW⟩ := boxes2 w [.int .i64 k, .slice aI ints.length cI, .slice aR refs.length cR] [.int .i64 0, .slice none 0 0, .slice none 0 0] 29 29
  have hI' := hI.below hbW
  have hR' := hR.below hbW
  have hwW : w.heap.size + 1 < W.heap.size := by omega
  clear hsW hI hR
  go_enter Tryd.func50, Tryd.ntmps50
  go_wp2_with fail
  rw [hW.out]
  clear hW
  have hkeep : ∀ w'', Below W.heap.size W w'' → Box w'' w.heap.size [.int .i64 k, .slice aI ints.length cI, .slice aR refs.length cR] 29 ∧ Box w'' (w.heap.size + 1) [.int .i64 0, .slice none 0 0, .slice none 0 0] 29 :=
    fun w'' hh => ⟨b0.below hh b0.lt, b1.below hh b1.lt⟩
  have hcells : ∀ w'', Below W.heap.size W w'' → (w''.cell? ⟨w.heap.size, 0, none⟩ = some (.int .i64 k) ∧ w''.cell? ⟨w.heap.size, 1, none⟩ = some (.slice aI ints.length cI) ∧ w''.cell? ⟨w.heap.size, 2, none⟩ = some (.slice aR refs.length cR)) ∧ (w''.cell? ⟨w.heap.size + 1, 0, none⟩ = some (.int .i64 0) ∧ w''.cell? ⟨w.heap.size + 1, 1, none⟩ = some (.slice none 0 0) ∧ w''.cell? ⟨w.heap.size + 1, 2, none⟩ = some (.slice none 0 0)) ∧ (w''.frozen? ⟨w.heap.size + 1, 0, none⟩ = false ∧ w''.frozen? ⟨w.heap.size + 1, 1, none⟩ = false ∧ w''.frozen? ⟨w.heap.size + 1, 2, none⟩ = false) := by
    intro w'' hh
    obtain ⟨ba, bb⟩ := hkeep w'' hh
    exact ⟨⟨ba.cell 0 _ rfl, ba.cell 1 _ rfl, ba.cell 2 _ rfl⟩, ⟨bb.cell 0 _ rfl, bb.cell 1 _ rfl, bb.cell 2 _ rfl⟩, bb.frozen 0, bb.frozen 1, bb.frozen 2⟩
  have hh := hcells W (Below.refl _ _)
  have q1 : Box (W.drew.alloc (.cells #[] 3)) W.heap.size [] 3 := box_new W.drew [] _
  have q2a : Box ((W.drew.alloc (.cells #[] 3)).alloc (.cells #[] 3)) W.heap.size [] 3 := (box_new W.drew [] _).alloc _
  have q2b : Box ((W.drew.alloc (.cells #[] 3)).alloc (.cells #[] 3)) (W.heap.size + 1) [] 3 := by
    have := box_new (W.drew.alloc (.cells #[] 3)) [] 3
    simpa using this
  have Q1 : Hid (_ ∧ _ ∧ _) := ⟨q1, q2a, q2b⟩
  clear q1 q2a q2b
  have HK : Hid _ := hkeep
  have HC : Hid _ := hcells
  have hne : ¬ (w.heap.size = w.heap.size + 1) := by omega
  have HNI : Hid _ := hni
  have HNR : Hid _ := hnr
  clear hkeep hcells b0 b1 hni hnr
  go_region_held3 (fun w'' => w''.cell? ⟨w.heap.size, 0, none⟩ = some (.int .i64 k) ∧ w''.cell? ⟨w.heap.size, 1, none⟩ = some (.slice aI ints.length cI) ∧ w''.cell? ⟨w.heap.size, 2, none⟩ = some (.slice aR refs.length cR))
    (first | exact (HC.out _ (by first | exact hb2 | exact hb1 | exact blA hb2 _ | exact blA hb1 _ | exact (Below.refl _ _).drew | exact blA (Below.refl _ _).drew _ | exact blA (blA (Below.refl _ _).drew _) _ | fail)).1 | exact ⟨((((HK.out _ (by first | exact hb2 | exact hb1 | fail)).1.other hne).other hne).other hne).cell 0 _ rfl, ((((HK.out _ (by first | exact hb2 | exact hb1 | fail)).1.other hne).other hne).other hne).cell 1 _ rfl, ((((HK.out _ (by first | exact hb2 | exact hb1 | fail)).1.other hne).other hne).other hne).cell 2 _ rfl⟩ | go_keep | fail)
    ((first
      | (refine step_append_ints rfl (.tmp 5) (.tmp 7) (by rfl) (w.heap.size + 1 + 1) _ _ _ [] (by rfl) (ownI_box0 (by first | exact Q1.out.1 | exact Q1.out.2.1 | exact Q1.out.2.2 | assumption | exact (Q1.out.2.2).grown hg1 (by dsimp only; omega) | exact (Q1.out.2.1).grown hg1 (by dsimp only; omega) | exact box_new _ [] _ | fail) (by first | omega | (have := hb1.size; omega))) aI cI ints (by rfl) (hI'.below (by first | exact hb2 | exact hb1 | exact blA hb2 _ | exact blA hb1 _ | exact (Below.refl _ _).drew | exact blA (Below.refl _ _).drew _ | exact blA (blA (Below.refl _ _).drew _) _ | fail)) HNI.out (by simp only [List.length_nil]; omega) (Nat.le_trans (by omega) (Below.size (B := W.heap.size) (w := W) (by first | exact hb2 | exact hb1 | exact blA hb2 _ | exact blA hb1 _ | exact (Below.refl _ _).drew | exact blA (Below.refl _ _).drew _ | exact blA (blA (Below.refl _ _).drew _) _ | fail))) ?_; intro a1 c1 y1 u1 hy1 hO1 hg1 hat1; have HA1 : Hid _ := hat1; clear hat1; have hyy : ints = y1 := (by simpa using hy1.out.symm); subst hyy; have hb1 := blG (W := W) (by first | exact hb2 | exact hb1 | exact blA hb2 _ | exact blA hb1 _ | exact (Below.refl _ _).drew | exact blA (Below.refl _ _).drew _ | exact blA (blA (Below.refl _ _).drew _) _ | fail) hg1 (by dsimp only; omega))
      | (refine step_append_ints rfl (.tmp 9) (.tmp 11) (by rfl) (w.heap.size + 1 + 1) _ _ _ [] (by rfl) (ownI_box0 (by first | exact Q1.out.1 | exact Q1.out.2.1 | exact Q1.out.2.2 | assumption | exact (Q1.out.2.2).grown hg1 (by dsimp only; omega) | exact (Q1.out.2.1).grown hg1 (by dsimp only; omega) | exact box_new _ [] _ | fail) (by first | omega | (have := hb1.size; omega))) aR cR refs (by rfl) (hR'.below (by first | exact hb2 | exact hb1 | exact blA hb2 _ | exact blA hb1 _ | exact (Below.refl _ _).drew | exact blA (Below.refl _ _).drew _ | exact blA (blA (Below.refl _ _).drew _) _ | fail)) HNR.out (by simp only [List.length_nil]; omega) (Nat.le_trans (by omega) (Below.size (B := W.heap.size) (w := W) (by first | exact hb2 | exact hb1 | exact blA hb2 _ | exact blA hb1 _ | exact (Below.refl _ _).drew | exact blA (Below.refl _ _).drew _ | exact blA (blA (Below.refl _ _).drew _) _ | fail))) ?_; intro a2 c2 y2 u2 hy2 hO2 hg2 hat2; have HA2 : Hid _ := hat2; clear hat2; have hyy : refs = y2 := (by simpa using hy2.out.symm); subst hyy; have hb2 := blG (W := W) (by first | exact hb2 | exact hb1 | exact blA hb2 _ | exact blA hb1 _ | exact (Below.refl _ _).drew | exact blA (Below.refl _ _).drew _ | exact blA (blA (Below.refl _ _).drew _) _ | fail) hg2 (by dsimp only; first | omega | (have := hb1.size; omega)); obtain ⟨⟨m0, m1, m2⟩, ⟨n0, n1, n2⟩, e0, e1, e2⟩ := HC.out _ hb2) | fail))
  all_goals
    have hO1' : OwnI u2 (w.heap.size + 1 + 1) u2.heap.size a1 c1 ints := by
      first
      | exact (hO1.kept hg2 (fun k hk e => by have h1 := HA1.out k hk; have h2 := (hO1.lt k hk).2; simp [Value.ownBlock] at h1 e; omega)).widen (Nat.le_refl _) hg2.size (Nat.le_refl _)
      | exact ((hO1.below ((Below.refl _ _).alloc (Nat.le_refl _) _)).kept hg2 (fun k hk e => by have h2 := (hO1.lt k hk).2; simp [Value.ownBlock] at e; omega)).widen (Nat.le_refl _) (Nat.le_trans (by simp) hg2.size) (Nat.le_refl _)
      | fail
    have hap : ∀ k, (Value.slice a1 ints.length c1).ownBlock = some k → (Value.slice a2 refs.length c2).ownBlock ≠ some k := by
      intro k hk hk'
      have h1 := HA1.out k hk
      have h2 := HA2.out k hk'
      have h3 := (hO1.lt k hk).2
      simp [Value.ownBlock] at h1 h2
      omega
    obtain ⟨WF, hWF, bF, hwF, hsF⟩ := box3_fill (HK.out _ hb2).2 (.int .i64 k) (.slice a1 ints.length c1) (.slice a2 refs.length c2)
    clear HA1 HA2 hg1 hg2 Q1 hb1 hO1
    rw [hWF.out]
    go_wp2
    obtain ⟨q0, q1, q2, _, _, _⟩ := bF.three
    have hs2 := hb2.size
    have hOF : OwnO WF (w.heap.size + 1 + 1) u2.heap.size a1 c1 a2 c2 ⟨k, ints, refs⟩ := (⟨hO1', hO2, hap⟩ : OwnO u2 (w.heap.size + 1 + 1) u2.heap.size a1 c1 a2 c2 ⟨k, ints, refs⟩).within hwF (.inr (by omega))
    exact bodyPost_ret (v := .agg #[.int .i64 k, .slice a1 ints.length c1, .slice a2 refs.length c2]) (by simp [results, Tryd.results50, go_sem, q0, q1, q2]) rfl ⟨a1, c1, a2, c2, rfl, hOF.widen (by omega) (by omega) (Nat.le_refl _), (hbW.trans (hb2.mono (by omega))).trans (hwF.below (by omega) (by omega))⟩
end Go.Proofs.YtoboickdkednkaaDoor

/- The walk of spec.l2Bend. -/
namespace Go.Proofs.YtoboickdkednkaaDoor
open Go.RowKit
attribute [local go_sem ↓] Go.wp_at_zero Go.wp_at_succ

set_option maxHeartbeats 4000000 in
set_option maxRecDepth 100000 in
theorem l2Bend_any (B : Nat) (zs : List Int) (o : ObjV) (aI : Option Addr) (cI : Nat) (aR : Option Addr) (cR : Nat) (w : World) (hc : CurAt w B zs) (hl : zs.length ≤ 70368744177664) (hr : ReadsO w aI cI aR cR o) (hlI : o.ints.length ≤ 3) (hlR : o.refs.length ≤ 3) :
    Calls Tryd.prog 39 #[.pointer (some ⟨B, 0, none⟩), .agg #[.int .i64 o.kind, .slice aI o.ints.length cI, .slice aR o.refs.length cR]] w fun e w' => ∃ aI cI aR cR o, e = .returned (.agg #[.int .i64 o.kind, .slice aI o.ints.length cI, .slice aR o.refs.length cR]) ∧ o.ints.length ≤ 7 ∧ o.refs.length ≤ 7 ∧ OwnO w' w.heap.size w'.heap.size aI cI aR cR o ∧ CurAt w' B zs ∧ w.grownBy w' (some B) := by
  have hB := hc.lt
  obtain ⟨k, is, rs⟩ := o
  simp only at *
  obtain ⟨W, hW, b0, b1, hbW, hsW⟩ := boxes2 w [.int .i64 k, .slice aI is.length cI, .slice aR rs.length cR] [.int .i64 0, .slice none 0 0, .slice none 0 0] 29 29
  have hrW := hr.below hbW
  have hcW := hc.below hbW
  have hsW' : w.heap.size + 1 < W.heap.size := by omega
  clear hsW hr hc
  obtain ⟨_, z1, z2, _, _, _⟩ := b0.three
  have z0 := b0.three.1
  go_enter Tryd.func39, Tryd.ntmps39
  go_wp2_with fail
  rw [hW.out]
  clear hW z0 z1 z2
  refine (l2Copy_any ⟨k, is, rs⟩ aI cI aR cR W hrW (by simp only; omega) (by simp only; omega)).mono ?_
  rintro e w1 ⟨pI, dI, pR, dR, rfl, ho1, hb1⟩
  have hs1 := hb1.size
  have b01 := b0.below hb1 b0.lt
  have b11 := b1.below hb1 b1.lt
  obtain ⟨z0, z1, z2, f0, f1, f2⟩ := b01.three
  obtain ⟨W2, hW2, b02, hw2, hs2⟩ := box3_fill b01 (.int .i64 k) (.slice pI is.length dI) (.slice pR rs.length dR)
  have b12 : Box W2 (w.heap.size + 1) _ _ := b11.within hw2 (by omega)
  have ho2 : ObjAt W2 (w.heap.size + 1 + 1) w.heap.size ⟨k, is, rs⟩ pI dI pR dR := ⟨b02, ((ho1.within hw2 (.inr (by omega))).widen (by omega) (by omega) (Nat.le_refl _)), by omega⟩
  have hbT : Below w.heap.size w W2 := (hbW.trans (hb1.mono (by omega))).trans (hw2.below (by omega) (by omega))
  have hcT : CurAt W2 B zs := (hcW.below hb1).kept (row := some w.heap.size) ⟨hw2.os, hw2.tape, hw2.output, hw2.size, fun k hk hn => hw2.block k hk (fun h => hn (by rw [show k = w.heap.size by omega]))⟩ (fun k e => by cases e; exact hB)
  have hgT : w.grownBy W2 (some B) := ⟨hbT.os, hbT.tape, hbT.output, hbT.size, fun k hk _ => hbT.block k hk⟩
  have hsT : w.heap.size + 1 < W2.heap.size := by omega
  clear hs2 hw2 hbT hcW b01 b11 b02 b0 b1 ho1 hb1 hs1 hrW hbW hsW'
  go_wp2_with fail
  rw [hW2.out]
  clear hW2 z0 z1 z2 f0 f1 f2
  refine (l1Below_any B zs 5 W2 hcT hl (by omega)).mono ?_
  rintro e w3 ⟨x, rfl, hx, hcr, hg3⟩
  have hx5 : (x : Int) < 5 := hx (by omega)
  have hb := b12.grown hg3 (by omega)
  have ho := ho2.kept hg3 hB
  have hgr := grownBy_trans hgT hg3
  have hsz : w.heap.size + 1 < w3.heap.size := by have := hg3.size; omega
  clear hx hg3 b12 ho2 hcT hgT hsT
  have hxx : x = 0 ∨ x = 1 ∨ x = 2 ∨ x = 3 ∨ x = 4 := by omega
  rcases hxx with rfl | rfl | rfl | rfl | rfl
  · -- the kind
    clear hx5
    go_wp2_with fail
    refine (l1Int_any B zs _ _ [0, 99, 100, -1] _ (hcr.alloc _) hl (readsI_lit w3 _ _) (fun b off e => by cases e; omega) (by simp) (by simp)).mono ?_
    rintro e w4 ⟨j, hj, rfl, hc4, hg4⟩
    generalize List.getD _ j (0 : Int) = n
    have hg4' := grownBy_trans (World.grownBy_alloc w3 _ (some B)) hg4
    have ho4 := ho.kept hg4' hB
    have hb4 := hb.grown hg4' (by omega)
    have hgw4 := grownBy_trans hgr hg4'
    obtain ⟨c0, c1, c2, f0, _, _⟩ := ho4.three
    obtain ⟨W5, hW5, b5, hw5, hs5⟩ := box_set ho4.box 0 (.int .i64 n)
    simp only [List.set] at b5
    have hg5 : w4.grownBy W5 (some w.heap.size) := ⟨hw5.os, hw5.tape, hw5.output, hw5.size, fun k hk hn => hw5.block k hk (fun h => hn (by rw [show k = w.heap.size by omega]))⟩
    have ho5 : ObjAt W5 (w.heap.size + 1 + 1) w.heap.size ⟨n, is, rs⟩ pI dI pR dR := ⟨b5, ⟨(ho4.own.kept hg5 (by omega)).ints, (ho4.own.kept hg5 (by omega)).refs, ho4.own.apart⟩, by omega⟩
    have hb5 := hb4.grown hg5 (by omega)
    have hc5 := hc4.kept hg5 (fun k e => by cases e; exact hB)
    have hgw5 := grownBy_new hgw4 hg5 (fun k e => by cases e; exact Nat.le_refl _)
    obtain ⟨x0, x1, x2, g0, g1, g2⟩ := hb4.three
    obtain ⟨WF, hWF, bF, hwF, hsF⟩ := box3_fill hb5 (.int .i64 n) (.slice pI is.length dI) (.slice pR rs.length dR)
    clear ho hb hcr hgr ho4 hb4 hc4 hgw4 hg4 hg4' hg5 hw5 hj
    have ho := ho5
    have hcr := hc5
    have hgr := hgw5
    clear ho5 hb5 hc5 hgw5
    go_wp2
    rw [hW5.out, hWF.out]
    obtain ⟨q0, q1, q2, _, _, _⟩ := bF.three
    have hgF : W5.grownBy WF (some (w.heap.size + 1)) := ⟨hwF.os, hwF.tape, hwF.output, hwF.size, fun k hk hn => hwF.block k hk (fun h => hn (by rw [show k = w.heap.size + 1 by omega]))⟩
    exact bodyPost_ret (v := .agg #[.int .i64 n, .slice pI is.length dI, .slice pR rs.length dR]) (by simp [results, Tryd.results39, go_sem, q0, q1, q2]) rfl ⟨pI, dI, pR, dR, ⟨n, is, rs⟩, rfl, by simp only; omega, by simp only; omega, (ho.own.kept hgF (by omega)).widen (by omega) (Nat.le_refl _) (Nat.le_refl _), hcr.kept hgF (fun k e => by cases e; omega), grownBy_new hgr hgF (fun k e => by cases e; omega)⟩
  · -- one more of the is
    clear hx5
    obtain ⟨c0, c1, c2, _, _, _⟩ := ho.three
    have cA := fun ob => (ho.alloc ob).three.2.1
    go_wp2_with fail
    go_region_law ((first
      | (go_simp; go_at_call 21; refine (l1Int_any B zs _ _ [1000001, -1000001, 5] _ (hcr.drew.alloc _) hl (readsI_lit w3.drew _ _) (fun b off e => by cases e; show w3.heap.size ≠ B; omega) (by simp) (by simp)).mono ?_; rintro e u2 ⟨j, hj, rfl, hc2, hg2⟩; generalize List.getD _ j (0 : Int) = n; have hg2' := grownBy_trans (grownBy_trans (grown_drew w3 (some B)) (World.grownBy_alloc w3.drew _ (some B))) hg2; have ho2 := ho.kept hg2' hB; obtain ⟨_, d1, d2, _, _, _⟩ := ho2.three; have dA := fun ob => (ho2.alloc ob).three.2.1)
      | (refine step_append_ints rfl (.tmp 18) (.tmp 22) (by rfl) (w.heap.size + 1 + 1) _ pI dI is (by rfl) (ho2.alloc _).own.ints _ _ [n] (by rfl) (readsI_lit u2 [n] _) (by intro h; cases h) (by simp; omega) (by have := hg2'.size; simp; omega) ?_; intro a3 c3 y3 u3 hy3 ho3 hg3 hat3; obtain ⟨⟨d3, f3⟩, hO, hC, hG, hT⟩ := (ho2.alloc _).pushI (hc2.alloc _) hB (grownBy_new (grownBy_trans hgr hg2') (World.grownBy_alloc u2 _ none) (fun j e => by cases e)) (Nat.le_refl _) ho3 hg3 hat3) | fail))
    all_goals
      have hbF := ((hb.grown hg2' (by omega)).alloc _).block (hT (w.heap.size + 1) (by omega) (by omega) ((hb.grown hg2' (by omega)).alloc _).lt)
      have hyl : y3.length ≤ 4 := by have := congrArg List.length hy3.out; simp at this; omega
      clear hT hat3 hg3 ho3 dA d1 d2 cA c0 c1 c2 d3 f3 hc2 ho2 hg2' hg2 hcr hgr hb ho hy3
      generalize u3.setCell _ _ = wf at *
      have ho := hO
      have hb := hbF
      have hcr := hC
      have hgr := hG
      clear hO hbF hC hG
      obtain ⟨c0, c1, c2, _, _, _⟩ := ho.three
      obtain ⟨x0, x1, x2, g0, g1, g2⟩ := hb.three
      obtain ⟨WF, hWF, bF, hwF, hsF⟩ := box3_fill hb (.int .i64 k) (.slice a3 y3.length c3) (.slice pR rs.length dR)
      go_wp2
      rw [hWF.out]
      obtain ⟨q0, q1, q2, _, _, _⟩ := bF.three
      have hgF : wf.grownBy WF (some (w.heap.size + 1)) := ⟨hwF.os, hwF.tape, hwF.output, hwF.size, fun k hk hn => hwF.block k hk (fun h => hn (by rw [show k = w.heap.size + 1 by omega]))⟩
      exact bodyPost_ret (v := .agg #[.int .i64 k, .slice a3 y3.length c3, .slice pR rs.length dR]) (by simp [results, Tryd.results39, go_sem, q0, q1, q2]) rfl ⟨a3, c3, pR, dR, ⟨k, y3, rs⟩, rfl, by simp only; omega, by simp only; omega, (ho.own.kept hgF (by omega)).widen (by omega) (Nat.le_refl _) (Nat.le_refl _), hcr.kept hgF (fun k e => by cases e; omega), grownBy_new hgr hgF (fun k e => by cases e; omega)⟩
  · -- one more of the rs
    clear hx5
    obtain ⟨c0, c1, c2, _, _, _⟩ := ho.three
    have cA := fun ob => (ho.alloc ob).three.2.2.1
    go_wp2_with fail
    go_region_law ((first
      | (go_simp; go_at_call 21; refine (l1Int_any B zs _ _ [32, -1, 5] _ (hcr.drew.alloc _) hl (readsI_lit w3.drew _ _) (fun b off e => by cases e; show w3.heap.size ≠ B; omega) (by simp) (by simp)).mono ?_; rintro e u2 ⟨j, hj, rfl, hc2, hg2⟩; generalize List.getD _ j (0 : Int) = n; have hg2' := grownBy_trans (grownBy_trans (grown_drew w3 (some B)) (World.grownBy_alloc w3.drew _ (some B))) hg2; have ho2 := ho.kept hg2' hB; obtain ⟨_, d1, d2, _, _, _⟩ := ho2.three; have dA := fun ob => (ho2.alloc ob).three.2.2.1)
      | (refine step_append_ints rfl (.tmp 28) (.tmp 32) (by rfl) (w.heap.size + 1 + 1) _ pR dR rs (by rfl) (ho2.alloc _).own.refs _ _ [n] (by rfl) (readsI_lit u2 [n] _) (by intro h; cases h) (by simp; omega) (by have := hg2'.size; simp; omega) ?_; intro a3 c3 y3 u3 hy3 ho3 hg3 hat3; obtain ⟨⟨d3, f3⟩, hO, hC, hG, hT⟩ := (ho2.alloc _).pushR (hc2.alloc _) hB (grownBy_new (grownBy_trans hgr hg2') (World.grownBy_alloc u2 _ none) (fun j e => by cases e)) (Nat.le_refl _) ho3 hg3 hat3) | fail))
    all_goals
      have hbF := ((hb.grown hg2' (by omega)).alloc _).block (hT (w.heap.size + 1) (by omega) (by omega) ((hb.grown hg2' (by omega)).alloc _).lt)
      have hyl : y3.length ≤ 4 := by have := congrArg List.length hy3.out; simp at this; omega
      clear hT hat3 hg3 ho3 dA d1 d2 cA c0 c1 c2 d3 f3 hc2 ho2 hg2' hg2 hcr hgr hb ho hy3
      generalize u3.setCell _ _ = wf at *
      have ho := hO
      have hb := hbF
      have hcr := hC
      have hgr := hG
      clear hO hbF hC hG
      obtain ⟨c0, c1, c2, _, _, _⟩ := ho.three
      obtain ⟨x0, x1, x2, g0, g1, g2⟩ := hb.three
      obtain ⟨WF, hWF, bF, hwF, hsF⟩ := box3_fill hb (.int .i64 k) (.slice pI is.length dI) (.slice a3 y3.length c3)
      go_wp2
      rw [hWF.out]
      obtain ⟨q0, q1, q2, _, _, _⟩ := bF.three
      have hgF : wf.grownBy WF (some (w.heap.size + 1)) := ⟨hwF.os, hwF.tape, hwF.output, hwF.size, fun k hk hn => hwF.block k hk (fun h => hn (by rw [show k = w.heap.size + 1 by omega]))⟩
      exact bodyPost_ret (v := .agg #[.int .i64 k, .slice pI is.length dI, .slice a3 y3.length c3]) (by simp [results, Tryd.results39, go_sem, q0, q1, q2]) rfl ⟨pI, dI, a3, c3, ⟨k, is, y3⟩, rfl, by simp only; omega, by simp only; omega, (ho.own.kept hgF (by omega)).widen (by omega) (Nat.le_refl _) (Nat.le_refl _), hcr.kept hgF (fun k e => by cases e; omega), grownBy_new hgr hgF (fun k e => by cases e; omega)⟩
  · -- as many as may be, or one more
    clear hx5
    go_wp2_with fail
    refine (l1Below_any B zs 2 w3 hcr hl (by omega)).mono ?_
    rintro e w4 ⟨y, rfl, hy, hc4, hg4⟩
    have hy2 : (y : Int) < 2 := hy (by omega)
    have ho4 := ho.kept hg4 hB
    have hb4 := hb.grown hg4 (by omega)
    have hgw4 := grownBy_trans hgr hg4
    have hs4 := hg4.size
    clear ho hb hcr hgr hy hg4
    obtain ⟨i0, hi, hz0, hz1, hz2⟩ := info_parts Tryd.infoInt
    go_wp2_with (at_make; refine wpList_make_full _ rfl _ _ 27 rfl (w.heap.size + 1 + 1) 3 i0 (.int .i64 0) 1 Tryd.underlying27 hi hz0 hz1 _ _ _ _ (5 + y) rfl rfl (by omega) (by omega) (by rw [hz2]; omega) (by simp [maxLen]; omega) (by omega) ?_)
    intro w5 hown5 hg5
    have hyl : 5 + y ≤ 6 := by omega
    obtain ⟨ns, hn1, hown⟩ : ∃ ns : List Int, 5 + y = ns.length ∧ w5.ownsRow (w.heap.size + 1 + 1) 3 1 (.slice (some ⟨w4.heap.size, 0, none⟩) (5 + y) (5 + y)) (5 + y) (ns.map (Value.int .i64)) := by
      refine ⟨List.replicate (5 + y) 0, by simp, ?_⟩
      rw [List.map_replicate]
      simpa [Value.cells, toList_madeCells_one] using hown5
    clear hown5 hy2
    have hn2 : (5 : Int) + (y : Int) = (ns.length : Int) := by omega
    generalize 5 + y = N at *
    subst hn1
    generalize (5 : Int) + (y : Int) = M at *
    clear hn2
    have hlt5 : w4.heap.size < w5.heap.size := (hown.lt w4.heap.size rfl).2
    have hoN : OwnI w5 (w.heap.size + 1 + 1) w5.heap.size (some ⟨w4.heap.size, 0, none⟩) ns.length ns := ⟨hown, Nat.le_refl _, fun k hk => (hown.lt k hk).2⟩
    have hgk : ∀ r, w4.grownBy w5 r := fun r => ⟨hg5.os, hg5.tape, hg5.output, hg5.size, fun k hk _ => hg5.block k hk (by simp)⟩
    obtain ⟨_, hO, hC, hG, hT⟩ := ho4.pushI hc4 hB hgw4 (Nat.le_refl _) hoN (hgk _) (fun k hk => .inr (by cases hk; rfl))
    have hb6 := hb4.block (hT (w.heap.size + 1) (by omega) (by omega) hb4.lt)
    obtain ⟨c0, c1, c2, _, f1, _⟩ := (ho4.kept (hgk (some B)) hB).three
    obtain ⟨x0, x1, x2, g0, g1, g2⟩ := (hb4.grown (hgk (some B)) (by omega)).three
    obtain ⟨W6, hW6⟩ : ∃ W6, Hid (w5.setCell ⟨w.heap.size, 1, none⟩ (.slice (some ⟨w4.heap.size, 0, none⟩) ns.length ns.length) = W6) := ⟨_, rfl⟩
    rw [hW6.out] at hO hC hG hb6
    obtain ⟨WF, hWF, bF, hwF, hsF⟩ := box3_fill hb6 (.int .i64 k) (.slice (some ⟨w4.heap.size, 0, none⟩) ns.length ns.length) (.slice pR rs.length dR)
    clear hT hgk hoN hown hg5 hgw4 hb4 ho4 hc4 hi hz0 hz1 hz2
    have ho := hO
    have hcr := hC
    have hgr := hG
    clear hO hC hG hb6
    go_wp2
    rw [hW6.out, hWF.out]
    obtain ⟨q0, q1, q2, _, _, _⟩ := bF.three
    have hgF : W6.grownBy WF (some (w.heap.size + 1)) := ⟨hwF.os, hwF.tape, hwF.output, hwF.size, fun k hk hn => hwF.block k hk (fun h => hn (by rw [show k = w.heap.size + 1 by omega]))⟩
    exact bodyPost_ret (v := .agg #[.int .i64 k, .slice (some ⟨w4.heap.size, 0, none⟩) ns.length ns.length, .slice pR rs.length dR]) (by simp [results, Tryd.results39, go_sem, q0, q1, q2]) rfl ⟨(some ⟨w4.heap.size, 0, none⟩), ns.length, pR, dR, ⟨k, ns, rs⟩, rfl, by simp only; omega, by simp only; omega, (ho.own.kept hgF (by omega)).widen (by omega) (Nat.le_refl _) (Nat.le_refl _), hcr.kept hgF (fun k e => by cases e; omega), grownBy_new hgr hgF (fun k e => by cases e; omega)⟩
  · -- as it was
    clear hx5
    obtain ⟨c0, c1, c2, _, _, _⟩ := ho.three
    obtain ⟨x0, x1, x2, g0, g1, g2⟩ := hb.three
    obtain ⟨WF, hWF, bF, hwF, hsF⟩ := box3_fill hb (.int .i64 k) (.slice pI is.length dI) (.slice pR rs.length dR)
    go_wp2
    rw [hWF.out]
    obtain ⟨q0, q1, q2, _, _, _⟩ := bF.three
    have hgF : w3.grownBy WF (some (w.heap.size + 1)) := ⟨hwF.os, hwF.tape, hwF.output, hwF.size, fun k hk hn => hwF.block k hk (fun h => hn (by rw [show k = w.heap.size + 1 by omega]))⟩
    exact bodyPost_ret (v := .agg #[.int .i64 k, .slice pI is.length dI, .slice pR rs.length dR]) (by simp [results, Tryd.results39, go_sem, q0, q1, q2]) rfl ⟨pI, dI, pR, dR, ⟨k, is, rs⟩, rfl, by simp only; omega, by simp only; omega, (ho.own.kept hgF (by omega)).widen (by omega) (Nat.le_refl _) (Nat.le_refl _), hcr.kept hgF (fun k e => by cases e; omega), grownBy_new hgr hgF (fun k e => by cases e; omega)⟩
end Go.Proofs.YtoboickdkednkaaDoor

/- The walks of spec.l1Once, l2ObjAny and DrawPutObj. -/
namespace Go.Proofs.YtoboickdkednkaaDoor
open Go.RowKit

theorem l1Once_any (B : Nat) (zs : List Int) (n : Int) (w : World) (hc : CurAt w B zs) (hl : zs.length ≤ 70368744177664) (hn : n ≤ 1000000000) :
    Calls Tryd.prog 34 #[.pointer (some ⟨B, 0, none⟩), .int .i64 n] w fun e w' => ∃ b : Bool, e = .returned (.bool b) ∧ CurAt w' B zs ∧ w.grownBy w' (some B) := by
  go_enter Tryd.func34, Tryd.ntmps34
  go_wp2_with fail
  refine (l1Below_any B zs n w hc hl hn).mono ?_
  rintro e w1 ⟨x, rfl, _, hc1, hg1⟩
  go_wp2
  go_ret
  exact ⟨_, rfl, hc1, hg1⟩

end Go.Proofs.YtoboickdkednkaaDoor

/- The walk of laws.toIntS: a new row with the same numbers. -/
namespace Go.Proofs.YtoboickdkednkaaDoor
open Go.RowKit

end Go.Proofs.YtoboickdkednkaaDoor

/- The walk of laws.toObj. -/
namespace Go.Proofs.YtoboickdkednkaaDoor
open Go.RowKit

end Go.Proofs.YtoboickdkednkaaDoor
