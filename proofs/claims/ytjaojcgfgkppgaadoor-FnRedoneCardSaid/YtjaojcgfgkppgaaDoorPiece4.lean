/- Several texts in one, in their order. -/
import Derived.Test.YtjaojcgfgkppgaaDoorPiece3
import Derived.Test.YtjaojcgfgkppgaaDoorPiece2
import Derived.Deep.AppendLies
import Derived.Laws.AppendOwnNone
import Derived.Deep.RegionLaw
import Derived.Deep.DrawnRows
/- A box of three cells, filled. -/
namespace Go.Proofs.YtjaojcgfgkppgaaDoor
open Go.RowKit

/-- The facts that a walk wants of a box of three cells. -/
theorem Box.three {w : World} {B : Nat} {x0 x1 x2 : Value} {t : TypeId} (b : Box w B [x0, x1, x2] t) :
    w.cell? ⟨B, 0, none⟩ = some x0 ∧ w.cell? ⟨B, 1, none⟩ = some x1 ∧ w.cell? ⟨B, 2, none⟩ = some x2 ∧ w.frozen? ⟨B, 0, none⟩ = false ∧ w.frozen? ⟨B, 1, none⟩ = false ∧ w.frozen? ⟨B, 2, none⟩ = false :=
  ⟨b.cell 0 _ rfl, b.cell 1 _ rfl, b.cell 2 _ rfl, b.frozen 0, b.frozen 1, b.frozen 2⟩

theorem box3_fill {w : World} {B : Nat} {x0 x1 x2 : Value} {t : TypeId} (b : Box w B [x0, x1, x2] t) (v0 v1 v2 : Value) :
    ∃ W, Hid (((w.setCell ⟨B, 0, none⟩ v0).setCell ⟨B, 1, none⟩ v1).setCell ⟨B, 2, none⟩ v2 = W) ∧ Box W B [v0, v1, v2] t ∧ Within B (B + 1) w W ∧ W.heap.size = w.heap.size := by
  refine ⟨_, rfl, ?_, ?_, ?_⟩
  · have := ((b.set 0 v0).set 1 v1).set 2 v2
    simpa only [List.set] using this
  · exact ((within_set w B 0 v0 (by omega)).trans (within_set _ B 1 v1 (by omega))).trans (within_set _ B 2 v2 (by omega))
  · simp
end Go.Proofs.YtjaojcgfgkppgaaDoor

/- Appending numbers as a step of a region that draws its order; an object in a box of the call. -/
namespace Go.Proofs.YtjaojcgfgkppgaaDoor
open Go.RowKit

theorem run_append_ints {w : World} (ty : TypeId) (lo hi : Nat) (a : Option Addr) (c : Nat) (xs : List Int) (hown : OwnI w lo hi a c xs)
    (sa : Option Addr) (sc : Nat) (zs : List Int) (hr : ReadsI w sa zs) (hc : sa = none → sc = 0) (hb : xs.length + zs.length ≤ 1099511627776) (hlo : lo ≤ w.heap.size) :
    ∃ a' c' ys w', (Builtin.append_ #[24, 24] ty #[.slice a xs.length c, .slice sa zs.length sc]).run Tryd.prog w = .ok (.slice a' ys.length c') w' ∧ Hid (ys = xs ++ zs) ∧ OwnI w' lo w'.heap.size a' c' ys ∧ w.grownBy w' (Value.slice a xs.length c).ownBlock ∧
      (∀ k, (Value.slice a' ys.length c').ownBlock = some k → (Value.slice a xs.length c).ownBlock = some k ∨ k = w.heap.size) := by
  obtain ⟨i0, hi0, hz0, hz1, hz2⟩ := info_parts Tryd.infoInt
  cases sa with
  | none =>
    have hz : zs = [] := by
      by_cases e : zs = []
      · exact e
      · obtain ⟨b, off, hh, _⟩ := hr e
        cases hh
    subst hz
    have := hc rfl
    subst this
    refine ⟨a, c, xs, w, run_append_owned_none (P := Tryd.prog) (w := w) lo 24 ty 3 i0 1 Tryd.underlying24 hi0 _ _ _ hown.1, (by simp [Hid]), ⟨hown.1, Nat.le_refl _, fun k hk => (hown.1.lt k hk).2⟩, World.grownBy.refl _ _, fun k hk => .inl hk⟩
  | some ad =>
    obtain ⟨v', w', h1, h2, h3, _, h5⟩ := run_append_own_at (P := Tryd.prog) w lo 24 ty 3 i0 (.int .i64 0) 1 8 Tryd.underlying24 hi0 hz0 hz1 hz2 rfl (by decide) _ _ _ hown.1 ad zs.length sc (zs.map (Value.int .i64)) (by simp) (by
      intro j u hj
      have hjl : j < zs.length := by
        by_cases e : j < zs.length
        · exact e
        · simp [List.getElem?_eq_none (Nat.le_of_not_lt e)] at hj
      have hne : zs ≠ [] := by intro e; simp [e] at hjl
      obtain ⟨b, off, hh, hcell⟩ := hr hne
      cases hh
      rw [Addr_add, hcell j hjl]
      simpa [hjl] using hj) (ints_oneCell _ _) (by simp only [maxLen]; omega) (by omega) hlo
    rw [← List.map_append, ← List.length_append] at h2
    have sh : ∃ a' c', v' = .slice a' (xs ++ zs).length c' := by
      rcases h2.2 with ⟨rfl, h0⟩ | ⟨g, cap, cur, rfl, _⟩
      · exact ⟨none, 0, by rw [h0]⟩
      · exact ⟨_, _, rfl⟩
    obtain ⟨a', c', rfl⟩ := sh
    refine ⟨a', c', xs ++ zs, w', h1, rfl, ⟨h2, Nat.le_refl _, fun k hk => (h2.lt k hk).2⟩, h3, fun k hk => ?_⟩
    rcases h5 with h5 | h5
    · exact .inl (by rw [← h5]; exact hk)
    · rw [h5] at hk
      exact .inr (Option.some.inj hk).symm

theorem step_append_ints {w : World} {ops : Array Oper} {o : Oper} {act : Act} {K : Act → World → Prop} {Q : Exit → Act → World → Prop} {E : Prop} (hgd : o.guard = none) (s x : Operand)
    (ho : o.op = .call { callee := .builtin .append, args := #[s, x], argTypes := #[24, 24] })
    (lo hi : Nat) (a : Option Addr) (c : Nat) (xs : List Int) (hs : act.eval s = .slice a xs.length c) (hown : OwnI w lo hi a c xs)
    (sa : Option Addr) (sc : Nat) (zs : List Int) (hx : act.eval x = .slice sa zs.length sc) (hr : ReadsI w sa zs) (hc : sa = none → sc = 0)
    (hb : xs.length + zs.length ≤ 1099511627776) (hlo : lo ≤ w.heap.size)
    (h : ∀ a' c' ys w', Hid (ys = xs ++ zs) → OwnI w' lo w'.heap.size a' c' ys → w.grownBy w' (Value.slice a xs.length c).ownBlock →
      (∀ k, (Value.slice a' ys.length c').ownBlock = some k → (Value.slice a xs.length c).ownBlock = some k ∨ k = w.heap.size) → K (act.put o.dst (.slice a' ys.length c')) w') :
    if Region.wanted o (yielded ops act.tmps) = true then Oper.wp Tryd.prog o act w K Q else E := by
  have hw : Region.wanted o (yielded ops act.tmps) = true := by simp [Region.wanted, hgd]
  rw [if_pos hw]
  obtain ⟨a', c', ys, w', hrun, h1, h2, h3, h4⟩ := run_append_ints (w := w) o.type lo hi a c xs hown sa sc zs hr hc hb hlo
  unfold Oper.wp execOp
  simp only [ho, resolve, invoke, builtin, Sem.run_bind, Sem.run_pure, Result.andThen_ok, List.map_toArray, List.map_cons, List.map_nil, hs, hx, hrun]
  exact h a' c' ys w' h1 h2 h3 h4

/-- An object lies in block Bo; its lists lie from lo on, and the call owns them. -/
structure ObjAt (w : World) (lo Bo : Nat) (o : ObjV) (aI : Option Addr) (cI : Nat) (aR : Option Addr) (cR : Nat) : Prop where
  box : Box w Bo [.int .i64 o.kind, .slice aI o.ints.length cI, .slice aR o.refs.length cR] 26
  own : OwnO w lo w.heap.size aI cI aR cR o
  lt : Bo < lo

theorem OwnO.kept {w w' : World} {lo hi : Nat} {aI : Option Addr} {cI : Nat} {aR : Option Addr} {cR : Nat} {o : ObjV} {B : Nat} (h : OwnO w lo hi aI cI aR cR o) (hg : w.grownBy w' (some B)) (hB : B < lo) : OwnO w' lo w'.heap.size aI cI aR cR o := by
  have h1 := h.ints.kept hg (fun k hk e => by have := (h.ints.lt k hk).1; cases e; omega)
  have h2 := h.refs.kept hg (fun k hk e => by have := (h.refs.lt k hk).1; cases e; omega)
  exact ⟨h1.widen (Nat.le_refl _) h1.2.1 (Nat.le_refl _), h2.widen (Nat.le_refl _) h2.2.1 (Nat.le_refl _), h.apart⟩

theorem ObjAt.kept {w w' : World} {lo Bo : Nat} {aI : Option Addr} {cI : Nat} {aR : Option Addr} {cR : Nat} {o : ObjV} {B : Nat} (h : ObjAt w lo Bo o aI cI aR cR) (hg : w.grownBy w' (some B)) (hB : B < Bo) : ObjAt w' lo Bo o aI cI aR cR :=
  ⟨h.box.block (hg.block Bo h.box.lt (fun e => by cases e; omega)), h.own.kept hg (by have := h.lt; omega), h.lt⟩
theorem ObjAt.alloc {w : World} {lo Bo : Nat} {aI : Option Addr} {cI : Nat} {aR : Option Addr} {cR : Nat} {o : ObjV} (h : ObjAt w lo Bo o aI cI aR cR) (ob : Obj) : ObjAt (w.alloc ob) lo Bo o aI cI aR cR :=
  ⟨h.box.alloc ob, (h.own.below ((Below.refl _ _).alloc (Nat.le_refl _) ob)).widen (Nat.le_refl _) (by simp) (Nat.le_refl _), h.lt⟩
theorem ObjAt.drew {w : World} {lo Bo : Nat} {aI : Option Addr} {cI : Nat} {aR : Option Addr} {cR : Nat} {o : ObjV} (h : ObjAt w lo Bo o aI cI aR cR) : ObjAt w.drew lo Bo o aI cI aR cR :=
  ⟨h.box, h.own.below (Below.refl _ _).drew, h.lt⟩
theorem ObjAt.three {w : World} {lo Bo : Nat} {aI : Option Addr} {cI : Nat} {aR : Option Addr} {cR : Nat} {o : ObjV} (h : ObjAt w lo Bo o aI cI aR cR) :
    w.cell? ⟨Bo, 0, none⟩ = some (.int .i64 o.kind) ∧ w.cell? ⟨Bo, 1, none⟩ = some (.slice aI o.ints.length cI) ∧ w.cell? ⟨Bo, 2, none⟩ = some (.slice aR o.refs.length cR) ∧ w.frozen? ⟨Bo, 0, none⟩ = false ∧ w.frozen? ⟨Bo, 1, none⟩ = false ∧ w.frozen? ⟨Bo, 2, none⟩ = false := h.box.three

theorem Box.grown {w w' : World} {C B : Nat} {vs : List Value} {t : TypeId} (h : Box w C vs t) (hg : w.grownBy w' (some B)) (hne : C ≠ B) : Box w' C vs t := h.block (hg.block C h.lt (fun e => hne (Option.some.inj e)))
theorem CurAt.drew {w : World} {B : Nat} {zs : List Int} (h : CurAt w B zs) : CurAt w.drew B zs := h
theorem grown_drew (w : World) (r : Option Nat) : w.grownBy w.drew r := ⟨rfl, rfl, rfl, Nat.le_refl _, fun _ _ _ => rfl⟩

/-- The lists after an append to the first: the object in its box, the cursor, and all that was there. -/
theorem ObjAt.pushI {w0 w w' : World} {lo Bo B : Nat} {aI : Option Addr} {cI : Nat} {aR : Option Addr} {cR : Nat} {o : ObjV} {zs : List Int} (h : ObjAt w lo Bo o aI cI aR cR) (hc : CurAt w B zs) (hB : B < Bo) (hg0 : w0.grownBy w (some B)) (h0 : w0.heap.size ≤ Bo)
    {a' : Option Addr} {c' : Nat} {ys : List Int} (ho : OwnI w' lo w'.heap.size a' c' ys) (hg : w.grownBy w' (Value.slice aI o.ints.length cI).ownBlock)
    (hat : ∀ k, (Value.slice a' ys.length c').ownBlock = some k → (Value.slice aI o.ints.length cI).ownBlock = some k ∨ k = w.heap.size) :
    (w'.cell? ⟨Bo, 1, none⟩ = some (.slice aI o.ints.length cI) ∧ w'.frozen? ⟨Bo, 1, none⟩ = false) ∧
    ObjAt (w'.setCell ⟨Bo, 1, none⟩ (.slice a' ys.length c')) lo Bo ⟨o.kind, ys, o.refs⟩ a' c' aR cR ∧ CurAt (w'.setCell ⟨Bo, 1, none⟩ (.slice a' ys.length c')) B zs ∧ w0.grownBy (w'.setCell ⟨Bo, 1, none⟩ (.slice a' ys.length c')) (some B) ∧ (∀ b, b < lo → b ≠ Bo → b < w.heap.size → (w'.setCell ⟨Bo, 1, none⟩ (.slice a' ys.length c')).heap[b]? = w.heap[b]?) := by
  have hlt := h.lt
  have hb' : Box w' Bo _ _ := h.box.block (hg.block Bo h.box.lt (fun e => by have := (h.own.ints.lt Bo e.symm).1; omega))
  have hbs := hb'.set 1 (.slice a' ys.length c')
  simp only [List.set] at hbs
  have hgs := grown_set w' Bo 1 (.slice a' ys.length c')
  have hR' := h.own.refs.kept hg (fun k hk e => h.own.apart k e hk)
  have hI2 := ho.kept hgs (fun k hk e => by have := (ho.lt k hk).1; cases e; omega)
  have hR2 := hR'.kept hgs (fun k hk e => by have := (hR'.lt k hk).1; cases e; omega)
  refine ⟨⟨hb'.cell 1 _ rfl, hb'.frozen 1⟩, ⟨hbs, ⟨hI2.widen (Nat.le_refl _) hI2.2.1 (Nat.le_refl _), hR2.widen (Nat.le_refl _) hR2.2.1 (Nat.le_refl _), fun k hk => ?_⟩, hlt⟩, ?_, ?_, ?_⟩
  · rcases hat k hk with e | e
    · exact h.own.apart k e
    · intro e'
      have := (h.own.refs.lt k e').2
      omega
  · exact (hc.kept hg (fun k e => by have := (h.own.ints.lt k e).1; omega)).kept hgs (fun k e => by cases e; omega)
  · exact grownBy_new (grownBy_new hg0 hg (fun k e => by have := (h.own.ints.lt k e).1; omega)) hgs (fun k e => by cases e; omega)
  · intro b hb hn hbl
    rw [hgs.block b (by have := hg.size; omega) (fun e => hn (Option.some.inj e))]
    exact hg.block b hbl (fun e => by have := (h.own.ints.lt b e.symm).1; omega)

theorem ObjAt.pushR {w0 w w' : World} {lo Bo B : Nat} {aI : Option Addr} {cI : Nat} {aR : Option Addr} {cR : Nat} {o : ObjV} {zs : List Int} (h : ObjAt w lo Bo o aI cI aR cR) (hc : CurAt w B zs) (hB : B < Bo) (hg0 : w0.grownBy w (some B)) (h0 : w0.heap.size ≤ Bo)
    {a' : Option Addr} {c' : Nat} {ys : List Int} (ho : OwnI w' lo w'.heap.size a' c' ys) (hg : w.grownBy w' (Value.slice aR o.refs.length cR).ownBlock)
    (hat : ∀ k, (Value.slice a' ys.length c').ownBlock = some k → (Value.slice aR o.refs.length cR).ownBlock = some k ∨ k = w.heap.size) :
    (w'.cell? ⟨Bo, 2, none⟩ = some (.slice aR o.refs.length cR) ∧ w'.frozen? ⟨Bo, 2, none⟩ = false) ∧
    ObjAt (w'.setCell ⟨Bo, 2, none⟩ (.slice a' ys.length c')) lo Bo ⟨o.kind, o.ints, ys⟩ aI cI a' c' ∧ CurAt (w'.setCell ⟨Bo, 2, none⟩ (.slice a' ys.length c')) B zs ∧ w0.grownBy (w'.setCell ⟨Bo, 2, none⟩ (.slice a' ys.length c')) (some B) ∧ (∀ b, b < lo → b ≠ Bo → b < w.heap.size → (w'.setCell ⟨Bo, 2, none⟩ (.slice a' ys.length c')).heap[b]? = w.heap[b]?) := by
  have hlt := h.lt
  have hb' : Box w' Bo _ _ := h.box.block (hg.block Bo h.box.lt (fun e => by have := (h.own.refs.lt Bo e.symm).1; omega))
  have hbs := hb'.set 2 (.slice a' ys.length c')
  simp only [List.set] at hbs
  have hgs := grown_set w' Bo 2 (.slice a' ys.length c')
  have hI' := h.own.ints.kept hg (fun k hk e => h.own.apart k hk e)
  have hR2 := ho.kept hgs (fun k hk e => by have := (ho.lt k hk).1; cases e; omega)
  have hI2 := hI'.kept hgs (fun k hk e => by have := (hI'.lt k hk).1; cases e; omega)
  refine ⟨⟨hb'.cell 2 _ rfl, hb'.frozen 2⟩, ⟨hbs, ⟨hI2.widen (Nat.le_refl _) hI2.2.1 (Nat.le_refl _), hR2.widen (Nat.le_refl _) hR2.2.1 (Nat.le_refl _), fun k hk => ?_⟩, hlt⟩, ?_, ?_, ?_⟩
  · intro e'
    rcases hat k e' with e | e
    · exact h.own.apart k hk e
    · have := (h.own.ints.lt k hk).2
      omega
  · exact (hc.kept hg (fun k e => by have := (h.own.refs.lt k e).1; omega)).kept hgs (fun k e => by cases e; omega)
  · exact grownBy_new (grownBy_new hg0 hg (fun k e => by have := (h.own.refs.lt k e).1; omega)) hgs (fun k e => by cases e; omega)
  · intro b hb hn hbl
    rw [hgs.block b (by have := hg.size; omega) (fun e => hn (Option.some.inj e))]
    exact hg.block b hbl (fun e => by have := (h.own.refs.lt b e.symm).1; omega)
end Go.Proofs.YtjaojcgfgkppgaaDoor

/- The walk of spec.l2Obj. -/
namespace Go.Proofs.YtjaojcgfgkppgaaDoor
open Go.RowKit
attribute [local go_sem ↓] Go.wp_at_zero Go.wp_at_succ

set_option maxHeartbeats 4000000 in
set_option maxRecDepth 100000 in
theorem l2Obj_any (B : Nat) (zs : List Int) (w : World) (hc : CurAt w B zs) (hl : zs.length ≤ 70368744177664) :
    Calls Tryd.prog 120 #[.pointer (some ⟨B, 0, none⟩)] w fun e w' => ∃ aI cI aR cR o, e = .returned (.agg #[.int .i64 o.kind, .slice aI o.ints.length cI, .slice aR o.refs.length cR]) ∧ o.ints.length ≤ 3 ∧ o.refs.length ≤ 3 ∧ OwnO w' w.heap.size w'.heap.size aI cI aR cR o ∧ CurAt w' B zs ∧ w.grownBy w' (some B) := by
  have hB := hc.lt
  obtain ⟨W, hW, b0, hbW, hsW⟩ := boxes1 w [.int .i64 0, .slice none 0 0, .slice none 0 0] 26
  have hg0 : w.grownBy W (some B) := ⟨hbW.os, hbW.tape, hbW.output, hbW.size, fun k hk _ => hbW.block k hk⟩
  have hcW : CurAt W B zs := hc.below hbW
  have hsW' : w.heap.size < W.heap.size := by omega
  clear hsW hc
  go_enter Tryd.func120, Tryd.ntmps120
  go_wp2_with fail
  rw [hW.out]
  clear hW hbW
  refine (l1Below_any B zs 5 W hcW hl (by omega)).mono ?_
  rintro e w1 ⟨x, rfl, hx, hc1, hg1⟩
  have hx5 : (x : Int) < 5 := hx (by omega)
  have b1 : Box w1 w.heap.size _ _ := b0.block (hg1.block w.heap.size b0.lt (fun e => by cases e; omega))
  have hg01 := grownBy_trans hg0 hg1
  have hs1 := hg1.size
  clear hx b0 hg1 hg0 hcW
  obtain ⟨W2, hW2, b2, hbW2, hsW2⟩ := boxes1 w1 [.int .i64 (1 + (x : Int)), .slice none 0 0, .slice none 0 0] 26
  have hb1' := b1.below hbW2 b1.lt
  have hc2 : CurAt W2 B zs := hc1.below hbW2
  have hg2 : w.grownBy W2 (some B) := grownBy_new (row := none) hg01 ⟨hbW2.os, hbW2.tape, hbW2.output, hbW2.size, fun k hk _ => hbW2.block k hk⟩ (fun k e => by cases e)
  have ho2 : ObjAt W2 (w1.heap.size + 1) w1.heap.size ⟨1 + (x : Int), [], []⟩ none 0 none 0 := ⟨b2, ⟨ownI_nil _ _ _ (Nat.le_refl _), ownI_nil _ _ _ (Nat.le_refl _), fun k hk => by cases hk⟩, by omega⟩
  have hsW2' : w1.heap.size < W2.heap.size := by omega
  clear hsW2 b1 b2 hbW2 hg01 hc1
  go_wp2_with fail
  rw [hW2.out]
  clear hW2
  generalize 1 + (x : Int) = q at *
  generalize w1.heap.size = Bo at *
  refine (l1Below_any B zs 3 W2 hc2 hl (by omega)).mono ?_
  rintro e w3 ⟨y, rfl, hy, hc3, hg3⟩
  have hy3 : (y : Int) < 3 := hy (by omega)
  have hBB : B < Bo := by omega
  have hwB : w.heap.size < Bo := by omega
  have b3 : Box w3 w.heap.size _ _ := hb1'.block (hg3.block w.heap.size hb1'.lt (fun e => by cases e; omega))
  have ho3 := ho2.kept hg3 hBB
  have hgw3 := grownBy_trans hg2 hg3
  clear hy hb1' hc2 hg2 hg3 ho2 hsW2' hs1 hsW' hx5
  go_wp2_with fail
  go_loopw [4] (fun i wr => ∃ (k : Nat) (aI : Option Addr) (cI : Nat) (is : List Int), i = .int .i64 k ∧ k ≤ 2 ∧ is.length + k ≤ 2 ∧ ObjAt wr (Bo + 1) Bo ⟨q, is, []⟩ aI cI none 0 ∧ Box wr w.heap.size [.int .i64 0, .slice none 0 0, .slice none 0 0] 26 ∧ CurAt wr B zs ∧ w.grownBy wr (some B))
    (fun i _ => (intOf i).toNat)
  case atStart => exact ⟨y, none, 0, [], rfl, by omega, by simp; omega, ho3, b3, hc3, hgw3⟩
  case round =>
    obtain ⟨k, aI, cI, is, rfl, hk, hik, ho, hb, hcr, hgr⟩ := hrel
    clear ho3 b3 hc3 hgw3 hy3
    cases k with
    | zero =>
      have hil : is.length ≤ 2 := by omega
      clear hik hk
      go_wp2_with fail
      refine (l1Below_any B zs 4 wr hcr hl (by omega)).mono ?_
      rintro e w4 ⟨z, rfl, hz, hc4, hg4⟩
      have hz4 : (z : Int) < 4 := hz (by omega)
      have b4 := hb.grown hg4 (by omega)
      have ho4 := ho.kept hg4 hBB
      have hgw4 := grownBy_trans hgr hg4
      clear hz hcr hb ho hgr hg4
      go_wp2_with fail
      go_loopw [5] (fun i wr => ∃ (k : Nat) (aR : Option Addr) (cR : Nat) (rs : List Int), i = .int .i64 k ∧ k ≤ 3 ∧ rs.length + k ≤ 3 ∧ ObjAt wr (Bo + 1) Bo ⟨q, is, rs⟩ aI cI aR cR ∧ Box wr w.heap.size [.int .i64 0, .slice none 0 0, .slice none 0 0] 26 ∧ CurAt wr B zs ∧ w.grownBy wr (some B))
        (fun i _ => (intOf i).toNat)
      case atStart => exact ⟨z, none, 0, [], rfl, by omega, by simp; omega, ho4, b4, hc4, hgw4⟩
      case round =>
        clear ho4 b4 hc4 hgw4 hz4 w4
        rename_i _ wx
        obtain ⟨k, aR, cR, rs, rfl, hk, hik, ho, hb, hcr, hgr⟩ := hrel
        cases k with
        | zero =>
          have hrl : rs.length ≤ 3 := by omega
          clear hik hk
          obtain ⟨c0, c1, c2, _, _, _⟩ := ho.three
          obtain ⟨x0, x1, x2, g0, g1, g2⟩ := hb.three
          obtain ⟨WF, hWF, bF, hwF, hsF⟩ := box3_fill hb (.int .i64 q) (.slice aI is.length cI) (.slice aR rs.length cR)
          go_wp2
          rw [hWF.out]
          obtain ⟨q0, q1, q2, _, _, _⟩ := bF.three
          have hlo := ho.lt
          have hgF : wr.grownBy WF (some w.heap.size) := ⟨hwF.os, hwF.tape, hwF.output, hwF.size, fun k hk hn => hwF.block k hk (fun h => hn (by rw [show k = w.heap.size by omega]))⟩
          exact bodyPost_ret (v := .agg #[.int .i64 q, .slice aI is.length cI, .slice aR rs.length cR]) (by simp [results, Tryd.results120, go_sem, q0, q1, q2]) rfl ⟨aI, cI, aR, cR, ⟨q, is, rs⟩, rfl, by simp only; omega, hrl, (ho.own.kept hgF (by omega)).widen (by omega) (Nat.le_refl _) (Nat.le_refl _), hcr.kept hgF (fun k e => by cases e; exact hB), grownBy_new hgr hgF (fun k e => by cases e; exact Nat.le_refl _)⟩
        | succ m =>
          have hkp : (0 : Int) < ((m + 1 : Nat) : Int) := by omega
          obtain ⟨_, _, c2, _, _, f2⟩ := ho.three
          go_wp2_with fail
          go_region_law ((first
            | (go_simp; go_at_call 87; refine (l1Below_any B zs 32 _ (by exact hcr.drew) hl (by omega)).mono ?_; rintro e u1 ⟨x, rfl, hx, hc1, hg1⟩; have hg1' := grownBy_trans (grown_drew _ (some B)) hg1; have ho1 := ho.kept hg1' hBB; obtain ⟨_, _, d2, _, _, _⟩ := ho1.three; have dA := fun ob => (ho1.alloc ob).three.2.2.1)
            | (go_simp; go_at_call 88; refine (l1Int_any B zs _ _ [0, 1, 2, 3, 5, 8, 12, 31, (x : Int)] _ (hc1.alloc _) hl (readsI_lit u1 _ _) (fun b off e => by cases e; have := hc1.lt; omega) (by simp) (by simp)).mono ?_; rintro e u2 ⟨j, hj, rfl, hc2, hg2⟩; generalize List.getD _ j (0 : Int) = n; have hg2' := grownBy_trans (World.grownBy_alloc u1 _ (some B)) hg2; have ho2 := ho1.kept hg2' hBB; obtain ⟨_, _, d2, _, _, _⟩ := ho2.three; have dA := fun ob => (ho2.alloc ob).three.2.2.1)
            | (refine step_append_ints rfl (.tmp 33) (.tmp 39) (by rfl) (Bo + 1) _ aR cR rs (by rfl) (ho2.alloc _).own.refs _ _ [n] (by rfl) (readsI_lit u2 [n] _) (by intro h; cases h) (by simp; omega) (by have := ho2.box.lt; simp; omega) ?_; intro a3 c3 y3 u3 hy3 ho3 hg3 hat3; obtain ⟨⟨d2, f2⟩, hO, hC, hG, hT⟩ := (ho2.alloc _).pushR (hc2.alloc _) hBB (grownBy_new (grownBy_trans (grownBy_trans hgr hg1') hg2') (World.grownBy_alloc u2 _ none) (fun j e => by cases e)) (by omega) ho3 hg3 hat3)))
          all_goals
            have hbF := (((hb.grown hg1' (by omega)).grown hg2' (by omega)).alloc _).block (hT w.heap.size (by omega) (by omega) (((hb.grown hg1' (by omega)).grown hg2' (by omega)).alloc _).lt)
            have hyl : y3.length + m ≤ 3 := by have := congrArg List.length hy3.out; simp at this; omega
            clear hT hat3 hg3 ho3 dA d2 f2 hc1 hc2 ho1 ho2 hg1' hg2' hcr hgr hb ho hg1 hg2 hy3
            generalize u3.setCell _ _ = wf at *
            go_wp2_with fail
            go_roundw
            case rel => exact ⟨m, a3, c3, y3, by go_num, by omega, hyl, hO, hbF, hC, hG⟩
            case measure => simp [intOf]
    | succ m =>
      have hkp : (0 : Int) < ((m + 1 : Nat) : Int) := by omega
      obtain ⟨_, c1, _, _, f1, _⟩ := ho.three
      go_wp2_with fail
      go_region_law ((first
        | (go_simp; go_at_call 87; refine (l1Below_any B zs 50 _ (by exact hcr.drew) hl (by omega)).mono ?_; rintro e u1 ⟨x, rfl, hx, hc1, hg1⟩; have hg1' := grownBy_trans (grown_drew wr (some B)) hg1; have ho1 := ho.kept hg1' hBB; obtain ⟨_, d1, _, _, _, _⟩ := ho1.three; have dA := fun ob => (ho1.alloc ob).three.2.1)
        | (go_simp; go_at_call 88; refine (l1Int_any B zs _ _ [0, 1, -1, 7, 1000000, -1000000, (x : Int)] _ (hc1.alloc _) hl (readsI_lit u1 _ _) (fun b off e => by cases e; have := hc1.lt; omega) (by simp) (by simp)).mono ?_; rintro e u2 ⟨j, hj, rfl, hc2, hg2⟩; generalize List.getD _ j (0 : Int) = n; have hg2' := grownBy_trans (World.grownBy_alloc u1 _ (some B)) hg2; have ho2 := ho1.kept hg2' hBB; obtain ⟨_, d1, _, _, _, _⟩ := ho2.three; have dA := fun ob => (ho2.alloc ob).three.2.1)
        | (refine step_append_ints rfl (.tmp 17) (.tmp 23) (by rfl) (Bo + 1) _ aI cI is (by rfl) (ho2.alloc _).own.ints _ _ [n] (by rfl) (readsI_lit u2 [n] _) (by intro h; cases h) (by simp; omega) (by have := ho2.box.lt; simp; omega) ?_; intro a3 c3 y3 u3 hy3 ho3 hg3 hat3; obtain ⟨⟨d1, f1⟩, hO, hC, hG, hT⟩ := (ho2.alloc _).pushI (hc2.alloc _) hBB (grownBy_new (grownBy_trans (grownBy_trans hgr hg1') hg2') (World.grownBy_alloc u2 _ none) (fun j e => by cases e)) (by omega) ho3 hg3 hat3)))
      all_goals
        have hbF := (((hb.grown hg1' (by omega)).grown hg2' (by omega)).alloc _).block (hT w.heap.size (by omega) (by omega) (((hb.grown hg1' (by omega)).grown hg2' (by omega)).alloc _).lt)
        have hyl : y3.length + m ≤ 2 := by have := congrArg List.length hy3.out; simp at this; omega
        clear hT hat3 hg3 ho3 dA d1 f1 hc1 hc2 ho1 ho2 hg1' hg2' hcr hgr hb ho hg1 hg2 hy3
        generalize u3.setCell _ _ = wf at *
        go_wp2_with fail
        go_roundw
        case rel => exact ⟨m, a3, c3, y3, by go_num, by omega, hyl, hO, hbF, hC, hG⟩
        case measure => simp [intOf]
end Go.Proofs.YtjaojcgfgkppgaaDoor
