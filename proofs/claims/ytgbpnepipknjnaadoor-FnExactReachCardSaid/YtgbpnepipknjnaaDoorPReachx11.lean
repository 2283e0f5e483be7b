/- Several texts in one, in their order. -/
import Derived.Test.YtgbpnepipknjnaaDoorPReachx10
import Derived.Test.YtgbpnepipknjnaaDoorPReachx1
import Derived.Test.YtgbpnepipknjnaaDoorPReachx2
import Derived.Deep.AppendLies
import Derived.Laws.AppendOwnNone
import Derived.Deep.RegionHeld3
import Derived.Deep.QuietTactic
import Derived.BigQuiet
import Derived.Deep.LoopGhost
import Derived.Deep.Cut
/- Appending numbers as a step of a region that draws its order; an object in a box of the call. -/
namespace Go.Proofs.YtgbpnepipknjnaaDoor
open Go.RowKit

theorem run_append_ints {w : World} (ty : TypeId) (lo hi : Nat) (a : Option Addr) (c : Nat) (xs : List Int) (hown : OwnI w lo hi a c xs)
    (sa : Option Addr) (sc : Nat) (zs : List Int) (hr : ReadsI w sa zs) (hc : sa = none → sc = 0) (hb : xs.length + zs.length ≤ 1099511627776) (hlo : lo ≤ w.heap.size) :
    ∃ a' c' ys w', (Builtin.append_ #[27, 27] ty #[.slice a xs.length c, .slice sa zs.length sc]).run Tryd.prog w = .ok (.slice a' ys.length c') w' ∧ Hid (ys = xs ++ zs) ∧ OwnI w' lo w'.heap.size a' c' ys ∧ w.grownBy w' (Value.slice a xs.length c).ownBlock ∧
      (∀ k, (Value.slice a' ys.length c').ownBlock = some k → (Value.slice a xs.length c).ownBlock = some k ∨ k = w.heap.size) := by
  obtain ⟨i0, hi0, hz0, hz1, hz2⟩ := info_parts Tryd.infoInt
  cases sa with
  | none =>
    have hz : zs = [] := by
      by_cases e : zs = []
      · exact e
      · obtain ⟨b, off, hh, _⟩ := hr e
        cases hh
    subst hz
    have := hc rfl
    subst this
    refine ⟨a, c, xs, w, run_append_owned_none (P := Tryd.prog) (w := w) lo 27 ty 3 i0 1 Tryd.underlying27 hi0 _ _ _ hown.1, (by simp [Hid]), ⟨hown.1, Nat.le_refl _, fun k hk => (hown.1.lt k hk).2⟩, World.grownBy.refl _ _, fun k hk => .inl hk⟩
  | some ad =>
    obtain ⟨v', w', h1, h2, h3, _, h5⟩ := run_append_own_at (P := Tryd.prog) w lo 27 ty 3 i0 (.int .i64 0) 1 8 Tryd.underlying27 hi0 hz0 hz1 hz2 rfl (by decide) _ _ _ hown.1 ad zs.length sc (zs.map (Value.int .i64)) (by simp) (by
      intro j u hj
      have hjl : j < zs.length := by
        by_cases e : j < zs.length
        · exact e
        · simp [List.getElem?_eq_none (Nat.le_of_not_lt e)] at hj
      have hne : zs ≠ [] := by intro e; simp [e] at hjl
      obtain ⟨b, off, hh, hcell⟩ := hr hne
      cases hh
      rw [Addr_add, hcell j hjl]
      simpa [hjl] using hj) (ints_oneCell _ _) (by simp only [maxLen]; omega) (by omega) hlo
    rw [← List.map_append, ← List.length_append] at h2
    have sh : ∃ a' c', v' = .slice a' (xs ++ zs).length c' := by
      rcases h2.2 with ⟨rfl, h0⟩ | ⟨g, cap, cur, rfl, _⟩
      · exact ⟨none, 0, by rw [h0]⟩
      · exact ⟨_, _, rfl⟩
    obtain ⟨a', c', rfl⟩ := sh
    refine ⟨a', c', xs ++ zs, w', h1, rfl, ⟨h2, Nat.le_refl _, fun k hk => (h2.lt k hk).2⟩, h3, fun k hk => ?_⟩
    rcases h5 with h5 | h5
    · exact .inl (by rw [← h5]; exact hk)
    · rw [h5] at hk
      exact .inr (Option.some.inj hk).symm

/-- An object lies in block Bo; its lists lie from lo on, and the call owns them. -/
structure ObjAt (w : World) (lo Bo : Nat) (o : ObjV) (aI : Option Addr) (cI : Nat) (aR : Option Addr) (cR : Nat) : Prop where
  box : Box w Bo [.int .i64 o.kind, .slice aI o.ints.length cI, .slice aR o.refs.length cR] 35
  own : OwnO w lo w.heap.size aI cI aR cR o
  lt : Bo < lo

theorem OwnO.kept {w w' : World} {lo hi : Nat} {aI : Option Addr} {cI : Nat} {aR : Option Addr} {cR : Nat} {o : ObjV} {B : Nat} (h : OwnO w lo hi aI cI aR cR o) (hg : w.grownBy w' (some B)) (hB : B < lo) : OwnO w' lo w'.heap.size aI cI aR cR o := by
  have h1 := h.ints.kept hg (fun k hk e => by have := (h.ints.lt k hk).1; cases e; omega)
  have h2 := h.refs.kept hg (fun k hk e => by have := (h.refs.lt k hk).1; cases e; omega)
  exact ⟨h1.widen (Nat.le_refl _) h1.2.1 (Nat.le_refl _), h2.widen (Nat.le_refl _) h2.2.1 (Nat.le_refl _), h.apart⟩

theorem ObjAt.kept {w w' : World} {lo Bo : Nat} {aI : Option Addr} {cI : Nat} {aR : Option Addr} {cR : Nat} {o : ObjV} {B : Nat} (h : ObjAt w lo Bo o aI cI aR cR) (hg : w.grownBy w' (some B)) (hB : B < Bo) : ObjAt w' lo Bo o aI cI aR cR :=
  ⟨h.box.block (hg.block Bo h.box.lt (fun e => by cases e; omega)), h.own.kept hg (by have := h.lt; omega), h.lt⟩
theorem ObjAt.alloc {w : World} {lo Bo : Nat} {aI : Option Addr} {cI : Nat} {aR : Option Addr} {cR : Nat} {o : ObjV} (h : ObjAt w lo Bo o aI cI aR cR) (ob : Obj) : ObjAt (w.alloc ob) lo Bo o aI cI aR cR :=
  ⟨h.box.alloc ob, (h.own.below ((Below.refl _ _).alloc (Nat.le_refl _) ob)).widen (Nat.le_refl _) (by simp) (Nat.le_refl _), h.lt⟩
theorem ObjAt.drew {w : World} {lo Bo : Nat} {aI : Option Addr} {cI : Nat} {aR : Option Addr} {cR : Nat} {o : ObjV} (h : ObjAt w lo Bo o aI cI aR cR) : ObjAt w.drew lo Bo o aI cI aR cR :=
  ⟨h.box, h.own.below (Below.refl _ _).drew, h.lt⟩
theorem ObjAt.three {w : World} {lo Bo : Nat} {aI : Option Addr} {cI : Nat} {aR : Option Addr} {cR : Nat} {o : ObjV} (h : ObjAt w lo Bo o aI cI aR cR) :
    w.cell? ⟨Bo, 0, none⟩ = some (.int .i64 o.kind) ∧ w.cell? ⟨Bo, 1, none⟩ = some (.slice aI o.ints.length cI) ∧ w.cell? ⟨Bo, 2, none⟩ = some (.slice aR o.refs.length cR) ∧ w.frozen? ⟨Bo, 0, none⟩ = false ∧ w.frozen? ⟨Bo, 1, none⟩ = false ∧ w.frozen? ⟨Bo, 2, none⟩ = false := h.box.three

theorem Box.grown {w w' : World} {C B : Nat} {vs : List Value} {t : TypeId} (h : Box w C vs t) (hg : w.grownBy w' (some B)) (hne : C ≠ B) : Box w' C vs t := h.block (hg.block C h.lt (fun e => hne (Option.some.inj e)))
theorem CurAt.drew {w : World} {B : Nat} {zs : List Int} (h : CurAt w B zs) : CurAt w.drew B zs := h
end Go.Proofs.YtgbpnepipknjnaaDoor

/- A row of numbers as a stack: put on it, cut off. -/
namespace Go.Proofs.YtgbpnepipknjnaaDoor
open Go.RowKit

theorem append_intsM {w : World} {ops : Array Oper} {rest : List Oper} {o : Oper} {act : Act} {Q : Exit → Act → World → Prop} (hgd : o.guard = none) (s x : Operand)
    (ho : o.op = .call { callee := .builtin .append, args := #[s, x], argTypes := #[27, 27] })
    (lo hi : Nat) (a : Option Addr) (c : Nat) (xs : List Int) (hs : act.eval s = .slice a xs.length c) (hown : OwnI w lo hi a c xs)
    (sa : Option Addr) (sc : Nat) (zs : List Int) (hx : act.eval x = .slice sa zs.length sc) (hr : ReadsI w sa zs) (hc : sa = none → sc = 0)
    (hb : xs.length + zs.length ≤ 1099511627776) (hlo : lo ≤ w.heap.size)
    (h : ∀ a' c' ys w', Hid (ys = xs ++ zs) → OwnI w' lo w'.heap.size a' c' ys → w.grownBy w' (Value.slice a xs.length c).ownBlock → (∀ k, (Value.slice a' ys.length c').ownBlock = some k → (Value.slice a xs.length c).ownBlock = some k ∨ k = w.heap.size) → wpList Tryd.prog ops Q rest (act.put o.dst (.slice a' ys.length c')) w') :
    wpList Tryd.prog ops Q (o :: rest) act w := by
  obtain ⟨a', c', ys, w', hrun, h1, h2, h3, h4⟩ := run_append_ints (w := w) o.type lo hi a c xs hown sa sc zs hr hc hb hlo
  refine wpList_plain hgd fun K hK => ?_
  unfold Oper.wp execOp
  simp only [ho, resolve, invoke, builtin, Sem.run_bind, Sem.run_pure, Result.andThen_ok, List.map_toArray, List.map_cons, List.map_nil, hs, hx, hrun]
  exact hK _ _ (h a' c' ys w' h1 h2 h3 h4)
theorem OwnI.cut {w : World} {lo hi : Nat} {a : Option Addr} {c : Nat} {ns : List Int} (h : OwnI w lo hi a c ns) (k : Nat) (hk : k ≤ ns.length) : OwnI w lo hi a c (ns.take k) := by
  have hl : (ns.take k).length = k := by rw [List.length_take]; omega
  obtain ⟨⟨h1, h2⟩, h3, h4⟩ := h
  refine ⟨⟨by simp, ?_⟩, h3, fun j hj => h4 j (by
    cases a with
    | none => simp [Value.ownBlock] at hj
    | some ad => simpa [Value.ownBlock] using hj)⟩
  rcases h2 with ⟨hv, h0⟩ | ⟨g, cap, cur, hv, hg, hh, hn, hcap, hsz, htake⟩
  · left
    simp only [Value.slice.injEq] at hv
    obtain ⟨rfl, _, rfl⟩ := hv
    have : ns = [] := List.length_eq_zero_iff.1 h0
    subst this
    simp
  · right
    simp only [Value.slice.injEq] at hv
    obtain ⟨rfl, _, rfl⟩ := hv
    refine ⟨g, c, cur, rfl, hg, hh, by omega, hcap, hsz, ?_⟩
    have h5 : (cur.toList.take (ns.length * 1)).take (k * 1) = (ns.map (Value.int .i64)).take (k * 1) := by rw [htake]
    rw [List.take_take, Nat.min_eq_left (by omega)] at h5
    rw [hl, h5, Nat.mul_one, List.map_take]
end Go.Proofs.YtgbpnepipknjnaaDoor

/- A marking in its box: what stands there, and what a step of it changes. -/
namespace Go.Proofs.YtgbpnepipknjnaaDoor
open Go.RowKit

def cellsM (v : Value) (mb most : Nat) (st : MSt) (aS : Option Addr) (cS : Nat) : List Value := [v, .map (some mb), .slice aS st.stack.length cS, .int .i64 most, .bool st.left, .int .i64 st.anew]
/-- The marking in box M: its marks in the map mb, its stack at aS; all of it was made since w0. -/
structure MkO (w0 w : World) (M mb : Nat) (v : Value) (most : Nat) (st : MSt) (aS : Option Addr) (cS : Nat) : Prop where
  box : Box w M (cellsM v mb most st aS cS) 63
  set : SetAt w mb st.met
  own : OwnI w w0.heap.size w.heap.size aS cS st.stack
  ne : M ≠ mb
  nS : ∀ k, (Value.slice aS st.stack.length cS).ownBlock = some k → k ≠ M ∧ k ≠ mb
  lo : w0.heap.size ≤ M ∧ w0.heap.size ≤ mb
  bel : Below w0.heap.size w0 w
def MkAt (w0 w : World) (M mb : Nat) (v : Value) (most : Nat) (st : MSt) : Prop := ∃ aS cS, MkO w0 w M mb v most st aS cS
theorem MkO.below {w0 w w' : World} {M mb : Nat} {v : Value} {most : Nat} {st : MSt} {aS : Option Addr} {cS : Nat} (h : MkO w0 w M mb v most st aS cS) (hb : Below w.heap.size w w') : MkO w0 w' M mb v most st aS cS :=
  ⟨h.box.below hb h.box.lt, h.set.below hb, (h.own.below hb).widen (Nat.le_refl _) hb.size (Nat.le_refl _), h.ne, h.nS, h.lo, h.bel.trans (hb.mono h.bel.size)⟩
theorem MkAt.below {w0 w w' : World} {M mb : Nat} {v : Value} {most : Nat} {st : MSt} (h : MkAt w0 w M mb v most st) (hb : Below w.heap.size w w') : MkAt w0 w' M mb v most st := by
  obtain ⟨aS, cS, h⟩ := h
  exact ⟨aS, cS, h.below hb⟩
theorem MkAt.bel {w0 w : World} {M mb : Nat} {v : Value} {most : Nat} {st : MSt} (h : MkAt w0 w M mb v most st) : Below w0.heap.size w0 w := by
  obtain ⟨aS, cS, h⟩ := h
  exact h.bel
/-- One cell of the box that is no list is written. -/
theorem MkO.cell {w0 w : World} {M mb : Nat} {v : Value} {most : Nat} {st st' : MSt} {aS : Option Addr} {cS : Nat} (h : MkO w0 w M mb v most st aS cS) (i : Nat) (x : Value) (hc : (cellsM v mb most st aS cS).set i x = cellsM v mb most st' aS cS) (hm : st'.met = st.met) (hs : st'.stack = st.stack) :
    ∃ W, Hid (w.setCell ⟨M, i, none⟩ x = W) ∧ MkO w0 W M mb v most st' aS cS := by
  obtain ⟨W, hW, hb, hw, hsz⟩ := box_set h.box i x
  rw [hc] at hb
  have hlo := h.lo
  refine ⟨W, hW, hb, ?_, ?_, h.ne, ?_, h.lo, h.bel.trans (hw.below hlo.1 h.bel.size)⟩
  · rw [hm]
    exact h.set.block (hw.block mb h.set.lt (by have := h.ne; omega))
  · rw [hs, hsz]
    have ho := h.own
    exact ⟨ownsRow_block ho.1 (fun k hk => hw.block k (by have := ho.2.2 k hk; omega) (by have := (h.nS k hk).1; omega)), by rw [hsz]; exact Nat.le_refl _, fun k hk => ho.2.2 k hk⟩
  · rw [hs]
    exact h.nS
/-- The map was written: one more is marked. -/
theorem MkO.marked {w0 w w' : World} {M mb : Nat} {v : Value} {most : Nat} {st : MSt} {S : List Bool} {aS : Option Addr} {cS : Nat} (h : MkO w0 w M mb v most st aS cS) (hs : SetAt w' mb S) (hg : w.grownBy w' (some mb)) : MkO w0 w' M mb v most ⟨S, st.stack, st.left, st.anew⟩ aS cS := by
  have hlo := h.lo
  have ho := h.own
  refine ⟨h.box.block (hg.block M h.box.lt (fun e => h.ne (Option.some.inj e))), hs, ⟨ownsRow_block ho.1 (fun k hk => hg.block k (ho.2.2 k hk) (fun e => (h.nS k hk).2 (Option.some.inj e))), Nat.le_refl _, fun k hk => Nat.lt_of_lt_of_le (ho.2.2 k hk) hg.size⟩, h.ne, h.nS, h.lo, h.bel.grown hg h.bel.size (fun j hj => by cases hj; exact hlo.2)⟩
/-- The stack was written, as another list. -/
theorem MkO.stacked {w0 w w1 : World} {M mb : Nat} {v : Value} {most : Nat} {st : MSt} {aS aN : Option Addr} {cS cN : Nat} {T : List Int} (h : MkO w0 w M mb v most st aS cS) (hb : Box w1 M (cellsM v mb most st aS cS) 63) (hs : SetAt w1 mb st.met) (ho : OwnI w1 w0.heap.size w1.heap.size aN cN T) (hn : ∀ k, (Value.slice aN T.length cN).ownBlock = some k → k ≠ M ∧ k ≠ mb) (hbl : Below w0.heap.size w0 w1) :
    ∃ W, Hid (w1.setCell ⟨M, 2, none⟩ (.slice aN T.length cN) = W) ∧ MkO w0 W M mb v most ⟨st.met, T, st.left, st.anew⟩ aN cN := by
  obtain ⟨W, hW, hb, hw, hsz⟩ := box_set hb 2 (.slice aN T.length cN)
  have hlo := h.lo
  refine ⟨W, hW, hb, hs.block (hw.block mb hs.lt (by have := h.ne; omega)), ?_, h.ne, hn, h.lo, hbl.trans (hw.below hlo.1 hbl.size)⟩
  rw [hsz]
  exact ⟨ownsRow_block ho.1 (fun k hk => hw.block k (by have := ho.2.2 k hk; omega) (by have := (hn k hk).1; omega)), by rw [hsz]; exact Nat.le_refl _, fun k hk => ho.2.2 k hk⟩

/-- One more was put on the stack, which is not yet written into the box. -/
theorem MkO.appended {w0 w w1 : World} {o : Obj} {M mb : Nat} {v : Value} {most : Nat} {st : MSt} {aS aN : Option Addr} {cS cN : Nat} {T : List Int} (h : MkO w0 w M mb v most st aS cS) (hg : (w.alloc o).grownBy w1 (Value.slice aS st.stack.length cS).ownBlock) (hk : ∀ k, (Value.slice aN T.length cN).ownBlock = some k → (Value.slice aS st.stack.length cS).ownBlock = some k ∨ k = (w.alloc o).heap.size) :
    Box w1 M (cellsM v mb most st aS cS) 63 ∧ SetAt w1 mb st.met ∧ (∀ k, (Value.slice aN T.length cN).ownBlock = some k → k ≠ M ∧ k ≠ mb) ∧ Below w0.heap.size w0 w1 := by
  have ha := (Below.refl w.heap.size w).alloc (Nat.le_refl _) o
  have h1 := h.below ha
  have hM := h1.box.lt
  have hB := h1.set.lt
  refine ⟨h1.box.block (hg.block M hM (fun e => (h.nS M e.symm).1 rfl)), h1.set.block (hg.block mb hB (fun e => (h.nS mb e.symm).2 rfl)), fun k hk1 => ?_, h1.bel.grown hg h1.bel.size (fun j hj => (h.own.1.lt j hj).1)⟩
  rcases hk k hk1 with h2 | h2
  · exact h.nS k h2
  · exact ⟨by omega, by omega⟩

set_option maxHeartbeats 1000000 in
set_option maxRecDepth 100000 in
theorem setHas_any (mb : Nat) (S : List Bool) (k : Int) (hk : 0 ≤ k) (w : World) (h : SetAt w mb S) :
    Calls Tryd.prog 65 #[.map (some mb), .int .i64 k] w fun e w' => e = .returned (.bool (metM S k)) ∧ Below w.heap.size w w' := by
  have hlk := run_look_s h k hk
  generalize metM S k = R at *
  obtain ⟨W, hW, _, hbW, _⟩ := boxes1 w [] 85
  go_enter Tryd.func65, Tryd.ntmps65
  go_wp2
  go_ret
  exact ⟨rfl, by first | (rw [hW.out]; exact hbW) | exact hbW⟩
set_option maxHeartbeats 1000000 in
set_option maxRecDepth 100000 in
theorem setAdd_any (mb : Nat) (S : List Bool) (hS : S.length = 32) (k : Int) (hk : 0 ≤ k ∧ k ≤ 31) (w : World) (h : SetAt w mb S) :
    Calls Tryd.prog 66 #[.map (some mb), .int .i64 k] w fun e w' => (∃ v, e = .returned v) ∧ SetAt w' mb (S.set k.toNat true) ∧ w.grownBy w' (some mb) := by
  go_enter Tryd.func66, Tryd.ntmps66
  go_wp2_with (first | (at_mapUpdate; refine wpList_update_s rfl _ _ _ rfl mb S k hk hS rfl rfl rfl h ?_; intro w5 hm5 hg5) | fail)
  refine bodyPost_end (results_none rfl _ _ _) rfl ?_
  exact ⟨⟨_, rfl⟩, hm5, hg5⟩
end Go.Proofs.YtgbpnepipknjnaaDoor

/- The walks of a marking's isMissed, put, mark. -/
namespace Go.Proofs.YtgbpnepipknjnaaDoor
open Go.RowKit

/-- A slot of the view, wherever the world has come. -/
theorem view_cells {w0 u : World} {b off : Nat} {ss : List SlotA} (hr : ReadsVw w0 (some ⟨b, off, none⟩) ss) (h32 : ss.length = 32) (hu : Below w0.heap.size w0 u) (k : Nat) (hk : k < 32) :
    u.cell? ⟨b, off + k * 4, none⟩ = some (.bool ((vsOf ss).getD k noS).has) ∧ (∃ aR cR, u.cell? ⟨b, off + k * 4 + 3, none⟩ = some (.slice aR (refsM (vsOf ss) k).length cR) ∧ ReadsI u aR (refsM (vsOf ss) k)) := by
  obtain ⟨b', off', e, hc⟩ := (hr.below hu) (by intro e; rw [e] at h32; simp at h32)
  simp only [Option.some.injEq, Addr.mk.injEq, and_true] at e
  obtain ⟨rfl, rfl⟩ := e
  obtain ⟨h1, h2⟩ := hc k (by omega)
  rw [vsOf_at]
  refine ⟨h1 0 _ rfl, (ss.getD k zeroS).aR, (ss.getD k zeroS).cR, ?_, ?_⟩
  · have := h1 3 _ rfl
    rw [refsM, Int.toNat_natCast, vsOf_at]
    exact this
  · rw [refsM, Int.toNat_natCast, vsOf_at]
    exact h2.refs

set_option maxHeartbeats 1000000 in
set_option maxRecDepth 100000 in
theorem isMissed_any {w0 : World} {M mb most b off c : Nat} {ss : List SlotA} {st : MSt} (k : Nat) (hk : k < 32) (w : World) (hr : ReadsVw w0 (some ⟨b, off, none⟩) ss) (h32 : ss.length = 32) (h : MkAt w0 w M mb (.slice (some ⟨b, off, none⟩) 32 c) most st) :
    Calls Tryd.prog 52 #[.pointer (some ⟨M, 0, none⟩), .int .i64 (k : Int)] w fun e w' => e = .returned (.bool (missM (vsOf ss) st.met k)) ∧ Below w.heap.size w w' := by
  obtain ⟨aS, cS, h⟩ := h
  have c0 := h.box.cell 0 _ rfl
  have c1 := h.box.cell 1 _ rfl
  have v0 := (view_cells hr h32 h.bel k hk).1
  have C := setHas_any mb st.met k (by omega) w h.set
  have HM : Hid (missM (vsOf ss) st.met k = (((vsOf ss).getD k noS).has && !metM st.met k)) := by rw [Hid, missM, hasM, Int.toNat_natCast]
  have hkI : (k : Int) < 32 := by omega
  generalize missM (vsOf ss) st.met k = R at *
  generalize ((vsOf ss).getD k noS).has = hb at *
  generalize metM st.met k = mk at *
  clear hr h32 h hk
  cases hb with
  | false =>
    have HR : Hid (R = false) := HM.out
    clear C HM
    go_enter Tryd.func52, Tryd.ntmps52
    go_wp2
    go_ret
    exact ⟨ret_bool HR.out.symm, Below.refl _ _⟩
  | true =>
    have HR : Hid (R = !mk) := HM.out
    clear HM
    go_enter Tryd.func52, Tryd.ntmps52
    go_wp2_with fail
    refine C.mono ?_
    rintro e w1 ⟨rfl, hb1⟩
    go_wp2
    go_ret
    exact ⟨ret_bool HR.out.symm, hb1⟩

set_option maxHeartbeats 1000000 in
set_option maxRecDepth 100000 in
theorem put_any {w0 : World} {M mb most : Nat} {v : Value} {st : MSt} (hm : most ≤ 40) (g : GoodM most st) (k : Nat) (w : World) (h : MkAt w0 w M mb v most st) :
    Calls Tryd.prog 67 #[.pointer (some ⟨M, 0, none⟩), .int .i64 (k : Int)] w fun e w' => (∃ v, e = .returned v) ∧ MkAt w0 w' M mb v most (putM most st k) := by
  obtain ⟨aS, cS, h⟩ := h
  have c2 := h.box.cell 2 _ rfl
  have c3 := h.box.cell 3 _ rfl
  have f4 := h.box.frozen 4
  have f2 := h.box.frozen 2
  have hroom := g.room
  by_cases hfull : st.stack.length < most
  · have HP : Hid (putM most st k = ⟨st.met, st.stack ++ [(k : Int)], st.left, st.anew⟩) := by rw [Hid, putM, if_pos hfull]
    have hne : ((st.stack.length : Int) == (most : Int)) = false := by rw [beq_eq_false_iff_ne]; omega
    have HH : Hid (MkO w0 w M mb v most st aS cS) := h
    have hll : st.stack.length ≤ 40 := by omega
    clear h g hroom hfull
    go_enter Tryd.func67, Tryd.ntmps67
    go_wp2_with fail
    go_quiet (fail)
    have HQ : Hid (MkO w0 (w.drewN nq) M mb v most st aS cS) := HH.out.below (below_drewN (Below.refl _ _) nq)
    clear c2 c3 f4 f2 HH
    generalize w.drewN nq = wq at *
    have c2 := HQ.out.box.cell 2 _ rfl
    have ho := HQ.out.own
    have hlo := HQ.out.bel.size
    have ho3 := ho.below ((Below.refl _ _).alloc (Nat.le_refl _) (.cells #[.int .i64 (k : Int)] 3))
    go_wp2_with (first | (at_builtin; refine append_intsM rfl _ _ rfl w0.heap.size wq.heap.size aS cS st.stack rfl ho3 _ _ [(k : Int)] rfl (readsI_one wq k _) (fun h => by cases h) (by simp; omega) (by simp; omega) ?_; intro a4 c4 y4 w4 hy4 ho4 hg4 hk4; obtain ⟨b4, s4, n4, l4⟩ := HQ.out.appended hg4 hk4; have x4 := b4.cell 2 _ rfl; have z4 := b4.frozen 2) | fail)
    obtain ⟨W, hW, hO⟩ := HQ.out.stacked b4 s4 ho4 n4 l4
    rw [hW.out]
    refine bodyPost_end (results_none rfl _ _ _) rfl ?_
    refine ⟨⟨_, rfl⟩, a4, c4, ?_⟩
    rw [HP.out, ← hy4.out]
    exact hO
  · have HP : Hid (putM most st k = ⟨st.met, st.stack, true, st.anew⟩) := by rw [Hid, putM, if_neg hfull]
    have he : ((st.stack.length : Int) == (most : Int)) = true := by rw [beq_iff_eq]; omega
    have HH : Hid (MkO w0 w M mb v most st aS cS) := h
    clear h g hroom hfull
    go_enter Tryd.func67, Tryd.ntmps67
    go_wp2_with fail
    go_quiet (fail)
    have HQ : Hid (MkO w0 (w.drewN nq) M mb v most st aS cS) := HH.out.below (below_drewN (Below.refl _ _) nq)
    clear c2 c3 f4 f2 HH
    generalize w.drewN nq = wq at *
    have c4 := HQ.out.box.cell 4 _ rfl
    have f4 := HQ.out.box.frozen 4
    obtain ⟨W, hW, hO⟩ := HQ.out.cell (st' := ⟨st.met, st.stack, true, st.anew⟩) 4 (.bool true) rfl rfl rfl
    go_wp2_with fail
    rw [hW.out]
    (try simp only [Exit.inBlock, Exit.then])
    refine bodyPost_ret (results_none rfl _ _ _) rfl ?_
    refine ⟨⟨_, rfl⟩, aS, cS, ?_⟩
    rw [HP.out]
    exact hO

set_option maxHeartbeats 1000000 in
set_option maxRecDepth 100000 in
theorem mark_any {w0 : World} {M mb most : Nat} {v : Value} {st : MSt} (hm : most ≤ 40) (g : GoodM most st) (k : Nat) (hk : k < 32) (w : World) (h : MkAt w0 w M mb v most st) :
    Calls Tryd.prog 53 #[.pointer (some ⟨M, 0, none⟩), .int .i64 (k : Int)] w fun e w' => (∃ v, e = .returned v) ∧ MkAt w0 w' M mb v most (markM most st k) := by
  obtain ⟨aS, cS, h⟩ := h
  have c1 := h.box.cell 1 _ rfl
  have C := setAdd_any mb st.met g.len k (by omega) w h.set
  have g1 : GoodM most ⟨st.met.set (k : Int).toNat true, st.stack, st.left, st.anew⟩ := ⟨by simp only [List.length_set]; exact g.len, g.room, g.rng⟩
  have HC : Hid (∀ w1, MkAt w0 w1 M mb v most ⟨st.met.set (k : Int).toNat true, st.stack, st.left, st.anew⟩ → Calls Tryd.prog 67 #[.pointer (some ⟨M, 0, none⟩), .int .i64 (k : Int)] w1 fun e w' => (∃ v, e = .returned v) ∧ MkAt w0 w' M mb v most (markM most st k)) := fun w1 h1 => put_any hm g1 k w1 h1
  have HH : Hid (MkO w0 w M mb v most st aS cS) := h
  generalize markM most st k = R at *
  clear h g g1
  go_enter Tryd.func53, Tryd.ntmps53
  go_wp2_with fail
  refine C.mono ?_
  rintro e w1 ⟨⟨x1, rfl⟩, hs1, hg1⟩
  have C2 := HC.out w1 ⟨aS, cS, HH.out.marked hs1 hg1⟩
  clear C HC hs1 hg1 c1
  go_wp2_with fail
  refine C2.mono ?_
  rintro e w2 ⟨⟨x2, rfl⟩, h2⟩
  go_wp2_with fail
  refine bodyPost_end (results_none rfl _ _ _) rfl ?_
  exact ⟨⟨_, rfl⟩, h2⟩
end Go.Proofs.YtgbpnepipknjnaaDoor

/- The walk of a marking's drain. -/
namespace Go.Proofs.YtgbpnepipknjnaaDoor
open Go.RowKit

theorem drainM_nil (vs : List SlotV) (most n : Nat) {st : MSt} (h : st.stack = []) : drainM vs most n st = st := by
  cases n with
  | zero => rfl
  | succ n => rw [drainM, if_pos h]
theorem drainM_app (vs : List SlotV) (most n : Nat) (S : List Bool) (T : List Int) (x : Int) (l : Bool) (a : Int) : drainM vs most (n + 1) ⟨S, T ++ [x], l, a⟩ = drainM vs most n ((refsM vs x).foldl (refM vs most) ⟨S, T, l, a⟩) := by
  rw [drainM, if_neg (by simp), popM, topM_app, cutM_app]
theorem foldM_step (vs : List SlotV) (most : Nat) (F : List Int) (st : MSt) (n : Nat) (h : n < F.length) : (F.take (n + 1)).foldl (refM vs most) st = refM vs most ((F.take n).foldl (refM vs most) st) (F.getD n 0) := by
  rw [take_step F 0 n h, List.foldl_append]
  rfl
theorem view_refs {w0 : World} {b off : Nat} {ss : List SlotA} (hr : ReadsVw w0 (some ⟨b, off, none⟩) ss) (h32 : ss.length = 32) (k : Nat) (hk : k < 32) :
    ∃ aR cR, ∀ u, Below w0.heap.size w0 u → u.cell? ⟨b, off + k * 4 + 3, none⟩ = some (.slice aR (refsM (vsOf ss) k).length cR) ∧ ReadsI u aR (refsM (vsOf ss) k) := by
  refine ⟨(ss.getD k zeroS).aR, (ss.getD k zeroS).cR, fun u hu => ?_⟩
  obtain ⟨b', off', e, hc⟩ := (hr.below hu) (by intro e; rw [e] at h32; simp at h32)
  simp only [Option.some.injEq, Addr.mk.injEq, and_true] at e
  obtain ⟨rfl, rfl⟩ := e
  obtain ⟨h1, h2⟩ := hc k (by omega)
  rw [refsM, Int.toNat_natCast, vsOf_at]
  exact ⟨h1 3 _ rfl, h2.refs⟩
theorem mem_getDM {F : List Int} {n : Nat} (h : n < F.length) : F.getD n 0 ∈ F := by simp [List.getD, h]

set_option maxHeartbeats 4000000 in
set_option maxRecDepth 100000 in
theorem drain_any {w0 : World} {M mb most b off c : Nat} {ss : List SlotA} {st : MSt} (hm : most ≤ 40) (g : GoodM most st) (hv : viewB (vsOf ss) = true) (w : World) (hr : ReadsVw w0 (some ⟨b, off, none⟩) ss) (h32 : ss.length = 32) (h : MkAt w0 w M mb (.slice (some ⟨b, off, none⟩) 32 c) most st) :
    Calls Tryd.prog 54 #[.pointer (some ⟨M, 0, none⟩)] w fun e w' => (∃ v, e = .returned v) ∧ MkAt w0 w' M mb (.slice (some ⟨b, off, none⟩) 32 c) most (drainM (vsOf ss) most 72 st) := by
  have HV : Hid (∀ k : Nat, k < 32 → ∃ aR cR, ∀ u, Below w0.heap.size w0 u → u.cell? ⟨b, off + k * 4 + 3, none⟩ = some (.slice aR (refsM (vsOf ss) k).length cR) ∧ ReadsI u aR (refsM (vsOf ss) k)) := fun k hk => view_refs hr h32 k hk
  have HRG : Hid (RngM (vsOf ss)) := viewB_rng hv
  have HLN : Hid (∀ i, (refsM (vsOf ss) i).length ≤ 5) := viewB_refs hv
  have HMISS : Hid (∀ (u : World) (st : MSt) (k : Nat), k < 32 → MkAt w0 u M mb (.slice (some ⟨b, off, none⟩) 32 c) most st → Calls Tryd.prog 52 #[.pointer (some ⟨M, 0, none⟩), .int .i64 (k : Int)] u fun e w' => e = .returned (.bool (missM (vsOf ss) st.met k)) ∧ Below u.heap.size u w') := fun u st k hk h => isMissed_any k hk u hr h32 h
  have HMARK : Hid (∀ (u : World) (st : MSt) (k : Nat), k < 32 → GoodM most st → MkAt w0 u M mb (.slice (some ⟨b, off, none⟩) 32 c) most st → Calls Tryd.prog 53 #[.pointer (some ⟨M, 0, none⟩), .int .i64 (k : Int)] u fun e w' => (∃ v, e = .returned v) ∧ MkAt w0 w' M mb (.slice (some ⟨b, off, none⟩) 32 c) most (markM most st k)) := fun u st k hk g h => mark_any hm g k hk u h
  have HS : Hid (GoodM most st ∧ sizeM st ≤ 72) := ⟨g, g.size hm⟩
  obtain ⟨FIN, HFIN⟩ : ∃ FIN, Hid (drainM (vsOf ss) most 72 st = FIN) := ⟨_, rfl⟩
  rw [HFIN.out]
  clear hr h32 hv g
  generalize vsOf ss = vs at *
  generalize hvw : Value.slice (some ⟨b, off, none⟩) 32 c = vw at *
  have HVW : Hid (Value.slice (some ⟨b, off, none⟩) 32 c = vw) := hvw
  clear hvw
  go_enter Tryd.func54, Tryd.ntmps54
  go_wp2_with fail
  go_loopg [2] 72 (fun n _ wr => ∃ st' : MSt, MkAt w0 wr M mb vw most st' ∧ Hid (GoodM most st' ∧ sizeM st' ≤ n ∧ drainM vs most n st' = FIN))
  case atStart => exact ⟨st, h, HS.out.1, HS.out.2, HFIN.out⟩
  case round =>
    obtain ⟨st', ⟨aS, cS, hO⟩, hI⟩ := hrel
    obtain ⟨S, T, lf, an⟩ := st'
    clear h HS HFIN
    have c2 := hO.box.cell 2 _ rfl
    rcases List.eq_nil_or_concat T with hT | ⟨T', x, hT⟩
    · subst hT
      have HE : Hid (FIN = ⟨S, [], lf, an⟩) := by rw [Hid, ← hI.out.2.2, drainM_nil]; rfl
      clear hI HV HRG HLN HMISS HMARK
      go_wp2_with fail
      refine bodyPost_end (results_none rfl _ _ _) rfl ?_
      exact ⟨⟨_, rfl⟩, by rw [HE.out]; exact ⟨aS, cS, hO⟩⟩
    · rw [List.concat_eq_append] at hT
      subst hT
      obtain ⟨xn, hxe, hx32⟩ : ∃ xn : Nat, x = xn ∧ xn < 32 := by
        have := hI.out.1.rng x (by simp)
        exact ⟨x.toNat, by omega, by omega⟩
      subst hxe
      have ho := hO.own
      simp only at ho c2
      obtain ⟨bt, offt, rfl, hct⟩ := ho.reads (by simp)
      have t0 := hct T'.length (by simp)
      have e0 : (T' ++ [(xn : Int)]).getD T'.length 0 = xn := by simp [List.getD]
      rw [e0] at t0
      have hox := ho.cut T'.length (by simp)
      rw [List.take_left] at hox
      have hcap := ho.len_cap
      have hroom := hI.out.1.room
      simp only at hroom
      have f2 := hO.box.frozen 2
      obtain ⟨W, hW, hO2⟩ := hO.stacked hO.box hO.set hox (fun k hk => hO.nS k (by simpa [Value.ownBlock] using hk)) hO.bel
      have c0 := hO2.box.cell 0 _ rfl
      rw [← HVW.out] at c0
      obtain ⟨aF, cF, hFR⟩ := HV.out xn hx32
      have hF0 := (hFR W hO2.bel).1
      have HFI : Hid (_) := HRG.out xn
      have HFL := HLN.out xn
      have HFV : Hid (∀ u, Below w0.heap.size w0 u → ReadsI u aF (refsM vs xn)) := fun u hu => (hFR u hu).2
      have HG2 : Hid (GoodM most ⟨S, T', lf, an⟩ ∧ ∃ m, gk = m + 1 ∧ sizeM ⟨S, T', lf, an⟩ ≤ m ∧ drainM vs most m ((refsM vs xn).foldl (refM vs most) ⟨S, T', lf, an⟩) = FIN) := by
        obtain ⟨h1, h2, h3⟩ := hI.out
        refine ⟨⟨h1.len, by have := h1.room; simp at this ⊢; omega, fun y hy => h1.rng y (List.mem_append.2 (.inl hy))⟩, ?_⟩
        have h4 : sizeM ⟨S, T' ++ [(xn : Int)], lf, an⟩ = sizeM ⟨S, T', lf, an⟩ + 1 := by simp [sizeM]; omega
        cases gk with
        | zero => omega
        | succ m => exact ⟨m, rfl, by omega, by rw [← h3, drainM_app]⟩
      generalize refsM vs xn = F at *
      have hcap' : T'.length + 1 ≤ cS := by simpa using hcap
      have hTl : T'.length + 1 ≤ 40 := by simp at hroom; omega
      simp only [List.length_append, List.length_cons, List.length_nil, Nat.zero_add] at c2
      have hxI : (xn : Int) < 32 := by omega
      have HO2 : Hid (MkAt w0 W M mb vw most ⟨S, T', lf, an⟩) := ⟨_, _, hO2⟩
      clear hO hI ho hct e0 hox hcap hroom hO2 HV HRG HLN hFR
      go_upto_region 4 with fail
      rw [hW.out]
      clear hW c2 f2 t0
      go_wp2_with fail
      clear c0 hF0
      go_loopw [44] (fun i wr => ∃ n : Nat, n ≤ F.length ∧ i = .int .i64 n ∧ MkAt w0 wr M mb vw most ((F.take n).foldl (refM vs most) ⟨S, T', lf, an⟩) ∧ Hid (GoodM most ((F.take n).foldl (refM vs most) ⟨S, T', lf, an⟩))) (fun i _ => F.length - (intOf i).toNat)
      case atStart => exact ⟨0, Nat.zero_le _, rfl, HO2.out, HG2.out.1⟩
      case round =>
        obtain ⟨n, hn, rfl, hMk, hGd⟩ := hrel
        by_cases hlt : n < F.length
        · obtain ⟨bf, offf, rfl, hcf⟩ := HFV.out wr hMk.bel (by intro e; rw [e] at hlt; simp at hlt)
          have f0 := hcf n hlt
          have HNX : Hid (_ = _) := foldM_step vs most F ⟨S, T', lf, an⟩ n hlt
          obtain ⟨y, hye, hy32⟩ : ∃ y : Nat, F.getD n 0 = y ∧ y < 32 := by
            have := HFI.out _ (mem_getDM hlt)
            exact ⟨(F.getD n 0).toNat, by omega, by omega⟩
          rw [hye] at f0 HNX
          clear hcf hye HO2
          generalize (F.take n).foldl (refM vs most) ⟨S, T', lf, an⟩ = s2 at *
          have C := HMISS.out wr s2 y hy32 hMk
          have HGN : Hid (GoodM most (refM vs most s2 y)) := refM_good hGd.out (by omega)
          have HRF : Hid (refM vs most s2 y = if missM vs s2.met y = true then markM most s2 y else s2) := rfl
          have C2 : Hid (∀ u, Below wr.heap.size wr u → Calls Tryd.prog 53 #[.pointer (some ⟨M, 0, none⟩), .int .i64 (y : Int)] u fun e w' => (∃ v, e = .returned v) ∧ MkAt w0 w' M mb vw most (markM most s2 y)) := fun u hu => HMARK.out u s2 y hy32 hGd.out (hMk.below hu)
          cases hmb : missM vs s2.met y with
          | false =>
            rw [hmb] at C
            have HEQ : Hid (refM vs most s2 y = s2) := by rw [Hid, HRF.out, if_neg (by rw [hmb]; decide)]
            have HM3 : Hid (∀ u, Below wr.heap.size wr u → MkAt w0 u M mb vw most s2) := fun u hu => hMk.below hu
            clear hmb HRF C2 hMk
            go_wp2_with fail
            refine C.mono ?_
            rintro e w1 ⟨rfl, hb1⟩
            have HM4 := HM3.out w1 hb1
            clear C HM3 hb1 f0
            go_wp2_with fail
            go_roundw
            case rel => exact ⟨n + 1, by omega, by go_num, by rw [HNX.out, HEQ.out]; exact HM4, by rw [HNX.out]; exact HGN⟩
            case measure => simp [intOf]; omega
          | true =>
            rw [hmb] at C
            have HEQ : Hid (refM vs most s2 y = markM most s2 y) := by rw [Hid, HRF.out, if_pos hmb]
            clear hmb HRF hMk
            go_wp2_with fail
            refine C.mono ?_
            rintro e w1 ⟨rfl, hb1⟩
            have C3 := C2.out w1 hb1
            clear C C2 hb1 f0
            go_wp2_with fail
            refine C3.mono ?_
            rintro e w2 ⟨⟨x2, rfl⟩, hM4⟩
            clear C3
            go_wp2_with fail
            go_roundw
            case rel => exact ⟨n + 1, by omega, by go_num, by rw [HNX.out, HEQ.out]; exact hM4, by rw [HNX.out]; exact HGN⟩
            case measure => simp [intOf]; omega
        · have HT : Hid (F.take n = F) := List.take_of_length_le (by omega)
          rw [HT.out] at hMk hGd
          have HSZ : Hid (sizeM (F.foldl (refM vs most) ⟨S, T', lf, an⟩) ≤ sizeM ⟨S, T', lf, an⟩) := (foldM_good F _ HG2.out.1 HFI.out).2.1
          obtain ⟨m, HGM⟩ : ∃ m, Hid (gk = m + 1 ∧ sizeM ⟨S, T', lf, an⟩ ≤ m ∧ drainM vs most m (F.foldl (refM vs most) ⟨S, T', lf, an⟩) = FIN) := HG2.out.2
          clear HT HG2 HFV HFI HO2 HMISS HMARK
          generalize F.foldl (refM vs most) ⟨S, T', lf, an⟩ = s2 at *
          go_wp2_with fail
          go_roundg m
          case rel => exact ⟨s2, hMk, hGd.out, Nat.le_trans HSZ.out HGM.out.2.1, HGM.out.2.2⟩
          case measure => have := HGM.out.1; omega
end Go.Proofs.YtgbpnepipknjnaaDoor

/- The walk of slices.IndexFunc, slices.ContainsFunc with a marking's isMissed, and of lookAnew. -/
namespace Go.Proofs.YtgbpnepipknjnaaDoor
open Go.RowKit

theorem placeZ_any {α : Type} (p : α → Bool) (ls : List α) : decide (0 ≤ placeZ p ls) = ls.any p := by
  cases h : ls.any p
  · rw [placeZ_none h]; rfl
  · unfold placeZ
    cases e : ls.findIdx? p with
    | none =>
      rw [List.findIdx?_eq_none_iff] at e
      rw [List.any_eq_true] at h
      obtain ⟨x, hx, hp⟩ := h
      rw [e x hx] at hp
      cases hp
    | some i => simp
set_option maxHeartbeats 1000000 in
set_option maxRecDepth 100000 in
theorem indexMissed_any {w0 : World} {M mb most b off c : Nat} {ss : List SlotA} {st : MSt} (F : List Int) (hF : ∀ r ∈ F, 0 ≤ r ∧ r ≤ 31) (hl : F.length ≤ 5) (a : Option Addr) (cF : Nat) (w : World) (hr : ReadsVw w0 (some ⟨b, off, none⟩) ss) (h32 : ss.length = 32) (h : MkAt w0 w M mb (.slice (some ⟨b, off, none⟩) 32 c) most st) (hFR : ∀ u, Below w0.heap.size w0 u → ReadsI u a F) :
    Calls Tryd.prog 76 #[.slice a F.length cF, .func (.func 52) #[.pointer (some ⟨M, 0, none⟩)] #[]] w fun e w' => e = .returned (.int .i64 (placeZ (missM (vsOf ss) st.met) F)) ∧ Below w.heap.size w w' := by
  have HMISS : Hid (∀ (u : World) (k : Nat), k < 32 → Below w.heap.size w u → Calls Tryd.prog 52 #[.pointer (some ⟨M, 0, none⟩), .int .i64 (k : Int)] u fun e w' => e = .returned (.bool (missM (vsOf ss) st.met k)) ∧ Below u.heap.size u w') := fun u k hk hu => isMissed_any k hk u hr h32 (h.below hu)
  have HFV : Hid (∀ u, Below w.heap.size w u → ReadsI u a F) := fun u hu => hFR u (h.bel.trans (hu.mono h.bel.size))
  have HFI : Hid (∀ r ∈ F, 0 ≤ r ∧ r ≤ 31) := hF
  obtain ⟨p, hp⟩ : ∃ p, missM (vsOf ss) st.met = p := ⟨_, rfl⟩
  rw [hp] at HMISS ⊢
  clear hp hFR hF h hr h32
  have HHIT : Hid (∀ k, k < F.length → (F.take k).any p = false → p (F.getD k 0) = true → placeZ p F = k) := fun k h1 h2 h3 => placeZ_hit h1 h2 h3
  have HEND : Hid (∀ k, ¬ k < F.length → (F.take k).any p = false → placeZ p F = -1) := fun k h1 h2 => placeZ_end h1 h2
  have HSTEP : Hid (∀ k, k < F.length → (F.take k).any p = false → p (F.getD k 0) = false → (F.take (k + 1)).any p = false) := fun k h1 h2 h3 => any_step h1 h2 h3
  generalize placeZ p F = R at *
  go_enter Tryd.func76, Tryd.ntmps76
  go_wp2_with fail
  go_loopw [8] (fun i wr => ∃ n : Nat, n ≤ F.length ∧ i = .int .i64 n ∧ Hid ((F.take n).any p = false) ∧ Below w.heap.size w wr) (fun i _ => F.length - (intOf i).toNat)
  case atStart => exact ⟨0, Nat.zero_le _, rfl, (show (F.take 0).any p = false by simp), Below.refl _ _⟩
  case round =>
    obtain ⟨n, hn, rfl, hany, hbl⟩ := hrel
    by_cases hlt : n < F.length
    · obtain ⟨bf, offf, rfl, hcf⟩ := HFV.out wr hbl (by intro e; rw [e] at hlt; simp at hlt)
      have f0 := hcf n hlt
      have HH1 : Hid (p (F.getD n 0) = true → R = n) := fun h => HHIT.out n hlt hany.out h
      have HH2 : Hid (p (F.getD n 0) = false → (F.take (n + 1)).any p = false) := fun h => HSTEP.out n hlt hany.out h
      obtain ⟨y, hye, hy32⟩ : ∃ y : Nat, F.getD n 0 = y ∧ y < 32 := by
        have := HFI.out _ (mem_getDM hlt)
        exact ⟨(F.getD n 0).toNat, by omega, by omega⟩
      rw [hye] at f0 HH1 HH2
      clear hcf hye HHIT HSTEP HEND
      have C := HMISS.out wr y hy32 hbl
      generalize p (y : Int) = pb at *
      cases pb with
      | false =>
        have HN : Hid ((F.take (n + 1)).any p = false) := HH2.out rfl
        clear HH1 HH2
        go_wp2_with fail
        refine C.mono ?_
        rintro e w1 ⟨rfl, hb1⟩
        have hB1 : Below w.heap.size w w1 := hbl.trans (hb1.mono hbl.size)
        clear C hb1 f0
        go_wp2_with fail
        go_roundw
        case rel => exact ⟨n + 1, by omega, by go_num, HN, hB1⟩
        case measure => simp [intOf]; omega
      | true =>
        have HR : Hid (R = n) := HH1.out rfl
        clear HH1 HH2
        go_wp2_with fail
        refine C.mono ?_
        rintro e w1 ⟨rfl, hb1⟩
        go_wp2
        go_ret
        exact ⟨by rw [HR.out]; rfl, hbl.trans (hb1.mono hbl.size)⟩
    · have HR : Hid (R = -1) := HEND.out n hlt hany.out
      clear HHIT HSTEP HEND
      go_wp2
      go_ret
      exact ⟨by rw [HR.out]; rfl, hbl⟩
set_option maxHeartbeats 1000000 in
set_option maxRecDepth 100000 in
theorem containsMissed_any {w0 : World} {M mb most b off c : Nat} {ss : List SlotA} {st : MSt} (F : List Int) (hF : ∀ r ∈ F, 0 ≤ r ∧ r ≤ 31) (hl : F.length ≤ 5) (a : Option Addr) (cF : Nat) (w : World) (hr : ReadsVw w0 (some ⟨b, off, none⟩) ss) (h32 : ss.length = 32) (h : MkAt w0 w M mb (.slice (some ⟨b, off, none⟩) 32 c) most st) (hFR : ∀ u, Below w0.heap.size w0 u → ReadsI u a F) :
    Calls Tryd.prog 68 #[.slice a F.length cF, .func (.func 52) #[.pointer (some ⟨M, 0, none⟩)] #[]] w fun e w' => e = .returned (.bool (F.any (missM (vsOf ss) st.met))) ∧ Below w.heap.size w w' := by
  have C := indexMissed_any F hF hl a cF w hr h32 h hFR
  have HA : Hid (_ = _) := placeZ_any (missM (vsOf ss) st.met) F
  generalize placeZ (missM (vsOf ss) st.met) F = P at *
  clear hFR hF h hr h32
  go_enter Tryd.func68, Tryd.ntmps68
  go_wp2_with fail
  refine C.mono ?_
  rintro e w1 ⟨rfl, hb1⟩
  go_wp2
  go_ret
  exact ⟨ret_bool HA.out, hb1⟩

theorem lookM_step (vs : List SlotV) (most : Nat) (st : MSt) (n : Nat) : (List.range (n + 1)).foldl (lookM vs most) st = lookM vs most ((List.range n).foldl (lookM vs most) st) n := by
  rw [List.range_succ, List.foldl_append]
  rfl
set_option maxHeartbeats 4000000 in
set_option maxRecDepth 100000 in
theorem lookAnew_any {w0 : World} {M mb most b off c : Nat} {ss : List SlotA} {st : MSt} (hm : most ≤ 40) (g : GoodM most st) (hv : viewB (vsOf ss) = true) (ha : 0 ≤ st.anew ∧ st.anew ≤ 1000) (w : World) (hr : ReadsVw w0 (some ⟨b, off, none⟩) ss) (h32 : ss.length = 32) (h : MkAt w0 w M mb (.slice (some ⟨b, off, none⟩) 32 c) most st) :
    Calls Tryd.prog 55 #[.pointer (some ⟨M, 0, none⟩)] w fun e w' => (∃ v, e = .returned v) ∧ MkAt w0 w' M mb (.slice (some ⟨b, off, none⟩) 32 c) most (anewM (vsOf ss) most st) := by
  have HV : Hid (∀ k : Nat, k < 32 → ∃ hs kd aI nI cI aR cR, (∀ u, Below w0.heap.size w0 u → u.cell? ⟨b, off + k * 4, none⟩ = some (.bool hs) ∧ u.cell? ⟨b, off + k * 4 + 1, none⟩ = some (.int .i64 kd) ∧ u.cell? ⟨b, off + k * 4 + 2, none⟩ = some (.slice aI nI cI) ∧ u.cell? ⟨b, off + k * 4 + 3, none⟩ = some (.slice aR (refsM (vsOf ss) k).length cR)) ∧ ∀ (u : World) (st : MSt), MkAt w0 u M mb (.slice (some ⟨b, off, none⟩) 32 c) most st → Calls Tryd.prog 68 #[.slice aR (refsM (vsOf ss) k).length cR, .func (.func 52) #[.pointer (some ⟨M, 0, none⟩)] #[]] u fun e w' => e = .returned (.bool (lackM (vsOf ss) st.met k)) ∧ Below u.heap.size u w') := fun k hk => by
    refine ⟨(ss.getD k zeroS).v.has, (ss.getD k zeroS).v.o.kind, (ss.getD k zeroS).aI, (ss.getD k zeroS).v.o.ints.length, (ss.getD k zeroS).cI, (ss.getD k zeroS).aR, (ss.getD k zeroS).cR, fun u hu => ?_, fun u st hu => ?_⟩
    · obtain ⟨b', off', e, hc⟩ := (hr.below hu) (by intro e; rw [e] at h32; simp at h32)
      simp only [Option.some.injEq, Addr.mk.injEq, and_true] at e
      obtain ⟨rfl, rfl⟩ := e
      obtain ⟨h1, h2⟩ := hc k (by omega)
      refine ⟨h1 0 _ rfl, h1 1 _ rfl, h1 2 _ rfl, ?_⟩
      rw [refsM, Int.toNat_natCast, vsOf_at]
      exact h1 3 _ rfl
    · refine containsMissed_any (refsM (vsOf ss) k) (viewB_rng hv k) (viewB_refs hv k) _ _ u hr h32 hu (fun u2 hu2 => ?_)
      obtain ⟨b', off', e, hc⟩ := (hr.below hu2) (by intro e; rw [e] at h32; simp at h32)
      rw [refsM, Int.toNat_natCast, vsOf_at]
      exact (hc k (by omega)).2.refs
  have HPUT : Hid (∀ (u : World) (st : MSt) (k : Nat), GoodM most st → MkAt w0 u M mb (.slice (some ⟨b, off, none⟩) 32 c) most st → Calls Tryd.prog 67 #[.pointer (some ⟨M, 0, none⟩), .int .i64 (k : Int)] u fun e w' => (∃ v, e = .returned v) ∧ MkAt w0 w' M mb (.slice (some ⟨b, off, none⟩) 32 c) most (putM most st k)) := fun u st k g h => put_any hm g k u h
  have HGD : Hid (∀ n, n ≤ 32 → GoodM most ((List.range n).foldl (lookM (vsOf ss) most) (clearM st))) := fun n hn => (lookM_fold (List.range n) (clearM st) ⟨g.len, g.room, g.rng⟩ (fun i hi => by have := List.mem_range.1 hi; omega)).2.2
  have HFIN : Hid (anewM (vsOf ss) most st = (List.range 32).foldl (lookM (vsOf ss) most) (clearM st)) := rfl
  obtain ⟨aS, cS, hO⟩ := h
  have c5 := hO.box.cell 5 _ rfl
  have f5 := hO.box.frozen 5
  obtain ⟨W1, hW1, hO1⟩ := hO.cell (st' := ⟨st.met, st.stack, st.left, st.anew + 1⟩) 5 (.int .i64 (st.anew + 1)) rfl rfl rfl
  have d4 := hO1.box.cell 4 _ rfl
  have e4 := hO1.box.frozen 4
  obtain ⟨W2, hW2, hO2⟩ := hO1.cell (st' := clearM st) 4 (.bool false) rfl rfl rfl
  have x0 := hO2.box.cell 0 _ rfl
  have HK : Hid (MkAt w0 W2 M mb (.slice (some ⟨b, off, none⟩) 32 c) most ((List.range 0).foldl (lookM (vsOf ss) most) (clearM st))) := ⟨_, _, hO2⟩
  obtain ⟨a1, a2⟩ := ha
  rw [HFIN.out]
  clear hO hO1 hO2 g hv hr h32 HFIN
  generalize vsOf ss = vs at *
  generalize clearM st = s0 at *
  generalize st.anew = an at *
  go_enter Tryd.func55, Tryd.ntmps55
  go_upto_region 1 with fail
  rw [hW1.out]
  clear hW1 c5 f5
  go_upto_region 2 with fail
  rw [hW2.out]
  clear hW2 d4 e4
  go_wp2_with fail
  clear x0
  go_loopw [19] (fun i wr => ∃ n : Nat, n ≤ 32 ∧ i = .int .i64 n ∧ MkAt w0 wr M mb (.slice (some ⟨b, off, none⟩) 32 c) most ((List.range n).foldl (lookM vs most) s0)) (fun i _ => 32 - (intOf i).toNat)
  case atStart => exact ⟨0, by omega, rfl, HK.out⟩
  case round =>
    obtain ⟨n, hn, rfl, hMk⟩ := hrel
    clear HK
    by_cases hlt : n < 32
    · obtain ⟨hs, kd, aI, nI, cI, aR, cR, hcl, hcf⟩ := HV.out n hlt
      have hG := HGD.out n (by omega)
      have HNX : Hid (_ = _) := lookM_step vs most s0 n
      generalize (List.range n).foldl (lookM vs most) s0 = s2 at *
      obtain ⟨v0, v1, v2, v3⟩ := hcl wr hMk.bel
      obtain ⟨V, hV, bz, hbV, hsV⟩ := boxes1 wr [.bool hs, .int .i64 kd, .slice aI nI cI, .slice aR (refsM vs n).length cR] 37
      have hMV := hMk.below hbV
      have HMV : Hid (∀ u, Below V.heap.size V u → MkAt w0 u M mb (.slice (some ⟨b, off, none⟩) 32 c) most s2 ∧ Box u wr.heap.size [.bool hs, .int .i64 kd, .slice aI nI cI, .slice aR (refsM vs n).length cR] 37) := fun u hu => ⟨hMV.below hu, bz.below hu bz.lt⟩
      have HLK : Hid (lookM vs most s2 n = if (metM s2.met n && lackM vs s2.met n) = true then putM most s2 n else s2) := rfl
      have HPU : Hid (_) := fun u => HPUT.out u s2 n hG
      have HCF : Hid (_) := fun u => hcf u s2
      obtain ⟨bS, kS, hO⟩ := hMV
      have y1 := hO.box.cell 1 _ rfl
      have C := setHas_any mb s2.met n (by omega) V hO.set
      have hnI : (n : Int) < 32 := by omega
      clear hcl hcf HV HPUT HGD hG hMk bz hbV hsV hO
      generalize metM s2.met (n : Int) = mt at *
      cases mt with
      | false =>
        have HEQ : Hid (lookM vs most s2 n = s2) := HLK.out
        clear HLK HPU HCF
        go_upto_region 5 with fail
        rw [hV.out]
        clear hV v0 v1 v2 v3
        go_wp2_with fail
        refine C.mono ?_
        rintro e w1 ⟨rfl, hb1⟩
        have HN := (HMV.out w1 hb1).1
        clear C HMV hb1 y1
        go_wp2_with fail
        go_roundw
        case rel => exact ⟨n + 1, by omega, by go_num, by rw [HNX.out, HEQ.out]; exact HN⟩
        case measure => simp [intOf]; omega
      | true =>
        go_upto_region 5 with fail
        rw [hV.out]
        clear hV v0 v1 v2 v3
        go_wp2_with fail
        refine C.mono ?_
        rintro e w1 ⟨rfl, hb1⟩
        obtain ⟨hM1, bx1⟩ := HMV.out w1 hb1
        have z3 := bx1.cell 3 _ rfl
        have C2 := HCF.out w1 hM1
        have HM1 : Hid (_) := fun (u : World) (hu : Below w1.heap.size w1 u) => hM1.below hu
        clear C HMV hb1 y1 HCF bx1 hM1
        generalize lackM vs s2.met (n : Int) = lk at *
        cases lk with
        | false =>
          have HEQ : Hid (lookM vs most s2 n = s2) := HLK.out
          clear HLK HPU
          go_wp2_with fail
          refine C2.mono ?_
          rintro e w2 ⟨rfl, hb2⟩
          have HN := HM1.out w2 hb2
          clear C2 HM1 hb2 z3
          go_wp2_with fail
          go_roundw
          case rel => exact ⟨n + 1, by omega, by go_num, by rw [HNX.out, HEQ.out]; exact HN⟩
          case measure => simp [intOf]; omega
        | true =>
          have HEQ : Hid (lookM vs most s2 n = putM most s2 n) := HLK.out
          clear HLK
          go_wp2_with fail
          refine C2.mono ?_
          rintro e w2 ⟨rfl, hb2⟩
          have C3 := HPU.out w2 (HM1.out w2 hb2)
          clear C2 HM1 hb2 z3 HPU
          go_wp2_with fail
          refine C3.mono ?_
          rintro e w3 ⟨⟨x3, rfl⟩, hM3⟩
          clear C3
          go_wp2_with fail
          go_roundw
          case rel => exact ⟨n + 1, by omega, by go_num, by rw [HNX.out, HEQ.out]; exact hM3⟩
          case measure => simp [intOf]; omega
    · obtain rfl : n = 32 := by omega
      clear HV HPUT HGD
      go_wp2_with fail
      refine bodyPost_end (results_none rfl _ _ _) rfl ?_
      exact ⟨⟨_, rfl⟩, hMk⟩
end Go.Proofs.YtgbpnepipknjnaaDoor
