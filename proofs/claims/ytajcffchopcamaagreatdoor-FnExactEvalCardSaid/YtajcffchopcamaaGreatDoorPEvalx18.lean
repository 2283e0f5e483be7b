/- Several texts in one, in their order. -/
import Derived.Test.YtajcffchopcamaaGreatDoorPEvalx3
import Derived.Test.YtajcffchopcamaaGreatDoorPEvalx17
import Derived.Deep.RegionHeld3
import Derived.Deep.QuietTactic
import Derived.BigQuiet
import Derived.Deep.LoopGhost
import Derived.Deep.Cut
/- A row of numbers as a stack: put on it, cut off. -/
namespace Go.Proofs.YtajcffchopcamaaGreatDoor
open Go.RowKit

theorem append_intsM {w : World} {ops : Array Oper} {rest : List Oper} {o : Oper} {act : Act} {Q : Exit → Act → World → Prop} (hgd : o.guard = none) (s x : Operand)
    (ho : o.op = .call { callee := .builtin .append, args := #[s, x], argTypes := #[33, 33] })
    (lo hi : Nat) (a : Option Addr) (c : Nat) (xs : List Int) (hs : act.eval s = .slice a xs.length c) (hown : OwnI w lo hi a c xs)
    (sa : Option Addr) (sc : Nat) (zs : List Int) (hx : act.eval x = .slice sa zs.length sc) (hr : ReadsI w sa zs) (hc : sa = none → sc = 0)
    (hb : xs.length + zs.length ≤ 1099511627776) (hlo : lo ≤ w.heap.size)
    (h : ∀ a' c' ys w', Hid (ys = xs ++ zs) → OwnI w' lo w'.heap.size a' c' ys → w.grownBy w' (Value.slice a xs.length c).ownBlock → (∀ k, (Value.slice a' ys.length c').ownBlock = some k → (Value.slice a xs.length c).ownBlock = some k ∨ k = w.heap.size) → wpList Tryz.prog ops Q rest (act.put o.dst (.slice a' ys.length c')) w') :
    wpList Tryz.prog ops Q (o :: rest) act w := by
  obtain ⟨a', c', ys, w', hrun, h1, h2, h3, h4⟩ := run_append_ints (w := w) o.type lo hi a c xs hown sa sc zs hr hc hb hlo
  refine wpList_plain hgd fun K hK => ?_
  unfold Oper.wp execOp
  simp only [ho, resolve, invoke, builtin, Sem.run_bind, Sem.run_pure, Result.andThen_ok, List.map_toArray, List.map_cons, List.map_nil, hs, hx, hrun]
  exact hK _ _ (h a' c' ys w' h1 h2 h3 h4)
theorem OwnI.cut {w : World} {lo hi : Nat} {a : Option Addr} {c : Nat} {ns : List Int} (h : OwnI w lo hi a c ns) (k : Nat) (hk : k ≤ ns.length) : OwnI w lo hi a c (ns.take k) := by
  have hl : (ns.take k).length = k := by rw [List.length_take]; omega
  obtain ⟨⟨h1, h2⟩, h3, h4⟩ := h
  refine ⟨⟨by simp, ?_⟩, h3, fun j hj => h4 j (by
    cases a with
    | none => simp [Value.ownBlock] at hj
    | some ad => simpa [Value.ownBlock] using hj)⟩
  rcases h2 with ⟨hv, h0⟩ | ⟨g, cap, cur, hv, hg, hh, hn, hcap, hsz, htake⟩
  · left
    simp only [Value.slice.injEq] at hv
    obtain ⟨rfl, _, rfl⟩ := hv
    have : ns = [] := List.length_eq_zero_iff.1 h0
    subst this
    simp
  · right
    simp only [Value.slice.injEq] at hv
    obtain ⟨rfl, _, rfl⟩ := hv
    refine ⟨g, c, cur, rfl, hg, hh, by omega, hcap, hsz, ?_⟩
    have h5 : (cur.toList.take (ns.length * 1)).take (k * 1) = (ns.map (Value.int .i64)).take (k * 1) := by rw [htake]
    rw [List.take_take, Nat.min_eq_left (by omega)] at h5
    rw [hl, h5, Nat.mul_one, List.map_take]
end Go.Proofs.YtajcffchopcamaaGreatDoor

/- A marking in its box: what stands there, and what a step of it changes. -/
namespace Go.Proofs.YtajcffchopcamaaGreatDoor
open Go.RowKit

def cellsM (v : Value) (mb most : Nat) (st : MSt) (aS : Option Addr) (cS : Nat) : List Value := [v, .map (some mb), .slice aS st.stack.length cS, .int .i64 most, .bool st.left, .int .i64 st.anew]
/-- The marking in box M: its marks in the map mb, its stack at aS; all of it was made since w0. -/
structure MkO (w0 w : World) (M mb : Nat) (v : Value) (most : Nat) (st : MSt) (aS : Option Addr) (cS : Nat) : Prop where
  box : Box w M (cellsM v mb most st aS cS) 117
  set : SetAt w mb st.met
  own : OwnI w w0.heap.size w.heap.size aS cS st.stack
  ne : M ≠ mb
  nS : ∀ k, (Value.slice aS st.stack.length cS).ownBlock = some k → k ≠ M ∧ k ≠ mb
  lo : w0.heap.size ≤ M ∧ w0.heap.size ≤ mb
  bel : Below w0.heap.size w0 w
def MkAt (w0 w : World) (M mb : Nat) (v : Value) (most : Nat) (st : MSt) : Prop := ∃ aS cS, MkO w0 w M mb v most st aS cS
theorem MkO.below {w0 w w' : World} {M mb : Nat} {v : Value} {most : Nat} {st : MSt} {aS : Option Addr} {cS : Nat} (h : MkO w0 w M mb v most st aS cS) (hb : Below w.heap.size w w') : MkO w0 w' M mb v most st aS cS :=
  ⟨h.box.below hb h.box.lt, h.set.below hb, (h.own.below hb).widen (Nat.le_refl _) hb.size (Nat.le_refl _), h.ne, h.nS, h.lo, h.bel.trans (hb.mono h.bel.size)⟩
theorem MkAt.below {w0 w w' : World} {M mb : Nat} {v : Value} {most : Nat} {st : MSt} (h : MkAt w0 w M mb v most st) (hb : Below w.heap.size w w') : MkAt w0 w' M mb v most st := by
  obtain ⟨aS, cS, h⟩ := h
  exact ⟨aS, cS, h.below hb⟩
theorem MkAt.bel {w0 w : World} {M mb : Nat} {v : Value} {most : Nat} {st : MSt} (h : MkAt w0 w M mb v most st) : Below w0.heap.size w0 w := by
  obtain ⟨aS, cS, h⟩ := h
  exact h.bel
/-- One cell of the box that is no list is written. -/
theorem MkO.cell {w0 w : World} {M mb : Nat} {v : Value} {most : Nat} {st st' : MSt} {aS : Option Addr} {cS : Nat} (h : MkO w0 w M mb v most st aS cS) (i : Nat) (x : Value) (hc : (cellsM v mb most st aS cS).set i x = cellsM v mb most st' aS cS) (hm : st'.met = st.met) (hs : st'.stack = st.stack) :
    ∃ W, Hid (w.setCell ⟨M, i, none⟩ x = W) ∧ MkO w0 W M mb v most st' aS cS := by
  obtain ⟨W, hW, hb, hw, hsz⟩ := box_set h.box i x
  rw [hc] at hb
  have hlo := h.lo
  refine ⟨W, hW, hb, ?_, ?_, h.ne, ?_, h.lo, h.bel.trans (hw.below hlo.1 h.bel.size)⟩
  · rw [hm]
    exact h.set.block (hw.block mb h.set.lt (by have := h.ne; omega))
  · rw [hs, hsz]
    have ho := h.own
    exact ⟨ownsRow_block ho.1 (fun k hk => hw.block k (by have := ho.2.2 k hk; omega) (by have := (h.nS k hk).1; omega)), by rw [hsz]; exact Nat.le_refl _, fun k hk => ho.2.2 k hk⟩
  · rw [hs]
    exact h.nS
/-- The map was written: one more is marked. -/
theorem MkO.marked {w0 w w' : World} {M mb : Nat} {v : Value} {most : Nat} {st : MSt} {S : List Bool} {aS : Option Addr} {cS : Nat} (h : MkO w0 w M mb v most st aS cS) (hs : SetAt w' mb S) (hg : w.grownBy w' (some mb)) : MkO w0 w' M mb v most ⟨S, st.stack, st.left, st.anew⟩ aS cS := by
  have hlo := h.lo
  have ho := h.own
  refine ⟨h.box.block (hg.block M h.box.lt (fun e => h.ne (Option.some.inj e))), hs, ⟨ownsRow_block ho.1 (fun k hk => hg.block k (ho.2.2 k hk) (fun e => (h.nS k hk).2 (Option.some.inj e))), Nat.le_refl _, fun k hk => Nat.lt_of_lt_of_le (ho.2.2 k hk) hg.size⟩, h.ne, h.nS, h.lo, h.bel.grown hg h.bel.size (fun j hj => by cases hj; exact hlo.2)⟩
/-- The stack was written, as another list. -/
theorem MkO.stacked {w0 w w1 : World} {M mb : Nat} {v : Value} {most : Nat} {st : MSt} {aS aN : Option Addr} {cS cN : Nat} {T : List Int} (h : MkO w0 w M mb v most st aS cS) (hb : Box w1 M (cellsM v mb most st aS cS) 117) (hs : SetAt w1 mb st.met) (ho : OwnI w1 w0.heap.size w1.heap.size aN cN T) (hn : ∀ k, (Value.slice aN T.length cN).ownBlock = some k → k ≠ M ∧ k ≠ mb) (hbl : Below w0.heap.size w0 w1) :
    ∃ W, Hid (w1.setCell ⟨M, 2, none⟩ (.slice aN T.length cN) = W) ∧ MkO w0 W M mb v most ⟨st.met, T, st.left, st.anew⟩ aN cN := by
  obtain ⟨W, hW, hb, hw, hsz⟩ := box_set hb 2 (.slice aN T.length cN)
  have hlo := h.lo
  refine ⟨W, hW, hb, hs.block (hw.block mb hs.lt (by have := h.ne; omega)), ?_, h.ne, hn, h.lo, hbl.trans (hw.below hlo.1 hbl.size)⟩
  rw [hsz]
  exact ⟨ownsRow_block ho.1 (fun k hk => hw.block k (by have := ho.2.2 k hk; omega) (by have := (hn k hk).1; omega)), by rw [hsz]; exact Nat.le_refl _, fun k hk => ho.2.2 k hk⟩

/-- One more was put on the stack, which is not yet written into the box. -/
theorem MkO.appended {w0 w w1 : World} {o : Obj} {M mb : Nat} {v : Value} {most : Nat} {st : MSt} {aS aN : Option Addr} {cS cN : Nat} {T : List Int} (h : MkO w0 w M mb v most st aS cS) (hg : (w.alloc o).grownBy w1 (Value.slice aS st.stack.length cS).ownBlock) (hk : ∀ k, (Value.slice aN T.length cN).ownBlock = some k → (Value.slice aS st.stack.length cS).ownBlock = some k ∨ k = (w.alloc o).heap.size) :
    Box w1 M (cellsM v mb most st aS cS) 117 ∧ SetAt w1 mb st.met ∧ (∀ k, (Value.slice aN T.length cN).ownBlock = some k → k ≠ M ∧ k ≠ mb) ∧ Below w0.heap.size w0 w1 := by
  have ha := (Below.refl w.heap.size w).alloc (Nat.le_refl _) o
  have h1 := h.below ha
  have hM := h1.box.lt
  have hB := h1.set.lt
  refine ⟨h1.box.block (hg.block M hM (fun e => (h.nS M e.symm).1 rfl)), h1.set.block (hg.block mb hB (fun e => (h.nS mb e.symm).2 rfl)), fun k hk1 => ?_, h1.bel.grown hg h1.bel.size (fun j hj => (h.own.1.lt j hj).1)⟩
  rcases hk k hk1 with h2 | h2
  · exact h.nS k h2
  · exact ⟨by omega, by omega⟩

set_option maxHeartbeats 1000000 in
set_option maxRecDepth 100000 in
theorem setHas_any (mb : Nat) (S : List Bool) (k : Int) (hk : 0 ≤ k) (w : World) (h : SetAt w mb S) :
    Calls Tryz.prog 93 #[.map (some mb), .int .i64 k] w fun e w' => e = .returned (.bool (metM S k)) ∧ Below w.heap.size w w' := by
  have hlk := run_look_s h k hk
  generalize metM S k = R at *
  obtain ⟨W, hW, _, hbW, _⟩ := boxes1 w [] 111
  go_enter Tryz.func93, Tryz.ntmps93
  go_wp2
  go_ret
  exact ⟨rfl, by first | (rw [hW.out]; exact hbW) | exact hbW⟩
set_option maxHeartbeats 1000000 in
set_option maxRecDepth 100000 in
theorem setAdd_any (mb : Nat) (S : List Bool) (hS : S.length = 32) (k : Int) (hk : 0 ≤ k ∧ k ≤ 31) (w : World) (h : SetAt w mb S) :
    Calls Tryz.prog 60 #[.map (some mb), .int .i64 k] w fun e w' => (∃ v, e = .returned v) ∧ SetAt w' mb (S.set k.toNat true) ∧ w.grownBy w' (some mb) := by
  go_enter Tryz.func60, Tryz.ntmps60
  go_wp2_with (first | (at_mapUpdate; refine wpList_update_s rfl _ _ _ rfl mb S k hk hS rfl rfl rfl h ?_; intro w5 hm5 hg5) | fail)
  refine bodyPost_end (results_none rfl _ _ _) rfl ?_
  exact ⟨⟨_, rfl⟩, hm5, hg5⟩
end Go.Proofs.YtajcffchopcamaaGreatDoor

/- The walks of a marking's isMissed, put, mark. -/
namespace Go.Proofs.YtajcffchopcamaaGreatDoor
open Go.RowKit

/-- A slot of the view, wherever the world has come. -/
theorem view_cells {w0 u : World} {b off : Nat} {ss : List SlotA} (hr : ReadsVw w0 (some ⟨b, off, none⟩) ss) (h32 : ss.length = 32) (hu : Below w0.heap.size w0 u) (k : Nat) (hk : k < 32) :
    u.cell? ⟨b, off + k * 4, none⟩ = some (.bool ((vsOf ss).getD k noS).has) ∧ (∃ aR cR, u.cell? ⟨b, off + k * 4 + 3, none⟩ = some (.slice aR (refsM (vsOf ss) k).length cR) ∧ ReadsI u aR (refsM (vsOf ss) k)) := by
  obtain ⟨b', off', e, hc⟩ := (hr.below hu) (by intro e; rw [e] at h32; simp at h32)
  simp only [Option.some.injEq, Addr.mk.injEq, and_true] at e
  obtain ⟨rfl, rfl⟩ := e
  obtain ⟨h1, h2⟩ := hc k (by omega)
  rw [vsOf_at]
  refine ⟨h1 0 _ rfl, (ss.getD k zeroS).aR, (ss.getD k zeroS).cR, ?_, ?_⟩
  · have := h1 3 _ rfl
    rw [refsM, Int.toNat_natCast, vsOf_at]
    exact this
  · rw [refsM, Int.toNat_natCast, vsOf_at]
    exact h2.refs

set_option maxHeartbeats 1000000 in
set_option maxRecDepth 100000 in
theorem isMissed_any {w0 : World} {M mb most b off c : Nat} {ss : List SlotA} {st : MSt} (k : Nat) (hk : k < 32) (w : World) (hr : ReadsVw w0 (some ⟨b, off, none⟩) ss) (h32 : ss.length = 32) (h : MkAt w0 w M mb (.slice (some ⟨b, off, none⟩) 32 c) most st) :
    Calls Tryz.prog 68 #[.pointer (some ⟨M, 0, none⟩), .int .i64 (k : Int)] w fun e w' => e = .returned (.bool (missM (vsOf ss) st.met k)) ∧ Below w.heap.size w w' := by
  obtain ⟨aS, cS, h⟩ := h
  have c0 := h.box.cell 0 _ rfl
  have c1 := h.box.cell 1 _ rfl
  have v0 := (view_cells hr h32 h.bel k hk).1
  have C := setHas_any mb st.met k (by omega) w h.set
  have HM : Hid (missM (vsOf ss) st.met k = (((vsOf ss).getD k noS).has && !metM st.met k)) := by rw [Hid, missM, hasM, Int.toNat_natCast]
  have hkI : (k : Int) < 32 := by omega
  generalize missM (vsOf ss) st.met k = R at *
  generalize ((vsOf ss).getD k noS).has = hb at *
  generalize metM st.met k = mk at *
  clear hr h32 h hk
  cases hb with
  | false =>
    have HR : Hid (R = false) := HM.out
    clear C HM
    go_enter Tryz.func68, Tryz.ntmps68
    go_wp2
    go_ret
    exact ⟨ret_bool HR.out.symm, Below.refl _ _⟩
  | true =>
    have HR : Hid (R = !mk) := HM.out
    clear HM
    go_enter Tryz.func68, Tryz.ntmps68
    go_wp2_with fail
    refine C.mono ?_
    rintro e w1 ⟨rfl, hb1⟩
    go_wp2
    go_ret
    exact ⟨ret_bool HR.out.symm, hb1⟩

set_option maxHeartbeats 1000000 in
set_option maxRecDepth 100000 in
theorem put_any {w0 : World} {M mb most : Nat} {v : Value} {st : MSt} (hm : most ≤ 40) (g : GoodM most st) (k : Nat) (w : World) (h : MkAt w0 w M mb v most st) :
    Calls Tryz.prog 94 #[.pointer (some ⟨M, 0, none⟩), .int .i64 (k : Int)] w fun e w' => (∃ v, e = .returned v) ∧ MkAt w0 w' M mb v most (putM most st k) := by
  obtain ⟨aS, cS, h⟩ := h
  have c2 := h.box.cell 2 _ rfl
  have c3 := h.box.cell 3 _ rfl
  have f4 := h.box.frozen 4
  have f2 := h.box.frozen 2
  have hroom := g.room
  by_cases hfull : st.stack.length < most
  · have HP : Hid (putM most st k = ⟨st.met, st.stack ++ [(k : Int)], st.left, st.anew⟩) := by rw [Hid, putM, if_pos hfull]
    have hne : ((st.stack.length : Int) == (most : Int)) = false := by rw [beq_eq_false_iff_ne]; omega
    have HH : Hid (MkO w0 w M mb v most st aS cS) := h
    have hll : st.stack.length ≤ 40 := by omega
    clear h g hroom hfull
    go_enter Tryz.func94, Tryz.ntmps94
    go_wp2_with fail
    go_quiet (fail)
    have HQ : Hid (MkO w0 (w.drewN nq) M mb v most st aS cS) := HH.out.below (below_drewN (Below.refl _ _) nq)
    clear c2 c3 f4 f2 HH
    generalize w.drewN nq = wq at *
    have c2 := HQ.out.box.cell 2 _ rfl
    have ho := HQ.out.own
    have hlo := HQ.out.bel.size
    have ho3 := ho.below ((Below.refl _ _).alloc (Nat.le_refl _) (.cells #[.int .i64 (k : Int)] 3))
    go_wp2_with (first | (at_builtin; refine append_intsM rfl _ _ rfl w0.heap.size wq.heap.size aS cS st.stack rfl ho3 _ _ [(k : Int)] rfl (readsI_one wq k _) (fun h => by cases h) (by simp; omega) (by simp; omega) ?_; intro a4 c4 y4 w4 hy4 ho4 hg4 hk4; obtain ⟨b4, s4, n4, l4⟩ := HQ.out.appended hg4 hk4; have x4 := b4.cell 2 _ rfl; have z4 := b4.frozen 2) | fail)
    obtain ⟨W, hW, hO⟩ := HQ.out.stacked b4 s4 ho4 n4 l4
    rw [hW.out]
    refine bodyPost_end (results_none rfl _ _ _) rfl ?_
    refine ⟨⟨_, rfl⟩, a4, c4, ?_⟩
    rw [HP.out, ← hy4.out]
    exact hO
  · have HP : Hid (putM most st k = ⟨st.met, st.stack, true, st.anew⟩) := by rw [Hid, putM, if_neg hfull]
    have he : ((st.stack.length : Int) == (most : Int)) = true := by rw [beq_iff_eq]; omega
    have HH : Hid (MkO w0 w M mb v most st aS cS) := h
    clear h g hroom hfull
    go_enter Tryz.func94, Tryz.ntmps94
    go_wp2_with fail
    go_quiet (fail)
    have HQ : Hid (MkO w0 (w.drewN nq) M mb v most st aS cS) := HH.out.below (below_drewN (Below.refl _ _) nq)
    clear c2 c3 f4 f2 HH
    generalize w.drewN nq = wq at *
    have c4 := HQ.out.box.cell 4 _ rfl
    have f4 := HQ.out.box.frozen 4
    obtain ⟨W, hW, hO⟩ := HQ.out.cell (st' := ⟨st.met, st.stack, true, st.anew⟩) 4 (.bool true) rfl rfl rfl
    go_wp2_with fail
    rw [hW.out]
    (try simp only [Exit.inBlock, Exit.then])
    refine bodyPost_ret (results_none rfl _ _ _) rfl ?_
    refine ⟨⟨_, rfl⟩, aS, cS, ?_⟩
    rw [HP.out]
    exact hO

set_option maxHeartbeats 1000000 in
set_option maxRecDepth 100000 in
theorem mark_any {w0 : World} {M mb most : Nat} {v : Value} {st : MSt} (hm : most ≤ 40) (g : GoodM most st) (k : Nat) (hk : k < 32) (w : World) (h : MkAt w0 w M mb v most st) :
    Calls Tryz.prog 69 #[.pointer (some ⟨M, 0, none⟩), .int .i64 (k : Int)] w fun e w' => (∃ v, e = .returned v) ∧ MkAt w0 w' M mb v most (markM most st k) := by
  obtain ⟨aS, cS, h⟩ := h
  have c1 := h.box.cell 1 _ rfl
  have C := setAdd_any mb st.met g.len k (by omega) w h.set
  have g1 : GoodM most ⟨st.met.set (k : Int).toNat true, st.stack, st.left, st.anew⟩ := ⟨by simp only [List.length_set]; exact g.len, g.room, g.rng⟩
  have HC : Hid (∀ w1, MkAt w0 w1 M mb v most ⟨st.met.set (k : Int).toNat true, st.stack, st.left, st.anew⟩ → Calls Tryz.prog 94 #[.pointer (some ⟨M, 0, none⟩), .int .i64 (k : Int)] w1 fun e w' => (∃ v, e = .returned v) ∧ MkAt w0 w' M mb v most (markM most st k)) := fun w1 h1 => put_any hm g1 k w1 h1
  have HH : Hid (MkO w0 w M mb v most st aS cS) := h
  generalize markM most st k = R at *
  clear h g g1
  go_enter Tryz.func69, Tryz.ntmps69
  go_wp2_with fail
  refine C.mono ?_
  rintro e w1 ⟨⟨x1, rfl⟩, hs1, hg1⟩
  have C2 := HC.out w1 ⟨aS, cS, HH.out.marked hs1 hg1⟩
  clear C HC hs1 hg1 c1
  go_wp2_with fail
  refine C2.mono ?_
  rintro e w2 ⟨⟨x2, rfl⟩, h2⟩
  go_wp2_with fail
  refine bodyPost_end (results_none rfl _ _ _) rfl ?_
  exact ⟨⟨_, rfl⟩, h2⟩
end Go.Proofs.YtajcffchopcamaaGreatDoor

/- The walk of a marking's drain. -/
namespace Go.Proofs.YtajcffchopcamaaGreatDoor
open Go.RowKit

theorem drainM_nil (vs : List SlotV) (most n : Nat) {st : MSt} (h : st.stack = []) : drainM vs most n st = st := by
  cases n with
  | zero => rfl
  | succ n => rw [drainM, if_pos h]
theorem drainM_app (vs : List SlotV) (most n : Nat) (S : List Bool) (T : List Int) (x : Int) (l : Bool) (a : Int) : drainM vs most (n + 1) ⟨S, T ++ [x], l, a⟩ = drainM vs most n ((refsM vs x).foldl (refM vs most) ⟨S, T, l, a⟩) := by
  rw [drainM, if_neg (by simp), popM, topM_app, cutM_app]
theorem foldM_step (vs : List SlotV) (most : Nat) (F : List Int) (st : MSt) (n : Nat) (h : n < F.length) : (F.take (n + 1)).foldl (refM vs most) st = refM vs most ((F.take n).foldl (refM vs most) st) (F.getD n 0) := by
  rw [take_step F 0 n h, List.foldl_append]
  rfl
theorem view_refs {w0 : World} {b off : Nat} {ss : List SlotA} (hr : ReadsVw w0 (some ⟨b, off, none⟩) ss) (h32 : ss.length = 32) (k : Nat) (hk : k < 32) :
    ∃ aR cR, ∀ u, Below w0.heap.size w0 u → u.cell? ⟨b, off + k * 4 + 3, none⟩ = some (.slice aR (refsM (vsOf ss) k).length cR) ∧ ReadsI u aR (refsM (vsOf ss) k) := by
  refine ⟨(ss.getD k zeroS).aR, (ss.getD k zeroS).cR, fun u hu => ?_⟩
  obtain ⟨b', off', e, hc⟩ := (hr.below hu) (by intro e; rw [e] at h32; simp at h32)
  simp only [Option.some.injEq, Addr.mk.injEq, and_true] at e
  obtain ⟨rfl, rfl⟩ := e
  obtain ⟨h1, h2⟩ := hc k (by omega)
  rw [refsM, Int.toNat_natCast, vsOf_at]
  exact ⟨h1 3 _ rfl, h2.refs⟩
theorem mem_getDM {F : List Int} {n : Nat} (h : n < F.length) : F.getD n 0 ∈ F := by simp [List.getD, h]

set_option maxHeartbeats 4000000 in
set_option maxRecDepth 100000 in
theorem drain_any {w0 : World} {M mb most b off c : Nat} {ss : List SlotA} {st : MSt} (hm : most ≤ 40) (g : GoodM most st) (hv : viewB (vsOf ss) = true) (w : World) (hr : ReadsVw w0 (some ⟨b, off, none⟩) ss) (h32 : ss.length = 32) (h : MkAt w0 w M mb (.slice (some ⟨b, off, none⟩) 32 c) most st) :
    Calls Tryz.prog 70 #[.pointer (some ⟨M, 0, none⟩)] w fun e w' => (∃ v, e = .returned v) ∧ MkAt w0 w' M mb (.slice (some ⟨b, off, none⟩) 32 c) most (drainM (vsOf ss) most 72 st) := by
  have HV : Hid (∀ k : Nat, k < 32 → ∃ aR cR, ∀ u, Below w0.heap.size w0 u → u.cell? ⟨b, off + k * 4 + 3, none⟩ = some (.slice aR (refsM (vsOf ss) k).length cR) ∧ ReadsI u aR (refsM (vsOf ss) k)) := fun k hk => view_refs hr h32 k hk
  have HRG : Hid (RngM (vsOf ss)) := viewB_rng hv
  have HLN : Hid (∀ i, (refsM (vsOf ss) i).length ≤ 5) := viewB_refs hv
  have HMISS : Hid (∀ (u : World) (st : MSt) (k : Nat), k < 32 → MkAt w0 u M mb (.slice (some ⟨b, off, none⟩) 32 c) most st → Calls Tryz.prog 68 #[.pointer (some ⟨M, 0, none⟩), .int .i64 (k : Int)] u fun e w' => e = .returned (.bool (missM (vsOf ss) st.met k)) ∧ Below u.heap.size u w') := fun u st k hk h => isMissed_any k hk u hr h32 h
  have HMARK : Hid (∀ (u : World) (st : MSt) (k : Nat), k < 32 → GoodM most st → MkAt w0 u M mb (.slice (some ⟨b, off, none⟩) 32 c) most st → Calls Tryz.prog 69 #[.pointer (some ⟨M, 0, none⟩), .int .i64 (k : Int)] u fun e w' => (∃ v, e = .returned v) ∧ MkAt w0 w' M mb (.slice (some ⟨b, off, none⟩) 32 c) most (markM most st k)) := fun u st k hk g h => mark_any hm g k hk u h
  have HS : Hid (GoodM most st ∧ sizeM st ≤ 72) := ⟨g, g.size hm⟩
  obtain ⟨FIN, HFIN⟩ : ∃ FIN, Hid (drainM (vsOf ss) most 72 st = FIN) := ⟨_, rfl⟩
  rw [HFIN.out]
  clear hr h32 hv g
  generalize vsOf ss = vs at *
  generalize hvw : Value.slice (some ⟨b, off, none⟩) 32 c = vw at *
  have HVW : Hid (Value.slice (some ⟨b, off, none⟩) 32 c = vw) := hvw
  clear hvw
  go_enter Tryz.func70, Tryz.ntmps70
  go_wp2_with fail
  go_loopg [2] 72 (fun n _ wr => ∃ st' : MSt, MkAt w0 wr M mb vw most st' ∧ Hid (GoodM most st' ∧ sizeM st' ≤ n ∧ drainM vs most n st' = FIN))
  case atStart => exact ⟨st, h, HS.out.1, HS.out.2, HFIN.out⟩
  case round =>
    obtain ⟨st', ⟨aS, cS, hO⟩, hI⟩ := hrel
    obtain ⟨S, T, lf, an⟩ := st'
    clear h HS HFIN
    have c2 := hO.box.cell 2 _ rfl
    rcases List.eq_nil_or_concat T with hT | ⟨T', x, hT⟩
    · subst hT
      have HE : Hid (FIN = ⟨S, [], lf, an⟩) := by rw [Hid, ← hI.out.2.2, drainM_nil]; rfl
      clear hI HV HRG HLN HMISS HMARK
      go_wp2_with fail
      refine bodyPost_end (results_none rfl _ _ _) rfl ?_
      exact ⟨⟨_, rfl⟩, by rw [HE.out]; exact ⟨aS, cS, hO⟩⟩
    · rw [List.concat_eq_append] at hT
      subst hT
      obtain ⟨xn, hxe, hx32⟩ : ∃ xn : Nat, x = xn ∧ xn < 32 := by
        have := hI.out.1.rng x (by simp)
        exact ⟨x.toNat, by omega, by omega⟩
      subst hxe
      have ho := hO.own
      simp only at ho c2
      obtain ⟨bt, offt, rfl, hct⟩ := ho.reads (by simp)
      have t0 := hct T'.length (by simp)
      have e0 : (T' ++ [(xn : Int)]).getD T'.length 0 = xn := by simp [List.getD]
      rw [e0] at t0
      have hox := ho.cut T'.length (by simp)
      rw [List.take_left] at hox
      have hcap := ho.len_cap
      have hroom := hI.out.1.room
      simp only at hroom
      have f2 := hO.box.frozen 2
      obtain ⟨W, hW, hO2⟩ := hO.stacked hO.box hO.set hox (fun k hk => hO.nS k (by simpa [Value.ownBlock] using hk)) hO.bel
      have c0 := hO2.box.cell 0 _ rfl
      rw [← HVW.out] at c0
      obtain ⟨aF, cF, hFR⟩ := HV.out xn hx32
      have hF0 := (hFR W hO2.bel).1
      have HFI : Hid (_) := HRG.out xn
      have HFL := HLN.out xn
      have HFV : Hid (∀ u, Below w0.heap.size w0 u → ReadsI u aF (refsM vs xn)) := fun u hu => (hFR u hu).2
      have HG2 : Hid (GoodM most ⟨S, T', lf, an⟩ ∧ ∃ m, gk = m + 1 ∧ sizeM ⟨S, T', lf, an⟩ ≤ m ∧ drainM vs most m ((refsM vs xn).foldl (refM vs most) ⟨S, T', lf, an⟩) = FIN) := by
        obtain ⟨h1, h2, h3⟩ := hI.out
        refine ⟨⟨h1.len, by have := h1.room; simp at this ⊢; omega, fun y hy => h1.rng y (List.mem_append.2 (.inl hy))⟩, ?_⟩
        have h4 : sizeM ⟨S, T' ++ [(xn : Int)], lf, an⟩ = sizeM ⟨S, T', lf, an⟩ + 1 := by simp [sizeM]; omega
        cases gk with
        | zero => omega
        | succ m => exact ⟨m, rfl, by omega, by rw [← h3, drainM_app]⟩
      generalize refsM vs xn = F at *
      have hcap' : T'.length + 1 ≤ cS := by simpa using hcap
      have hTl : T'.length + 1 ≤ 40 := by simp at hroom; omega
      simp only [List.length_append, List.length_cons, List.length_nil, Nat.zero_add] at c2
      have hxI : (xn : Int) < 32 := by omega
      have HO2 : Hid (MkAt w0 W M mb vw most ⟨S, T', lf, an⟩) := ⟨_, _, hO2⟩
      clear hO hI ho hct e0 hox hcap hroom hO2 HV HRG HLN hFR
      go_upto_region 4 with fail
      rw [hW.out]
      clear hW c2 f2 t0
      go_wp2_with fail
      clear c0 hF0
      go_loopw [44] (fun i wr => ∃ n : Nat, n ≤ F.length ∧ i = .int .i64 n ∧ MkAt w0 wr M mb vw most ((F.take n).foldl (refM vs most) ⟨S, T', lf, an⟩) ∧ Hid (GoodM most ((F.take n).foldl (refM vs most) ⟨S, T', lf, an⟩))) (fun i _ => F.length - (RowKit.intOf i).toNat)
      case atStart => exact ⟨0, Nat.zero_le _, rfl, HO2.out, HG2.out.1⟩
      case round =>
        obtain ⟨n, hn, rfl, hMk, hGd⟩ := hrel
        by_cases hlt : n < F.length
        · obtain ⟨bf, offf, rfl, hcf⟩ := HFV.out wr hMk.bel (by intro e; rw [e] at hlt; simp at hlt)
          have f0 := hcf n hlt
          have HNX : Hid (_ = _) := foldM_step vs most F ⟨S, T', lf, an⟩ n hlt
          obtain ⟨y, hye, hy32⟩ : ∃ y : Nat, F.getD n 0 = y ∧ y < 32 := by
            have := HFI.out _ (mem_getDM hlt)
            exact ⟨(F.getD n 0).toNat, by omega, by omega⟩
          rw [hye] at f0 HNX
          clear hcf hye HO2
          generalize (F.take n).foldl (refM vs most) ⟨S, T', lf, an⟩ = s2 at *
          have C := HMISS.out wr s2 y hy32 hMk
          have HGN : Hid (GoodM most (refM vs most s2 y)) := refM_good hGd.out (by omega)
          have HRF : Hid (refM vs most s2 y = if missM vs s2.met y = true then markM most s2 y else s2) := rfl
          have C2 : Hid (∀ u, Below wr.heap.size wr u → Calls Tryz.prog 69 #[.pointer (some ⟨M, 0, none⟩), .int .i64 (y : Int)] u fun e w' => (∃ v, e = .returned v) ∧ MkAt w0 w' M mb vw most (markM most s2 y)) := fun u hu => HMARK.out u s2 y hy32 hGd.out (hMk.below hu)
          cases hmb : missM vs s2.met y with
          | false =>
            rw [hmb] at C
            have HEQ : Hid (refM vs most s2 y = s2) := by rw [Hid, HRF.out, if_neg (by rw [hmb]; decide)]
            have HM3 : Hid (∀ u, Below wr.heap.size wr u → MkAt w0 u M mb vw most s2) := fun u hu => hMk.below hu
            clear hmb HRF C2 hMk
            go_wp2_with fail
            refine C.mono ?_
            rintro e w1 ⟨rfl, hb1⟩
            have HM4 := HM3.out w1 hb1
            clear C HM3 hb1 f0
            go_wp2_with fail
            go_roundw
            case rel => exact ⟨n + 1, by omega, by go_num, by rw [HNX.out, HEQ.out]; exact HM4, by rw [HNX.out]; exact HGN⟩
            case measure => simp [RowKit.intOf]; omega
          | true =>
            rw [hmb] at C
            have HEQ : Hid (refM vs most s2 y = markM most s2 y) := by rw [Hid, HRF.out, if_pos hmb]
            clear hmb HRF hMk
            go_wp2_with fail
            refine C.mono ?_
            rintro e w1 ⟨rfl, hb1⟩
            have C3 := C2.out w1 hb1
            clear C C2 hb1 f0
            go_wp2_with fail
            refine C3.mono ?_
            rintro e w2 ⟨⟨x2, rfl⟩, hM4⟩
            clear C3
            go_wp2_with fail
            go_roundw
            case rel => exact ⟨n + 1, by omega, by go_num, by rw [HNX.out, HEQ.out]; exact hM4, by rw [HNX.out]; exact HGN⟩
            case measure => simp [RowKit.intOf]; omega
        · have HT : Hid (F.take n = F) := List.take_of_length_le (by omega)
          rw [HT.out] at hMk hGd
          have HSZ : Hid (sizeM (F.foldl (refM vs most) ⟨S, T', lf, an⟩) ≤ sizeM ⟨S, T', lf, an⟩) := (foldM_good F _ HG2.out.1 HFI.out).2.1
          obtain ⟨m, HGM⟩ : ∃ m, Hid (gk = m + 1 ∧ sizeM ⟨S, T', lf, an⟩ ≤ m ∧ drainM vs most m (F.foldl (refM vs most) ⟨S, T', lf, an⟩) = FIN) := HG2.out.2
          clear HT HG2 HFV HFI HO2 HMISS HMARK
          generalize F.foldl (refM vs most) ⟨S, T', lf, an⟩ = s2 at *
          go_wp2_with fail
          go_roundg m
          case rel => exact ⟨s2, hMk, hGd.out, Nat.le_trans HSZ.out HGM.out.2.1, HGM.out.2.2⟩
          case measure => have := HGM.out.1; omega
end Go.Proofs.YtajcffchopcamaaGreatDoor
