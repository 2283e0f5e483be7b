/- Several texts in one, in their order. -/
import Derived.Test.YtekljhabjkmhpaaDoorPFnLockedx10
import Derived.Test.YtekljhabjkmhpaaDoorPFnLockedx2
import Derived.Deep.AppendLies
import Derived.Laws.AppendOwnNone
import Derived.Test.YtekljhabjkmhpaaDoorPFnLockedx8
/- Appending numbers as a step of a region that draws its order; an object in a box of the call. -/
namespace Go.Proofs.YtekljhabjkmhpaaDoor
open Go.RowKit

theorem run_append_ints {w : World} (ty : TypeId) (lo hi : Nat) (a : Option Addr) (c : Nat) (xs : List Int) (hown : OwnI w lo hi a c xs)
    (sa : Option Addr) (sc : Nat) (zs : List Int) (hr : ReadsI w sa zs) (hc : sa = none → sc = 0) (hb : xs.length + zs.length ≤ 1099511627776) (hlo : lo ≤ w.heap.size) :
    ∃ a' c' ys w', (Builtin.append_ #[40, 40] ty #[.slice a xs.length c, .slice sa zs.length sc]).run Tryd.prog w = .ok (.slice a' ys.length c') w' ∧ Hid (ys = xs ++ zs) ∧ OwnI w' lo w'.heap.size a' c' ys ∧ w.grownBy w' (Value.slice a xs.length c).ownBlock ∧
      (∀ k, (Value.slice a' ys.length c').ownBlock = some k → (Value.slice a xs.length c).ownBlock = some k ∨ k = w.heap.size) := by
  obtain ⟨i0, hi0, hz0, hz1, hz2⟩ := info_parts Tryd.infoInt
  cases sa with
  | none =>
    have hz : zs = [] := by
      by_cases e : zs = []
      · exact e
      · obtain ⟨b, off, hh, _⟩ := hr e
        cases hh
    subst hz
    have := hc rfl
    subst this
    refine ⟨a, c, xs, w, run_append_owned_none (P := Tryd.prog) (w := w) lo 40 ty 3 i0 1 Tryd.underlying40 hi0 _ _ _ hown.1, (by simp [Hid]), ⟨hown.1, Nat.le_refl _, fun k hk => (hown.1.lt k hk).2⟩, World.grownBy.refl _ _, fun k hk => .inl hk⟩
  | some ad =>
    obtain ⟨v', w', h1, h2, h3, _, h5⟩ := run_append_own_at (P := Tryd.prog) w lo 40 ty 3 i0 (.int .i64 0) 1 8 Tryd.underlying40 hi0 hz0 hz1 hz2 rfl (by decide) _ _ _ hown.1 ad zs.length sc (zs.map (Value.int .i64)) (by simp) (by
      intro j u hj
      have hjl : j < zs.length := by
        by_cases e : j < zs.length
        · exact e
        · simp [List.getElem?_eq_none (Nat.le_of_not_lt e)] at hj
      have hne : zs ≠ [] := by intro e; simp [e] at hjl
      obtain ⟨b, off, hh, hcell⟩ := hr hne
      cases hh
      rw [Addr_add, hcell j hjl]
      simpa [hjl] using hj) (ints_oneCell _ _) (by simp only [maxLen]; omega) (by omega) hlo
    rw [← List.map_append, ← List.length_append] at h2
    have sh : ∃ a' c', v' = .slice a' (xs ++ zs).length c' := by
      rcases h2.2 with ⟨rfl, h0⟩ | ⟨g, cap, cur, rfl, _⟩
      · exact ⟨none, 0, by rw [h0]⟩
      · exact ⟨_, _, rfl⟩
    obtain ⟨a', c', rfl⟩ := sh
    refine ⟨a', c', xs ++ zs, w', h1, rfl, ⟨h2, Nat.le_refl _, fun k hk => (h2.lt k hk).2⟩, h3, fun k hk => ?_⟩
    rcases h5 with h5 | h5
    · exact .inl (by rw [← h5]; exact hk)
    · rw [h5] at hk
      exact .inr (Option.some.inj hk).symm

theorem OwnO.kept {w w' : World} {lo hi : Nat} {aI : Option Addr} {cI : Nat} {aR : Option Addr} {cR : Nat} {o : ObjV} {B : Nat} (h : OwnO w lo hi aI cI aR cR o) (hg : w.grownBy w' (some B)) (hB : B < lo) : OwnO w' lo w'.heap.size aI cI aR cR o := by
  have h1 := h.ints.kept hg (fun k hk e => by have := (h.ints.lt k hk).1; cases e; omega)
  have h2 := h.refs.kept hg (fun k hk e => by have := (h.refs.lt k hk).1; cases e; omega)
  exact ⟨h1.widen (Nat.le_refl _) h1.2.1 (Nat.le_refl _), h2.widen (Nat.le_refl _) h2.2.1 (Nat.le_refl _), h.apart⟩

theorem Box.grown {w w' : World} {C B : Nat} {vs : List Value} {t : TypeId} (h : Box w C vs t) (hg : w.grownBy w' (some B)) (hne : C ≠ B) : Box w' C vs t := h.block (hg.block C h.lt (fun e => hne (Option.some.inj e)))
theorem CurAt.drew {w : World} {B : Nat} {zs : List Int} (h : CurAt w B zs) : CurAt w.drew B zs := h
end Go.Proofs.YtekljhabjkmhpaaDoor

/- Appending grants as a step of a region that draws its order. -/
namespace Go.Proofs.YtekljhabjkmhpaaDoor
open Go.RowKit

theorem run_append_grants {w : World} (ty : TypeId) (lo hi : Nat) (a : Option Addr) (c : Nat) (xs : List GrantV) (hown : OwnG w lo hi a c xs)
    (sa : Option Addr) (sc : Nat) (zs : List GrantV) (hr : ReadsG w sa zs) (hc : sa = none → sc = 0) (hb : xs.length + zs.length ≤ 1099511627776) (hlo : lo ≤ w.heap.size) :
    ∃ a' c' ys w', (Builtin.append_ #[28, 28] ty #[.slice a xs.length c, .slice sa zs.length sc]).run Tryd.prog w = .ok (.slice a' ys.length c') w' ∧ Hid (ys = xs ++ zs) ∧ OwnG w' lo w'.heap.size a' c' ys ∧ w.grownBy w' (Value.slice a xs.length c).ownBlock ∧
      (∀ k, (Value.slice a' ys.length c').ownBlock = some k → (Value.slice a xs.length c).ownBlock = some k ∨ k = w.heap.size) := by
  obtain ⟨i0, hi0, hz0, hz1, hz2⟩ := info_parts Tryd.infoGrant
  cases sa with
  | none =>
    have hz : zs = [] := by
      by_cases e : zs = []
      · exact e
      · obtain ⟨b, off, hh, _⟩ := hr e
        cases hh
    subst hz
    have := hc rfl
    subst this
    refine ⟨a, c, xs, w, run_append_owned_none (P := Tryd.prog) (w := w) lo 28 ty 37 i0 3 Tryd.underlying28 hi0 _ _ _ hown.1, (by simp [Hid]), ⟨hown.1, Nat.le_refl _, fun k hk => (hown.1.lt k hk).2⟩, World.grownBy.refl _ _, fun k hk => .inl hk⟩
  | some ad =>
    obtain ⟨v', w', h1, h2, h3, _, h5⟩ := run_append_own_at (P := Tryd.prog) w lo 28 ty 37 i0 (.agg #[.int .i64 0, .int .i64 0, .int .i64 0]) 3 24 Tryd.underlying28 hi0 hz0 hz1 hz2 rfl (by decide) _ _ _ hown.1 ad zs.length sc (cellsG zs) (by rw [cellsG_len]) (by
      intro j u hj
      have hjl : j < zs.length * 3 := by rw [← cellsG_len]; exact (List.getElem?_eq_some_iff.1 hj).1
      have hne : zs ≠ [] := by intro e; simp [e] at hjl
      obtain ⟨b, off, hh, hcell⟩ := hr hne
      cases hh
      have hat := cellsG_at zs (j / 3) (j % 3) (by omega) (Nat.mod_lt _ (by omega))
      rw [show j / 3 * 3 + j % 3 = j by omega, hj] at hat
      obtain ⟨k0, k1, k2⟩ := hcell (j / 3) (by omega)
      rw [Addr_add]
      rcases (by omega : j % 3 = 0 ∨ j % 3 = 1 ∨ j % 3 = 2) with h' | h' | h' <;> rw [h'] at hat <;> simp only [GrantV.cells, List.getElem?_cons_zero, List.getElem?_cons_succ, Option.some.injEq] at hat
      · rw [show off + j = off + j / 3 * 3 by omega, k0, hat]
      · rw [show off + j = off + j / 3 * 3 + 1 by omega, k1, hat]
      · rw [show off + j = off + j / 3 * 3 + 2 by omega, k2, hat]) (grants_oneCell _) (by simp only [maxLen]; omega) (by omega) hlo
    rw [← cellsG_app, ← List.length_append] at h2
    have sh : ∃ a' c', v' = .slice a' (xs ++ zs).length c' := by
      rcases h2.2 with ⟨rfl, h0⟩ | ⟨g, cap, cur, rfl, _⟩
      · exact ⟨none, 0, by rw [h0]⟩
      · exact ⟨_, _, rfl⟩
    obtain ⟨a', c', rfl⟩ := sh
    refine ⟨a', c', xs ++ zs, w', h1, rfl, ⟨h2, Nat.le_refl _, fun k hk => (h2.lt k hk).2⟩, h3, fun k hk => ?_⟩
    rcases h5 with h5 | h5
    · exact .inl (by rw [← h5]; exact hk)
    · rw [h5] at hk
      exact .inr (Option.some.inj hk).symm

theorem step_append_grants {w : World} {ops : Array Oper} {o : Oper} {act : Act} {K : Act → World → Prop} {Q : Exit → Act → World → Prop} {E : Prop} (hgd : o.guard = none) (s x : Operand)
    (ho : o.op = .call { callee := .builtin .append, args := #[s, x], argTypes := #[28, 28] })
    (lo hi : Nat) (a : Option Addr) (c : Nat) (xs : List GrantV) (hs : act.eval s = .slice a xs.length c) (hown : OwnG w lo hi a c xs)
    (sa : Option Addr) (sc : Nat) (zs : List GrantV) (hx : act.eval x = .slice sa zs.length sc) (hr : ReadsG w sa zs) (hc : sa = none → sc = 0)
    (hb : xs.length + zs.length ≤ 1099511627776) (hlo : lo ≤ w.heap.size)
    (h : ∀ a' c' ys w', Hid (ys = xs ++ zs) → OwnG w' lo w'.heap.size a' c' ys → w.grownBy w' (Value.slice a xs.length c).ownBlock →
      (∀ k, (Value.slice a' ys.length c').ownBlock = some k → (Value.slice a xs.length c).ownBlock = some k ∨ k = w.heap.size) → K (act.put o.dst (.slice a' ys.length c')) w') :
    if Region.wanted o (yielded ops act.tmps) = true then Oper.wp Tryd.prog o act w K Q else E := by
  have hw : Region.wanted o (yielded ops act.tmps) = true := by simp [Region.wanted, hgd]
  rw [if_pos hw]
  obtain ⟨a', c', ys, w', hrun, h1, h2, h3, h4⟩ := run_append_grants (w := w) o.type lo hi a c xs hown sa sc zs hr hc hb hlo
  unfold Oper.wp execOp
  simp only [ho, resolve, invoke, builtin, Sem.run_bind, Sem.run_pure, Result.andThen_ok, List.map_toArray, List.map_cons, List.map_nil, hs, hx, hrun]
  exact h a' c' ys w' h1 h2 h3 h4

end Go.Proofs.YtekljhabjkmhpaaDoor


/- Locks that lie in a box of the call: what a step of them changes. -/
namespace Go.Proofs.YtekljhabjkmhpaaDoor
open Go.RowKit

def LocksA.blocks (l : LocksA) : List Nat := (Value.slice l.aG l.given.length l.cG).ownBlock.toList ++ (Value.slice l.aW l.waits.length l.cW).ownBlock.toList
theorem mem_blocksG {l : LocksA} {k : Nat} (h : (Value.slice l.aG l.given.length l.cG).ownBlock = some k) : k ∈ l.blocks := List.mem_append.2 (.inl (Option.mem_toList.2 h))
theorem mem_blocksW {l : LocksA} {k : Nat} (h : (Value.slice l.aW l.waits.length l.cW).ownBlock = some k) : k ∈ l.blocks := List.mem_append.2 (.inr (Option.mem_toList.2 h))
theorem blocks_cases {l : LocksA} {k : Nat} (h : k ∈ l.blocks) : (Value.slice l.aG l.given.length l.cG).ownBlock = some k ∨ (Value.slice l.aW l.waits.length l.cW).ownBlock = some k := by
  rcases List.mem_append.1 h with h | h
  · exact .inl (Option.mem_toList.1 h)
  · exact .inr (Option.mem_toList.1 h)
theorem LocksA.own.lt {w : World} {lo hi : Nat} {l : LocksA} (h : l.own w lo hi) {k : Nat} (hk : k ∈ l.blocks) : lo ≤ k ∧ k < hi := by
  rcases blocks_cases hk with e | e
  · exact h.given.lt k e
  · exact h.waits.lt k e
theorem LocksA.own.touch {w w' : World} {lo hi : Nat} {l : LocksA} {bl : List Nat} (h : l.own w lo hi) (ht : Touch bl w w') (hd : ∀ k ∈ l.blocks, k ∉ bl) : l.own w' lo hi :=
  ⟨h.given.touch ht (fun k hk => hd k (mem_blocksG hk)), h.waits.touch ht (fun k hk => hd k (mem_blocksW hk)), h.apart⟩

structure LkAt (w : World) (lo B : Nat) (l : LocksA) : Prop where
  box : Box w B [.slice l.aG l.given.length l.cG, .slice l.aW l.waits.length l.cW] 30
  own : l.own w lo w.heap.size
  off : B ∉ l.blocks
theorem LkAt.below {w w' : World} {lo B : Nat} {l : LocksA} (h : LkAt w lo B l) (hb : Below w.heap.size w w') : LkAt w' lo B l :=
  ⟨h.box.below hb h.box.lt, (h.own.below hb).widen (Nat.le_refl _) hb.size (Nat.le_refl _), h.off⟩
structure LkStep (w w' : World) (lo B : Nat) (l l' : LocksA) : Prop where
  now : LkAt w' lo B l'
  touch : Touch (B :: l.blocks) w w'
  fresh : ∀ k ∈ l'.blocks, k ∈ l.blocks ∨ w.heap.size ≤ k
theorem LkAt.same {w w' : World} {lo B : Nat} {l : LocksA} (h : LkAt w lo B l) (hb : Below w.heap.size w w') : LkStep w w' lo B l l := ⟨h.below hb, Touch.of_below hb, fun _ hk => .inl hk⟩
theorem LkStep.trans {w w1 w2 : World} {lo B : Nat} {l l1 l2 : LocksA} (h : LkStep w w1 lo B l l1) (k : LkStep w1 w2 lo B l1 l2) : LkStep w w2 lo B l l2 := by
  refine ⟨k.now, ⟨k.touch.os.trans h.touch.os, k.touch.tape.trans h.touch.tape, k.touch.output.trans h.touch.output, Nat.le_trans h.touch.size k.touch.size, fun i hi hn => ?_⟩, fun i hi => ?_⟩
  · rw [k.touch.block i (Nat.lt_of_lt_of_le hi h.touch.size) ?_]
    · exact h.touch.block i hi hn
    · intro hm
      rcases List.mem_cons.1 hm with e | e
      · exact hn (by rw [e]; exact List.mem_cons_self)
      · rcases h.fresh i e with e | e
        · exact hn (List.mem_cons_of_mem _ e)
        · omega
  · rcases k.fresh i hi with e | e
    · exact h.fresh i e
    · exact .inr (Nat.le_trans h.touch.size e)
theorem LkStep.below {w w1 w2 : World} {lo B : Nat} {l l1 : LocksA} (h : LkStep w w1 lo B l l1) (hb : Below w1.heap.size w1 w2) : LkStep w w2 lo B l l1 := h.trans (h.now.same hb)
theorem LkStep.size {w w' : World} {lo B : Nat} {l l' : LocksA} (h : LkStep w w' lo B l l') : w.heap.size ≤ w'.heap.size := h.touch.size
/-- A box that is none of theirs. -/
theorem LkStep.box {w w' : World} {lo B C : Nat} {l l' : LocksA} {vs : List Value} {t : TypeId} (h : LkStep w w' lo B l l') (b : Box w C vs t) (hC : C ≠ B) (hn : C ∉ l.blocks) : Box w' C vs t :=
  b.touch h.touch (fun hm => by
    rcases List.mem_cons.1 hm with e | e
    · exact hC e
    · exact hn e)
/-- What lies below them is as it was. -/
theorem LkStep.low {w w' : World} {lo B n : Nat} {l l' : LocksA} (h : LkStep w w' lo B l l') (h0 : LkAt w lo B l) (hB : n ≤ B) (hl : n ≤ lo) : Below n w w' :=
  ⟨h.touch.os, h.touch.tape, h.touch.output, h.touch.size, fun k hk => h.touch.block k (by have := h0.box.lt; omega) (fun hm => by
    rcases List.mem_cons.1 hm with e | e
    · omega
    · have := (h0.own.lt e).1; omega)⟩

/-- Given becomes another row. -/
theorem LkAt.setG {w w2 : World} {lo B : Nat} {l : LocksA} (h : LkAt w lo B l) {w1 : World} (hb : Below w.heap.size w w1) {a' : Option Addr} {c' : Nat} {ys : List GrantV} (ho : OwnG w2 lo w2.heap.size a' c' ys) (hg : w1.grownBy w2 (Value.slice l.aG l.given.length l.cG).ownBlock)
    (hk : ∀ k, (Value.slice a' ys.length c').ownBlock = some k → (Value.slice l.aG l.given.length l.cG).ownBlock = some k ∨ w.heap.size ≤ k) :
    (w2.cell? ⟨B, 0, none⟩ = some (.slice l.aG l.given.length l.cG) ∧ w2.frozen? ⟨B, 0, none⟩ = false) ∧ ∃ W, Hid (w2.setCell ⟨B, 0, none⟩ (.slice a' ys.length c') = W) ∧ LkStep w W lo B l ⟨ys, l.waits, a', c', l.aW, l.cW⟩ := by
  have h1 := h.below hb
  have hB1 := h1.box.lt
  have hnG : (Value.slice l.aG l.given.length l.cG).ownBlock ≠ some B := fun e => h.off (mem_blocksG e)
  have b2 : Box w2 B _ _ := h1.box.block (hg.block B hB1 (fun e => hnG e.symm))
  have hsz : w.heap.size ≤ w2.heap.size := Nat.le_trans hb.size hg.size
  have hBw := h.box.lt
  have oW2 : OwnG w2 lo w.heap.size l.aW l.cW l.waits := by
    have o1 := h.own.waits.below hb
    exact ⟨ownsRow_block o1.1 (fun k hk' => hg.block k (o1.1.lt k hk').2 (fun e => h.own.apart k e.symm hk')), hsz, o1.2.2⟩
  obtain ⟨W, hW, b3, hw3, hs3⟩ := box_set b2 0 (.slice a' ys.length c')
  simp only [List.set] at b3
  have hoB : ∀ k, (Value.slice a' ys.length c').ownBlock = some k → k ≠ B := fun k hk' e => by
    rcases hk k hk' with q | q
    · exact hnG (by rw [q, e])
    · omega
  have t3 : Touch [B] w2 W := ⟨hw3.os, hw3.tape, hw3.output, hw3.size, fun k hk' hn => hw3.block k hk' (by simp at hn; omega)⟩
  have oG3 := ho.touch t3 (fun k hk' hm => hoB k hk' (List.mem_singleton.1 hm))
  have oW3 := oW2.touch t3 (fun k hk' hm => h.off (by rw [← List.mem_singleton.1 hm]; exact mem_blocksW hk'))
  refine ⟨⟨b2.cell 0 _ rfl, b2.frozen 0⟩, W, hW, ⟨⟨b3, ⟨oG3.widen (Nat.le_refl _) (by omega) (Nat.le_refl _), oW3.widen (Nat.le_refl _) (by omega) (Nat.le_refl _), fun k hk' e => ?_⟩, ?_⟩, ?_, ?_⟩⟩
  · rcases hk k hk' with q | q
    · exact h.own.apart k q e
    · have := (h.own.waits.lt k e).2; omega
  · intro hm
    rcases blocks_cases hm with e | e
    · exact hoB B e rfl
    · exact h.off (mem_blocksW e)
  · refine ⟨t3.os.trans (hg.os.trans hb.os), t3.tape.trans (hg.tape.trans hb.tape), t3.output.trans (hg.output.trans hb.output), by omega, fun k hk' hn => ?_⟩
    rw [t3.block k (by omega) (fun hm => hn (by rw [List.mem_singleton.1 hm]; exact List.mem_cons_self)), hg.block k (by have := hb.size; omega) (fun e => hn (List.mem_cons_of_mem _ (mem_blocksG e.symm)))]
    exact hb.block k hk'
  · intro k hk'
    rcases blocks_cases hk' with e | e
    · rcases hk k e with q | q
      · exact .inl (mem_blocksG q)
      · exact .inr q
    · exact .inl (mem_blocksW e)
/-- Waits becomes another row. -/
theorem LkAt.setW {w w2 : World} {lo B : Nat} {l : LocksA} (h : LkAt w lo B l) {w1 : World} (hb : Below w.heap.size w w1) {a' : Option Addr} {c' : Nat} {ys : List GrantV} (ho : OwnG w2 lo w2.heap.size a' c' ys) (hg : w1.grownBy w2 (Value.slice l.aW l.waits.length l.cW).ownBlock)
    (hk : ∀ k, (Value.slice a' ys.length c').ownBlock = some k → (Value.slice l.aW l.waits.length l.cW).ownBlock = some k ∨ w.heap.size ≤ k) :
    (w2.cell? ⟨B, 1, none⟩ = some (.slice l.aW l.waits.length l.cW) ∧ w2.frozen? ⟨B, 1, none⟩ = false) ∧ ∃ W, Hid (w2.setCell ⟨B, 1, none⟩ (.slice a' ys.length c') = W) ∧ LkStep w W lo B l ⟨l.given, ys, l.aG, l.cG, a', c'⟩ := by
  have h1 := h.below hb
  have hB1 := h1.box.lt
  have hnG : (Value.slice l.aW l.waits.length l.cW).ownBlock ≠ some B := fun e => h.off (mem_blocksW e)
  have b2 : Box w2 B _ _ := h1.box.block (hg.block B hB1 (fun e => hnG e.symm))
  have hsz : w.heap.size ≤ w2.heap.size := Nat.le_trans hb.size hg.size
  have hBw := h.box.lt
  have oW2 : OwnG w2 lo w.heap.size l.aG l.cG l.given := by
    have o1 := h.own.given.below hb
    exact ⟨ownsRow_block o1.1 (fun k hk' => hg.block k (o1.1.lt k hk').2 (fun e => h.own.apart k hk' e.symm)), hsz, o1.2.2⟩
  obtain ⟨W, hW, b3, hw3, hs3⟩ := box_set b2 1 (.slice a' ys.length c')
  simp only [List.set] at b3
  have hoB : ∀ k, (Value.slice a' ys.length c').ownBlock = some k → k ≠ B := fun k hk' e => by
    rcases hk k hk' with q | q
    · exact hnG (by rw [q, e])
    · omega
  have t3 : Touch [B] w2 W := ⟨hw3.os, hw3.tape, hw3.output, hw3.size, fun k hk' hn => hw3.block k hk' (by simp at hn; omega)⟩
  have oG3 := ho.touch t3 (fun k hk' hm => hoB k hk' (List.mem_singleton.1 hm))
  have oW3 := oW2.touch t3 (fun k hk' hm => h.off (by rw [← List.mem_singleton.1 hm]; exact mem_blocksG hk'))
  refine ⟨⟨b2.cell 1 _ rfl, b2.frozen 1⟩, W, hW, ⟨⟨b3, ⟨oW3.widen (Nat.le_refl _) (by omega) (Nat.le_refl _), oG3.widen (Nat.le_refl _) (by omega) (Nat.le_refl _), fun k e hk' => ?_⟩, ?_⟩, ?_, ?_⟩⟩
  · rcases hk k hk' with q | q
    · exact h.own.apart k e q
    · have := (h.own.given.lt k e).2; omega
  · intro hm
    rcases blocks_cases hm with e | e
    · exact h.off (mem_blocksG e)
    · exact hoB B e rfl
  · refine ⟨t3.os.trans (hg.os.trans hb.os), t3.tape.trans (hg.tape.trans hb.tape), t3.output.trans (hg.output.trans hb.output), by omega, fun k hk' hn => ?_⟩
    rw [t3.block k (by omega) (fun hm => hn (by rw [List.mem_singleton.1 hm]; exact List.mem_cons_self)), hg.block k (by have := hb.size; omega) (fun e => hn (List.mem_cons_of_mem _ (mem_blocksW e.symm)))]
    exact hb.block k hk'
  · intro k hk'
    rcases blocks_cases hk' with e | e
    · exact .inl (mem_blocksG e)
    · rcases hk k e with q | q
      · exact .inl (mem_blocksW q)
      · exact .inr q
/-- One of Given is stored, in its place. -/
theorem LkAt.putG {w W : World} {lo B : Nat} {l : LocksA} (h : LkAt w lo B l) {ys : List GrantV} (hl : ys.length = l.given.length) (ho : W.ownsRow lo 37 3 (.slice l.aG l.given.length l.cG) l.given.length (cellsG ys)) (hg : w.grownBy W (Value.slice l.aG l.given.length l.cG).ownBlock) :
    LkStep w W lo B l ⟨ys, l.waits, l.aG, l.cG, l.aW, l.cW⟩ := by
  have hnG : (Value.slice l.aG l.given.length l.cG).ownBlock ≠ some B := fun e => h.off (mem_blocksG e)
  have eb : LocksA.blocks ⟨ys, l.waits, l.aG, l.cG, l.aW, l.cW⟩ = l.blocks := by simp only [LocksA.blocks, hl]
  refine ⟨⟨?_, ⟨⟨by rw [hl]; exact ho, Nat.le_refl _, fun k hk => ?_⟩, ⟨ownsRow_block h.own.waits.1 (fun k hk => hg.block k (h.own.waits.1.lt k hk).2 (fun e => h.own.apart k e.symm hk)), Nat.le_refl _, fun k hk => ?_⟩, ?_⟩, by rw [eb]; exact h.off⟩, Touch.of_grown hg (fun k hk => List.mem_cons_of_mem _ (mem_blocksG hk)), fun k hk => .inl (by rw [eb] at hk; exact hk)⟩
  · show Box W B [.slice l.aG ys.length l.cG, _] _
    rw [hl]
    exact h.box.block (hg.block B h.box.lt (fun e => hnG e.symm))
  · have hk' : (Value.slice l.aG l.given.length l.cG).ownBlock = some k := by
      have e : (Value.slice l.aG ys.length l.cG).ownBlock = some k := hk
      rw [hl] at e; exact e
    exact Nat.lt_of_lt_of_le (h.own.given.lt k hk').2 hg.size
  · exact Nat.lt_of_lt_of_le (h.own.waits.lt k hk).2 hg.size
  · intro k hk
    have e : (Value.slice l.aG ys.length l.cG).ownBlock = some k := hk
    rw [hl] at e
    exact h.own.apart k e
theorem row_modeG {w : World} {base g n cap : Nat} {ls : List GrantV} (h : w.ownsRow base 37 3 (.slice (some ⟨g, 0, none⟩) n cap) n (cellsG ls)) (hn : ls.length = n) (k : Nat) (hk : k < n) (m : Int) :
    ∃ W, Hid (w.setCell ⟨g, k * 3 + 2, none⟩ (.int .i64 m) = W) ∧ W.ownsRow base 37 3 (.slice (some ⟨g, 0, none⟩) n cap) n (cellsG (ls.set k ⟨(ls.getD k zeroG).tx, (ls.getD k zeroG).res, m⟩)) ∧ w.grownBy W (some g) := by
  have s := h.stored (k * 3 + 2) (.int .i64 m)
  refine ⟨_, rfl, ?_, s.2⟩
  have e := cellsG_set ls k (by omega) ⟨(ls.getD k zeroG).tx, (ls.getD k zeroG).res, m⟩
  have a0 := cellsG_at ls k 0 (by omega) (by omega)
  have a1 := cellsG_at ls k 1 (by omega) (by omega)
  simp only [GrantV.cells, Nat.add_zero, List.getElem?_cons_zero, List.getElem?_cons_succ] at a0 a1
  have e0 : (cellsG ls).set (k * 3) (.int .i64 (ls.getD k zeroG).tx) = cellsG ls := by
    obtain ⟨h1, h2⟩ := List.getElem?_eq_some_iff.1 a0
    rw [← h2]; exact List.set_getElem_self h1
  have e1 : (cellsG ls).set (k * 3 + 1) (.int .i64 (ls.getD k zeroG).res) = cellsG ls := by
    obtain ⟨h1, h2⟩ := List.getElem?_eq_some_iff.1 a1
    rw [← h2]; exact List.set_getElem_self h1
  simp only [e0, e1] at e
  rw [← e]
  exact s.1
end Go.Proofs.YtekljhabjkmhpaaDoor

/- Who waits for whom, and who comes back to itself. -/
namespace Go.Proofs.YtekljhabjkmhpaaDoor

def hasZ (G : List GrantV) (tx res : Int) : Int := if 0 ≤ placeZ (atB tx res) G then (G.getD (placeZ (atB tx res) G).toNat zeroG).mode else 0
def wouldZ (G : List GrantV) (g : GrantV) : Int := if 0 ≤ placeZ (atB g.tx g.res) G then bothZ g.mode (G.getD (placeZ (atB g.tx g.res) G).toNat zeroG).mode else g.mode
def wouldS (G : List GrantV) (g : GrantV) : Int := if hasZ G g.tx g.res = 0 then g.mode else bothZ (hasZ G g.tx g.res) g.mode
/-- All modes are modes. -/
def ModesOk (G : List GrantV) : Prop := ∀ g ∈ G, modeB g.mode = true
theorem mem_getD {α : Type} {ls : List α} {k : Nat} (h : k < ls.length) (z : α) : ls.getD k z ∈ ls := by simp [List.getD, h]
theorem would_same {G : List GrantV} (hG : ModesOk G) (g : GrantV) : wouldS G g = wouldZ G g := by
  unfold wouldS wouldZ hasZ
  by_cases h : 0 ≤ placeZ (atB g.tx g.res) G
  · obtain ⟨k, hk, e⟩ := placeZ_lt h
    have hm := hG _ (mem_getD hk zeroG)
    rw [if_pos h, if_pos h, e, Int.toNat_natCast, if_neg, bothZ_symm]
    have := (modeB_iff _).1 hm
    omega
  · rw [if_neg h, if_neg h, if_pos rfl]
theorem grantB_out {g : GrantV} (h : grantB g = true) : (1 ≤ g.tx ∧ g.tx ≤ 99) ∧ (0 ≤ g.res ∧ g.res ≤ 99) ∧ modeB g.mode = true := by
  simp only [grantB, inB, Bool.and_eq_true, decide_eq_true_eq] at h
  exact ⟨h.1, h.2.1, h.2.2⟩
theorem getD_of_mem {α : Type} {ls : List α} {x : α} (z : α) (h : x ∈ ls) : ∃ k, k < ls.length ∧ ls.getD k z = x := by
  obtain ⟨k, hk, rfl⟩ := List.getElem_of_mem h
  exact ⟨k, hk, by simp [List.getD, hk]⟩
end Go.Proofs.YtekljhabjkmhpaaDoor
