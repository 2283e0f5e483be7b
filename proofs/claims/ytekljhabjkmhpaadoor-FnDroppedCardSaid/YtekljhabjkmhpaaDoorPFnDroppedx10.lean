/- Several texts in one, in their order. -/
import Derived.Test.YtekljhabjkmhpaaDoorPFnDroppedx8
import Derived.Test.YtekljhabjkmhpaaDoorPFnDroppedx9
import Derived.Deep.QuietTactic
import Derived.Deep.Cut
import Derived.Deep.RegionHeld
/- Locks that lie in a box of the call: what a step of them changes. -/
namespace Go.Proofs.YtekljhabjkmhpaaDoor
open Go.RowKit

def LocksA.blocks (l : LocksA) : List Nat := (Value.slice l.aG l.given.length l.cG).ownBlock.toList ++ (Value.slice l.aW l.waits.length l.cW).ownBlock.toList
theorem mem_blocksG {l : LocksA} {k : Nat} (h : (Value.slice l.aG l.given.length l.cG).ownBlock = some k) : k ∈ l.blocks := List.mem_append.2 (.inl (Option.mem_toList.2 h))
theorem mem_blocksW {l : LocksA} {k : Nat} (h : (Value.slice l.aW l.waits.length l.cW).ownBlock = some k) : k ∈ l.blocks := List.mem_append.2 (.inr (Option.mem_toList.2 h))
theorem blocks_cases {l : LocksA} {k : Nat} (h : k ∈ l.blocks) : (Value.slice l.aG l.given.length l.cG).ownBlock = some k ∨ (Value.slice l.aW l.waits.length l.cW).ownBlock = some k := by
  rcases List.mem_append.1 h with h | h
  · exact .inl (Option.mem_toList.1 h)
  · exact .inr (Option.mem_toList.1 h)
theorem LocksA.own.lt {w : World} {lo hi : Nat} {l : LocksA} (h : l.own w lo hi) {k : Nat} (hk : k ∈ l.blocks) : lo ≤ k ∧ k < hi := by
  rcases blocks_cases hk with e | e
  · exact h.given.lt k e
  · exact h.waits.lt k e
theorem LocksA.own.touch {w w' : World} {lo hi : Nat} {l : LocksA} {bl : List Nat} (h : l.own w lo hi) (ht : Touch bl w w') (hd : ∀ k ∈ l.blocks, k ∉ bl) : l.own w' lo hi :=
  ⟨h.given.touch ht (fun k hk => hd k (mem_blocksG hk)), h.waits.touch ht (fun k hk => hd k (mem_blocksW hk)), h.apart⟩

structure LkAt (w : World) (lo B : Nat) (l : LocksA) : Prop where
  box : Box w B [.slice l.aG l.given.length l.cG, .slice l.aW l.waits.length l.cW] 30
  own : l.own w lo w.heap.size
  off : B ∉ l.blocks
theorem LkAt.below {w w' : World} {lo B : Nat} {l : LocksA} (h : LkAt w lo B l) (hb : Below w.heap.size w w') : LkAt w' lo B l :=
  ⟨h.box.below hb h.box.lt, (h.own.below hb).widen (Nat.le_refl _) hb.size (Nat.le_refl _), h.off⟩
structure LkStep (w w' : World) (lo B : Nat) (l l' : LocksA) : Prop where
  now : LkAt w' lo B l'
  touch : Touch (B :: l.blocks) w w'
  fresh : ∀ k ∈ l'.blocks, k ∈ l.blocks ∨ w.heap.size ≤ k
theorem LkAt.same {w w' : World} {lo B : Nat} {l : LocksA} (h : LkAt w lo B l) (hb : Below w.heap.size w w') : LkStep w w' lo B l l := ⟨h.below hb, Touch.of_below hb, fun _ hk => .inl hk⟩
theorem LkStep.trans {w w1 w2 : World} {lo B : Nat} {l l1 l2 : LocksA} (h : LkStep w w1 lo B l l1) (k : LkStep w1 w2 lo B l1 l2) : LkStep w w2 lo B l l2 := by
  refine ⟨k.now, ⟨k.touch.os.trans h.touch.os, k.touch.tape.trans h.touch.tape, k.touch.output.trans h.touch.output, Nat.le_trans h.touch.size k.touch.size, fun i hi hn => ?_⟩, fun i hi => ?_⟩
  · rw [k.touch.block i (Nat.lt_of_lt_of_le hi h.touch.size) ?_]
    · exact h.touch.block i hi hn
    · intro hm
      rcases List.mem_cons.1 hm with e | e
      · exact hn (by rw [e]; exact List.mem_cons_self)
      · rcases h.fresh i e with e | e
        · exact hn (List.mem_cons_of_mem _ e)
        · omega
  · rcases k.fresh i hi with e | e
    · exact h.fresh i e
    · exact .inr (Nat.le_trans h.touch.size e)
theorem LkStep.below {w w1 w2 : World} {lo B : Nat} {l l1 : LocksA} (h : LkStep w w1 lo B l l1) (hb : Below w1.heap.size w1 w2) : LkStep w w2 lo B l l1 := h.trans (h.now.same hb)
theorem LkStep.size {w w' : World} {lo B : Nat} {l l' : LocksA} (h : LkStep w w' lo B l l') : w.heap.size ≤ w'.heap.size := h.touch.size
/-- A box that is none of theirs. -/
theorem LkStep.box {w w' : World} {lo B C : Nat} {l l' : LocksA} {vs : List Value} {t : TypeId} (h : LkStep w w' lo B l l') (b : Box w C vs t) (hC : C ≠ B) (hn : C ∉ l.blocks) : Box w' C vs t :=
  b.touch h.touch (fun hm => by
    rcases List.mem_cons.1 hm with e | e
    · exact hC e
    · exact hn e)
/-- What lies below them is as it was. -/
theorem LkStep.low {w w' : World} {lo B n : Nat} {l l' : LocksA} (h : LkStep w w' lo B l l') (h0 : LkAt w lo B l) (hB : n ≤ B) (hl : n ≤ lo) : Below n w w' :=
  ⟨h.touch.os, h.touch.tape, h.touch.output, h.touch.size, fun k hk => h.touch.block k (by have := h0.box.lt; omega) (fun hm => by
    rcases List.mem_cons.1 hm with e | e
    · omega
    · have := (h0.own.lt e).1; omega)⟩

/-- Given becomes another row. -/
theorem LkAt.setG {w w2 : World} {lo B : Nat} {l : LocksA} (h : LkAt w lo B l) {w1 : World} (hb : Below w.heap.size w w1) {a' : Option Addr} {c' : Nat} {ys : List GrantV} (ho : OwnG w2 lo w2.heap.size a' c' ys) (hg : w1.grownBy w2 (Value.slice l.aG l.given.length l.cG).ownBlock)
    (hk : ∀ k, (Value.slice a' ys.length c').ownBlock = some k → (Value.slice l.aG l.given.length l.cG).ownBlock = some k ∨ w.heap.size ≤ k) :
    (w2.cell? ⟨B, 0, none⟩ = some (.slice l.aG l.given.length l.cG) ∧ w2.frozen? ⟨B, 0, none⟩ = false) ∧ ∃ W, Hid (w2.setCell ⟨B, 0, none⟩ (.slice a' ys.length c') = W) ∧ LkStep w W lo B l ⟨ys, l.waits, a', c', l.aW, l.cW⟩ := by
  have h1 := h.below hb
  have hB1 := h1.box.lt
  have hnG : (Value.slice l.aG l.given.length l.cG).ownBlock ≠ some B := fun e => h.off (mem_blocksG e)
  have b2 : Box w2 B _ _ := h1.box.block (hg.block B hB1 (fun e => hnG e.symm))
  have hsz : w.heap.size ≤ w2.heap.size := Nat.le_trans hb.size hg.size
  have hBw := h.box.lt
  have oW2 : OwnG w2 lo w.heap.size l.aW l.cW l.waits := by
    have o1 := h.own.waits.below hb
    exact ⟨ownsRow_block o1.1 (fun k hk' => hg.block k (o1.1.lt k hk').2 (fun e => h.own.apart k e.symm hk')), hsz, o1.2.2⟩
  obtain ⟨W, hW, b3, hw3, hs3⟩ := box_set b2 0 (.slice a' ys.length c')
  simp only [List.set] at b3
  have hoB : ∀ k, (Value.slice a' ys.length c').ownBlock = some k → k ≠ B := fun k hk' e => by
    rcases hk k hk' with q | q
    · exact hnG (by rw [q, e])
    · omega
  have t3 : Touch [B] w2 W := ⟨hw3.os, hw3.tape, hw3.output, hw3.size, fun k hk' hn => hw3.block k hk' (by simp at hn; omega)⟩
  have oG3 := ho.touch t3 (fun k hk' hm => hoB k hk' (List.mem_singleton.1 hm))
  have oW3 := oW2.touch t3 (fun k hk' hm => h.off (by rw [← List.mem_singleton.1 hm]; exact mem_blocksW hk'))
  refine ⟨⟨b2.cell 0 _ rfl, b2.frozen 0⟩, W, hW, ⟨⟨b3, ⟨oG3.widen (Nat.le_refl _) (by omega) (Nat.le_refl _), oW3.widen (Nat.le_refl _) (by omega) (Nat.le_refl _), fun k hk' e => ?_⟩, ?_⟩, ?_, ?_⟩⟩
  · rcases hk k hk' with q | q
    · exact h.own.apart k q e
    · have := (h.own.waits.lt k e).2; omega
  · intro hm
    rcases blocks_cases hm with e | e
    · exact hoB B e rfl
    · exact h.off (mem_blocksW e)
  · refine ⟨t3.os.trans (hg.os.trans hb.os), t3.tape.trans (hg.tape.trans hb.tape), t3.output.trans (hg.output.trans hb.output), by omega, fun k hk' hn => ?_⟩
    rw [t3.block k (by omega) (fun hm => hn (by rw [List.mem_singleton.1 hm]; exact List.mem_cons_self)), hg.block k (by have := hb.size; omega) (fun e => hn (List.mem_cons_of_mem _ (mem_blocksG e.symm)))]
    exact hb.block k hk'
  · intro k hk'
    rcases blocks_cases hk' with e | e
    · rcases hk k e with q | q
      · exact .inl (mem_blocksG q)
      · exact .inr q
    · exact .inl (mem_blocksW e)
/-- Waits becomes another row. -/
theorem LkAt.setW {w w2 : World} {lo B : Nat} {l : LocksA} (h : LkAt w lo B l) {w1 : World} (hb : Below w.heap.size w w1) {a' : Option Addr} {c' : Nat} {ys : List GrantV} (ho : OwnG w2 lo w2.heap.size a' c' ys) (hg : w1.grownBy w2 (Value.slice l.aW l.waits.length l.cW).ownBlock)
    (hk : ∀ k, (Value.slice a' ys.length c').ownBlock = some k → (Value.slice l.aW l.waits.length l.cW).ownBlock = some k ∨ w.heap.size ≤ k) :
    (w2.cell? ⟨B, 1, none⟩ = some (.slice l.aW l.waits.length l.cW) ∧ w2.frozen? ⟨B, 1, none⟩ = false) ∧ ∃ W, Hid (w2.setCell ⟨B, 1, none⟩ (.slice a' ys.length c') = W) ∧ LkStep w W lo B l ⟨l.given, ys, l.aG, l.cG, a', c'⟩ := by
  have h1 := h.below hb
  have hB1 := h1.box.lt
  have hnG : (Value.slice l.aW l.waits.length l.cW).ownBlock ≠ some B := fun e => h.off (mem_blocksW e)
  have b2 : Box w2 B _ _ := h1.box.block (hg.block B hB1 (fun e => hnG e.symm))
  have hsz : w.heap.size ≤ w2.heap.size := Nat.le_trans hb.size hg.size
  have hBw := h.box.lt
  have oW2 : OwnG w2 lo w.heap.size l.aG l.cG l.given := by
    have o1 := h.own.given.below hb
    exact ⟨ownsRow_block o1.1 (fun k hk' => hg.block k (o1.1.lt k hk').2 (fun e => h.own.apart k hk' e.symm)), hsz, o1.2.2⟩
  obtain ⟨W, hW, b3, hw3, hs3⟩ := box_set b2 1 (.slice a' ys.length c')
  simp only [List.set] at b3
  have hoB : ∀ k, (Value.slice a' ys.length c').ownBlock = some k → k ≠ B := fun k hk' e => by
    rcases hk k hk' with q | q
    · exact hnG (by rw [q, e])
    · omega
  have t3 : Touch [B] w2 W := ⟨hw3.os, hw3.tape, hw3.output, hw3.size, fun k hk' hn => hw3.block k hk' (by simp at hn; omega)⟩
  have oG3 := ho.touch t3 (fun k hk' hm => hoB k hk' (List.mem_singleton.1 hm))
  have oW3 := oW2.touch t3 (fun k hk' hm => h.off (by rw [← List.mem_singleton.1 hm]; exact mem_blocksG hk'))
  refine ⟨⟨b2.cell 1 _ rfl, b2.frozen 1⟩, W, hW, ⟨⟨b3, ⟨oW3.widen (Nat.le_refl _) (by omega) (Nat.le_refl _), oG3.widen (Nat.le_refl _) (by omega) (Nat.le_refl _), fun k e hk' => ?_⟩, ?_⟩, ?_, ?_⟩⟩
  · rcases hk k hk' with q | q
    · exact h.own.apart k e q
    · have := (h.own.given.lt k e).2; omega
  · intro hm
    rcases blocks_cases hm with e | e
    · exact h.off (mem_blocksG e)
    · exact hoB B e rfl
  · refine ⟨t3.os.trans (hg.os.trans hb.os), t3.tape.trans (hg.tape.trans hb.tape), t3.output.trans (hg.output.trans hb.output), by omega, fun k hk' hn => ?_⟩
    rw [t3.block k (by omega) (fun hm => hn (by rw [List.mem_singleton.1 hm]; exact List.mem_cons_self)), hg.block k (by have := hb.size; omega) (fun e => hn (List.mem_cons_of_mem _ (mem_blocksW e.symm)))]
    exact hb.block k hk'
  · intro k hk'
    rcases blocks_cases hk' with e | e
    · exact .inl (mem_blocksG e)
    · rcases hk k e with q | q
      · exact .inl (mem_blocksW q)
      · exact .inr q
/-- One of Given is stored, in its place. -/
theorem LkAt.putG {w W : World} {lo B : Nat} {l : LocksA} (h : LkAt w lo B l) {ys : List GrantV} (hl : ys.length = l.given.length) (ho : W.ownsRow lo 37 3 (.slice l.aG l.given.length l.cG) l.given.length (cellsG ys)) (hg : w.grownBy W (Value.slice l.aG l.given.length l.cG).ownBlock) :
    LkStep w W lo B l ⟨ys, l.waits, l.aG, l.cG, l.aW, l.cW⟩ := by
  have hnG : (Value.slice l.aG l.given.length l.cG).ownBlock ≠ some B := fun e => h.off (mem_blocksG e)
  have eb : LocksA.blocks ⟨ys, l.waits, l.aG, l.cG, l.aW, l.cW⟩ = l.blocks := by simp only [LocksA.blocks, hl]
  refine ⟨⟨?_, ⟨⟨by rw [hl]; exact ho, Nat.le_refl _, fun k hk => ?_⟩, ⟨ownsRow_block h.own.waits.1 (fun k hk => hg.block k (h.own.waits.1.lt k hk).2 (fun e => h.own.apart k e.symm hk)), Nat.le_refl _, fun k hk => ?_⟩, ?_⟩, by rw [eb]; exact h.off⟩, Touch.of_grown hg (fun k hk => List.mem_cons_of_mem _ (mem_blocksG hk)), fun k hk => .inl (by rw [eb] at hk; exact hk)⟩
  · show Box W B [.slice l.aG ys.length l.cG, _] _
    rw [hl]
    exact h.box.block (hg.block B h.box.lt (fun e => hnG e.symm))
  · have hk' : (Value.slice l.aG l.given.length l.cG).ownBlock = some k := by
      have e : (Value.slice l.aG ys.length l.cG).ownBlock = some k := hk
      rw [hl] at e; exact e
    exact Nat.lt_of_lt_of_le (h.own.given.lt k hk').2 hg.size
  · exact Nat.lt_of_lt_of_le (h.own.waits.lt k hk).2 hg.size
  · intro k hk
    have e : (Value.slice l.aG ys.length l.cG).ownBlock = some k := hk
    rw [hl] at e
    exact h.own.apart k e
theorem row_modeG {w : World} {base g n cap : Nat} {ls : List GrantV} (h : w.ownsRow base 37 3 (.slice (some ⟨g, 0, none⟩) n cap) n (cellsG ls)) (hn : ls.length = n) (k : Nat) (hk : k < n) (m : Int) :
    ∃ W, Hid (w.setCell ⟨g, k * 3 + 2, none⟩ (.int .i64 m) = W) ∧ W.ownsRow base 37 3 (.slice (some ⟨g, 0, none⟩) n cap) n (cellsG (ls.set k ⟨(ls.getD k zeroG).tx, (ls.getD k zeroG).res, m⟩)) ∧ w.grownBy W (some g) := by
  have s := h.stored (k * 3 + 2) (.int .i64 m)
  refine ⟨_, rfl, ?_, s.2⟩
  have e := cellsG_set ls k (by omega) ⟨(ls.getD k zeroG).tx, (ls.getD k zeroG).res, m⟩
  have a0 := cellsG_at ls k 0 (by omega) (by omega)
  have a1 := cellsG_at ls k 1 (by omega) (by omega)
  simp only [GrantV.cells, Nat.add_zero, List.getElem?_cons_zero, List.getElem?_cons_succ] at a0 a1
  have e0 : (cellsG ls).set (k * 3) (.int .i64 (ls.getD k zeroG).tx) = cellsG ls := by
    obtain ⟨h1, h2⟩ := List.getElem?_eq_some_iff.1 a0
    rw [← h2]; exact List.set_getElem_self h1
  have e1 : (cellsG ls).set (k * 3 + 1) (.int .i64 (ls.getD k zeroG).res) = cellsG ls := by
    obtain ⟨h1, h2⟩ := List.getElem?_eq_some_iff.1 a1
    rw [← h2]; exact List.set_getElem_self h1
  simp only [e0, e1] at e
  rw [← e]
  exact s.1
end Go.Proofs.YtekljhabjkmhpaaDoor

/- Who waits for whom, and who comes back to itself. -/
namespace Go.Proofs.YtekljhabjkmhpaaDoor

def hasZ (G : List GrantV) (tx res : Int) : Int := if 0 ≤ placeZ (atB tx res) G then (G.getD (placeZ (atB tx res) G).toNat zeroG).mode else 0
def wouldZ (G : List GrantV) (g : GrantV) : Int := if 0 ≤ placeZ (atB g.tx g.res) G then bothZ g.mode (G.getD (placeZ (atB g.tx g.res) G).toNat zeroG).mode else g.mode
def wouldS (G : List GrantV) (g : GrantV) : Int := if hasZ G g.tx g.res = 0 then g.mode else bothZ (hasZ G g.tx g.res) g.mode
/-- All modes are modes. -/
def ModesOk (G : List GrantV) : Prop := ∀ g ∈ G, modeB g.mode = true
theorem mem_getD {α : Type} {ls : List α} {k : Nat} (h : k < ls.length) (z : α) : ls.getD k z ∈ ls := by simp [List.getD, h]
theorem would_same {G : List GrantV} (hG : ModesOk G) (g : GrantV) : wouldS G g = wouldZ G g := by
  unfold wouldS wouldZ hasZ
  by_cases h : 0 ≤ placeZ (atB g.tx g.res) G
  · obtain ⟨k, hk, e⟩ := placeZ_lt h
    have hm := hG _ (mem_getD hk zeroG)
    rw [if_pos h, if_pos h, e, Int.toNat_natCast, if_neg, bothZ_symm]
    have := (modeB_iff _).1 hm
    omega
  · rw [if_neg h, if_neg h, if_pos rfl]
def wouldG (G : List GrantV) (g : GrantV) : GrantV := ⟨g.tx, g.res, wouldZ G g⟩
/-- Whom the one at place k waits for. -/
def forL (G V : List GrantV) (k : Nat) : List Int := (G.filter (barsB (wouldG G (V.getD k zeroG)))).map (·.tx) ++ ((V.take k).filter (fun h => h.res == (V.getD k zeroG).res)).map (·.tx)

theorem filter_step {α β : Type} (p : α → Bool) (f : α → β) (ls : List α) (z : α) (k : Nat) (h : k < ls.length) : ((ls.take (k + 1)).filter p).map f = if p (ls.getD k z) = true then ((ls.take k).filter p).map f ++ [f (ls.getD k z)] else ((ls.take k).filter p).map f := by
  rw [take_step ls z k h, List.filter_append, List.map_append]
  by_cases hp : p (ls.getD k z) = true
  · rw [if_pos hp, List.filter_cons_of_pos hp]; rfl
  · rw [if_neg hp, List.filter_cons_of_neg hp]; simp
inductive ReachE (R : Int → Int → Prop) (x : Int) : Int → Prop where
  | refl : ReachE R x x
  | step {y z : Int} : ReachE R x y → R y z → ReachE R x z
/-- One comes back to itself. -/
def BackE (R : Int → Int → Prop) (x : Int) : Prop := ∃ y, ReachE R x y ∧ R y x
theorem back_none {R : Int → Int → Prop} {x : Int} (S : Int → Prop) (h0 : S x) (h : ∀ y, S y → ∀ z, R y z → S z ∧ z ≠ x) : ¬ BackE R x := by
  rintro ⟨y, hy, hr⟩
  have : S y := by
    clear hr
    induction hy with
    | refl => exact h0
    | step _ hr' ih => exact (h _ ih _ hr').1
  exact (h y this x hr).2 rfl
theorem reach_first {R : Int → Int → Prop} {x y : Int} (h : ReachE R x y) : y = x ∨ ∃ z, R x z := by
  induction h with
  | refl => exact .inl rfl
  | step h hr ih =>
    rcases ih with rfl | hz
    · exact .inr ⟨_, hr⟩
    · exact .inr hz
theorem back_first {R : Int → Int → Prop} {x : Int} (h : BackE R x) : ∃ z, R x z := by
  obtain ⟨y, hy, hr⟩ := h
  rcases reach_first hy with rfl | hz
  · exact ⟨_, hr⟩
  · exact hz
theorem back_congr {R R' : Int → Int → Prop} (h : ∀ x y, R x y ↔ R' x y) (x : Int) : BackE R x ↔ BackE R' x := by
  have e : R = R' := by funext a b; exact propext (h a b)
  rw [e]

def EdgeL (G V : List GrantV) (x y : Int) : Prop := ∃ k, k < V.length ∧ (V.getD k zeroG).tx = x ∧ y ∈ forL G V k
theorem edge_from {G V : List GrantV} {x y : Int} (h : EdgeL G V x y) : ∃ k, k < V.length ∧ (V.getD k zeroG).tx = x := by
  obtain ⟨k, hk, e, _⟩ := h
  exact ⟨k, hk, e⟩

/-- The greatest that comes back to itself; 0: none does. -/
def StuckIs (G V : List GrantV) (s : Int) : Prop := (s = 0 ∨ (1 ≤ s ∧ s ≤ 99 ∧ BackE (EdgeL G V) s)) ∧ ∀ x, s < x → x ≤ 99 → ¬ BackE (EdgeL G V) x
theorem stuck_one {G V : List GrantV} {s t : Int} (h : StuckIs G V s) (k : StuckIs G V t) (h0 : 0 ≤ s ∧ 0 ≤ t) : s = t := by
  rcases Int.lt_trichotomy s t with e | e | e
  · rcases k.1 with e' | ⟨k1, k2, k3⟩
    · omega
    · exact absurd k3 (h.2 t e k2)
  · exact e
  · rcases h.1 with e' | ⟨k1, k2, k3⟩
    · omega
    · exact absurd k3 (k.2 s e k2)

/-- Locks that are right: what of it the waits need. -/
structure Right (G V : List GrantV) : Prop where
  modes : ModesOk G
  gtx : ∀ g ∈ G, 1 ≤ g.tx ∧ g.tx ≤ 99
  wtx : ∀ g ∈ V, 1 ≤ g.tx ∧ g.tx ≤ 99
  once : ∀ i j, i < V.length → j < V.length → (V.getD i zeroG).tx = (V.getD j zeroG).tx → i = j
  lg : G.length ≤ 60
  lw : V.length ≤ 60
theorem grantB_out {g : GrantV} (h : grantB g = true) : (1 ≤ g.tx ∧ g.tx ≤ 99) ∧ (0 ≤ g.res ∧ g.res ≤ 99) ∧ modeB g.mode = true := by
  simp only [grantB, inB, Bool.and_eq_true, decide_eq_true_eq] at h
  exact ⟨h.1, h.2.1, h.2.2⟩
theorem getD_of_mem {α : Type} {ls : List α} {x : α} (z : α) (h : x ∈ ls) : ∃ k, k < ls.length ∧ ls.getD k z = x := by
  obtain ⟨k, hk, rfl⟩ := List.getElem_of_mem h
  exact ⟨k, hk, by simp [List.getD, hk]⟩
theorem right_of {G V : List GrantV} (h : okLocks G V = true) : Right G V := by
  obtain ⟨h1, h2, h3, h4⟩ := okLocks_out h
  have g3 : ∀ g ∈ G, grantB g = true := fun g hg => by
    obtain ⟨k, hk, rfl⟩ := getD_of_mem zeroG hg
    have := h3 k hk
    simp only [givenAt, Bool.and_eq_true] at this
    exact this.1
  have g4 : ∀ g ∈ V, grantB g = true := fun g hg => by
    obtain ⟨k, hk, rfl⟩ := getD_of_mem zeroG hg
    have := h4 k hk
    simp only [waitAt, Bool.and_eq_true] at this
    exact this.1
  have lt : ∀ i j, i < j → j < V.length → (V.getD i zeroG).tx ≠ (V.getD j zeroG).tx := fun i j hij hj e => by
    have := h4 j hj
    simp only [waitAt, Bool.and_eq_true, Bool.not_eq_true'] at this
    have h5 := List.any_eq_false.1 this.2 (V.getD i zeroG) (by
      have : (V.take j).getD i zeroG = V.getD i zeroG := by simp [List.getD, hij]
      rw [← this]; exact mem_getD (by rw [List.length_take]; omega) _)
    exact h5 (by rw [e]; simp)
  refine ⟨fun g hg => (grantB_out (g3 g hg)).2.2, fun g hg => (grantB_out (g3 g hg)).1, fun g hg => (grantB_out (g4 g hg)).1, fun i j hi hj e => ?_, h1, h2⟩
  rcases Nat.lt_trichotomy i j with h | h | h
  · exact absurd e (lt i j h hj)
  · exact h
  · exact absurd e.symm (lt j i h hi)
theorem forL_in {G V : List GrantV} (h : Right G V) (k : Nat) : ∀ y ∈ forL G V k, 1 ≤ y ∧ y ≤ 99 := by
  intro y hy
  simp only [forL, List.mem_append, List.mem_map, List.mem_filter] at hy
  rcases hy with ⟨g, ⟨hg, _⟩, rfl⟩ | ⟨g, ⟨hg, _⟩, rfl⟩
  · exact h.gtx g hg
  · exact h.wtx g (List.mem_of_mem_take hg)
theorem forL_len (G V : List GrantV) (k : Nat) : (forL G V k).length ≤ G.length + V.length := by
  simp only [forL, List.length_append, List.length_map]
  have h1 := List.length_filter_le (barsB (wouldG G (V.getD k zeroG))) G
  have h2 := List.length_filter_le (fun h : GrantV => h.res == (V.getD k zeroG).res) (V.take k)
  rw [List.length_take] at h2
  omega
theorem few {n : Nat} : ∀ {l : List Int}, l.Nodup → (∀ x ∈ l, 1 ≤ x ∧ x ≤ n) → l.length ≤ n := by
  induction n with
  | zero =>
    intro l _ h
    cases l with
    | nil => exact Nat.le_refl _
    | cons a r => have := h a List.mem_cons_self; omega
  | succ n ih =>
    intro l hd h
    by_cases hm : ((n + 1 : Nat) : Int) ∈ l
    · have h1 : (l.erase ((n + 1 : Nat) : Int)).length ≤ n := ih (hd.erase _) (fun x hx => by
        have h2 := h x (List.mem_of_mem_erase hx)
        have h3 : x ≠ ((n + 1 : Nat) : Int) := fun e => by subst e; exact hd.not_mem_erase hx
        omega)
      rw [List.length_erase_of_mem hm] at h1
      omega
    · have := ih hd (fun x hx => by
        have h2 := h x hx
        have h3 : x ≠ ((n + 1 : Nat) : Int) := fun e => by subst e; exact hm hx
        omega)
      omega
end Go.Proofs.YtekljhabjkmhpaaDoor

/- The walks of spec.l9Has, l9Would, l9Among, l9For. -/
namespace Go.Proofs.YtekljhabjkmhpaaDoor
open Go.RowKit

theorem hasZ_hit {G : List GrantV} {tx res : Int} {k : Nat} (h : k < G.length) (h0 : (G.take k).any (atB tx res) = false) (h1 : atB tx res (G.getD k zeroG) = true) : hasZ G tx res = (G.getD k zeroG).mode := by
  have e := placeZ_hit h h0 h1
  unfold hasZ
  rw [e, if_pos (by omega), Int.toNat_natCast]
theorem hasZ_none {G : List GrantV} {tx res : Int} {k : Nat} (h : ¬ k < G.length) (h0 : (G.take k).any (atB tx res) = false) : hasZ G tx res = 0 := by
  have e := placeZ_end h h0
  unfold hasZ
  rw [e, if_neg (by omega)]

set_option maxHeartbeats 1000000 in
set_option maxRecDepth 100000 in
theorem l9Has_any (G : List GrantV) (aG : Option Addr) (cG : Nat) (vW : Value) (tx res : Int) (w : World) (hG : ReadsG w aG G) (hl : G.length ≤ 1099511627776) :
    Calls Tryd.prog 62 #[.agg #[.slice aG G.length cG, vW], .int .i64 tx, .int .i64 res] w fun e w' => e = .returned (.int .i64 (hasZ G tx res)) ∧ Below w.heap.size w w' := by
  obtain ⟨W, hW, b0, hbW, hsW⟩ := boxes1 w [.slice aG G.length cG, vW] 30
  have hb0 := b0.lt
  have hGW := hG.below hbW
  have HB : Hid (∀ w', Below W.heap.size W w' → Below w.heap.size w w') := fun w' h => hbW.trans (h.mono hbW.size)
  have c0 := b0.cell 0 _ rfl
  clear hG hsW hbW
  have HCG : Hid (∀ k, k < G.length → ∃ b off, aG = some ⟨b, off, none⟩ ∧ W.cell? ⟨b, off + k * 3, none⟩ = some (.int .i64 (G.getD k zeroG).tx) ∧ W.cell? ⟨b, off + k * 3 + 1, none⟩ = some (.int .i64 (G.getD k zeroG).res) ∧ W.cell? ⟨b, off + k * 3 + 2, none⟩ = some (.int .i64 (G.getD k zeroG).mode)) := fun k hk => by
    obtain ⟨b, off, ha, hc⟩ := hGW (by intro e; rw [e] at hk; simp at hk)
    exact ⟨b, off, ha, hc k hk⟩
  clear hGW
  go_enter Tryd.func62, Tryd.ntmps62
  go_wp2
  rw [hW.out]
  go_loop [7] (fun i => ∃ k : Nat, k ≤ G.length ∧ i = .int .i64 k ∧ Hid ((G.take k).any (atB tx res) = false)) (fun i => G.length - (intOf i).toNat)
  case atStart => exact ⟨0, Nat.zero_le _, rfl, rfl⟩
  case round =>
    obtain ⟨k, hk, rfl, hany⟩ := hrel
    have HX := HB.out W (Below.refl _ _)
    by_cases hlt : k < G.length
    · obtain ⟨b, off, rfl, d0, d1, d2⟩ := HCG.out k hlt
      have HN : Hid (atB tx res (G.getD k zeroG) = false → (G.take (k + 1)).any (atB tx res) = false) := any_step hlt hany
      have HH : Hid (atB tx res (G.getD k zeroG) = true → hasZ G tx res = (G.getD k zeroG).mode) := hasZ_hit hlt hany
      clear HCG hany
      generalize G.getD k zeroG = z at *
      by_cases h1 : z.tx = tx
      · by_cases h2 : z.res = res
        · have HR : Hid _ := HH.out (by simp [atB, h1, h2])
          go_wp2
          go_ret
          exact ⟨ret_int HR.out.symm, HX⟩
        · have HR : Hid _ := HN.out (by simp [atB, h2])
          go_wp2
          go_round
          case rel => exact ⟨k + 1, by omega, by go_num, HR.out⟩
          case measure => simp [intOf]; omega
      · have HR : Hid _ := HN.out (by simp [atB, h1])
        go_wp2
        go_round
        case rel => exact ⟨k + 1, by omega, by go_num, HR.out⟩
        case measure => simp [intOf]; omega
    · have HR : Hid _ := hasZ_none hlt hany
      go_wp2
      go_ret
      exact ⟨ret_int HR.out.symm, HX⟩

set_option maxHeartbeats 1000000 in
set_option maxRecDepth 100000 in
theorem l9Would_any (G : List GrantV) (aG : Option Addr) (cG : Nat) (vW : Value) (g : GrantV) (w : World) (hG : ReadsG w aG G) (hl : G.length ≤ 1099511627776) :
    Calls Tryd.prog 63 #[.agg #[.slice aG G.length cG, vW], .agg #[.int .i64 g.tx, .int .i64 g.res, .int .i64 g.mode]] w fun e w' => e = .returned (.int .i64 (wouldS G g)) ∧ Below w.heap.size w w' := by
  obtain ⟨W, hW, b0, b1, hbW, hsW⟩ := boxes2 w [.slice aG G.length cG, vW] [.int .i64 g.tx, .int .i64 g.res, .int .i64 g.mode] 30 37
  have C := l9Has_any G aG cG vW g.tx g.res W (hG.below hbW) hl
  have HS : Hid (wouldS G g = if hasZ G g.tx g.res = 0 then g.mode else bothZ (hasZ G g.tx g.res) g.mode) := rfl
  generalize hasZ G g.tx g.res = hs at *
  generalize wouldS G g = R at *
  go_enter Tryd.func63, Tryd.ntmps63
  go_wp2_with fail
  rw [hW.out]
  refine C.mono ?_
  rintro e w1 ⟨rfl, hb1⟩
  have x2 := (b1.below hb1 b1.lt).cell 2 _ rfl
  have hB : Below w.heap.size w w1 := hbW.trans (hb1.mono hbW.size)
  by_cases h : hs = 0
  · have HR : Hid (R = g.mode) := by rw [Hid, HS.out, if_pos h]
    subst h
    go_wp2
    go_ret
    exact ⟨ret_int HR.out.symm, hB⟩
  · have HR : Hid (R = bothZ hs g.mode) := by rw [Hid, HS.out, if_neg h]
    have C2 := specBoth_any hs g.mode w1
    go_wp2_with fail
    refine C2.mono ?_
    rintro e w2 ⟨rfl, rfl⟩
    go_wp2
    go_ret
    exact ⟨ret_int HR.out.symm, hB⟩

set_option maxHeartbeats 400000 in
set_option maxRecDepth 100000 in
theorem l9Among_any (a : Option Addr) (c : Nat) (ls : List Int) (x : Int) (w : World) (hr : ReadsI w a ls) (hl : ls.length ≤ 1099511627776) :
    Calls Tryd.prog 71 #[.slice a ls.length c, .int .i64 x] w fun e w' => e = .returned (.bool (ls.any (fun g => g == x))) ∧ w' = w := by
  rcases hr.cases with rfl | ⟨b, off, rfl, hpos, hcell⟩
  · go_enter Tryd.func71, Tryd.ntmps71
    go_wp2
    refine wp_loop_rounds 1 ?_
    rw [rounds_succ]
    go_wp2
    go_ret
    exact ⟨rfl, rfl⟩
  · go_enter Tryd.func71, Tryd.ntmps71
    go_wp2
    go_loop [5] (fun i => ∃ k : Nat, k ≤ ls.length ∧ i = .int .i64 k ∧ Hid ((ls.take k).any (fun g => g == x) = false)) (fun i => ls.length - (intOf i).toNat)
    case atStart => exact ⟨0, Nat.zero_le _, rfl, rfl⟩
    case round =>
      obtain ⟨k, hk, rfl, hany⟩ := hrel
      by_cases hlt : k < ls.length
      · have d0 := hcell k hlt
        have HN : Hid ((ls.getD k 0 == x) = false → (ls.take (k + 1)).any (fun g => g == x) = false) := any_step (p := fun g : Int => g == x) hlt hany
        have HH : Hid ((ls.getD k 0 == x) = true → ls.any (fun g => g == x) = true) := any_hit (p := fun g : Int => g == x) hlt
        clear hcell hany
        generalize ls.getD k 0 = z at *
        by_cases h1 : z = x
        · have HR : Hid _ := HH.out (by simp [h1])
          go_wp2
          go_ret
          exact ⟨ret_bool HR.out.symm, rfl⟩
        · have HR : Hid _ := HN.out (by simp [h1])
          go_wp2
          go_round
          case rel => exact ⟨k + 1, by omega, by go_num, HR.out⟩
          case measure => simp [intOf]; omega
      · have HR : Hid _ := any_end hlt hany
        go_wp2
        go_ret
        exact ⟨ret_bool HR.out.symm, rfl⟩

/-- Numbers appended in a loop: the world behind it. -/
theorem below_append {lo : Nat} {W w w' : World} {o : Obj} {a : Option Addr} {c n : Nat} (hb : Below lo W w) (hg : (w.alloc o).grownBy w' (Value.slice a n c).ownBlock) (hlo : ∀ k, (Value.slice a n c).ownBlock = some k → lo ≤ k) (hl : lo ≤ w.heap.size) : Below lo W w' := by
  have hbA : Below lo W (w.alloc o) := hb.trans ((Below.refl _ _).alloc hl _)
  exact hbA.grown hg (by simp; omega) hlo

set_option maxHeartbeats 4000000 in
set_option maxRecDepth 100000 in
theorem l9For_any (G V : List GrantV) (aG : Option Addr) (cG : Nat) (aW : Option Addr) (cW : Nat) (k : Nat) (w : World) (hG : ReadsG w aG G) (hV : ReadsG w aW V) (hlG : G.length ≤ 1000) (hlV : V.length ≤ 1000) (hk : k < V.length) (hm : ModesOk G) :
    Calls Tryd.prog 70 #[.agg #[.slice aG G.length cG, .slice aW V.length cW], .int .i64 (k : Int)] w fun e w' => ∃ a c, e = .returned (.slice a (forL G V k).length c) ∧ OwnI w' w.heap.size w'.heap.size a c (forL G V k) ∧ Below w.heap.size w w' := by
  have HFL : Hid (forL G V k = (G.filter (barsB ⟨(V.getD k zeroG).tx, (V.getD k zeroG).res, wouldZ G (V.getD k zeroG)⟩)).map (·.tx) ++ ((V.take k).filter (fun h => h.res == (V.getD k zeroG).res)).map (·.tx)) := rfl
  generalize forL G V k = FL at *
  obtain ⟨W, hW, b0, hbW, hsW⟩ := boxes1 w [.slice aG G.length cG, .slice aW V.length cW] 30
  have hb0 := b0.lt
  have HB : Hid (∀ w', Below W.heap.size W w' → Below w.heap.size w w') := fun w' h => hbW.trans (h.mono hbW.size)
  have hGW := hG.below hbW
  have hVW := hV.below hbW
  have c1 := b0.cell 1 _ rfl
  clear hG hV
  have HCG : Hid (∀ w', Below W.heap.size W w' → ∀ k, k < G.length → ∃ b off, aG = some ⟨b, off, none⟩ ∧ w'.cell? ⟨b, off + k * 3, none⟩ = some (.int .i64 (G.getD k zeroG).tx) ∧ w'.cell? ⟨b, off + k * 3 + 1, none⟩ = some (.int .i64 (G.getD k zeroG).res) ∧ w'.cell? ⟨b, off + k * 3 + 2, none⟩ = some (.int .i64 (G.getD k zeroG).mode)) := fun w' h k hk => by
    obtain ⟨b, off, ha, hc⟩ := (hGW.below h) (by intro e; rw [e] at hk; simp at hk)
    exact ⟨b, off, ha, hc k hk⟩
  have HCV : Hid (∀ w', Below W.heap.size W w' → ∀ k, k < V.length → ∃ b off, aW = some ⟨b, off, none⟩ ∧ w'.cell? ⟨b, off + k * 3, none⟩ = some (.int .i64 (V.getD k zeroG).tx) ∧ w'.cell? ⟨b, off + k * 3 + 1, none⟩ = some (.int .i64 (V.getD k zeroG).res) ∧ w'.cell? ⟨b, off + k * 3 + 2, none⟩ = some (.int .i64 (V.getD k zeroG).mode)) := fun w' h k hk => by
    obtain ⟨b, off, ha, hc⟩ := (hVW.below h) (by intro e; rw [e] at hk; simp at hk)
    exact ⟨b, off, ha, hc k hk⟩
  obtain ⟨b, off, rfl, d0, d1, d2⟩ := HCV.out W (Below.refl _ _) k hk
  generalize V.getD k zeroG = z at *
  obtain ⟨V1, hV1, bz, hbV1, hsV1⟩ := boxes1 W [.int .i64 z.tx, .int .i64 z.res, .int .i64 z.mode] 37
  have C := l9Would_any G aG cG (.slice (some ⟨b, off, none⟩) V.length cW) z V1 (hGW.below hbV1) (by omega)
  rw [would_same hm] at C
  have hlW : w.heap.size < W.heap.size := hb0
  have HBW : Hid (∀ u, Below W.heap.size W u → Box u w.heap.size [.slice aG G.length cG, .slice (some ⟨b, off, none⟩) V.length cW] 30) := fun u h => Box.below b0 h hb0
  clear hbW hsV1 hsW hGW hVW
  have c0 := b0.cell 0 _ rfl
  go_enter Tryd.func70, Tryd.ntmps70
  go_upto_region 1 with fail
  rw [hW.out]
  go_wp2_with fail
  rw [hV1.out]
  refine C.mono ?_
  clear C hV1 hW
  generalize wouldZ G z = m at *
  rintro e w1 ⟨rfl, hb1⟩
  have hB1 : Below W.heap.size W w1 := hbV1.trans (hb1.mono hbV1.size)
  have HBZ : Hid (∀ u, Below w1.heap.size w1 u → Box u W.heap.size [.int .i64 z.tx, .int .i64 z.res, .int .i64 z.mode] 37) := fun u h => (bz.below hb1 bz.lt).below h (Nat.lt_of_lt_of_le bz.lt hb1.size)
  have hs1 : W.heap.size < w1.heap.size := Nat.lt_of_lt_of_le bz.lt hb1.size
  clear d0 d1 d2 c0 c1 bz hb1 b0 hb0 hbV1
  have ho0 := ownI_lit0 w1
  have hbo : Below w1.heap.size w1 (w1.alloc (.cells #[] 3)) := (Below.refl _ _).alloc (Nat.le_refl _) _
  have hbF : Hid (Below w1.heap.size w1 (w1.alloc (.cells #[] 3))) := hbo
  have hoF : Hid (OwnI (w1.alloc (.cells #[] 3)) w1.heap.size (w1.heap.size + 1) (some ⟨w1.heap.size, 0, none⟩) 0 []) := ho0
  clear ho0 hbo
  go_wp2_with fail
  go_loopw [7, 8] (fun o i wr => ∃ (j : Nat) (a : Option Addr) (c : Nat) (L : List Int), j ≤ G.length ∧ i = .int .i64 j ∧ o = .slice a L.length c ∧ Hid (L = ((G.take j).filter (barsB ⟨z.tx, z.res, m⟩)).map (·.tx)) ∧ L.length ≤ j ∧ OwnI wr w1.heap.size wr.heap.size a c L ∧ Below w1.heap.size w1 wr) (fun _ i _ => G.length - (intOf i).toNat)
  case atStart => exact ⟨0, _, _, [], Nat.zero_le _, rfl, rfl, rfl, Nat.zero_le _, hoF.out.widen (Nat.le_refl _) (by simp) (Nat.le_refl _), hbF.out⟩
  case round =>
    obtain ⟨j, a, c, L, hj, rfl, rfl, hL, hLj, ho, hbl⟩ := hrel
    have hBW : Below W.heap.size W wr := hB1.trans (hbl.mono hB1.size)
    have y0 := (HBW.out _ hBW).cell 0 _ rfl
    have hls := hbl.size
    by_cases hlt : j < G.length
    · obtain ⟨b', off', rfl, d0, d1, d2⟩ := HCG.out wr hBW j hlt
      have HST : Hid (_ = _) := filter_step (barsB ⟨z.tx, z.res, m⟩) (fun g : GrantV => g.tx) G zeroG j hlt
      have HBA : Hid (∀ h : GrantV, barsB ⟨z.tx, z.res, m⟩ h = (h.res == z.res && (h.tx != z.tx && !goesB m h.mode))) := fun _ => rfl
      clear HCG HCV HFL
      generalize G.getD j zeroG = h at *
      have HNO : Hid (barsB ⟨z.tx, z.res, m⟩ h = false → L = ((G.take (j + 1)).filter (barsB ⟨z.tx, z.res, m⟩)).map (·.tx)) := fun q => by rw [HST.out, if_neg (by rw [q]; decide)]; exact hL.out
      have HYE : Hid (barsB ⟨z.tx, z.res, m⟩ h = true → L ++ [h.tx] = ((G.take (j + 1)).filter (barsB ⟨z.tx, z.res, m⟩)).map (·.tx)) := fun q => by rw [HST.out, if_pos q, ← hL.out]
      clear HST hL
      have bzr := HBZ.out _ hbl
      obtain ⟨e0, e1, e2, _⟩ := bzr.three
      have hzl := bzr.lt
      have hll : w.heap.size < wr.heap.size := by omega
      clear bzr
      obtain ⟨V2, hV2, bh, hbV2, hsV2⟩ := boxes1 wr [.int .i64 h.tx, .int .i64 h.res, .int .i64 h.mode] 37
      have hB2 : Below w1.heap.size w1 V2 := hbl.trans (hbV2.mono hbl.size)
      have ho2 := (ho.below hbV2).widen (Nat.le_refl _) hbV2.size (Nat.le_refl _)
      have C := specGoes_any m h.mode V2
      have HV2 : Hid (_ = V2) := hV2
      have x0 := bh.cell 0 _ rfl
      have x1 := bh.cell 1 _ rfl
      have x2 := bh.cell 2 _ rfl
      have hlV2 : wr.heap.size < V2.heap.size := bh.lt
      have hzV := (HBZ.out _ hB2)
      obtain ⟨f0, f1, f2, _⟩ := hzV.three
      clear hsV2 hbV2 bh hzV
      obtain ⟨tx, res, mode⟩ := h
      simp only at *
      by_cases q1 : res = z.res
      case neg =>
        have HR : Hid _ := HNO.out (by rw [HBA.out]; simp [q1])
        have HS : Hid (_ ∧ _) := ⟨ho2, hB2⟩
        clear ho2 hB2 C
        go_wp2_with fail
        rw [hV2.out]
        go_roundw
        case rel => exact ⟨j + 1, a, c, L, by omega, by go_num, rfl, HR.out, by omega, HS.out.1, HS.out.2⟩
        case measure => simp [intOf]; omega
      by_cases q2 : tx = z.tx
      · have HR : Hid _ := HNO.out (by rw [HBA.out]; simp [q2])
        have HS : Hid (_ ∧ _) := ⟨ho2, hB2⟩
        clear ho2 hB2 C
        subst q1 q2
        go_wp2_with fail
        rw [HV2.out]
        go_roundw
        case rel => exact ⟨j + 1, a, c, L, by omega, by go_num, rfl, HR.out, by omega, HS.out.1, HS.out.2⟩
        case measure => simp [intOf]; omega
      · have HC1 : Hid (goesB m mode = true → _) := fun hh => HNO.out (by rw [HBA.out]; simp [hh])
        have HC2 : Hid (goesB m mode = false → _) := fun hh => HYE.out (by rw [HBA.out]; simp [q1, q2, hh])
        generalize goesB m mode = gg at *
        subst q1
        have q2b : (tx != z.tx) = true := by simp [q2]
        go_wp2_with fail
        rw [HV2.out]
        refine C.mono ?_
        rintro e w' ⟨rfl, rfl⟩
        cases gg
        · have HR : Hid _ := HC2.out rfl
          have ho3 := ho2.below ((Below.refl _ _).alloc (Nat.le_refl _) (.cells #[.int .i64 tx] 3))
          clear C hV2
          go_wp2_with (at_builtin; refine append_ints rfl _ _ rfl w1.heap.size w'.heap.size a c L rfl ho3 _ _ [tx] rfl (readsI_one w' tx _) (fun h => by cases h) (by simp; omega) (by simp; omega) ?_; intro a3 c3 y3 w3 hy3 ho3 hg3)
          go_roundw
          case rel => exact ⟨j + 1, a3, c3, y3, by omega, by go_num, rfl, by rw [Hid, hy3.out]; exact HR.out, by rw [hy3.out]; simp; omega, ho3, below_append hB2 hg3 (fun k hk => (ho2.lt k hk).1) hB2.size⟩
          case measure => simp [intOf]; omega
        · have HR : Hid _ := HC1.out rfl
          go_wp2_with fail
          go_roundw
          case rel => exact ⟨j + 1, a, c, L, by omega, by go_num, rfl, HR.out, by omega, ho2, hB2⟩
          case measure => simp [intOf]; omega
    · have HL : Hid (L = (G.filter (barsB ⟨z.tx, z.res, m⟩)).map (·.tx)) := by
        have e := hL.out
        rw [List.take_of_length_le (by omega)] at e
        exact e
      have HLL : Hid (L.length ≤ G.length) := by rw [Hid]; omega
      have HS0 : Hid (OwnI wr w1.heap.size wr.heap.size a c L ∧ Below w1.heap.size w1 wr) := ⟨ho, hbl⟩
      clear hL hLj HCG ho hbl
      generalize wr = wo at *
      go_wp2_with fail
      go_loopw [7, 10] (fun o i wr => ∃ (j : Nat) (a : Option Addr) (c : Nat) (M : List Int), j ≤ k ∧ i = .int .i64 j ∧ o = .slice a M.length c ∧ Hid (M = L ++ ((V.take j).filter (fun h => h.res == z.res)).map (·.tx)) ∧ M.length ≤ G.length + j ∧ OwnI wr w1.heap.size wr.heap.size a c M ∧ Below w1.heap.size w1 wr) (fun _ i _ => k - (intOf i).toNat)
      case atStart => exact ⟨0, _, _, L, Nat.zero_le _, rfl, rfl, by simp [Hid], by have := HLL.out; omega, HS0.out.1, HS0.out.2⟩
      case round =>
        clear hBW y0 hls hlt
        obtain ⟨j, a, c, M, hj, rfl, rfl, hM, hMj, ho, hbl⟩ := hrel
        have hBW : Below W.heap.size W wr := hB1.trans (hbl.mono hB1.size)
        have y1 := (HBW.out _ hBW).cell 1 _ rfl
        have hls := hbl.size
        by_cases hlt : j < k
        · obtain ⟨b', off', hh, d0, d1, d2⟩ := HCV.out wr hBW j (by omega)
          cases hh
          have HST : Hid (_ = _) := filter_step (fun h : GrantV => h.res == z.res) (fun g : GrantV => g.tx) V zeroG j (by omega)
          clear HCV HFL d2
          generalize V.getD j zeroG = h at *
          have HNO : Hid ((h.res == z.res) = false → M = L ++ ((V.take (j + 1)).filter (fun h => h.res == z.res)).map (·.tx)) := fun q => by rw [HST.out, if_neg (by rw [q]; decide)]; exact hM.out
          have HYE : Hid ((h.res == z.res) = true → M ++ [h.tx] = L ++ ((V.take (j + 1)).filter (fun h => h.res == z.res)).map (·.tx)) := fun q => by rw [HST.out, if_pos q, hM.out, List.append_assoc]
          clear HST hM
          have bzr := HBZ.out _ hbl
          have e1 := bzr.cell 1 _ rfl
          clear bzr
          by_cases q1 : h.res = z.res
          · have HR : Hid _ := HYE.out (by simp [q1])
            go_wp2_with fail
            go_quiet (fail)
            have y1q : (wr.drewN nq).cell? ⟨w.heap.size, 1, none⟩ = _ := y1
            have d0q : (wr.drewN nq).cell? ⟨b, off + j * 3, none⟩ = _ := d0
            have hoq := ho.below (below_drewN (Below.refl _ _) nq)
            have hbq : Below w1.heap.size w1 (wr.drewN nq) := below_drewN hbl nq
            have hsq : (wr.drewN nq).heap.size = wr.heap.size := rfl
            generalize wr.drewN nq = wq at *
            have ho3 := hoq.below ((Below.refl _ _).alloc (Nat.le_refl _) (.cells #[.int .i64 h.tx] 3))
            have hsq1 : wr.heap.size ≤ wq.heap.size := Nat.le_of_eq hsq.symm
            have hsq2 : wq.heap.size ≤ wr.heap.size := Nat.le_of_eq hsq
            clear hsq y1 d0 d1 e1
            go_wp2_with (at_builtin; refine append_ints rfl _ _ rfl w1.heap.size wr.heap.size a c M rfl ho3 _ _ [h.tx] rfl (readsI_one wq h.tx _) (fun h => by cases h) (by simp; omega) (by simp; omega) ?_; intro a3 c3 y3 w3 hy3 ho3 hg3)
            go_roundw
            case rel => exact ⟨j + 1, a3, c3, y3, by omega, by go_num, rfl, by rw [Hid, hy3.out]; exact HR.out, by rw [hy3.out]; simp; omega, ho3, below_append hbq hg3 (fun k hk => (hoq.lt k hk).1) hbq.size⟩
            case measure => simp [intOf]; omega
          · have HR : Hid _ := HNO.out (by simp [q1])
            have HS : Hid (_ ∧ _) := ⟨ho, hbl⟩
            clear ho hbl
            go_wp2_with fail
            go_quiet (fail)
            go_wp2_with fail
            go_roundw
            case rel => exact ⟨j + 1, a, c, M, by omega, by go_num, rfl, HR.out, by omega, HS.out.1.below (below_drewN (Below.refl _ _) _), below_drewN HS.out.2 _⟩
            case measure => simp [intOf]; omega
        · have HF : Hid (M = FL) := by
            have e : j = k := by omega
            have e2 := hM.out
            rw [e, HL.out] at e2
            rw [Hid, HFL.out]
            exact e2
          have HX := HB.out _ hBW
          clear hM HFL
          go_wp2_with fail
          go_ret
          have e := HF.out
          subst e
          exact ⟨a, c, rfl, ho.widen (by omega) (Nat.le_refl _) (Nat.le_refl _), HX⟩
end Go.Proofs.YtekljhabjkmhpaaDoor

/- A region that draws its order and whose last operations store: what is loaded ahead of them is taken first, though they write it. -/
namespace Go.Proofs.YtekljhabjkmhpaaDoor

/-- Whatever order is picked from here on; S holds behind every operation that is none of the late ones. -/
def wpAnyL (P : Program) (md : Region.Mode) (ops : Array Oper) (Q : Exit → Act → World → Prop) (S : World → Prop) (ks : Nat → Bool) : Nat → Array Bool → Act → World → Prop
  | 0, listed, a, w => Region.ready md ops listed = [] ∧ Q .normal a w
  | fuel + 1, listed, a, w =>
    (Region.ready md ops listed = [] → Q .normal a w) ∧
    ∀ i ∈ Region.ready md ops listed, wpOp P ops Q i (fun a' w' => (ks i = false → S w') ∧ wpAnyL P md ops Q S ks fuel (listed.setIfInBounds i true) a' w') a w
theorem wpAny_of_late {P : Program} {ops : Array Oper} {Q : Exit → Act → World → Prop} {md : Region.Mode} {S : World → Prop} {ks : Nat → Bool} : ∀ (fuel : Nat) (listed : Array Bool) (a : Act) (w : World), wpAnyL P md ops Q S ks fuel listed a w → wpAny P md ops Q fuel listed a w
  | 0, _, _, _, h => h
  | fuel + 1, _, _, _, h => ⟨h.1, fun i hi => wpOp_mono (fun a' w' h' => wpAny_of_late fuel _ a' w' h'.2) (h.2 i hi)⟩
/-- All late ones wait for i. -/
def lateAll (md : Region.Mode) (ops : Array Oper) (ks : Nat → Bool) (i : Nat) : Bool :=
  (List.range ops.size).all fun j => !ks j || match ops[j]? with
    | some o => o.after.any (fun e => Region.binds md e && e.on == i)
    | none => true
theorem lateAll_spec {md : Region.Mode} {ops : Array Oper} {ks : Nat → Bool} {i : Nat} (h : lateAll md ops ks i = true) (j : Nat) (oj : Oper) (hj : ops[j]? = some oj) (hk : ks j = true) : ∃ e ∈ oj.after, Region.binds md e = true ∧ e.on = i := by
  unfold lateAll at h
  rw [List.all_eq_true] at h
  have hl : j < ops.size := by
    rcases Nat.lt_or_ge j ops.size with h' | h'
    · exact h'
    · rw [Array.getElem?_eq_none h'] at hj; cases hj
  have := h j (List.mem_range.2 hl)
  rw [hk, hj] at this
  simp only [Bool.not_true, Bool.false_or, Array.any_eq_true'] at this
  obtain ⟨e, he, hb⟩ := this
  rw [Bool.and_eq_true, beq_iff_eq] at hb
  exact ⟨e, he, hb.1, hb.2⟩
theorem wpAnyL_first {P : Program} {ops : Array Oper} {Q : Exit → Act → World → Prop} {md : Region.Mode} {S : World → Prop} {ks : Nat → Bool} {i : Nat} {oi : Oper} {v : Value} (hi : ops[i]? = some oi) (hsel : ∀ (j : Nat) (o : Oper) cs b, ops[j]? = some o → o.op ≠ .select cs b)
    (hQ : ∀ c a w, Q (.panic c) (a.put oi.dst v) w → Q (.panic c) a w) (hlate : ∀ j oj, ops[j]? = some oj → ks j = true → ∃ e ∈ oj.after, Region.binds md e = true ∧ e.on = i) :
    ∀ (fuel : Nat) (listed : Array Bool) (a : Act) (w : World),
      (∀ j oj, ops[j]? = some oj → j ≠ i → listed.getD j true = false → (∀ e ∈ oj.after, Region.binds md e = true → e.on ≠ i) → oi.apart ops oj = true) →
      i ∈ Region.ready md ops listed → YieldsIf P ops S oi v a → S w →
      wpAnyL P md ops Q S ks fuel (listed.setIfInBounds i true) (a.put oi.dst v) w → wpAnyL P md ops Q S ks (fuel + 1) listed a w := by
  intro fuel
  induction fuel with
  | zero =>
    intro listed a w _ hr hy hS H
    refine ⟨fun h => (by rw [h] at hr; cases hr), fun j hj => ?_⟩
    by_cases hji : j = i
    · subst hji; exact hy.wpOp hi hS ⟨fun _ => hS, H⟩
    · have := ready_mono hj hji
      rw [H.1] at this
      cases this
  | succ fuel ih =>
    intro listed a w hfree hr hy hS H
    refine ⟨fun h => (by rw [h] at hr; cases hr), fun j hj => ?_⟩
    by_cases hji : j = i
    · subst hji; exact hy.wpOp hi hS ⟨fun _ => hS, H⟩
    · have h1 := H.2 j (ready_mono hj hji)
      obtain ⟨hjun, oj, hoj, hall⟩ := mem_ready.1 hj
      have hnot : ∀ e ∈ oj.after, Region.binds md e = true → e.on ≠ i := fun e he hb heq => by
        have h1 := hall e he hb
        have h0 := (mem_ready.1 hr).1
        rw [heq] at h1
        rcases Nat.lt_or_ge i listed.size with h' | h'
        · simp [h'] at h0 h1; rw [h0] at h1; cases h1
        · simp [Array.getElem?_eq_none h'] at h1
      have hkj : ks j = false := by
        cases hk : ks j with
        | false => rfl
        | true =>
          obtain ⟨e, he, hb, ho⟩ := hlate j oj hoj hk
          exact absurd ho (hnot e he hb)
      have h2 := wpOp_putIf hoj (hfree j oj hoj hji hjun hnot) (fun cs b => hsel i oi cs b hi) (fun cs b => hsel j oj cs b hoj) hQ hy h1
      have hfree' : ∀ k ok, ops[k]? = some ok → k ≠ i → (listed.setIfInBounds j true).getD k true = false →
          (∀ e ∈ ok.after, Region.binds md e = true → e.on ≠ i) → oi.apart ops ok = true := fun k ok hk hki hun hno => by
        refine hfree k ok hk hki ?_ hno
        by_cases hjk : j = k
        · subst hjk; exact hjun
        · rw [getD_set_ne true hjk] at hun; exact hun
      refine wpOp_mono (fun a' w' h3 => ⟨fun _ => h3.2.1 hkj, ih (listed.setIfInBounds j true) a' w' hfree' (ready_mono hr (Ne.symm hji)) h3.1 (h3.2.1 hkj) ?_⟩) h2
      rw [Array.setIfInBounds_comm _ _ hji]
      exact h3.2.2
/-- Number i is taken first: it yields v in every world that meets S, and the late ones wait for it. -/
theorem wpAnyL_take {P : Program} {ops : Array Oper} {Q : Exit → Act → World → Prop} {md : Region.Mode} {S : World → Prop} {ks : Nat → Bool} {i : Nat} {oi : Oper} {v : Value} {fuel : Nat} {listed : Array Bool} {a : Act} {w : World} (hi : ops[i]? = some oi)
    (hs : (Region.noSelect ops && (Region.free md ops listed i && ((Region.ready md ops listed).contains i && lateAll md ops ks i))) = true)
    (hQ : ∀ c a w, Q (.panic c) (a.put oi.dst v) w → Q (.panic c) a w) (hy : YieldsIf P ops S oi v a) (hS : S w)
    (h : wpAnyL P md ops Q S ks fuel (listed.setIfInBounds i true) (a.put oi.dst v) w) : wpAnyL P md ops Q S ks (fuel + 1) listed a w := by
  rw [Bool.and_eq_true, Bool.and_eq_true, Bool.and_eq_true] at hs
  exact wpAnyL_first hi (Region.noSelect_spec hs.1) hQ (lateAll_spec hs.2.2.2) fuel listed a w (Region.free_spec hi hs.2.1) (by simpa using hs.2.2.1) hy hS h
def AllReadyL (P : Program) (md : Region.Mode) (ops : Array Oper) (Q : Exit → Act → World → Prop) (S : World → Prop) (ks : Nat → Bool) (fuel : Nat) (listed : Array Bool) (a : Act) (w : World) (rs : List Nat) : Prop :=
  ∀ i ∈ rs, wpOp P ops Q i (fun a' w' => (ks i = false → S w') ∧ wpAnyL P md ops Q S ks fuel (listed.setIfInBounds i true) a' w') a w
theorem AllReadyL.nil {P : Program} {ops : Array Oper} {Q : Exit → Act → World → Prop} {md : Region.Mode} {S : World → Prop} {ks : Nat → Bool} {fuel : Nat} {listed : Array Bool} {a : Act} {w : World} : AllReadyL P md ops Q S ks fuel listed a w [] := fun _ h => by cases h
theorem AllReadyL.cons {P : Program} {ops : Array Oper} {Q : Exit → Act → World → Prop} {md : Region.Mode} {S : World → Prop} {ks : Nat → Bool} {fuel : Nat} {listed : Array Bool} {a : Act} {w : World} {i : Nat} {o : Oper} {rs : List Nat} (ho : ops[i]? = some o)
    (h : ∀ K' : Act → World → Prop, Shut (∀ a w, (ks i = false → S w) → ((ks i = false → S w) → wpAnyL P md ops Q S ks fuel (listed.setIfInBounds i true) a w) → K' a w) → if Region.wanted o (yielded ops a.tmps) = true then Oper.wp P o a w K' Q else K' (a.put o.dst undef) w)
    (hs : AllReadyL P md ops Q S ks fuel listed a w rs) : AllReadyL P md ops Q S ks fuel listed a w (i :: rs) := fun j hj => by
  rcases List.mem_cons.1 hj with rfl | hj
  · exact wpOp_step ho (fun K' hK => h K' (fun a w hS hW => hK a w ⟨hS, hW hS⟩))
  · exact hs j hj
theorem wpAnyL_ready {P : Program} {ops : Array Oper} {Q : Exit → Act → World → Prop} {md : Region.Mode} {S : World → Prop} {ks : Nat → Bool} {rs : List Nat} {fuel : Nat} {listed : Array Bool} {a : Act} {w : World} (hr : Region.ready md ops listed = rs) (hne : rs ≠ [])
    (h : AllReadyL P md ops Q S ks fuel listed a w rs) : wpAnyL P md ops Q S ks (fuel + 1) listed a w := ⟨fun h0 => absurd (hr ▸ h0) hne, hr ▸ h⟩
/-- One alone may come up next, and it is none of the late ones: behind it S is shown. -/
theorem wpAnyL_next {P : Program} {ops : Array Oper} {Q : Exit → Act → World → Prop} {md : Region.Mode} {S : World → Prop} {ks : Nat → Bool} (i : Nat) {o : Oper} {fuel : Nat} {listed : Array Bool} {a : Act} {w : World} (hr : Region.ready md ops listed = [i]) (ho : ops[i]? = some o)
    (h : ∀ K' : Act → World → Prop, Shut (∀ a w, S w → (S w → wpAnyL P md ops Q S ks fuel (listed.setIfInBounds i true) a w) → K' a w) → if Region.wanted o (yielded ops a.tmps) = true then Oper.wp P o a w K' Q else K' (a.put o.dst undef) w) : wpAnyL P md ops Q S ks (fuel + 1) listed a w :=
  wpAnyL_ready hr (by simp) (AllReadyL.cons ho (fun K' hK => h K' (fun a w hS hW => hK.out a w (fun _ => hS) (fun _ => hW hS))) AllReadyL.nil)
/-- One alone may come up next, and it is a late one. -/
theorem wpAnyL_last {P : Program} {ops : Array Oper} {Q : Exit → Act → World → Prop} {md : Region.Mode} {S : World → Prop} {ks : Nat → Bool} (i : Nat) {o : Oper} {fuel : Nat} {listed : Array Bool} {a : Act} {w : World} (hr : Region.ready md ops listed = [i]) (ho : ops[i]? = some o) (hk : ks i = true)
    (h : ∀ K' : Act → World → Prop, Shut (∀ a w, wpAnyL P md ops Q S ks fuel (listed.setIfInBounds i true) a w → K' a w) → if Region.wanted o (yielded ops a.tmps) = true then Oper.wp P o a w K' Q else K' (a.put o.dst undef) w) : wpAnyL P md ops Q S ks (fuel + 1) listed a w :=
  wpAnyL_ready hr (by simp) (AllReadyL.cons ho (fun K' hK => h K' (fun a w hW => hK.out a w (fun h => by rw [hk] at h; cases h) (fun _ => hW))) AllReadyL.nil)
theorem wpAnyL_done {P : Program} {ops : Array Oper} {Q : Exit → Act → World → Prop} {md : Region.Mode} {S : World → Prop} {ks : Nat → Bool} {listed : Array Bool} {a : Act} {w : World} (hr : Region.ready md ops listed = []) (h : Q .normal a w) :
    ∀ fuel, wpAnyL P md ops Q S ks fuel listed a w
  | 0 => ⟨hr, h⟩
  | _ + 1 => ⟨fun _ => h, by rw [hr]; simp⟩
theorem wp_region_late {P : Program} {ops : Array Oper} {Q : Exit → Act → World → Prop} {S : World → Prop} (ks : Nat → Bool) {id : Nat} {a : Act} {w : World} (hm : P.follows .mixedOrders = true) (hS : S w.drew)
    (h : S w.drew → wpAnyL P .any ops Q S ks ops.size (Array.replicate ops.size false) a w.drew) : (Code.region id ops true).wp P Q a w :=
  wp_region_any hm (wpAny_of_late _ _ _ _ (h hS))
end Go.Proofs.YtekljhabjkmhpaaDoor
