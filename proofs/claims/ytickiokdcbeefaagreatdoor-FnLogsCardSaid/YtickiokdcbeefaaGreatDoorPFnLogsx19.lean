/- Several texts in one, in their order. -/
import Derived.Test.YtickiokdcbeefaaGreatDoorPFnLogsx18
import Derived.Deep.LoopGhost
import Derived.Test.YtickiokdcbeefaaGreatDoorPFnLogsx15
import Derived.Test.YtickiokdcbeefaaGreatDoorPFnLogsx9
import Derived.Deep.MidRow
import Derived.Laws.Tables
/- An engine in its box: what a step of it keeps, and what is new behind it. -/
namespace Go.Proofs.YtickiokdcbeefaaGreatDoor
open Go.RowKit

theorem nodup_part {A P P' C : List Nat} {n : Nat} (h : (A ++ (P ++ C)).Nodup) (hP : P'.Nodup) (hf : ∀ k ∈ P', k ∈ P ∨ n ≤ k) (hA : ∀ k ∈ A, k < n) (hC : ∀ k ∈ C, k < n) : (A ++ (P' ++ C)).Nodup := by
  simp only [List.nodup_append, List.mem_append] at h ⊢
  obtain ⟨h1, ⟨_, h3, h4⟩, h5⟩ := h
  refine ⟨h1, ⟨hP, h3, fun a ha b hb e => ?_⟩, fun a ha b hb e => ?_⟩
  · rcases hf a ha with h | h
    · exact h4 a h b hb e
    · have := hC b hb; omega
  · rcases hb with hb | hb
    · rcases hf b hb with h | h
      · exact h5 a ha b (.inl h) e
      · have := hA a ha; omega
    · exact h5 a ha b (.inr hb) e

abbrev TE : TypeId := 105
structure EngAt (w : World) (E : Nat) (e : EngA) : Prop where
  box : Box w E e.cells TE
  shape : e.shape
  own : e.own w 0 w.heap.size
  off : E ∉ e.blocks
theorem EngAt.below {w w' : World} {E : Nat} {e : EngA} (h : EngAt w E e) (hb : Below w.heap.size w w') : EngAt w' E e :=
  ⟨h.box.below hb h.box.lt, h.shape, (h.own.below hb).widen (Nat.le_refl _) hb.size (Nat.le_refl _), h.off⟩
theorem EngAt.lt {w : World} {E : Nat} {e : EngA} (h : EngAt w E e) : ∀ k ∈ e.blocks, k < w.heap.size := fun k hk => (h.own.blocks_lt k hk).2
theorem EngAt.touch {w w' : World} {E : Nat} {e : EngA} {bl : List Nat} (h : EngAt w E e) (ht : Touch bl w w') (hE : E ∉ bl) (hd : ∀ k ∈ e.blocks, k ∉ bl) : EngAt w' E e :=
  ⟨h.box.touch ht hE, h.shape, (h.own.touch ht hd).widen (Nat.le_refl _) ht.size (Nat.le_refl _), h.off⟩
theorem EngAt.within {w w' : World} {E l r : Nat} {e : EngA} (h : EngAt w E e) (hw : Within l r w w') (hE : ¬ (l ≤ E ∧ E < r)) (hd : ∀ k ∈ e.blocks, ¬ (l ≤ k ∧ k < r)) : EngAt w' E e :=
  h.touch (bl := (List.range r).filter (fun k => decide (l ≤ k))) ⟨hw.os, hw.tape, hw.output, hw.size, fun k hk hn => hw.block k hk (fun hh => hn (by simp [hh.1, hh.2]))⟩ (by simpa [and_comm] using hE) (fun k hk => by have := hd k hk; simpa [and_comm] using this)

/-- B is none of the engine's blocks. -/
def Off (E : Nat) (e : EngA) (B : Nat) : Prop := B ≠ E ∧ B ∉ e.blocks
theorem EngAt.new {w : World} {E B : Nat} {e : EngA} (h : EngAt w E e) (hB : w.heap.size ≤ B) : Off E e B :=
  ⟨by have := h.box.lt; omega, fun hk => by have := h.lt B hk; omega⟩

/-- One step: the engine e becomes e'; nothing but it is written. -/
structure EngStep (E : Nat) (e : EngA) (w : World) (e' : EngA) (w' : World) : Prop where
  at' : EngAt w' E e'
  touch : Touch (E :: e.blocks) w w'
  fresh : ∀ k ∈ e'.blocks, k ∈ e.blocks ∨ w.heap.size ≤ k
theorem EngStep.size {E : Nat} {e e' : EngA} {w w' : World} (s : EngStep E e w e' w') : w.heap.size ≤ w'.heap.size := s.touch.size
theorem EngStep.refl {E : Nat} {e : EngA} {w : World} (h : EngAt w E e) : EngStep E e w e w := ⟨h, Touch.refl _ _, fun _ hk => .inl hk⟩
theorem EngStep.trans {E : Nat} {e e1 e2 : EngA} {w w1 w2 : World} (s : EngStep E e w e1 w1) (t : EngStep E e1 w1 e2 w2) : EngStep E e w e2 w2 := by
  refine ⟨t.at', ⟨t.touch.os.trans s.touch.os, t.touch.tape.trans s.touch.tape, t.touch.output.trans s.touch.output, Nat.le_trans s.size t.size, fun k hk hn => ?_⟩, fun k hk => ?_⟩
  · have hn1 : k ∉ E :: e1.blocks := fun h => by
      rcases List.mem_cons.1 h with h | h
      · exact hn (by simp [h])
      · rcases s.fresh k h with h | h
        · exact hn (List.mem_cons_of_mem _ h)
        · omega
    exact (t.touch.block k (Nat.lt_of_lt_of_le hk s.size) hn1).trans (s.touch.block k hk hn)
  · rcases t.fresh k hk with h | h
    · exact s.fresh k h
    · exact .inr (Nat.le_trans s.size h)
theorem EngStep.below {E : Nat} {e e' : EngA} {w w' w'' : World} (s : EngStep E e w e' w') (hb : Below w'.heap.size w' w'') : EngStep E e w e' w'' :=
  ⟨s.at'.below hb, s.touch.trans (Touch.of_below hb), s.fresh⟩
theorem EngStep.after {E : Nat} {e e' : EngA} {w0 w w' : World} (hb : Below w0.heap.size w0 w) (s : EngStep E e w e' w') : EngStep E e w0 e' w' :=
  ⟨s.at', (Touch.of_below hb).trans s.touch, fun k hk => (s.fresh k hk).imp id (Nat.le_trans hb.size)⟩
theorem EngStep.off {E B : Nat} {e e' : EngA} {w w' : World} (s : EngStep E e w e' w') (hB : B < w.heap.size) (ho : Off E e B) : Off E e' B :=
  ⟨ho.1, fun hk => (s.fresh B hk).elim ho.2 (fun h => by omega)⟩
theorem EngStep.block {E B : Nat} {e e' : EngA} {w w' : World} (s : EngStep E e w e' w') (hB : B < w.heap.size) (ho : Off E e B) : w'.heap[B]? = w.heap[B]? :=
  s.touch.block B hB (fun h => (List.mem_cons.1 h).elim ho.1 ho.2)
theorem EngStep.boxes {E B : Nat} {e e' : EngA} {w w' : World} {vs : List Value} {t : TypeId} (s : EngStep E e w e' w') (b : Box w B vs t) (ho : Off E e B) : Box w' B vs t := b.block (s.block b.lt ho)

theorem EngA.mem_disk {e : EngA} {k : Nat} (h : k ∈ e.diskBl) : k ∈ e.blocks := by simp only [EngA.blocks, List.mem_append]; exact .inl h
theorem EngA.mem_pool {e : EngA} {k : Nat} (h : k ∈ blocksSts e.aS e.cS e.seats) : k ∈ e.blocks := by simp only [EngA.blocks, List.mem_append]; exact .inr (.inl h)
theorem EngA.mem_log {e : EngA} {k : Nat} (h : k ∈ blocksRs e.log.a e.log.c e.log.recs) : k ∈ e.blocks := by simp only [EngA.blocks, List.mem_append]; exact .inr (.inr (.inl h))
theorem EngA.mem_txs {e : EngA} {k : Nat} (h : k ∈ rowOf e.aT e.txs.length e.cT) : k ∈ e.blocks := by simp only [EngA.blocks, List.mem_append]; exact .inr (.inr (.inr (.inl h)))
theorem EngA.mem_holds {e : EngA} {k : Nat} (h : k ∈ rowOf e.aH e.holds.length e.cH) : k ∈ e.blocks := by simp only [EngA.blocks, List.mem_append]; exact .inr (.inr (.inr (.inr h)))

theorem rowOf_nodup (a : Option Addr) (n c : Nat) : (rowOf a n c).Nodup := by unfold rowOf; cases (Value.slice a n c).ownBlock <;> simp

structure EngA.apartAll (e : EngA) : Prop where
  dp : ∀ k ∈ e.diskBl, k ∉ blocksSts e.aS e.cS e.seats
  dl : ∀ k ∈ e.diskBl, k ∉ blocksRs e.log.a e.log.c e.log.recs
  dt : ∀ k ∈ e.diskBl, k ∉ rowOf e.aT e.txs.length e.cT
  dh : ∀ k ∈ e.diskBl, k ∉ rowOf e.aH e.holds.length e.cH
  pl : ∀ k ∈ blocksSts e.aS e.cS e.seats, k ∉ blocksRs e.log.a e.log.c e.log.recs
  pt : ∀ k ∈ blocksSts e.aS e.cS e.seats, k ∉ rowOf e.aT e.txs.length e.cT
  ph : ∀ k ∈ blocksSts e.aS e.cS e.seats, k ∉ rowOf e.aH e.holds.length e.cH
  lt : ∀ k ∈ blocksRs e.log.a e.log.c e.log.recs, k ∉ rowOf e.aT e.txs.length e.cT
  lh : ∀ k ∈ blocksRs e.log.a e.log.c e.log.recs, k ∉ rowOf e.aH e.holds.length e.cH
  th : ∀ k ∈ rowOf e.aT e.txs.length e.cT, k ∉ rowOf e.aH e.holds.length e.cH
theorem EngA.apart_of {e : EngA} (h : e.blocks.Nodup) : e.apartAll := by
  simp only [EngA.blocks, List.nodup_append, List.mem_append] at h
  obtain ⟨_, ⟨_, ⟨_, ⟨_, _, h4⟩, h3⟩, h2⟩, h1⟩ := h
  exact ⟨fun k a b => h1 k a k (.inl b) rfl, fun k a b => h1 k a k (.inr (.inl b)) rfl, fun k a b => h1 k a k (.inr (.inr (.inl b))) rfl, fun k a b => h1 k a k (.inr (.inr (.inr b))) rfl, fun k a b => h2 k a k (.inl b) rfl, fun k a b => h2 k a k (.inr (.inl b)) rfl, fun k a b => h2 k a k (.inr (.inr b)) rfl, fun k a b => h3 k a k (.inl b) rfl, fun k a b => h3 k a k (.inr b) rfl, fun k a b => h4 k a k b rfl⟩
theorem EngAt.apart {w : World} {E : Nat} {e : EngA} (h : EngAt w E e) : e.apartAll := EngA.apart_of h.own.apart

/-- What is not E and none of the part's blocks is left alone. -/
theorem not_part {E k : Nat} {P : List Nat} (h1 : k ≠ E) (h2 : k ∉ P) : k ∉ E :: P := fun h => (List.mem_cons.1 h).elim h1 h2

/-- The pool became another. -/
def EngA.withPool (e : EngA) (ss : List SeatA) (a : Option Addr) (c : Nat) (hand : Int) : EngA := { e with seats := ss, aS := a, cS := c, hand := hand }
theorem EngAt.pool {w w' : World} {E : Nat} {e : EngA} (h : EngAt w E e) (ss : List SeatA) (a : Option Addr) (c : Nat) (hand : Int) (bx : Box w' E (e.withPool ss a c hand).cells TE) (ho : OwnSts w' 0 w'.heap.size a c ss)
    (ht : Touch (E :: blocksSts e.aS e.cS e.seats) w w') (hf : ∀ k ∈ blocksSts a c ss, k ∈ blocksSts e.aS e.cS e.seats ∨ w.heap.size ≤ k) : EngStep E e w (e.withPool ss a c hand) w' := by
  have ap := h.apart
  have hE : ∀ k ∈ e.blocks, k ≠ E := fun k hk he => h.off (he ▸ hk)
  have W : ∀ {lo hi : Nat}, hi ≤ w.heap.size → hi ≤ w'.heap.size := fun hh => Nat.le_trans hh ht.size
  refine ⟨⟨bx, ⟨h.shape.eight, h.shape.four⟩, ⟨?_, ho, ?_, ?_, ?_, ?_⟩, ?_⟩, ?_, ?_⟩
  · exact (h.own.disk.touch ht (fun k hk => not_part (hE k (EngA.mem_disk hk)) (ap.dp k hk))).widen (Nat.le_refl _) ht.size (Nat.le_refl _)
  · exact (h.own.log.touch ht (fun k hk => not_part (hE k (EngA.mem_log hk)) (fun hp => ap.pl k hp hk))).widen (Nat.le_refl _) ht.size (Nat.le_refl _)
  · exact (h.own.txs.touch ht (fun k hk => not_part (hE k (EngA.mem_txs (Option.mem_toList.2 hk))) (fun hp => ap.pt k hp (Option.mem_toList.2 hk)))).widen (Nat.le_refl _) ht.size (Nat.le_refl _)
  · exact (h.own.holds.touch ht (fun k hk => not_part (hE k (EngA.mem_holds (Option.mem_toList.2 hk))) (fun hp => ap.ph k hp (Option.mem_toList.2 hk)))).widen (Nat.le_refl _) ht.size (Nat.le_refl _)
  · exact nodup_part h.own.apart ho.apart hf (fun k hk => h.lt k (EngA.mem_disk hk)) (fun k hk => h.lt k (by simp only [EngA.blocks, List.mem_append] at hk ⊢; exact .inr (.inr hk)))
  · intro hk
    simp only [EngA.blocks, EngA.withPool, List.mem_append] at hk
    have hlt := h.box.lt
    have hoff := h.off
    simp only [EngA.blocks, List.mem_append] at hoff
    rcases hk with hk | hk | hk
    · exact hoff (.inl hk)
    · rcases hf E hk with hk | hk
      · exact hoff (.inr (.inl hk))
      · omega
    · exact hoff (.inr (.inr hk))
  · exact ht.mono (fun k hk => (List.mem_cons.1 hk).elim (fun h => by simp [h]) (fun h => List.mem_cons_of_mem _ (EngA.mem_pool h)))
  · intro k hk
    simp only [EngA.blocks, EngA.withPool, List.mem_append] at hk ⊢
    rcases hk with hk | hk | hk
    · exact .inl (.inl hk)
    · rcases hf k hk with h | h
      · exact .inl (.inr (.inl h))
      · exact .inr h
    · exact .inl (.inr (.inr hk))

/-- The log became another. -/
def EngA.withLog (e : EngA) (l : LogA) : EngA := { e with log := l }
theorem EngAt.logs {w w' : World} {E : Nat} {e : EngA} (h : EngAt w E e) (l : LogA) (bx : Box w' E (e.withLog l).cells TE) (ho : OwnRs w' 0 w'.heap.size l.a l.c l.recs)
    (ht : Touch (E :: blocksRs e.log.a e.log.c e.log.recs) w w') (hf : ∀ k ∈ blocksRs l.a l.c l.recs, k ∈ blocksRs e.log.a e.log.c e.log.recs ∨ w.heap.size ≤ k) : EngStep E e w (e.withLog l) w' := by
  have ap := h.apart
  have hE : ∀ k ∈ e.blocks, k ≠ E := fun k hk he => h.off (he ▸ hk)
  refine ⟨⟨bx, ⟨h.shape.eight, h.shape.four⟩, ⟨?_, ?_, ho, ?_, ?_, ?_⟩, ?_⟩, ?_, ?_⟩
  · exact (h.own.disk.touch ht (fun k hk => not_part (hE k (EngA.mem_disk hk)) (ap.dl k hk))).widen (Nat.le_refl _) ht.size (Nat.le_refl _)
  · exact (h.own.pool.touch ht (fun k hk => not_part (hE k (EngA.mem_pool hk)) (fun hp => ap.pl k hk hp))).widen (Nat.le_refl _) ht.size (Nat.le_refl _)
  · exact (h.own.txs.touch ht (fun k hk => not_part (hE k (EngA.mem_txs (Option.mem_toList.2 hk))) (fun hp => ap.lt k hp (Option.mem_toList.2 hk)))).widen (Nat.le_refl _) ht.size (Nat.le_refl _)
  · exact (h.own.holds.touch ht (fun k hk => not_part (hE k (EngA.mem_holds (Option.mem_toList.2 hk))) (fun hp => ap.lh k hp (Option.mem_toList.2 hk)))).widen (Nat.le_refl _) ht.size (Nat.le_refl _)
  · have h1 := h.own.apart
    simp only [EngA.blocks, EngA.withLog] at h1 ⊢
    rw [← List.append_assoc] at h1 ⊢
    exact nodup_part h1 ho.apart hf (fun k hk => h.lt k (by simp only [EngA.blocks, List.mem_append] at hk ⊢; exact hk.elim .inl (fun h => .inr (.inl h)))) (fun k hk => h.lt k (by simp only [EngA.blocks, List.mem_append] at hk ⊢; exact .inr (.inr (.inr hk))))
  · intro hk
    simp only [EngA.blocks, EngA.withLog, List.mem_append] at hk
    have hlt := h.box.lt
    have hoff := h.off
    simp only [EngA.blocks, List.mem_append] at hoff
    rcases hk with hk | hk | hk | hk
    · exact hoff (.inl hk)
    · exact hoff (.inr (.inl hk))
    · rcases hf E hk with hk | hk
      · exact hoff (.inr (.inr (.inl hk)))
      · omega
    · exact hoff (.inr (.inr (.inr hk)))
  · exact ht.mono (fun k hk => (List.mem_cons.1 hk).elim (fun h => by simp [h]) (fun h => List.mem_cons_of_mem _ (EngA.mem_log h)))
  · intro k hk
    simp only [EngA.blocks, EngA.withLog, List.mem_append] at hk ⊢
    rcases hk with hk | hk | hk | hk
    · exact .inl (.inl hk)
    · exact .inl (.inr (.inl hk))
    · rcases hf k hk with h | h
      · exact .inl (.inr (.inr (.inl h)))
      · exact .inr h
    · exact .inl (.inr (.inr (.inr hk)))

/-- The transactions under way became others. -/
def EngA.withTxs (e : EngA) (ls : List LiveV) (a : Option Addr) (c : Nat) : EngA := { e with txs := ls, aT := a, cT := c }
theorem EngAt.lives {w w' : World} {E : Nat} {e : EngA} (h : EngAt w E e) (ls : List LiveV) (a : Option Addr) (c : Nat) (bx : Box w' E (e.withTxs ls a c).cells TE) (ho : OwnL w' 0 w'.heap.size a c ls)
    (ht : Touch (E :: rowOf e.aT e.txs.length e.cT) w w') (hf : ∀ k ∈ rowOf a ls.length c, k ∈ rowOf e.aT e.txs.length e.cT ∨ w.heap.size ≤ k) : EngStep E e w (e.withTxs ls a c) w' := by
  have ap := h.apart
  have hE : ∀ k ∈ e.blocks, k ≠ E := fun k hk he => h.off (he ▸ hk)
  refine ⟨⟨bx, ⟨h.shape.eight, h.shape.four⟩, ⟨?_, ?_, ?_, ho, ?_, ?_⟩, ?_⟩, ?_, ?_⟩
  · exact (h.own.disk.touch ht (fun k hk => not_part (hE k (EngA.mem_disk hk)) (ap.dt k hk))).widen (Nat.le_refl _) ht.size (Nat.le_refl _)
  · exact (h.own.pool.touch ht (fun k hk => not_part (hE k (EngA.mem_pool hk)) (ap.pt k hk))).widen (Nat.le_refl _) ht.size (Nat.le_refl _)
  · exact (h.own.log.touch ht (fun k hk => not_part (hE k (EngA.mem_log hk)) (ap.lt k hk))).widen (Nat.le_refl _) ht.size (Nat.le_refl _)
  · exact (h.own.holds.touch ht (fun k hk => not_part (hE k (EngA.mem_holds (Option.mem_toList.2 hk))) (fun hp => ap.th k hp (Option.mem_toList.2 hk)))).widen (Nat.le_refl _) ht.size (Nat.le_refl _)
  · have h1 := h.own.apart
    simp only [EngA.blocks, EngA.withTxs] at h1 ⊢
    rw [← List.append_assoc, ← List.append_assoc] at h1 ⊢
    exact nodup_part h1 (rowOf_nodup _ _ _) hf (fun k hk => h.lt k (by simp only [EngA.blocks, List.mem_append] at hk ⊢; rcases hk with (hk | hk) | hk; exact .inl hk; exact .inr (.inl hk); exact .inr (.inr (.inl hk)))) (fun k hk => h.lt k (EngA.mem_holds hk))
  · intro hk
    simp only [EngA.blocks, EngA.withTxs, List.mem_append] at hk
    have hlt := h.box.lt
    have hoff := h.off
    simp only [EngA.blocks, List.mem_append] at hoff
    rcases hk with hk | hk | hk | hk | hk
    · exact hoff (.inl hk)
    · exact hoff (.inr (.inl hk))
    · exact hoff (.inr (.inr (.inl hk)))
    · rcases hf E hk with hk | hk
      · exact hoff (.inr (.inr (.inr (.inl hk))))
      · omega
    · exact hoff (.inr (.inr (.inr (.inr hk))))
  · exact ht.mono (fun k hk => (List.mem_cons.1 hk).elim (fun h => by simp [h]) (fun h => List.mem_cons_of_mem _ (EngA.mem_txs h)))
  · intro k hk
    simp only [EngA.blocks, EngA.withTxs, List.mem_append] at hk ⊢
    rcases hk with hk | hk | hk | hk | hk
    · exact .inl (.inl hk)
    · exact .inl (.inr (.inl hk))
    · exact .inl (.inr (.inr (.inl hk)))
    · rcases hf k hk with h | h
      · exact .inl (.inr (.inr (.inr (.inl h))))
      · exact .inr h
    · exact .inl (.inr (.inr (.inr (.inr hk))))

/-- What is held became other. -/
def EngA.withHolds (e : EngA) (ls : List HoldV) (a : Option Addr) (c : Nat) : EngA := { e with holds := ls, aH := a, cH := c }
theorem EngAt.held {w w' : World} {E : Nat} {e : EngA} (h : EngAt w E e) (ls : List HoldV) (a : Option Addr) (c : Nat) (bx : Box w' E (e.withHolds ls a c).cells TE) (ho : OwnH w' 0 w'.heap.size a c ls)
    (ht : Touch (E :: rowOf e.aH e.holds.length e.cH) w w') (hf : ∀ k ∈ rowOf a ls.length c, k ∈ rowOf e.aH e.holds.length e.cH ∨ w.heap.size ≤ k) : EngStep E e w (e.withHolds ls a c) w' := by
  have ap := h.apart
  have hE : ∀ k ∈ e.blocks, k ≠ E := fun k hk he => h.off (he ▸ hk)
  refine ⟨⟨bx, ⟨h.shape.eight, h.shape.four⟩, ⟨?_, ?_, ?_, ?_, ho, ?_⟩, ?_⟩, ?_, ?_⟩
  · exact (h.own.disk.touch ht (fun k hk => not_part (hE k (EngA.mem_disk hk)) (ap.dh k hk))).widen (Nat.le_refl _) ht.size (Nat.le_refl _)
  · exact (h.own.pool.touch ht (fun k hk => not_part (hE k (EngA.mem_pool hk)) (ap.ph k hk))).widen (Nat.le_refl _) ht.size (Nat.le_refl _)
  · exact (h.own.log.touch ht (fun k hk => not_part (hE k (EngA.mem_log hk)) (ap.lh k hk))).widen (Nat.le_refl _) ht.size (Nat.le_refl _)
  · exact (h.own.txs.touch ht (fun k hk => not_part (hE k (EngA.mem_txs (Option.mem_toList.2 hk))) (ap.th k (Option.mem_toList.2 hk)))).widen (Nat.le_refl _) ht.size (Nat.le_refl _)
  · have h1 := h.own.apart
    simp only [EngA.blocks, EngA.withHolds] at h1 ⊢
    rw [← List.append_assoc, ← List.append_assoc, ← List.append_assoc] at h1 ⊢
    have h2 := nodup_part (C := []) (n := w.heap.size) (by rw [List.append_nil]; exact h1) (rowOf_nodup a ls.length c) hf (fun k hk => h.lt k (by simp only [EngA.blocks, List.mem_append] at hk ⊢; rcases hk with ((hk | hk) | hk) | hk; exact .inl hk; exact .inr (.inl hk); exact .inr (.inr (.inl hk)); exact .inr (.inr (.inr (.inl hk))))) (by simp)
    rw [List.append_nil] at h2
    exact h2
  · intro hk
    simp only [EngA.blocks, EngA.withHolds, List.mem_append] at hk
    have hlt := h.box.lt
    have hoff := h.off
    simp only [EngA.blocks, List.mem_append] at hoff
    rcases hk with hk | hk | hk | hk | hk
    · exact hoff (.inl hk)
    · exact hoff (.inr (.inl hk))
    · exact hoff (.inr (.inr (.inl hk)))
    · exact hoff (.inr (.inr (.inr (.inl hk))))
    · rcases hf E hk with hk | hk
      · exact hoff (.inr (.inr (.inr (.inr hk))))
      · omega
  · exact ht.mono (fun k hk => (List.mem_cons.1 hk).elim (fun h => by simp [h]) (fun h => List.mem_cons_of_mem _ (EngA.mem_holds h)))
  · intro k hk
    simp only [EngA.blocks, EngA.withHolds, List.mem_append] at hk ⊢
    rcases hk with hk | hk | hk | hk | hk
    · exact .inl (.inl hk)
    · exact .inl (.inr (.inl hk))
    · exact .inl (.inr (.inr (.inl hk)))
    · exact .inl (.inr (.inr (.inr (.inl hk))))
    · rcases hf k hk with h | h
      · exact .inl (.inr (.inr (.inr (.inr h))))
      · exact .inr h

/-- The disk became another. -/
def EngA.withDisk (e : EngA) (ps : List PageA) : EngA := { e with disk := ps }
end Go.Proofs.YtickiokdcbeefaaGreatDoor

/- Who goes from a pool that is full: the walk of spec.l6Victim. -/
namespace Go.Proofs.YtickiokdcbeefaaGreatDoor
open Go.RowKit

def zeroStV : SeatV := zeroSt.v
def coldV (s : SeatV) : SeatV := { s with hot := false }
/-- From the hand on: a seat that is hot is so no longer; the first one that is not. -/
def victimV : Nat → List SeatV → Nat → List SeatV × Nat × Nat
  | 0, ss, h => (ss, h, 0)
  | n + 1, ss, h => if (ss.getD h zeroStV).hot = true then victimV n (ss.set h (coldV (ss.getD h zeroStV))) ((h + 1) % 3) else (ss, (h + 1) % 3, h)
def hots (ss : List SeatV) : Nat := (ss.filter (·.hot)).length
def SeatA.cold (s : SeatA) : SeatA := { s with hot := false }
theorem cold_v (s : SeatA) : s.cold.v = coldV s.v := rfl
theorem seatV_at (ls : List SeatA) (k : Nat) : (ls.map SeatA.v).getD k zeroStV = (ls.getD k zeroSt).v := by
  simp only [List.getD, List.getElem?_map]
  cases ls[k]? <;> rfl
theorem seat_set (ls : List SeatA) (k : Nat) (s : SeatA) (hk : k < ls.length) : ls.set k s = ls.take k ++ s :: ls.drop (k + 1) := by
  rw [List.set_eq_take_append_cons_drop, if_pos hk]
theorem hots_set (ls : List SeatV) (k : Nat) (hk : k < ls.length) (hh : (ls.getD k zeroStV).hot = true) : hots (ls.set k (coldV (ls.getD k zeroStV))) + 1 = hots ls := by
  induction ls generalizing k with
  | nil => simp at hk
  | cons s r ih =>
    cases k with
    | zero =>
      simp only [List.getD_cons_zero] at hh
      simp [hots, coldV, hh]
    | succ k =>
      simp only [List.getD_cons_succ] at hh ⊢
      have := ih k (by simpa using hk) hh
      simp only [hots, List.set_cons_succ, List.filter_cons] at this ⊢
      split <;> simp_all <;> omega
theorem hots_le (ls : List SeatV) : hots ls ≤ ls.length := List.length_filter_le _ _
theorem victim_len (n : Nat) (ls : List SeatV) (h : Nat) : (victimV n ls h).1.length = ls.length := by
  induction n generalizing ls h with
  | zero => rfl
  | succ n ih =>
    rw [victimV]
    split
    · rw [ih]; simp
    · rfl
theorem victim_hand (n : Nat) (ls : List SeatV) (h : Nat) (hh : h < 3) : (victimV n ls h).2.1 < 3 ∧ (victimV n ls h).2.2 < 3 := by
  induction n generalizing ls h with
  | zero => exact ⟨hh, by show 0 < 3; omega⟩
  | succ n ih =>
    rw [victimV]
    split
    · exact ih _ _ (Nat.mod_lt _ (by omega))
    · exact ⟨Nat.mod_lt _ (by omega), hh⟩

theorem victim_step (n : Nat) (ts : List SeatA) (k : Nat) : victimV (n + 1) (ts.map SeatA.v) k = if (ts.getD k zeroSt).hot = true then victimV n ((ts.map SeatA.v).set k (coldV (ts.getD k zeroSt).v)) ((k + 1) % 3) else (ts.map SeatA.v, (k + 1) % 3, k) := by
  rw [victimV, seatV_at]
  rfl

structure PoolAt (w : World) (lo hi B o : Nat) (vs : List Value) (t : TypeId) (a : Option Addr) (c : Nat) (ss : List SeatA) (hand : Int) : Prop where
  box : Box w B vs t
  c0 : vs[o]? = some (.slice a ss.length c)
  c1 : vs[o + 1]? = some (.int .i64 hand)
  own : OwnSts w lo hi a c ss
  off : B ∉ blocksSts a c ss
theorem blocksSts_len {a : Option Addr} {c n : Nat} {ss ts : List SeatA} (h : ss.length = n) (h2 : ts.length = n) (hb : ss.flatMap SeatA.blocks = ts.flatMap SeatA.blocks) : blocksSts a c ss = blocksSts a c ts := by
  unfold blocksSts; rw [h, h2, hb]
theorem cold_blocks (ls : List SeatA) (k : Nat) (hk : k < ls.length) : (ls.set k (ls.getD k zeroSt).cold).flatMap SeatA.blocks = ls.flatMap SeatA.blocks := by
  rw [seat_set _ _ _ hk]
  conv => rhs; rw [seatD_split ls k hk]
  simp only [List.flatMap_append, List.flatMap_cons]
  rfl

set_option maxHeartbeats 2000000 in
set_option maxRecDepth 100000 in
theorem l6Victim_any (lo hi B o : Nat) (vs : List Value) (t : TypeId) (a : Option Addr) (c : Nat) (ss : List SeatA) (h : Nat) (w : World) (hp : PoolAt w lo hi B o vs t a c ss h) (h3 : ss.length = 3) (hh : h < 3) :
    Calls Tryz.prog 145 #[.pointer (some ⟨B, o, none⟩)] w fun r w' => ∃ (ts : List SeatA) (k hand : Nat), r = .returned (.int .i64 k) ∧ Hid (victimV 4 (ss.map SeatA.v) h = (ts.map SeatA.v, hand, k)) ∧ ts.length = 3 ∧ PoolAt w' lo hi B o (vs.set (o + 1) (.int .i64 hand)) t a c ts hand ∧ Hid (blocksSts a c ts = blocksSts a c ss) ∧ Touch (B :: blocksSts a c ss) w w' := by
  have hv1 : o + 1 < vs.length := (List.getElem?_eq_some_iff.1 hp.c1).1
  go_enter Tryz.func145, Tryz.ntmps145
  go_wp2_with fail
  go_loopg [2] 4 (fun n v wr => ∃ (ts : List SeatA) (k : Nat), v = .int .i64 0 ∧ k < 3 ∧ ts.length = 3 ∧ PoolAt wr lo hi B o (vs.set (o + 1) (.int .i64 (k : Int))) t a c ts k ∧ Hid (victimV 4 (ss.map SeatA.v) h = victimV n (ts.map SeatA.v) k) ∧ hots (ts.map SeatA.v) < n ∧ Hid (blocksSts a c ts = blocksSts a c ss) ∧ Touch (B :: blocksSts a c ss) w wr)
  case atStart =>
    have e : vs.set (o + 1) (.int .i64 (h : Int)) = vs := by
      obtain ⟨_, hg⟩ := List.getElem?_eq_some_iff.1 hp.c1
      rw [← hg]; simp
    refine ⟨ss, h, rfl, hh, h3, by rw [e]; exact hp, rfl, ?_, rfl, Touch.refl _ _⟩
    have := hots_le (ss.map SeatA.v)
    rw [List.length_map] at this
    omega
  case round =>
    obtain ⟨ts, k, rfl, hk, hlen, pt, hv, hhot, hbl, htc⟩ := hrel
    clear hp h3 hh
    have vlen : (vs.set (o + 1) (.int .i64 (k : Int))).length = vs.length := by simp
    have x1 : wr.cell? ⟨B, o + 1, none⟩ = some (.int .i64 (k : Int)) := pt.box.cell (o + 1) _ pt.c1
    have f1 := pt.box.frozen (o + 1)
    obtain ⟨g, rfl⟩ : ∃ g, a = some ⟨g, 0, none⟩ := by
      rcases pt.own.row.2 with ⟨_, h0⟩ | ⟨g, cap', cur, hv, _⟩
      · omega
      · simp only [Value.slice.injEq] at hv; exact ⟨g, hv.1⟩
    have hmem : g ∈ blocksSts (some ⟨g, 0, none⟩) c ts := by simp [blocksSts, Value.ownBlock]
    have hgB : B ≠ g := fun e => pt.off (e ▸ hmem)
    obtain ⟨W1, hW1, b1, hw1, hs1⟩ := box_set pt.box (o + 1) (.int .i64 (((k + 1) % 3 : Nat) : Int))
    rw [List.set_set] at b1
    have t1 : Touch [B] wr W1 := ⟨hw1.os, hw1.tape, hw1.output, hw1.size, fun j hj hn => hw1.block j hj (fun hh => hn (by simp; omega))⟩
    have o1 : OwnSts W1 lo hi (some ⟨g, 0, none⟩) c ts := pt.own.touch t1 (fun j hj hh => pt.off (by rw [← List.mem_singleton.1 hh]; exact hj))
    have c0 : (vs.set (o + 1) (.int .i64 (((k + 1) % 3 : Nat) : Int)))[o]? = some (.slice (some ⟨g, 0, none⟩) ts.length c) := by
      have := pt.c0
      rw [List.getElem?_set_ne (by omega)] at this ⊢
      exact this
    have c1 : (vs.set (o + 1) (.int .i64 (((k + 1) % 3 : Nat) : Int)))[o + 1]? = some (.int .i64 (((k + 1) % 3 : Nat) : Int)) := List.getElem?_set_self hv1
    have y0 := b1.cell o _ c0
    have C0 : Hid (_ = _) := c0
    have C1 : Hid (_ = _) := c1
    have r1 := (row_seat o1.row rfl k (by omega)).1 19 _ (show (ts.getD k zeroSt).cells[19]? = some (.bool (ts.getD k zeroSt).hot) from rfl)
    have rf1 := o1.row.frozenAt (k * 20 + 19)
    have HT1 : Hid (Touch (B :: blocksSts (some ⟨g, 0, none⟩) c ss) w W1) := htc.trans (t1.mono (by simp))
    have hoff : B ∉ blocksSts (some ⟨g, 0, none⟩) c ts := pt.off
    have HST : Hid (victimV 4 (ss.map SeatA.v) h = victimV gk (ts.map SeatA.v) k) := hv
    have hkb : (k : Int) < (ts.length : Int) := by omega
    have hk0 : (0 : Int) ≤ (k : Int) := by omega
    have HM : Hid (wr.setCell ⟨B, o + 1, none⟩ (.int .i64 (((k + 1) % 3 : Nat) : Int)) = W1) := hW1
    have HMOD : Hid (((k : Int) + 1) % 3 = (((k + 1) % 3 : Nat) : Int)) := by rw [Hid]; omega
    have hl1 : ts.length ≤ 3 := by omega
    have hl2 : 3 ≤ ts.length := by omega
    clear hW1 hw1 hs1 t1 pt hv htc vlen c0 c1 hlen hv1
    cases gk with
    | zero => exact absurd hhot (Nat.not_lt_zero _)
    | succ n =>
      have HST2 : Hid (victimV 4 (ss.map SeatA.v) h = if (ts.getD k zeroSt).hot = true then victimV n ((ts.map SeatA.v).set k (coldV (ts.getD k zeroSt).v)) ((k + 1) % 3) else (ts.map SeatA.v, (k + 1) % 3, k)) := by
        rw [Hid, HST.out]
        exact victim_step n ts k
      go_upto_region 3 with fail
      rw [HMOD.out, HM.out]
      clear HM HMOD HST x1 f1
      generalize hz : ts.getD k zeroSt = z at *
      cases hht : z.hot with
      | true =>
        rw [hht] at r1
        obtain ⟨o2, t2⟩ := OwnSts.cellSet (A := ts.take k) (z := z) (B := ts.drop (k + 1)) (z' := z.cold) (by rw [← hz, ← seatD_split ts k (by omega)]; exact o1) 19 (.bool false) (by omega) rfl rfl
        have hkl : (ts.take k).length = k := by rw [List.length_take]; omega
        rw [hkl, ← seat_set ts k _ (by omega)] at o2
        rw [hkl] at t2
        obtain ⟨W2, hW2⟩ : ∃ W2, Hid (W1.setCell ⟨g, k * 20 + 19, none⟩ (.bool false) = W2) := ⟨_, rfl⟩
        rw [hW2.out] at o2 t2
        have HO2 : Hid (_) := o2
        have b2 := b1.touch t2 (by simpa using hgB)
        have HST3 : Hid (victimV 4 (ss.map SeatA.v) h = victimV n ((ts.map SeatA.v).set k (coldV z.v)) ((k + 1) % 3)) := by
          have := HST2.out; rw [hht, if_pos rfl] at this; exact this
        have HH : Hid (hots ((ts.set k z.cold).map SeatA.v) < n) := by
          have e := hots_set (ts.map SeatA.v) k (by rw [List.length_map]; omega) (by rw [seatV_at, hz]; exact hht)
          rw [seatV_at, hz] at e
          rw [Hid, List.map_set, cold_v]
          omega
        have HB2 : Hid (blocksSts (some ⟨g, 0, none⟩) c (ts.set k z.cold) = blocksSts (some ⟨g, 0, none⟩) c ss) := by
          rw [Hid, ← hbl.out]
          have e := cold_blocks ts k (by omega)
          rw [hz] at e
          exact blocksSts_len (n := ts.length) (by simp) rfl e
        have HT2 : Hid (Touch (B :: blocksSts (some ⟨g, 0, none⟩) c ss) w W2) := HT1.out.trans (t2.mono (fun j hj => List.mem_cons_of_mem _ (by rw [← hbl.out, List.mem_singleton.1 hj]; exact hmem)))
        clear o1 o2 t2 HST2 hz HT1 hhot
        go_wp2_with fail
        rw [hW2.out]
        go_roundg n
        case measure => omega
        case rel => exact ⟨ts.set k z.cold, (k + 1) % 3, rfl, Nat.mod_lt _ (by omega), by rw [List.length_set]; omega, ⟨b2, by rw [List.length_set]; exact C0.out, C1.out, HO2.out, by rw [HB2.out, ← hbl.out]; exact hoff⟩, by rw [Hid, HST3.out, List.map_set, cold_v], HH.out, HB2, HT2.out⟩
      | false =>
        rw [hht] at r1
        have HST3 : Hid (victimV 4 (ss.map SeatA.v) h = (ts.map SeatA.v, (k + 1) % 3, k)) := by
          have := HST2.out; rw [hht, if_neg (by decide)] at this; exact this
        have HO1 : Hid (_) := o1
        clear HST2 hz o1
        go_wp2_with fail
        go_ret
        exact ⟨ts, k, (k + 1) % 3, rfl, HST3, by omega, ⟨b1, C0.out, C1.out, HO1.out, hoff⟩, hbl, HT1.out⟩
end Go.Proofs.YtickiokdcbeefaaGreatDoor

/- Appending a seat, a record, as a step of a region that draws its order: where the row lies behind it. -/
namespace Go.Proofs.YtickiokdcbeefaaGreatDoor
open Go.RowKit

theorem run_append_seat {w : World} (ty : TypeId) (lo hi : Nat) (a : Option Addr) (c : Nat) (rs : List SeatA) (hown : OwnSts w lo hi a c rs)
    (b off : Nat) (sc : Nat) (q : SeatA) (hr : w.rangeAt b off q.cells) (l u : Nat) (hq : q.own w l u) (hl : hi ≤ l) (hu : u ≤ w.heap.size)
    (hb : rs.length + 1 ≤ 68719476736) (hlo : lo ≤ hi) :
    ∃ a' c' w', (Builtin.append_ #[100, 100] ty #[.slice a rs.length c, .slice (some ⟨b, off, none⟩) 1 sc]).run Tryz.prog w = .ok (.slice a' (rs ++ [q]).length c') w' ∧ OwnSts w' lo w'.heap.size a' c' (rs ++ [q]) ∧ w.grownBy w' (Value.slice a rs.length c).ownBlock ∧
      (∀ k, (Value.slice a' (rs ++ [q]).length c').ownBlock = some k → (Value.slice a rs.length c).ownBlock = some k ∨ k = w.heap.size) := by
  obtain ⟨i0, hi0, hz0, hz1, hz2⟩ := info_parts Tryz.infoSeat
  have hqb := hq.blocks_lt
  have htop := hown.top
  obtain ⟨v', w', hrun, h1, h2, _, h5⟩ := run_append_own_at (P := Tryz.prog) w lo 100 ty 176 i0 (.agg zeroSt.cells.toArray) 20 280 Tryz.underlying100 hi0 hz0 hz1 hz2 rfl (by decide) _ _ _ hown.row ⟨b, off, none⟩ 1 sc q.cells (by rfl) (by
    intro j v hj
    rw [Addr_add]
    exact hr j v hj) (oneSt q) (by simp only [maxLen]; omega) (by omega) (by omega)
  have e : cellsSts rs ++ q.cells = cellsSts (rs ++ [q]) := by rw [cellsSts_app, cellsSts_cons]; simp [cellsSts]
  have e2 : rs.length + 1 = (rs ++ [q]).length := by simp
  rw [e, e2] at h1
  have sh : ∃ a' c', v' = .slice a' (rs ++ [q]).length c' := by
    rcases h1.2 with ⟨rfl, h0⟩ | ⟨g, cap, cur, rfl, _⟩
    · simp at h0
    · exact ⟨_, _, rfl⟩
  obtain ⟨a', c', rfl⟩ := sh
  have hsz := h2.size
  have ht : Touch (Value.slice a rs.length c).ownBlock.toList w w' := Touch.of_grown h2 (fun k hk => Option.mem_toList.2 hk)
  have hrow := h1.lt
  have hold : ∀ r ∈ rs, r.own w' lo w'.heap.size := fun r hr => ((hown.each r hr).touch ht (fun k hk hk' => (List.nodup_append.1 hown.apart).2.2 k hk' k (List.mem_flatMap.2 ⟨r, hr, hk⟩) rfl)).widen (Nat.le_refl _) (by omega) (Nat.le_refl _)
  have hnew : q.own w' lo w'.heap.size := (hq.touch ht (fun k hk hk' => by have := hqb k hk; have := hown.blk k (Option.mem_toList.1 hk'); omega)).widen (by omega) (by omega) (Nat.le_refl _)
  refine ⟨a', c', w', hrun, ⟨h1, Nat.le_refl _, fun k hk => (hrow k hk).2, fun r hr => ?_, ?_⟩, h2, fun k hk => h5.elim (fun h5 => .inl (by rw [← h5]; exact hk)) (fun h5 => by rw [h5] at hk; exact .inr (Option.some.inj hk).symm)⟩
  · rcases List.mem_append.1 hr with hr | hr
    · exact hold r hr
    · obtain rfl := List.mem_singleton.1 hr
      exact hnew
  · rw [List.flatMap_append, List.nodup_append, List.nodup_append]
    have hap := (List.nodup_append.1 hown.apart).2.1
    have hin : ∀ x ∈ rs.flatMap SeatA.blocks, lo ≤ x ∧ x < hi := fun x hx => by
      obtain ⟨r, hr, hx⟩ := List.mem_flatMap.1 hx
      exact (hown.each r hr).blocks_lt x hx
    refine ⟨by cases (Value.slice a' (rs ++ [q]).length c').ownBlock <;> simp, ⟨hap, by simpa using hq.apart, fun x hx y hy e => ?_⟩, fun x hx y hy e => ?_⟩
    · have := hin x hx
      simp only [List.flatMap_cons, List.flatMap_nil, List.append_nil] at hy
      have := hqb y hy
      omega
    · have hx' := Option.mem_toList.1 hx
      subst e
      rcases List.mem_append.1 hy with hy | hy
      · obtain ⟨r, hr, hy⟩ := List.mem_flatMap.1 hy
        exact rowSt_apart h1 (hold r hr) x hx' hy
      · simp only [List.flatMap_cons, List.flatMap_nil, List.append_nil] at hy
        exact rowSt_apart h1 hnew x hx' hy

theorem step_append_seat {w : World} {ops : Array Oper} {o : Oper} {act : Act} {K : Act → World → Prop} {Q : Exit → Act → World → Prop} {E : Prop} (hgd : o.guard = none) (s x : Operand)
    (ho : o.op = .call { callee := .builtin .append, args := #[s, x], argTypes := #[100, 100] })
    (lo hi : Nat) (a : Option Addr) (c : Nat) (rs : List SeatA) (hs : act.eval s = .slice a rs.length c) (hown : OwnSts w lo hi a c rs)
    (b off : Nat) (sc : Nat) (q : SeatA) (hx : act.eval x = .slice (some ⟨b, off, none⟩) 1 sc) (hr : w.rangeAt b off q.cells) (l u : Nat) (hq : q.own w l u) (hl : hi ≤ l) (hu : u ≤ w.heap.size)
    (hb : rs.length + 1 ≤ 68719476736) (hlo : lo ≤ hi)
    (h : ∀ a' c' w', OwnSts w' lo w'.heap.size a' c' (rs ++ [q]) → w.grownBy w' (Value.slice a rs.length c).ownBlock → (∀ k, (Value.slice a' (rs ++ [q]).length c').ownBlock = some k → (Value.slice a rs.length c).ownBlock = some k ∨ k = w.heap.size) → K (act.put o.dst (.slice a' (rs ++ [q]).length c')) w') :
    if Region.wanted o (yielded ops act.tmps) = true then Oper.wp Tryz.prog o act w K Q else E := by
  have hw : Region.wanted o (yielded ops act.tmps) = true := by simp [Region.wanted, hgd]
  rw [if_pos hw]
  obtain ⟨a', c', w', hrun, h2, h3, h4⟩ := run_append_seat (w := w) o.type lo hi a c rs hown b off sc q hr l u hq hl hu hb hlo
  unfold Oper.wp
  simp [execOp, ho, resolve, invoke, builtin, hs, hx, hrun, Result.andThen]
  have := h a' c' w' h2 h3 h4
  rw [List.length_append, List.length_singleton] at this
  exact this
end Go.Proofs.YtickiokdcbeefaaGreatDoor

/- A seat made by a literal. -/
namespace Go.Proofs.YtickiokdcbeefaaGreatDoor
open Go.RowKit

set_option maxHeartbeats 1000000 in
set_option maxRecDepth 100000 in
theorem build_seat {w : World} {ops : Array Oper} {rest : List Oper} {dst : Option Nat} {ty : TypeId} {pos : String} {aft : Array Edge} {act : Act} {Q : Exit → Act → World → Prop} (x y : Operand) (no lsn : Int) (a b c d : SlotA)
    (hx : act.eval x = .int .i64 no) (hy : act.eval y = .agg (PageA.cells ⟨lsn, [a, b, c, d]⟩).toArray)
    (h : wpList Tryz.prog ops Q rest (act.put dst (.agg (SeatA.cells ⟨no, lsn, a, b, c, d, false, true⟩).toArray)) w) :
    wpList Tryz.prog ops Q ({ dst := dst, op := .build 176 #[(0, x), (1, y), (3, .const (.bool true))], type := ty, pos := pos, after := aft, guard := none } :: rest) act w := by
  refine wpList_plain rfl fun K hK => ?_
  unfold Oper.wp execOp
  simp only [List.map_toArray, List.map_cons, List.map_nil, hx, hy]
  have e : (Instr.build 176 #[(0, Value.int .i64 no), (1, Value.agg (PageA.cells ⟨lsn, [a, b, c, d]⟩).toArray), (3, Value.bool true)]).run Tryz.prog w = .ok (.agg (SeatA.cells ⟨no, lsn, a, b, c, d, false, true⟩).toArray) w := run_build w _ _ _ (by kernel_rfl)
  have ec : act.eval (.const (.bool true)) = .bool true := rfl
  rw [ec]
  simp only [Sem.run_bind, e, Result.andThen_ok, Sem.run_pure]
  exact hK _ _ h
theorem build_zero_seat {w : World} {ops : Array Oper} {rest : List Oper} {dst : Option Nat} {ty : TypeId} {pos : String} {aft : Array Edge} {act : Act} {Q : Exit → Act → World → Prop}
    (h : wpList Tryz.prog ops Q rest (act.put dst (.agg zeroSt.cells.toArray)) w) :
    wpList Tryz.prog ops Q ({ dst := dst, op := .build 176 #[], type := ty, pos := pos, after := aft, guard := none } :: rest) act w := by
  refine wpList_plain rfl fun K hK => ?_
  unfold Oper.wp execOp
  have e : (Instr.build 176 #[]).run Tryz.prog w = .ok (.agg zeroSt.cells.toArray) w := run_build w _ _ _ (by kernel_rfl)
  simp only [List.map_toArray, List.map_nil, Sem.run_bind, e, Result.andThen_ok, Sem.run_pure]
  exact hK _ _ h
theorem lit_seat (q : SeatA) : List.foldl (fun cs x => cs.setIfInBounds x.snd x.fst) (#[.int .i64 0, .int .i64 0, .bool false, .int .i64 0, .slice none 0 0, .slice none 0 0, .bool false, .int .i64 0, .slice none 0 0, .slice none 0 0, .bool false, .int .i64 0, .slice none 0 0, .slice none 0 0, .bool false, .int .i64 0, .slice none 0 0, .slice none 0 0, .bool false, .bool false] : Array Value) q.cells.zipIdx = q.cells.toArray := by simp [SeatA.cells, SlotA.cells, List.zipIdx]
theorem seat_one (q : SeatA) : q.cells.toArray.all (·.oneCell') = true := all_oneCell_toArray (oneSt q)
theorem seat_info (q : SeatA) : (Tryz.prog.info? 176).map (·.size) = some q.cells.length := by show _ = some 20; kernel_rfl
theorem seat_load {w : World} {C : Nat} (q : SeatA) (b : Box w C q.cells 176) : (loadVar 176 ⟨C, 0, none⟩).run Tryz.prog w = .ok (.agg q.cells.toArray) w :=
  run_loadVar_mid (P := Tryz.prog) w C 0 176 q.cells _ (Box.range [] q.cells [] (by simpa using b)) Tryz.underlying176 rfl (seat_info q)
theorem seat_out {w : World} {C : Nat} (q : SeatA) (old : List Value) (ho : old.length = 20) (bC : Box w C old 176) :
    ∃ WF, Hid (w.setCells C 0 q.cells = WF) ∧ Within C (C + 1) w WF ∧ WF.heap.size = w.heap.size ∧ Hid (w.there C 0 q.cells.toArray.size) ∧ Hid ((loadVar 176 ⟨C, 0, none⟩).run Tryz.prog WF = .ok (.agg q.cells.toArray) WF) ∧ Box WF C q.cells 176 := by
  obtain ⟨WF, hWF, bF, hwF, hsF⟩ := range_fill [] old q.cells [] (by simpa using bC) (by rw [ho]; rfl)
  have bF' : Box WF C q.cells 176 := by simpa using bF
  exact ⟨WF, hWF, hwF, hsF, bC.there 0 _ (by rw [ho]; show 0 + 20 ≤ 20; decide), seat_load q bF', bF'⟩
end Go.Proofs.YtickiokdcbeefaaGreatDoor
