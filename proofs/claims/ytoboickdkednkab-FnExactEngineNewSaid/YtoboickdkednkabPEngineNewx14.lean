/- Several texts in one, in their order. -/
import Derived.Test.YtoboickdkednkabPEngineNewx12
import Derived.Test.YtoboickdkednkabPEngineNewx8
import Derived.Deep.QuietTactic
import Derived.BigQuiet
import Derived.Test.YtoboickdkednkabPEngineNewx13
import Derived.Test.YtoboickdkednkabPEngineNewx7
import Derived.Deep.CutRange
import Derived.Deep.LoopGhost
/- The walks of slices.Equal over what is under way, impl.sameSlot and impl.sameRec. -/
namespace Go.Proofs.Ytoboickdkednkab
open Go.RowKit

end Go.Proofs.Ytoboickdkednkab

/- The walk of impl.RecOk. -/
namespace Go.Proofs.Ytoboickdkednkab
open Go.RowKit

end Go.Proofs.Ytoboickdkednkab

/- The walk of impl.LogOk. -/
namespace Go.Proofs.Ytoboickdkednkab
open Go.RowKit

end Go.Proofs.Ytoboickdkednkab

/- The walk of spec.LogOk. -/
namespace Go.Proofs.Ytoboickdkednkab
open Go.RowKit

end Go.Proofs.Ytoboickdkednkab

/- The walks of spec.l5Force, spec.Force and impl.Force. -/
namespace Go.Proofs.Ytoboickdkednkab
open Go.RowKit

end Go.Proofs.Ytoboickdkednkab

/- spec.l5Force at a log that lies inside an engine; spec.l6Victim. -/
namespace Go.Proofs.Ytoboickdkednkab
open Go.RowKit

end Go.Proofs.Ytoboickdkednkab

/- A cell of a seat stored; spec.l6Victim. -/
namespace Go.Proofs.Ytoboickdkednkab
open Go.RowKit

theorem cellsSts_mid (A B : List SeatA) (z z' : SeatA) (i : Nat) (v : Value) (hi : i < 20) (hc : z'.cells = z.cells.set i v) : (cellsSts (A ++ z :: B)).set (A.length * 20 + i) v = cellsSts (A ++ z' :: B) := by
  rw [cellsSts_app, cellsSts_cons, cellsSts_app, cellsSts_cons, List.set_append_right _ _ (by rw [cellsSts_len]; omega), cellsSts_len, show A.length * 20 + i - A.length * 20 = i by omega, List.set_append_left _ _ (by rw [cellsSt_len]; omega), hc]
/-- One cell of a seat stored: its lists stay. -/
theorem OwnSts.cellSet {w : World} {lo hi g c : Nat} {A B : List SeatA} {z z' : SeatA} (h : OwnSts w lo hi (some ⟨g, 0, none⟩) c (A ++ z :: B)) (i : Nat) (v : Value) (hi' : i < 20) (hc : z'.cells = z.cells.set i v) (hss : z'.ss = z.ss) :
    OwnSts (w.setCell ⟨g, A.length * 20 + i, none⟩ v) lo hi (some ⟨g, 0, none⟩) c (A ++ z' :: B) ∧ Touch [g] w (w.setCell ⟨g, A.length * 20 + i, none⟩ v) := by
  have hrow := h.row
  obtain ⟨h1, h2⟩ := hrow.stored (A.length * 20 + i) v
  have ht : Touch [g] w (w.setCell ⟨g, A.length * 20 + i, none⟩ v) := Touch.of_grown h2 (fun k hk => by cases hk; simp)
  have hbl : z'.blocks = z.blocks := by unfold SeatA.blocks; rw [hss]
  have hap := h.apart
  have hng : ∀ r ∈ A ++ z :: B, g ∉ r.blocks := fun r hr hk => by
    have := (List.nodup_append.1 hap).2.2 g (by simp [Value.ownBlock]) g (List.mem_flatMap.2 ⟨r, hr, hk⟩)
    exact this rfl
  have hlen : (A ++ z' :: B).length = (A ++ z :: B).length := by simp
  have hz : z'.own w lo hi := by
    have := h.each z (by simp)
    unfold SeatA.own at this ⊢
    rwa [hss]
  refine ⟨⟨?_, ?_, ?_, fun r hr => ?_, ?_⟩, ht⟩
  · rw [hlen, ← cellsSts_mid A B z z' i v hi' hc]
    exact h1
  · simpa using h.top
  · rw [hlen]; exact h.blk
  · rcases List.mem_append.1 hr with hr | hr
    · exact (h.each r (by simp [hr])).touch ht (fun k hk hk' => hng r (by simp [hr]) (by rw [← List.mem_singleton.1 hk']; exact hk))
    · rcases List.mem_cons.1 hr with rfl | hr
      · exact hz.touch ht (fun k hk hk' => hng z (by simp) (by rw [← hbl, ← List.mem_singleton.1 hk']; exact hk))
      · exact (h.each r (by simp [hr])).touch ht (fun k hk hk' => hng r (by simp [hr]) (by rw [← List.mem_singleton.1 hk']; exact hk))
  · rw [hlen]
    simpa [hbl] using hap
end Go.Proofs.Ytoboickdkednkab

/- An engine in its box: what a step of it keeps, and what is new behind it. -/
namespace Go.Proofs.Ytoboickdkednkab
open Go.RowKit

theorem nodup_part {A P P' C : List Nat} {n : Nat} (h : (A ++ (P ++ C)).Nodup) (hP : P'.Nodup) (hf : ∀ k ∈ P', k ∈ P ∨ n ≤ k) (hA : ∀ k ∈ A, k < n) (hC : ∀ k ∈ C, k < n) : (A ++ (P' ++ C)).Nodup := by
  simp only [List.nodup_append, List.mem_append] at h ⊢
  obtain ⟨h1, ⟨_, h3, h4⟩, h5⟩ := h
  refine ⟨h1, ⟨hP, h3, fun a ha b hb e => ?_⟩, fun a ha b hb e => ?_⟩
  · rcases hf a ha with h | h
    · exact h4 a h b hb e
    · have := hC b hb; omega
  · rcases hb with hb | hb
    · rcases hf b hb with h | h
      · exact h5 a ha b (.inl h) e
      · have := hA a ha; omega
    · exact h5 a ha b (.inr hb) e

abbrev TE : TypeId := 40
structure EngAt (w : World) (E : Nat) (e : EngA) : Prop where
  box : Box w E e.cells TE
  shape : e.shape
  own : e.own w 0 w.heap.size
  off : E ∉ e.blocks
theorem EngAt.below {w w' : World} {E : Nat} {e : EngA} (h : EngAt w E e) (hb : Below w.heap.size w w') : EngAt w' E e :=
  ⟨h.box.below hb h.box.lt, h.shape, (h.own.below hb).widen (Nat.le_refl _) hb.size (Nat.le_refl _), h.off⟩
theorem EngAt.lt {w : World} {E : Nat} {e : EngA} (h : EngAt w E e) : ∀ k ∈ e.blocks, k < w.heap.size := fun k hk => (h.own.blocks_lt k hk).2
theorem EngAt.touch {w w' : World} {E : Nat} {e : EngA} {bl : List Nat} (h : EngAt w E e) (ht : Touch bl w w') (hE : E ∉ bl) (hd : ∀ k ∈ e.blocks, k ∉ bl) : EngAt w' E e :=
  ⟨h.box.touch ht hE, h.shape, (h.own.touch ht hd).widen (Nat.le_refl _) ht.size (Nat.le_refl _), h.off⟩
theorem EngAt.within {w w' : World} {E l r : Nat} {e : EngA} (h : EngAt w E e) (hw : Within l r w w') (hE : ¬ (l ≤ E ∧ E < r)) (hd : ∀ k ∈ e.blocks, ¬ (l ≤ k ∧ k < r)) : EngAt w' E e :=
  h.touch (bl := (List.range r).filter (fun k => decide (l ≤ k))) ⟨hw.os, hw.tape, hw.output, hw.size, fun k hk hn => hw.block k hk (fun hh => hn (by simp [hh.1, hh.2]))⟩ (by simpa [and_comm] using hE) (fun k hk => by have := hd k hk; simpa [and_comm] using this)

/-- B is none of the engine's blocks. -/
def Off (E : Nat) (e : EngA) (B : Nat) : Prop := B ≠ E ∧ B ∉ e.blocks
theorem EngAt.new {w : World} {E B : Nat} {e : EngA} (h : EngAt w E e) (hB : w.heap.size ≤ B) : Off E e B :=
  ⟨by have := h.box.lt; omega, fun hk => by have := h.lt B hk; omega⟩

/-- One step: the engine e becomes e'; nothing but it is written. -/
structure EngStep (E : Nat) (e : EngA) (w : World) (e' : EngA) (w' : World) : Prop where
  at' : EngAt w' E e'
  touch : Touch (E :: e.blocks) w w'
  fresh : ∀ k ∈ e'.blocks, k ∈ e.blocks ∨ w.heap.size ≤ k
theorem EngStep.size {E : Nat} {e e' : EngA} {w w' : World} (s : EngStep E e w e' w') : w.heap.size ≤ w'.heap.size := s.touch.size
theorem EngStep.refl {E : Nat} {e : EngA} {w : World} (h : EngAt w E e) : EngStep E e w e w := ⟨h, Touch.refl _ _, fun _ hk => .inl hk⟩
theorem EngStep.trans {E : Nat} {e e1 e2 : EngA} {w w1 w2 : World} (s : EngStep E e w e1 w1) (t : EngStep E e1 w1 e2 w2) : EngStep E e w e2 w2 := by
  refine ⟨t.at', ⟨t.touch.os.trans s.touch.os, t.touch.tape.trans s.touch.tape, t.touch.output.trans s.touch.output, Nat.le_trans s.size t.size, fun k hk hn => ?_⟩, fun k hk => ?_⟩
  · have hn1 : k ∉ E :: e1.blocks := fun h => by
      rcases List.mem_cons.1 h with h | h
      · exact hn (by simp [h])
      · rcases s.fresh k h with h | h
        · exact hn (List.mem_cons_of_mem _ h)
        · omega
    exact (t.touch.block k (Nat.lt_of_lt_of_le hk s.size) hn1).trans (s.touch.block k hk hn)
  · rcases t.fresh k hk with h | h
    · exact s.fresh k h
    · exact .inr (Nat.le_trans s.size h)
theorem EngStep.below {E : Nat} {e e' : EngA} {w w' w'' : World} (s : EngStep E e w e' w') (hb : Below w'.heap.size w' w'') : EngStep E e w e' w'' :=
  ⟨s.at'.below hb, s.touch.trans (Touch.of_below hb), s.fresh⟩
theorem EngStep.after {E : Nat} {e e' : EngA} {w0 w w' : World} (hb : Below w0.heap.size w0 w) (s : EngStep E e w e' w') : EngStep E e w0 e' w' :=
  ⟨s.at', (Touch.of_below hb).trans s.touch, fun k hk => (s.fresh k hk).imp id (Nat.le_trans hb.size)⟩
theorem EngStep.off {E B : Nat} {e e' : EngA} {w w' : World} (s : EngStep E e w e' w') (hB : B < w.heap.size) (ho : Off E e B) : Off E e' B :=
  ⟨ho.1, fun hk => (s.fresh B hk).elim ho.2 (fun h => by omega)⟩
theorem EngStep.block {E B : Nat} {e e' : EngA} {w w' : World} (s : EngStep E e w e' w') (hB : B < w.heap.size) (ho : Off E e B) : w'.heap[B]? = w.heap[B]? :=
  s.touch.block B hB (fun h => (List.mem_cons.1 h).elim ho.1 ho.2)
theorem EngStep.boxes {E B : Nat} {e e' : EngA} {w w' : World} {vs : List Value} {t : TypeId} (s : EngStep E e w e' w') (b : Box w B vs t) (ho : Off E e B) : Box w' B vs t := b.block (s.block b.lt ho)

theorem EngA.mem_disk {e : EngA} {k : Nat} (h : k ∈ e.diskBl) : k ∈ e.blocks := by simp only [EngA.blocks, List.mem_append]; exact .inl h
theorem EngA.mem_pool {e : EngA} {k : Nat} (h : k ∈ blocksSts e.aS e.cS e.seats) : k ∈ e.blocks := by simp only [EngA.blocks, List.mem_append]; exact .inr (.inl h)
theorem EngA.mem_log {e : EngA} {k : Nat} (h : k ∈ blocksRs e.log.a e.log.c e.log.recs) : k ∈ e.blocks := by simp only [EngA.blocks, List.mem_append]; exact .inr (.inr (.inl h))
theorem EngA.mem_txs {e : EngA} {k : Nat} (h : k ∈ rowOf e.aT e.txs.length e.cT) : k ∈ e.blocks := by simp only [EngA.blocks, List.mem_append]; exact .inr (.inr (.inr (.inl h)))
theorem EngA.mem_holds {e : EngA} {k : Nat} (h : k ∈ rowOf e.aH e.holds.length e.cH) : k ∈ e.blocks := by simp only [EngA.blocks, List.mem_append]; exact .inr (.inr (.inr (.inr h)))

theorem rowOf_nodup (a : Option Addr) (n c : Nat) : (rowOf a n c).Nodup := by unfold rowOf; cases (Value.slice a n c).ownBlock <;> simp

structure EngA.apartAll (e : EngA) : Prop where
  dp : ∀ k ∈ e.diskBl, k ∉ blocksSts e.aS e.cS e.seats
  dl : ∀ k ∈ e.diskBl, k ∉ blocksRs e.log.a e.log.c e.log.recs
  dt : ∀ k ∈ e.diskBl, k ∉ rowOf e.aT e.txs.length e.cT
  dh : ∀ k ∈ e.diskBl, k ∉ rowOf e.aH e.holds.length e.cH
  pl : ∀ k ∈ blocksSts e.aS e.cS e.seats, k ∉ blocksRs e.log.a e.log.c e.log.recs
  pt : ∀ k ∈ blocksSts e.aS e.cS e.seats, k ∉ rowOf e.aT e.txs.length e.cT
  ph : ∀ k ∈ blocksSts e.aS e.cS e.seats, k ∉ rowOf e.aH e.holds.length e.cH
  lt : ∀ k ∈ blocksRs e.log.a e.log.c e.log.recs, k ∉ rowOf e.aT e.txs.length e.cT
  lh : ∀ k ∈ blocksRs e.log.a e.log.c e.log.recs, k ∉ rowOf e.aH e.holds.length e.cH
  th : ∀ k ∈ rowOf e.aT e.txs.length e.cT, k ∉ rowOf e.aH e.holds.length e.cH
theorem EngA.apart_of {e : EngA} (h : e.blocks.Nodup) : e.apartAll := by
  simp only [EngA.blocks, List.nodup_append, List.mem_append] at h
  obtain ⟨_, ⟨_, ⟨_, ⟨_, _, h4⟩, h3⟩, h2⟩, h1⟩ := h
  exact ⟨fun k a b => h1 k a k (.inl b) rfl, fun k a b => h1 k a k (.inr (.inl b)) rfl, fun k a b => h1 k a k (.inr (.inr (.inl b))) rfl, fun k a b => h1 k a k (.inr (.inr (.inr b))) rfl, fun k a b => h2 k a k (.inl b) rfl, fun k a b => h2 k a k (.inr (.inl b)) rfl, fun k a b => h2 k a k (.inr (.inr b)) rfl, fun k a b => h3 k a k (.inl b) rfl, fun k a b => h3 k a k (.inr b) rfl, fun k a b => h4 k a k b rfl⟩
theorem EngAt.apart {w : World} {E : Nat} {e : EngA} (h : EngAt w E e) : e.apartAll := EngA.apart_of h.own.apart

/-- What is not E and none of the part's blocks is left alone. -/
theorem not_part {E k : Nat} {P : List Nat} (h1 : k ≠ E) (h2 : k ∉ P) : k ∉ E :: P := fun h => (List.mem_cons.1 h).elim h1 h2

/-- The pool became another. -/
def EngA.withPool (e : EngA) (ss : List SeatA) (a : Option Addr) (c : Nat) (hand : Int) : EngA := { e with seats := ss, aS := a, cS := c, hand := hand }
theorem EngAt.pool {w w' : World} {E : Nat} {e : EngA} (h : EngAt w E e) (ss : List SeatA) (a : Option Addr) (c : Nat) (hand : Int) (bx : Box w' E (e.withPool ss a c hand).cells TE) (ho : OwnSts w' 0 w'.heap.size a c ss)
    (ht : Touch (E :: blocksSts e.aS e.cS e.seats) w w') (hf : ∀ k ∈ blocksSts a c ss, k ∈ blocksSts e.aS e.cS e.seats ∨ w.heap.size ≤ k) : EngStep E e w (e.withPool ss a c hand) w' := by
  have ap := h.apart
  have hE : ∀ k ∈ e.blocks, k ≠ E := fun k hk he => h.off (he ▸ hk)
  have W : ∀ {lo hi : Nat}, hi ≤ w.heap.size → hi ≤ w'.heap.size := fun hh => Nat.le_trans hh ht.size
  refine ⟨⟨bx, ⟨h.shape.eight, h.shape.four⟩, ⟨?_, ho, ?_, ?_, ?_, ?_⟩, ?_⟩, ?_, ?_⟩
  · exact (h.own.disk.touch ht (fun k hk => not_part (hE k (EngA.mem_disk hk)) (ap.dp k hk))).widen (Nat.le_refl _) ht.size (Nat.le_refl _)
  · exact (h.own.log.touch ht (fun k hk => not_part (hE k (EngA.mem_log hk)) (fun hp => ap.pl k hp hk))).widen (Nat.le_refl _) ht.size (Nat.le_refl _)
  · exact (h.own.txs.touch ht (fun k hk => not_part (hE k (EngA.mem_txs (Option.mem_toList.2 hk))) (fun hp => ap.pt k hp (Option.mem_toList.2 hk)))).widen (Nat.le_refl _) ht.size (Nat.le_refl _)
  · exact (h.own.holds.touch ht (fun k hk => not_part (hE k (EngA.mem_holds (Option.mem_toList.2 hk))) (fun hp => ap.ph k hp (Option.mem_toList.2 hk)))).widen (Nat.le_refl _) ht.size (Nat.le_refl _)
  · exact nodup_part h.own.apart ho.apart hf (fun k hk => h.lt k (EngA.mem_disk hk)) (fun k hk => h.lt k (by simp only [EngA.blocks, List.mem_append] at hk ⊢; exact .inr (.inr hk)))
  · intro hk
    simp only [EngA.blocks, EngA.withPool, List.mem_append] at hk
    have hlt := h.box.lt
    have hoff := h.off
    simp only [EngA.blocks, List.mem_append] at hoff
    rcases hk with hk | hk | hk
    · exact hoff (.inl hk)
    · rcases hf E hk with hk | hk
      · exact hoff (.inr (.inl hk))
      · omega
    · exact hoff (.inr (.inr hk))
  · exact ht.mono (fun k hk => (List.mem_cons.1 hk).elim (fun h => by simp [h]) (fun h => List.mem_cons_of_mem _ (EngA.mem_pool h)))
  · intro k hk
    simp only [EngA.blocks, EngA.withPool, List.mem_append] at hk ⊢
    rcases hk with hk | hk | hk
    · exact .inl (.inl hk)
    · rcases hf k hk with h | h
      · exact .inl (.inr (.inl h))
      · exact .inr h
    · exact .inl (.inr (.inr hk))

/-- The log became another. -/
def EngA.withLog (e : EngA) (l : LogA) : EngA := { e with log := l }
theorem EngAt.logs {w w' : World} {E : Nat} {e : EngA} (h : EngAt w E e) (l : LogA) (bx : Box w' E (e.withLog l).cells TE) (ho : OwnRs w' 0 w'.heap.size l.a l.c l.recs)
    (ht : Touch (E :: blocksRs e.log.a e.log.c e.log.recs) w w') (hf : ∀ k ∈ blocksRs l.a l.c l.recs, k ∈ blocksRs e.log.a e.log.c e.log.recs ∨ w.heap.size ≤ k) : EngStep E e w (e.withLog l) w' := by
  have ap := h.apart
  have hE : ∀ k ∈ e.blocks, k ≠ E := fun k hk he => h.off (he ▸ hk)
  refine ⟨⟨bx, ⟨h.shape.eight, h.shape.four⟩, ⟨?_, ?_, ho, ?_, ?_, ?_⟩, ?_⟩, ?_, ?_⟩
  · exact (h.own.disk.touch ht (fun k hk => not_part (hE k (EngA.mem_disk hk)) (ap.dl k hk))).widen (Nat.le_refl _) ht.size (Nat.le_refl _)
  · exact (h.own.pool.touch ht (fun k hk => not_part (hE k (EngA.mem_pool hk)) (fun hp => ap.pl k hk hp))).widen (Nat.le_refl _) ht.size (Nat.le_refl _)
  · exact (h.own.txs.touch ht (fun k hk => not_part (hE k (EngA.mem_txs (Option.mem_toList.2 hk))) (fun hp => ap.lt k hp (Option.mem_toList.2 hk)))).widen (Nat.le_refl _) ht.size (Nat.le_refl _)
  · exact (h.own.holds.touch ht (fun k hk => not_part (hE k (EngA.mem_holds (Option.mem_toList.2 hk))) (fun hp => ap.lh k hp (Option.mem_toList.2 hk)))).widen (Nat.le_refl _) ht.size (Nat.le_refl _)
  · have h1 := h.own.apart
    simp only [EngA.blocks, EngA.withLog] at h1 ⊢
    rw [← List.append_assoc] at h1 ⊢
    exact nodup_part h1 ho.apart hf (fun k hk => h.lt k (by simp only [EngA.blocks, List.mem_append] at hk ⊢; exact hk.elim .inl (fun h => .inr (.inl h)))) (fun k hk => h.lt k (by simp only [EngA.blocks, List.mem_append] at hk ⊢; exact .inr (.inr (.inr hk))))
  · intro hk
    simp only [EngA.blocks, EngA.withLog, List.mem_append] at hk
    have hlt := h.box.lt
    have hoff := h.off
    simp only [EngA.blocks, List.mem_append] at hoff
    rcases hk with hk | hk | hk | hk
    · exact hoff (.inl hk)
    · exact hoff (.inr (.inl hk))
    · rcases hf E hk with hk | hk
      · exact hoff (.inr (.inr (.inl hk)))
      · omega
    · exact hoff (.inr (.inr (.inr hk)))
  · exact ht.mono (fun k hk => (List.mem_cons.1 hk).elim (fun h => by simp [h]) (fun h => List.mem_cons_of_mem _ (EngA.mem_log h)))
  · intro k hk
    simp only [EngA.blocks, EngA.withLog, List.mem_append] at hk ⊢
    rcases hk with hk | hk | hk | hk
    · exact .inl (.inl hk)
    · exact .inl (.inr (.inl hk))
    · rcases hf k hk with h | h
      · exact .inl (.inr (.inr (.inl h)))
      · exact .inr h
    · exact .inl (.inr (.inr (.inr hk)))

/-- What is held became other. -/
def EngA.withHolds (e : EngA) (ls : List HoldV) (a : Option Addr) (c : Nat) : EngA := { e with holds := ls, aH := a, cH := c }
theorem EngAt.held {w w' : World} {E : Nat} {e : EngA} (h : EngAt w E e) (ls : List HoldV) (a : Option Addr) (c : Nat) (bx : Box w' E (e.withHolds ls a c).cells TE) (ho : OwnH w' 0 w'.heap.size a c ls)
    (ht : Touch (E :: rowOf e.aH e.holds.length e.cH) w w') (hf : ∀ k ∈ rowOf a ls.length c, k ∈ rowOf e.aH e.holds.length e.cH ∨ w.heap.size ≤ k) : EngStep E e w (e.withHolds ls a c) w' := by
  have ap := h.apart
  have hE : ∀ k ∈ e.blocks, k ≠ E := fun k hk he => h.off (he ▸ hk)
  refine ⟨⟨bx, ⟨h.shape.eight, h.shape.four⟩, ⟨?_, ?_, ?_, ?_, ho, ?_⟩, ?_⟩, ?_, ?_⟩
  · exact (h.own.disk.touch ht (fun k hk => not_part (hE k (EngA.mem_disk hk)) (ap.dh k hk))).widen (Nat.le_refl _) ht.size (Nat.le_refl _)
  · exact (h.own.pool.touch ht (fun k hk => not_part (hE k (EngA.mem_pool hk)) (ap.ph k hk))).widen (Nat.le_refl _) ht.size (Nat.le_refl _)
  · exact (h.own.log.touch ht (fun k hk => not_part (hE k (EngA.mem_log hk)) (ap.lh k hk))).widen (Nat.le_refl _) ht.size (Nat.le_refl _)
  · exact (h.own.txs.touch ht (fun k hk => not_part (hE k (EngA.mem_txs (Option.mem_toList.2 hk))) (ap.th k (Option.mem_toList.2 hk)))).widen (Nat.le_refl _) ht.size (Nat.le_refl _)
  · have h1 := h.own.apart
    simp only [EngA.blocks, EngA.withHolds] at h1 ⊢
    rw [← List.append_assoc, ← List.append_assoc, ← List.append_assoc] at h1 ⊢
    have h2 := nodup_part (C := []) (n := w.heap.size) (by rw [List.append_nil]; exact h1) (rowOf_nodup a ls.length c) hf (fun k hk => h.lt k (by simp only [EngA.blocks, List.mem_append] at hk ⊢; rcases hk with ((hk | hk) | hk) | hk; exact .inl hk; exact .inr (.inl hk); exact .inr (.inr (.inl hk)); exact .inr (.inr (.inr (.inl hk))))) (by simp)
    rw [List.append_nil] at h2
    exact h2
  · intro hk
    simp only [EngA.blocks, EngA.withHolds, List.mem_append] at hk
    have hlt := h.box.lt
    have hoff := h.off
    simp only [EngA.blocks, List.mem_append] at hoff
    rcases hk with hk | hk | hk | hk | hk
    · exact hoff (.inl hk)
    · exact hoff (.inr (.inl hk))
    · exact hoff (.inr (.inr (.inl hk)))
    · exact hoff (.inr (.inr (.inr (.inl hk))))
    · rcases hf E hk with hk | hk
      · exact hoff (.inr (.inr (.inr (.inr hk))))
      · omega
  · exact ht.mono (fun k hk => (List.mem_cons.1 hk).elim (fun h => by simp [h]) (fun h => List.mem_cons_of_mem _ (EngA.mem_holds h)))
  · intro k hk
    simp only [EngA.blocks, EngA.withHolds, List.mem_append] at hk ⊢
    rcases hk with hk | hk | hk | hk | hk
    · exact .inl (.inl hk)
    · exact .inl (.inr (.inl hk))
    · exact .inl (.inr (.inr (.inl hk)))
    · exact .inl (.inr (.inr (.inr (.inl hk))))
    · rcases hf k hk with h | h
      · exact .inl (.inr (.inr (.inr (.inr h))))
      · exact .inr h

end Go.Proofs.Ytoboickdkednkab

/- Who goes from a pool that is full: the walk of spec.l6Victim. -/
namespace Go.Proofs.Ytoboickdkednkab
open Go.RowKit

end Go.Proofs.Ytoboickdkednkab
