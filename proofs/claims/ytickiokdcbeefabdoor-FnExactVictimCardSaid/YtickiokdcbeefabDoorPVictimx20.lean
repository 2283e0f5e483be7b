/- Several texts in one, in their order. -/
import Derived.Test.YtickiokdcbeefabDoorPVictimx19
import Derived.Test.YtickiokdcbeefabDoorPVictimx18
import Derived.Test.YtickiokdcbeefabDoorPVictimx10
import Derived.Deep.CutRange
/- The walk of impl.LogOk. -/
namespace Go.Proofs.YtickiokdcbeefabDoor
open Go.RowKit

end Go.Proofs.YtickiokdcbeefabDoor

/- The walk of spec.LogOk. -/
namespace Go.Proofs.YtickiokdcbeefabDoor
open Go.RowKit

/-- A whole value loaded where a guard stands ahead of it that lets it by. -/
theorem load_if {ops : Array Oper} {rest : List Oper} {op : Oper} {a : Act} {w : World} {Q : Exit → Act → World → Prop} {P : Program} (hw : Region.wanted op (yielded ops a.tmps) = true) (ty : TypeId) (x : Operand) (ho : op.op = .load ty x)
    (b o : Nat) (hx : a.eval x = .pointer (some ⟨b, o, none⟩)) (cs : List Value) (d : TypeDesc) (hc : w.rangeAt b o cs)
    (hu : P.underlying ty = some d) (hd : d.isRow = true) (hi : (P.info? ty).map (·.size) = some cs.length)
    (h : wpList P ops Q rest (a.put op.dst (.agg cs.toArray)) w) : wpList P ops Q (op :: rest) a w :=
  wpList_step fun _ hK => by
    simp only [hw, if_true]
    exact wp_load_mid ty x ho b o hx cs d hc hu hd hi (hK _ _ h)

end Go.Proofs.YtickiokdcbeefabDoor

/- The walks of spec.l5Force, spec.Force and impl.Force. -/
namespace Go.Proofs.YtickiokdcbeefabDoor
open Go.RowKit

theorem forceOf_no {l : LogV} (n : Int) (h : okLog l = false) : forceOf l n = l := by unfold forceOf; rw [if_neg (by rw [h]; decide)]
theorem forceOf_yes {l : LogV} (n : Int) (h : okLog l = true) : forceOf l n = ⟨l.recs, max l.sure (min n l.recs.length)⟩ := by unfold forceOf; rw [if_pos h]

theorem force_short {t p : LogA} {n : Int} (h : t.v = forceOf p.v n) {m : Nat} (hs : p.short m) : t.short m := by
  have e : t.recs.map RecA.v = p.recs.map RecA.v := by
    have := congrArg LogV.recs h
    unfold forceOf at this
    split at this <;> exact this
  exact ⟨by rw [mapV_len e]; exact hs.len, mapV_all e (fun r => r.short m) (fun a b e hb => short_of e hb) hs.each⟩

end Go.Proofs.YtickiokdcbeefabDoor

/- spec.l5Force at a log that lies inside an engine; spec.l6Victim. -/
namespace Go.Proofs.YtickiokdcbeefabDoor
open Go.RowKit

end Go.Proofs.YtickiokdcbeefabDoor

/- A cell of a seat stored; spec.l6Victim. -/
namespace Go.Proofs.YtickiokdcbeefabDoor
open Go.RowKit

theorem cellsSts_mid (A B : List SeatA) (z z' : SeatA) (i : Nat) (v : Value) (hi : i < 20) (hc : z'.cells = z.cells.set i v) : (cellsSts (A ++ z :: B)).set (A.length * 20 + i) v = cellsSts (A ++ z' :: B) := by
  rw [cellsSts_app, cellsSts_cons, cellsSts_app, cellsSts_cons, List.set_append_right _ _ (by rw [cellsSts_len]; omega), cellsSts_len, show A.length * 20 + i - A.length * 20 = i by omega, List.set_append_left _ _ (by rw [cellsSt_len]; omega), hc]
/-- One cell of a seat stored: its lists stay. -/
theorem OwnSts.cellSet {w : World} {lo hi g c : Nat} {A B : List SeatA} {z z' : SeatA} (h : OwnSts w lo hi (some ⟨g, 0, none⟩) c (A ++ z :: B)) (i : Nat) (v : Value) (hi' : i < 20) (hc : z'.cells = z.cells.set i v) (hss : z'.ss = z.ss) :
    OwnSts (w.setCell ⟨g, A.length * 20 + i, none⟩ v) lo hi (some ⟨g, 0, none⟩) c (A ++ z' :: B) ∧ Touch [g] w (w.setCell ⟨g, A.length * 20 + i, none⟩ v) := by
  have hrow := h.row
  obtain ⟨h1, h2⟩ := hrow.stored (A.length * 20 + i) v
  have ht : Touch [g] w (w.setCell ⟨g, A.length * 20 + i, none⟩ v) := Touch.of_grown h2 (fun k hk => by cases hk; simp)
  have hbl : z'.blocks = z.blocks := by unfold SeatA.blocks; rw [hss]
  have hap := h.apart
  have hng : ∀ r ∈ A ++ z :: B, g ∉ r.blocks := fun r hr hk => by
    have := (List.nodup_append.1 hap).2.2 g (by simp [Value.ownBlock]) g (List.mem_flatMap.2 ⟨r, hr, hk⟩)
    exact this rfl
  have hlen : (A ++ z' :: B).length = (A ++ z :: B).length := by simp
  have hz : z'.own w lo hi := by
    have := h.each z (by simp)
    unfold SeatA.own at this ⊢
    rwa [hss]
  refine ⟨⟨?_, ?_, ?_, fun r hr => ?_, ?_⟩, ht⟩
  · rw [hlen, ← cellsSts_mid A B z z' i v hi' hc]
    exact h1
  · simpa using h.top
  · rw [hlen]; exact h.blk
  · rcases List.mem_append.1 hr with hr | hr
    · exact (h.each r (by simp [hr])).touch ht (fun k hk hk' => hng r (by simp [hr]) (by rw [← List.mem_singleton.1 hk']; exact hk))
    · rcases List.mem_cons.1 hr with rfl | hr
      · exact hz.touch ht (fun k hk hk' => hng z (by simp) (by rw [← hbl, ← List.mem_singleton.1 hk']; exact hk))
      · exact (h.each r (by simp [hr])).touch ht (fun k hk hk' => hng r (by simp [hr]) (by rw [← List.mem_singleton.1 hk']; exact hk))
  · rw [hlen]
    simpa [hbl] using hap
end Go.Proofs.YtickiokdcbeefabDoor

/- An engine in its box: what a step of it keeps, and what is new behind it. -/
namespace Go.Proofs.YtickiokdcbeefabDoor
open Go.RowKit

theorem nodup_part {A P P' C : List Nat} {n : Nat} (h : (A ++ (P ++ C)).Nodup) (hP : P'.Nodup) (hf : ∀ k ∈ P', k ∈ P ∨ n ≤ k) (hA : ∀ k ∈ A, k < n) (hC : ∀ k ∈ C, k < n) : (A ++ (P' ++ C)).Nodup := by
  simp only [List.nodup_append, List.mem_append] at h ⊢
  obtain ⟨h1, ⟨_, h3, h4⟩, h5⟩ := h
  refine ⟨h1, ⟨hP, h3, fun a ha b hb e => ?_⟩, fun a ha b hb e => ?_⟩
  · rcases hf a ha with h | h
    · exact h4 a h b hb e
    · have := hC b hb; omega
  · rcases hb with hb | hb
    · rcases hf b hb with h | h
      · exact h5 a ha b (.inl h) e
      · have := hA a ha; omega
    · exact h5 a ha b (.inr hb) e

/-- B is none of the engine's blocks. -/
def Off (E : Nat) (e : EngA) (B : Nat) : Prop := B ≠ E ∧ B ∉ e.blocks
theorem EngA.mem_disk {e : EngA} {k : Nat} (h : k ∈ e.diskBl) : k ∈ e.blocks := by simp only [EngA.blocks, List.mem_append]; exact .inl h
theorem EngA.mem_pool {e : EngA} {k : Nat} (h : k ∈ blocksSts e.aS e.cS e.seats) : k ∈ e.blocks := by simp only [EngA.blocks, List.mem_append]; exact .inr (.inl h)
theorem EngA.mem_log {e : EngA} {k : Nat} (h : k ∈ blocksRs e.log.a e.log.c e.log.recs) : k ∈ e.blocks := by simp only [EngA.blocks, List.mem_append]; exact .inr (.inr (.inl h))
theorem EngA.mem_txs {e : EngA} {k : Nat} (h : k ∈ rowOf e.aT e.txs.length e.cT) : k ∈ e.blocks := by simp only [EngA.blocks, List.mem_append]; exact .inr (.inr (.inr (.inl h)))
theorem EngA.mem_holds {e : EngA} {k : Nat} (h : k ∈ rowOf e.aH e.holds.length e.cH) : k ∈ e.blocks := by simp only [EngA.blocks, List.mem_append]; exact .inr (.inr (.inr (.inr h)))

theorem rowOf_nodup (a : Option Addr) (n c : Nat) : (rowOf a n c).Nodup := by unfold rowOf; cases (Value.slice a n c).ownBlock <;> simp

structure EngA.apartAll (e : EngA) : Prop where
  dp : ∀ k ∈ e.diskBl, k ∉ blocksSts e.aS e.cS e.seats
  dl : ∀ k ∈ e.diskBl, k ∉ blocksRs e.log.a e.log.c e.log.recs
  dt : ∀ k ∈ e.diskBl, k ∉ rowOf e.aT e.txs.length e.cT
  dh : ∀ k ∈ e.diskBl, k ∉ rowOf e.aH e.holds.length e.cH
  pl : ∀ k ∈ blocksSts e.aS e.cS e.seats, k ∉ blocksRs e.log.a e.log.c e.log.recs
  pt : ∀ k ∈ blocksSts e.aS e.cS e.seats, k ∉ rowOf e.aT e.txs.length e.cT
  ph : ∀ k ∈ blocksSts e.aS e.cS e.seats, k ∉ rowOf e.aH e.holds.length e.cH
  lt : ∀ k ∈ blocksRs e.log.a e.log.c e.log.recs, k ∉ rowOf e.aT e.txs.length e.cT
  lh : ∀ k ∈ blocksRs e.log.a e.log.c e.log.recs, k ∉ rowOf e.aH e.holds.length e.cH
  th : ∀ k ∈ rowOf e.aT e.txs.length e.cT, k ∉ rowOf e.aH e.holds.length e.cH
theorem EngA.apart_of {e : EngA} (h : e.blocks.Nodup) : e.apartAll := by
  simp only [EngA.blocks, List.nodup_append, List.mem_append] at h
  obtain ⟨_, ⟨_, ⟨_, ⟨_, _, h4⟩, h3⟩, h2⟩, h1⟩ := h
  exact ⟨fun k a b => h1 k a k (.inl b) rfl, fun k a b => h1 k a k (.inr (.inl b)) rfl, fun k a b => h1 k a k (.inr (.inr (.inl b))) rfl, fun k a b => h1 k a k (.inr (.inr (.inr b))) rfl, fun k a b => h2 k a k (.inl b) rfl, fun k a b => h2 k a k (.inr (.inl b)) rfl, fun k a b => h2 k a k (.inr (.inr b)) rfl, fun k a b => h3 k a k (.inl b) rfl, fun k a b => h3 k a k (.inr b) rfl, fun k a b => h4 k a k b rfl⟩
/-- What is not E and none of the part's blocks is left alone. -/
theorem not_part {E k : Nat} {P : List Nat} (h1 : k ≠ E) (h2 : k ∉ P) : k ∉ E :: P := fun h => (List.mem_cons.1 h).elim h1 h2

/-- The pool became another. -/
def EngA.withPool (e : EngA) (ss : List SeatA) (a : Option Addr) (c : Nat) (hand : Int) : EngA := { e with seats := ss, aS := a, cS := c, hand := hand }
/-- The log became another. -/
def EngA.withLog (e : EngA) (l : LogA) : EngA := { e with log := l }
/-- The transactions under way became others. -/
def EngA.withTxs (e : EngA) (ls : List LiveV) (a : Option Addr) (c : Nat) : EngA := { e with txs := ls, aT := a, cT := c }
/-- What is held became other. -/
def EngA.withHolds (e : EngA) (ls : List HoldV) (a : Option Addr) (c : Nat) : EngA := { e with holds := ls, aH := a, cH := c }
/-- The disk became another. -/
def EngA.withDisk (e : EngA) (ps : List PageA) : EngA := { e with disk := ps }
end Go.Proofs.YtickiokdcbeefabDoor
