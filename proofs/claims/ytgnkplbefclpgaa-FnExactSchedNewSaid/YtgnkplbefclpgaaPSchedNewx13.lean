/- Several texts in one, in their order. -/
import Derived.Test.YtgnkplbefclpgaaPSchedNewx12
import Derived.Deep.Cut
import Derived.Test.YtgnkplbefclpgaaPSchedNewx7
import Derived.Deep.CutRange
import Derived.Test.YtgnkplbefclpgaaPSchedNewx11
import Derived.Deep.LoopGhost
import Derived.Deep.MidRow
import Derived.Laws.Tables
import Derived.Test.YtgnkplbefclpgaaPSchedNewx8
import Derived.Test.YtgnkplbefclpgaaPSchedNewx3
import Derived.Test.YtgnkplbefclpgaaPSchedNewx6
import Derived.Test.YtgnkplbefclpgaaPSchedNewx10
import Derived.Test.YtgnkplbefclpgaaPSchedNewx5
import Derived.Deep.RegionHeld3
import Derived.Test.YtgnkplbefclpgaaPSchedNewx1
set_option maxHeartbeats 8000000
set_option maxRecDepth 100000
namespace Go.Proofs.Ytgnkplbefclpgaa
open Go.RowKit
theorem cellsSts_mid (A B : List SeatA) (z z' : SeatA) (i : Nat) (v : Value) (hi : i < 20) (hc : z'.cells = z.cells.set i v) : (cellsSts (A ++ z :: B)).set (A.length * 20 + i) v = cellsSts (A ++ z' :: B) := by
 rw [cellsSts_app, cellsSts_cons, cellsSts_app, cellsSts_cons, List.set_append_right _ _ (by rw [cellsSts_len]; omega), cellsSts_len, show A.length * 20 + i - A.length * 20 = i by omega, List.set_append_left _ _ (by rw [cellsSt_len]; omega), hc]
theorem OwnSts.cellSet {w : World} {lo hi g c : Nat} {A B : List SeatA} {z z' : SeatA} (h : OwnSts w lo hi (some ⟨g, 0, none⟩) c (A ++ z :: B)) (i : Nat) (v : Value) (hi' : i < 20) (hc : z'.cells = z.cells.set i v) (hss : z'.ss = z.ss) :
  OwnSts (w.setCell ⟨g, A.length * 20 + i, none⟩ v) lo hi (some ⟨g, 0, none⟩) c (A ++ z' :: B) ∧ Touch [g] w (w.setCell ⟨g, A.length * 20 + i, none⟩ v) := by
 have hrow := h.row
 obtain ⟨h1, h2⟩ := hrow.stored (A.length * 20 + i) v
 have ht : Touch [g] w (w.setCell ⟨g, A.length * 20 + i, none⟩ v) := Touch.of_grown h2 (fun k hk => by cases hk; simp)
 have hbl : z'.blocks = z.blocks := by unfold SeatA.blocks; rw [hss]
 have hap := h.apart
 have hng : ∀ r ∈ A ++ z :: B, g ∉ r.blocks := fun r hr hk => by
  have := (List.nodup_append.1 hap).2.2 g (by simp [Value.ownBlock]) g (List.mem_flatMap.2 ⟨r, hr, hk⟩)
  exact this rfl
 have hlen : (A ++ z' :: B).length = (A ++ z :: B).length := by simp
 have hz : z'.own w lo hi := by
  have := h.each z (by simp)
  unfold SeatA.own at this ⊢
  rwa [hss]
 refine ⟨⟨?_, ?_, ?_, fun r hr => ?_, ?_⟩, ht⟩
 ·rw [hlen, ← cellsSts_mid A B z z' i v hi' hc]
  exact h1
 ·simpa using h.top
 ·rw [hlen]; exact h.blk
 ·rcases List.mem_append.1 hr with hr | hr
  ·exact (h.each r (by simp [hr])).touch ht (fun k hk hk' => hng r (by simp [hr]) (by rw [← List.mem_singleton.1 hk']; exact hk))
  ·rcases List.mem_cons.1 hr with rfl | hr
   ·exact hz.touch ht (fun k hk hk' => hng z (by simp) (by rw [← hbl, ← List.mem_singleton.1 hk']; exact hk))
   ·exact (h.each r (by simp [hr])).touch ht (fun k hk hk' => hng r (by simp [hr]) (by rw [← List.mem_singleton.1 hk']; exact hk))
 ·rw [hlen]
  simpa [hbl] using hap
theorem nodup_part {A P P' C : List Nat} {n : Nat} (h : (A ++ (P ++ C)).Nodup) (hP : P'.Nodup) (hf : ∀ k ∈ P', k ∈ P ∨ n ≤ k) (hA : ∀ k ∈ A, k < n) (hC : ∀ k ∈ C, k < n) : (A ++ (P' ++ C)).Nodup := by
 simp only [List.nodup_append, List.mem_append] at h ⊢
 obtain ⟨h1, ⟨_, h3, h4⟩, h5⟩ := h
 refine ⟨h1, ⟨hP, h3, fun a ha b hb e => ?_⟩, fun a ha b hb e => ?_⟩
 ·rcases hf a ha with h | h
  ·exact h4 a h b hb e
  ·have := hC b hb; omega
 ·rcases hb with hb | hb
  ·rcases hf b hb with h | h
   ·exact h5 a ha b (.inl h) e
   ·have := hA a ha; omega
  ·exact h5 a ha b (.inr hb) e
abbrev TE : TypeId := 42
structure EngAtG (f : EngA → List Value) (T : TypeId) (w : World) (E : Nat) (e : EngA) : Prop where
 box : Box w E (f e) T
 shape : e.shape
 own : e.own w 0 w.heap.size
 off : E ∉ e.blocks
theorem EngAtG.lt {f : EngA → List Value} {T : TypeId} {w : World} {E : Nat} {e : EngA} (h : EngAtG f T w E e) : ∀ k ∈ e.blocks, k < w.heap.size := fun k hk => (h.own.blocks_lt k hk).2
theorem EngAtG.touch {f : EngA → List Value} {T : TypeId} {w w' : World} {E : Nat} {e : EngA} {bl : List Nat} (h : EngAtG f T w E e) (ht : Touch bl w w') (hE : E ∉ bl) (hd : ∀ k ∈ e.blocks, k ∉ bl) : EngAtG f T w' E e :=
 ⟨h.box.touch ht hE, h.shape, (h.own.touch ht hd).widen (Nat.le_refl _) ht.size (Nat.le_refl _), h.off⟩
def Off (E : Nat) (e : EngA) (B : Nat) : Prop := B ≠ E ∧ B ∉ e.blocks
theorem EngAtG.new {f : EngA → List Value} {T : TypeId} {w : World} {E B : Nat} {e : EngA} (h : EngAtG f T w E e) (hB : w.heap.size ≤ B) : Off E e B :=
 ⟨by have := h.box.lt; omega, fun hk => by have := h.lt B hk; omega⟩
structure EngStepG (f : EngA → List Value) (T : TypeId) (E : Nat) (e : EngA) (w : World) (e' : EngA) (w' : World) : Prop where
 at' : EngAtG f T w' E e'
 touch : Touch (E :: e.blocks) w w'
 fresh : ∀ k ∈ e'.blocks, k ∈ e.blocks ∨ w.heap.size ≤ k
theorem EngStepG.size {f : EngA → List Value} {T : TypeId} {E : Nat} {e e' : EngA} {w w' : World} (s : EngStepG f T E e w e' w') : w.heap.size ≤ w'.heap.size := s.touch.size
theorem EngStepG.off {f : EngA → List Value} {T : TypeId} {E B : Nat} {e e' : EngA} {w w' : World} (s : EngStepG f T E e w e' w') (hB : B < w.heap.size) (ho : Off E e B) : Off E e' B :=
 ⟨ho.1, fun hk => (s.fresh B hk).elim ho.2 (fun h => by omega)⟩
theorem EngStepG.block {f : EngA → List Value} {T : TypeId} {E B : Nat} {e e' : EngA} {w w' : World} (s : EngStepG f T E e w e' w') (hB : B < w.heap.size) (ho : Off E e B) : w'.heap[B]? = w.heap[B]? :=
 s.touch.block B hB (fun h => (List.mem_cons.1 h).elim ho.1 ho.2)
theorem EngA.mem_disk {e : EngA} {k : Nat} (h : k ∈ e.diskBl) : k ∈ e.blocks := by simp only [EngA.blocks, List.mem_append]; exact .inl h
theorem EngA.mem_pool {e : EngA} {k : Nat} (h : k ∈ blocksSts e.aS e.cS e.seats) : k ∈ e.blocks := by simp only [EngA.blocks, List.mem_append]; exact .inr (.inl h)
theorem EngA.mem_log {e : EngA} {k : Nat} (h : k ∈ blocksRs e.log.a e.log.c e.log.recs) : k ∈ e.blocks := by simp only [EngA.blocks, List.mem_append]; exact .inr (.inr (.inl h))
theorem EngA.mem_txs {e : EngA} {k : Nat} (h : k ∈ rowOf e.aT e.txs.length e.cT) : k ∈ e.blocks := by simp only [EngA.blocks, List.mem_append]; exact .inr (.inr (.inr (.inl h)))
theorem EngA.mem_holds {e : EngA} {k : Nat} (h : k ∈ rowOf e.aH e.holds.length e.cH) : k ∈ e.blocks := by simp only [EngA.blocks, List.mem_append]; exact .inr (.inr (.inr (.inr h)))
theorem rowOf_nodup (a : Option Addr) (n c : Nat) : (rowOf a n c).Nodup := by unfold rowOf; cases (Value.slice a n c).ownBlock <;> simp
structure EngA.apartAll (e : EngA) : Prop where
 dp : ∀ k ∈ e.diskBl, k ∉ blocksSts e.aS e.cS e.seats
 dl : ∀ k ∈ e.diskBl, k ∉ blocksRs e.log.a e.log.c e.log.recs
 dt : ∀ k ∈ e.diskBl, k ∉ rowOf e.aT e.txs.length e.cT
 dh : ∀ k ∈ e.diskBl, k ∉ rowOf e.aH e.holds.length e.cH
 pl : ∀ k ∈ blocksSts e.aS e.cS e.seats, k ∉ blocksRs e.log.a e.log.c e.log.recs
 pt : ∀ k ∈ blocksSts e.aS e.cS e.seats, k ∉ rowOf e.aT e.txs.length e.cT
 ph : ∀ k ∈ blocksSts e.aS e.cS e.seats, k ∉ rowOf e.aH e.holds.length e.cH
 lt : ∀ k ∈ blocksRs e.log.a e.log.c e.log.recs, k ∉ rowOf e.aT e.txs.length e.cT
 lh : ∀ k ∈ blocksRs e.log.a e.log.c e.log.recs, k ∉ rowOf e.aH e.holds.length e.cH
 th : ∀ k ∈ rowOf e.aT e.txs.length e.cT, k ∉ rowOf e.aH e.holds.length e.cH
theorem EngA.apart_of {e : EngA} (h : e.blocks.Nodup) : e.apartAll := by
 simp only [EngA.blocks, List.nodup_append, List.mem_append] at h
 obtain ⟨_, ⟨_, ⟨_, ⟨_, _, h4⟩, h3⟩, h2⟩, h1⟩ := h
 exact ⟨fun k a b => h1 k a k (.inl b) rfl, fun k a b => h1 k a k (.inr (.inl b)) rfl, fun k a b => h1 k a k (.inr (.inr (.inl b))) rfl, fun k a b => h1 k a k (.inr (.inr (.inr b))) rfl, fun k a b => h2 k a k (.inl b) rfl, fun k a b => h2 k a k (.inr (.inl b)) rfl, fun k a b => h2 k a k (.inr (.inr b)) rfl, fun k a b => h3 k a k (.inl b) rfl, fun k a b => h3 k a k (.inr b) rfl, fun k a b => h4 k a k b rfl⟩
theorem EngAtG.apart {f : EngA → List Value} {T : TypeId} {w : World} {E : Nat} {e : EngA} (h : EngAtG f T w E e) : e.apartAll := EngA.apart_of h.own.apart
theorem not_part {E k : Nat} {P : List Nat} (h1 : k ≠ E) (h2 : k ∉ P) : k ∉ E :: P := fun h => (List.mem_cons.1 h).elim h1 h2
def EngA.withPool (e : EngA) (ss : List SeatA) (a : Option Addr) (c : Nat) (hand : Int) : EngA := { e with seats := ss, aS := a, cS := c, hand := hand }
theorem EngAtG.pool {f : EngA → List Value} {T : TypeId} {w w' : World} {E : Nat} {e : EngA} (h : EngAtG f T w E e) (ss : List SeatA) (a : Option Addr) (c : Nat) (hand : Int) (bx : Box w' E (f (e.withPool ss a c hand)) T) (ho : OwnSts w' 0 w'.heap.size a c ss)
  (ht : Touch (E :: blocksSts e.aS e.cS e.seats) w w') (hf : ∀ k ∈ blocksSts a c ss, k ∈ blocksSts e.aS e.cS e.seats ∨ w.heap.size ≤ k) : EngStepG f T E e w (e.withPool ss a c hand) w' := by
 have ap := h.apart
 have hE : ∀ k ∈ e.blocks, k ≠ E := fun k hk he => h.off (he ▸ hk)
 have W : ∀ {lo hi : Nat}, hi ≤ w.heap.size → hi ≤ w'.heap.size := fun hh => Nat.le_trans hh ht.size
 refine ⟨⟨bx, ⟨h.shape.eight, h.shape.four⟩, ⟨?_, ho, ?_, ?_, ?_, ?_⟩, ?_⟩, ?_, ?_⟩
 ·exact (h.own.disk.touch ht (fun k hk => not_part (hE k (EngA.mem_disk hk)) (ap.dp k hk))).widen (Nat.le_refl _) ht.size (Nat.le_refl _)
 ·exact (h.own.log.touch ht (fun k hk => not_part (hE k (EngA.mem_log hk)) (fun hp => ap.pl k hp hk))).widen (Nat.le_refl _) ht.size (Nat.le_refl _)
 ·exact (h.own.txs.touch ht (fun k hk => not_part (hE k (EngA.mem_txs (Option.mem_toList.2 hk))) (fun hp => ap.pt k hp (Option.mem_toList.2 hk)))).widen (Nat.le_refl _) ht.size (Nat.le_refl _)
 ·exact (h.own.holds.touch ht (fun k hk => not_part (hE k (EngA.mem_holds (Option.mem_toList.2 hk))) (fun hp => ap.ph k hp (Option.mem_toList.2 hk)))).widen (Nat.le_refl _) ht.size (Nat.le_refl _)
 ·exact nodup_part h.own.apart ho.apart hf (fun k hk => h.lt k (EngA.mem_disk hk)) (fun k hk => h.lt k (by simp only [EngA.blocks, List.mem_append] at hk ⊢; exact .inr (.inr hk)))
 ·intro hk
  simp only [EngA.blocks, EngA.withPool, List.mem_append] at hk
  have hlt := h.box.lt
  have hoff := h.off
  simp only [EngA.blocks, List.mem_append] at hoff
  rcases hk with hk | hk | hk
  ·exact hoff (.inl hk)
  ·rcases hf E hk with hk | hk
   ·exact hoff (.inr (.inl hk))
   ·omega
  ·exact hoff (.inr (.inr hk))
 ·exact ht.mono (fun k hk => (List.mem_cons.1 hk).elim (fun h => by simp [h]) (fun h => List.mem_cons_of_mem _ (EngA.mem_pool h)))
 ·intro k hk
  simp only [EngA.blocks, EngA.withPool, List.mem_append] at hk ⊢
  rcases hk with hk | hk | hk
  ·exact .inl (.inl hk)
  ·rcases hf k hk with h | h
   ·exact .inl (.inr (.inl h))
   ·exact .inr h
  ·exact .inl (.inr (.inr hk))
def EngA.withHolds (e : EngA) (ls : List HoldV) (a : Option Addr) (c : Nat) : EngA := { e with holds := ls, aH := a, cH := c }
theorem EngAtG.held {f : EngA → List Value} {T : TypeId} {w w' : World} {E : Nat} {e : EngA} (h : EngAtG f T w E e) (ls : List HoldV) (a : Option Addr) (c : Nat) (bx : Box w' E (f (e.withHolds ls a c)) T) (ho : OwnH w' 0 w'.heap.size a c ls)
  (ht : Touch (E :: rowOf e.aH e.holds.length e.cH) w w') (hf : ∀ k ∈ rowOf a ls.length c, k ∈ rowOf e.aH e.holds.length e.cH ∨ w.heap.size ≤ k) : EngStepG f T E e w (e.withHolds ls a c) w' := by
 have ap := h.apart
 have hE : ∀ k ∈ e.blocks, k ≠ E := fun k hk he => h.off (he ▸ hk)
 refine ⟨⟨bx, ⟨h.shape.eight, h.shape.four⟩, ⟨?_, ?_, ?_, ?_, ho, ?_⟩, ?_⟩, ?_, ?_⟩
 ·exact (h.own.disk.touch ht (fun k hk => not_part (hE k (EngA.mem_disk hk)) (ap.dh k hk))).widen (Nat.le_refl _) ht.size (Nat.le_refl _)
 ·exact (h.own.pool.touch ht (fun k hk => not_part (hE k (EngA.mem_pool hk)) (ap.ph k hk))).widen (Nat.le_refl _) ht.size (Nat.le_refl _)
 ·exact (h.own.log.touch ht (fun k hk => not_part (hE k (EngA.mem_log hk)) (ap.lh k hk))).widen (Nat.le_refl _) ht.size (Nat.le_refl _)
 ·exact (h.own.txs.touch ht (fun k hk => not_part (hE k (EngA.mem_txs (Option.mem_toList.2 hk))) (ap.th k (Option.mem_toList.2 hk)))).widen (Nat.le_refl _) ht.size (Nat.le_refl _)
 ·have h1 := h.own.apart
  simp only [EngA.blocks, EngA.withHolds] at h1 ⊢
  rw [← List.append_assoc, ← List.append_assoc, ← List.append_assoc] at h1 ⊢
  have h2 := nodup_part (C := []) (n := w.heap.size) (by rw [List.append_nil]; exact h1) (rowOf_nodup a ls.length c) hf (fun k hk => h.lt k (by simp only [EngA.blocks, List.mem_append] at hk ⊢; rcases hk with ((hk | hk) | hk) | hk; exact .inl hk; exact .inr (.inl hk); exact .inr (.inr (.inl hk)); exact .inr (.inr (.inr (.inl hk))))) (by simp)
  rw [List.append_nil] at h2
  exact h2
 ·intro hk
  simp only [EngA.blocks, EngA.withHolds, List.mem_append] at hk
  have hlt := h.box.lt
  have hoff := h.off
  simp only [EngA.blocks, List.mem_append] at hoff
  rcases hk with hk | hk | hk | hk | hk
  ·exact hoff (.inl hk)
  ·exact hoff (.inr (.inl hk))
  ·exact hoff (.inr (.inr (.inl hk)))
  ·exact hoff (.inr (.inr (.inr (.inl hk))))
  ·rcases hf E hk with hk | hk
   ·exact hoff (.inr (.inr (.inr (.inr hk))))
   ·omega
 ·exact ht.mono (fun k hk => (List.mem_cons.1 hk).elim (fun h => by simp [h]) (fun h => List.mem_cons_of_mem _ (EngA.mem_holds h)))
 ·intro k hk
  simp only [EngA.blocks, EngA.withHolds, List.mem_append] at hk ⊢
  rcases hk with hk | hk | hk | hk | hk
  ·exact .inl (.inl hk)
  ·exact .inl (.inr (.inl hk))
  ·exact .inl (.inr (.inr (.inl hk)))
  ·exact .inl (.inr (.inr (.inr (.inl hk))))
  ·rcases hf k hk with h | h
   ·exact .inl (.inr (.inr (.inr (.inr h))))
   ·exact .inr h
def EngA.withNext (e : EngA) (n : Int) : EngA := { e with next := n }
def newE : EngA := zeroE.withNext 1
theorem alloc_eng {w : World} {ops : Array Oper} {rest : List Oper} {dst : Option Nat} {ty : TypeId} {pos : String} {aft : Array Edge} {act : Act} {Q : Exit → Act → World → Prop}
  (h : wpList Try.prog ops Q rest (act.put dst (.pointer (some ⟨w.heap.size, 0, none⟩))) (w.alloc (.cells zeroE.cells.toArray TE))) :
  wpList Try.prog ops Q ({ dst := dst, op := .alloc 42, type := ty, pos := pos, after := aft, guard := none } :: rest) act w := by
 refine wpList_plain rfl fun K hK => ?_
 have hz := Try.zeroEng
 cases hi : Try.prog.info? 42 with
 | none => rw [hi] at hz; cases hz
 | some inf =>
  rw [hi] at hz
  have hz' : inf.zero = some (.agg zeroE.cells.toArray) := by simpa using hz
  obtain ⟨cs, hcs⟩ : ∃ cs, zeroE.cells = cs := ⟨_, rfl⟩
  rw [hcs] at hz' h
  unfold Oper.wp execOp
  have e1 : (zeroValue 42).run Try.prog w = .ok (.agg cs.toArray) w := by simp [zeroValue, typeInfo, hi, hz']
  have e2 : (Instr.alloc 42 true (.tuple #[])).run Try.prog w = .ok (.pointer (some ⟨w.heap.size, 0, none⟩)) (w.alloc (.cells cs.toArray TE)) := by
   unfold Instr.alloc
   simp only [Sem.run_bind, e1, Result.andThen_ok]
   simp [newVar, go_sem]
  simp only [Sem.run_bind, e2, Result.andThen_ok, Sem.run_pure]
  exact hK _ _ h
theorem run_buildE (w : World) : (Instr.build 42 #[(5, Value.int .i64 1)]).run Try.prog w = .ok (.agg newE.cells.toArray) w := run_build w _ _ _ (by kernel_rfl)
theorem build_engine {w : World} {ops : Array Oper} {rest : List Oper} {dst : Option Nat} {ty : TypeId} {pos : String} {aft : Array Edge} {act : Act} {Q : Exit → Act → World → Prop}
  (h : wpList Try.prog ops Q rest (act.put dst (.agg newE.cells.toArray)) w) :
  wpList Try.prog ops Q ({ dst := dst, op := .build 42 #[(5, .const (.int .i64 1))], type := ty, pos := pos, after := aft, guard := none } :: rest) act w := by
 refine wpList_plain rfl fun K hK => ?_
 unfold Oper.wp execOp
 simp only [List.map_toArray, List.map_cons, List.map_nil]
 have ec : act.eval (.const (.int .i64 1)) = .int .i64 1 := rfl
 rw [ec]
 simp only [Sem.run_bind, run_buildE w, Result.andThen_ok, Sem.run_pure]
 exact hK _ _ h
theorem eng_info {e : EngA} (h : e.shape) : (Try.prog.info? 42).map (·.size) = some e.cells.length := by rw [EngA.cells_len h]; exact Try.infoEng
theorem oneE (e : EngA) : ∀ v ∈ e.cells, v.oneCell' = true := by
 intro v hv
 simp only [EngA.cells, List.mem_append] at hv
 rcases hv with hv | hv
 ·obtain ⟨p, _, hp⟩ := List.mem_flatMap.1 hv
  exact oneP p v hp
 ·simp only [EngA.tail, List.mem_cons, List.not_mem_nil, or_false] at hv
  rcases hv with rfl | rfl | rfl | rfl | rfl | rfl | rfl | rfl <;> rfl
theorem zeroE_shape : zeroE.shape := ⟨rfl, fun p hp => by
 simp only [zeroE, List.mem_cons, List.not_mem_nil, or_false] at hp
 have : p = zeroP := by rcases hp with h | h | h | h | h | h | h | h <;> exact h
 rw [this]; rfl⟩
theorem newE_shape : newE.shape := ⟨zeroE_shape.eight, zeroE_shape.four⟩
theorem eng_out {w : World} {C : Nat} {q old : EngA} (hq : q.shape) (ho : old.shape) (bC : Box w C old.cells TE) :
  ∃ WF, Hid (w.setCells C 0 q.cells.toArray.toList = WF) ∧ Within C (C + 1) w WF ∧ WF.heap.size = w.heap.size ∧ Hid (w.there C 0 q.cells.toArray.size) ∧ Box WF C q.cells TE := by
 obtain ⟨WF, hWF, bF, hwF, hsF⟩ := range_fill [] old.cells q.cells [] (by simpa using bC) (by rw [EngA.cells_len hq, EngA.cells_len ho])
 refine ⟨WF, hWF, hwF, hsF, bC.there 0 _ (by rw [List.size_toArray, EngA.cells_len hq, EngA.cells_len ho]; omega), by simpa using bF⟩
theorem eng_load {w : World} {C : Nat} {q : EngA} (hq : q.shape) (b : Box w C q.cells TE) : (loadVar 42 ⟨C, 0, none⟩).run Try.prog w = .ok (.agg q.cells.toArray) w :=
 run_loadVar_mid (P := Try.prog) w C 0 42 q.cells _ (Box.range [] q.cells [] (by simpa using b)) Try.underlying42 rfl (eng_info hq)
theorem engineNew_any (w : World) : Calls Try.prog 15 #[] w fun r w' => r = .returned (.agg newE.cells.toArray) ∧ Below w.heap.size w w' := by
 obtain ⟨W, hW, b0, hbW, hsW⟩ := boxes1 w zeroE.cells TE
 obtain ⟨W1, hW1, hw1, hs1, HT1, b1⟩ := eng_out newE_shape zeroE_shape b0
 have N1 : Below w.heap.size w W1 := hbW.trans (hw1.below (Nat.le_refl _) (by omega))
 have HLD : Hid ((loadVar 42 ⟨w.heap.size, 0, none⟩).run Try.prog W1 = .ok (.agg newE.cells.toArray) W1) := eng_load newE_shape b1
 have HI1 : Hid ((Try.prog.info? 42).map (·.size) = some newE.cells.toArray.size) := eng_info newE_shape
 have HO := all_oneCell_toArray (oneE newE)
 clear hsW hw1 hs1 b0 b1
 obtain ⟨q, hq⟩ : ∃ q, Hid (newE = q) := ⟨_, rfl⟩
 obtain ⟨z, hz⟩ : ∃ z, Hid (zeroE = z) := ⟨_, rfl⟩
 rw [hq.out] at hW1 HT1 HLD HI1 HO ⊢
 rw [hz.out] at hW
 go_enter Try.func15, Try.ntmps15
 go_wp2_with (first | (guard_target = wpList _ _ _ (Oper.mk (some 0) _ _ _ _ _ :: _) _ _; refine alloc_eng ?_; rw [hz.out, hW.out]) | (guard_target = wpList _ _ _ (Oper.mk (some 1) _ _ _ _ _ :: _) _ _; refine build_engine ?_; rw [hq.out]) | (guard_target = wpList _ _ _ (Oper.mk none (Op.store _ (Operand.tmp 0) _) _ _ _ _ :: _) _ _; refine wpList_store_mid rfl 42 (.tmp 0) (.tmp 1) rfl w.heap.size 0 q.cells.toArray rfl rfl HT1.out HI1.out HO ?_; rw [hW1.out]) | fail)
 exact bodyPost_ret (v := .agg q.cells.toArray) (results_one Try.results15 rfl HLD.out) rfl ⟨rfl, N1⟩
theorem implEngineNew_any (w : World) : Calls Try.prog 19 #[] w fun r w' => r = .returned (.agg newE.cells.toArray) ∧ Below w.heap.size w w' := by
 obtain ⟨W, hW, b0, hbW, hsW⟩ := boxes1 w zeroE.cells TE
 obtain ⟨W1, hW1, hw1, hs1, HT1, b1⟩ := eng_out newE_shape zeroE_shape b0
 have N1 : Below w.heap.size w W1 := hbW.trans (hw1.below (Nat.le_refl _) (by omega))
 have HLD : Hid ((loadVar 42 ⟨w.heap.size, 0, none⟩).run Try.prog W1 = .ok (.agg newE.cells.toArray) W1) := eng_load newE_shape b1
 have HI1 : Hid ((Try.prog.info? 42).map (·.size) = some newE.cells.toArray.size) := eng_info newE_shape
 have HO := all_oneCell_toArray (oneE newE)
 clear hsW hw1 hs1 b0 b1
 obtain ⟨q, hq⟩ : ∃ q, Hid (newE = q) := ⟨_, rfl⟩
 obtain ⟨z, hz⟩ : ∃ z, Hid (zeroE = z) := ⟨_, rfl⟩
 rw [hq.out] at hW1 HT1 HLD HI1 HO ⊢
 rw [hz.out] at hW
 go_enter Try.func19, Try.ntmps19
 go_wp2_with (first | (guard_target = wpList _ _ _ (Oper.mk (some 0) _ _ _ _ _ :: _) _ _; refine alloc_eng ?_; rw [hz.out, hW.out]) | (guard_target = wpList _ _ _ (Oper.mk (some 1) _ _ _ _ _ :: _) _ _; refine build_engine ?_; rw [hq.out]) | (guard_target = wpList _ _ _ (Oper.mk none (Op.store _ (Operand.tmp 0) _) _ _ _ _ :: _) _ _; refine wpList_store_mid rfl 42 (.tmp 0) (.tmp 1) rfl w.heap.size 0 q.cells.toArray rfl rfl HT1.out HI1.out HO ?_; rw [hW1.out]) | fail)
 exact bodyPost_ret (v := .agg q.cells.toArray) (results_one Try.results19 rfl HLD.out) rfl ⟨rfl, N1⟩
theorem newE_blocks : newE.blocks = [] := rfl
theorem newE_own (w : World) : newE.own w 0 w.heap.size := by
 refine ⟨⟨fun s hs => ?_, List.nodup_nil⟩, ownSts_nil _ _ _ (Nat.le_refl _), ownRs_nil _ _ _ (Nat.le_refl _), ownL_nil _ _ _ (Nat.le_refl _), ownH_nil _ _ _ (Nat.le_refl _), List.nodup_nil⟩
 have h1 : ∀ p ∈ newE.disk, p = zeroP := fun p hp => by
  simp only [newE, EngA.withNext, zeroE, List.mem_cons, List.not_mem_nil, or_false] at hp
  rcases hp with h | h | h | h | h | h | h | h <;> exact h
 obtain ⟨p, hp, hs⟩ := List.mem_flatMap.1 hs
 rw [h1 p hp] at hs
 have h2 : s = zeroS := by simpa [zeroP] using hs
 rw [h2]
 exact zero_own _ _ _ (Nat.le_refl _)
structure Disk8 (ps : List PageA) : Prop where
 eight : ps.length = 8
 four : ∀ p ∈ ps, p.ss.length = 4
theorem pageD_mem {ps : List PageA} {k : Nat} (h : k < ps.length) : ps.getD k zeroP ∈ ps := by simp [List.getD, h, List.getElem_mem]
theorem Disk8.at {ps : List PageA} (h : Disk8 ps) {k : Nat} (hk : k < 8) : (ps.getD k zeroP).ss.length = 4 := h.four _ (pageD_mem (by rw [h.eight]; exact hk))
def pgv (p : PageA) : Int × List SlotV := (p.lsn, p.ss.map (·.v))
def slots8 (ps : List PageA) : List SlotA := ps.flatMap (·.ss)
theorem page_in {w : World} {B : Nat} {t : TypeId} {ps : List PageA} (h : Disk8 ps) (b : Box w B (cellsPs ps) t) (k : Nat) (hk : k < 8) : w.rangeAt B (k * 17) (ps.getD k zeroP).cells := by
 have hk' : k < ps.length := by rw [h.eight]; exact hk
 have e := cellsPs_split ps k hk'
 have b' := b
 rw [e] at b'
 have := Box.range _ _ _ b'
 rw [cellsPs_len _ (fun p hp => h.four p (List.mem_of_mem_take hp)), List.length_take, Nat.min_eq_left (Nat.le_of_lt hk')] at this
 have e2 : ps.getD k zeroP = ps[k] := by simp [List.getD, hk']
 rw [e2]; exact this
theorem disk8_info {ps : List PageA} (h : Disk8 ps) : (Try.prog.info? 32).map (·.size) = some (cellsPs ps).length := by rw [cellsPs_len _ h.four, h.eight]; kernel_rfl
theorem pgv_at {ps ts : List PageA} (he : ts.map pgv = ps.map pgv) (k : Nat) (hk : k < ps.length) : pgv (ts.getD k zeroP) = pgv (ps.getD k zeroP) := by
 have hk' : k < ts.length := by have := congrArg List.length he; simp only [List.length_map] at this; omega
 have := congrArg (fun l => l[k]?) he
 simpa [List.getD, hk, hk'] using this
theorem page_infoP (p : PageA) (h : p.ss.length = 4) : (Try.prog.info? 31).map (·.size) = some p.cells.length := by rw [page_len _ h]; kernel_rfl
theorem eqPageA8_same (ps ts : List PageA) (hp : Disk8 ps) (ht : Disk8 ts) (he : ts.map pgv = ps.map pgv) (w : World) (hrp : ∀ p ∈ ps, ReadsS w p.ss) (hrt : ∀ p ∈ ts, ReadsS w p.ss) (hf : ∀ p ∈ ps, Fit p.ss) :
  Calls Try.prog 36 #[.agg (cellsPs ps).toArray, .agg (cellsPs ts).toArray] w fun e w' => e = .returned (.bool true) ∧ Below w.heap.size w w' := by
 obtain ⟨W, hW, b0, b1, hbW, hsW⟩ := boxes2 w (cellsPs ps) (cellsPs ts) 32 32
 go_enter Try.func36, Try.ntmps36
 go_wp2_with fail
 rw [hW.out]
 clear hW hsW
 go_loopw [5] (fun i wr => ∃ k : Nat, k ≤ 8 ∧ i = .int .i64 (k : Int) ∧ Below W.heap.size W wr) (fun i _ => 8 - (intOf i).toNat)
 case atStart => exact ⟨0, Nat.zero_le _, rfl, Below.refl _ _⟩
 case round =>
  obtain ⟨k, hk, rfl, hbr⟩ := hrel
  by_cases hlt : k < 8
  ·have HR : Hid (∀ u, Below W.heap.size W u → u.rangeAt w.heap.size (k * 17) (ps.getD k zeroP).cells ∧ u.rangeAt (w.heap.size + 1) (k * 17) (ts.getD k zeroP).cells) := fun u hu => ⟨page_in hp (b0.below hu b0.lt) k hlt, page_in ht (b1.below hu b1.lt) k hlt⟩
   have HP4 := hp.at hlt
   have HT4 := ht.at hlt
   have hv := pgv_at he k (by rw [hp.eight]; exact hlt)
   have R1 := hrp _ (pageD_mem (k := k) (by rw [hp.eight]; exact hlt))
   have R2 := hrt _ (pageD_mem (k := k) (by rw [ht.eight]; exact hlt))
   have F1 := hf _ (pageD_mem (k := k) (by rw [hp.eight]; exact hlt))
   generalize ps.getD k zeroP = p at *
   generalize ts.getD k zeroP = t at *
   obtain ⟨n, ss⟩ := p
   obtain ⟨n', ts'⟩ := t
   simp only [pgv, Prod.mk.injEq] at hv
   obtain ⟨rfl, hv⟩ := hv
   have HV : Hid _ := hv
   clear hv
   have hi0 : (0 : Int) ≤ (k : Int) := by omega
   have hi8 : (k : Int) < 8 := by omega
   go_wp2_with fail
   have D0 : Below W.heap.size W wr.drew := hbr.trans ((Below.refl _ _).drew.mono hbr.size)
   refine wp_region_held_drew (S := fun u => u.rangeAt w.heap.size (k * 17) (PageA.cells ⟨n', ss⟩) ∧ u.rangeAt (w.heap.size + 1) (k * 17) (PageA.cells ⟨n', ts'⟩)) (by kernel_rfl) (HR.out _ D0) (fun hHeld => ?_)
   generalize wr.drew = d0 at *
   refine tk 0 (v := .int .i64 (k : Int)) rfl (Or.inl ⟨by rfl, ?_⟩) hHeld ?_
   ·intro w' hSw
    go_simp <;> rfl
   try simp only [Act.put, zA, zB, zD, zE, zF]
   refine tk 1 (v := .pointer (some ⟨w.heap.size, k * 17, none⟩)) rfl (Or.inl ⟨by rfl, ?_⟩) hHeld ?_
   ·intro w' hSw
    go_simp <;> rfl
   try simp only [Act.put, zA, zB, zC, zD, zE, zF]
   refine tk 2 rfl (yieldsIf_load_mid (by rfl) _ _ rfl _ _ rfl (PageA.cells ⟨n', ss⟩) _ (fun _ h => h.1) Try.underlying31 rfl (page_infoP _ HP4)) hHeld ?_
   try simp only [Act.put, zA, zB, zC, zD, zE, zF]
   refine tk 3 (v := .int .i64 (k : Int)) rfl (Or.inl ⟨by rfl, ?_⟩) hHeld ?_
   ·intro w' hSw
    go_simp <;> rfl
   try simp only [Act.put, zA, zB, zC, zD, zE, zF]
   refine tk 4 (v := .pointer (some ⟨w.heap.size + 1, k * 17, none⟩)) rfl (Or.inl ⟨by rfl, ?_⟩) hHeld ?_
   ·intro w' hSw
    go_simp <;> rfl
   try simp only [Act.put, zA, zB, zC, zD, zE, zF]
   refine tk 5 rfl (yieldsIf_load_mid (by rfl) _ _ rfl _ _ rfl (PageA.cells ⟨n', ts'⟩) _ (fun _ h => h.2) Try.underlying31 rfl (page_infoP _ HT4)) hHeld ?_
   try simp only [Act.put, zA, zB, zC, zD, zE, zF]
   refine wpAnyH_ready (rs := [6]) (by kernel_rfl) (by simp) ?_
   refine AllReadyH.cons rfl (fun K hK => ?_) AllReadyH.nil
   go_simp
   refine (eqPage_same n' ss ts' HP4 HV.out d0 (R1.below (hbW.trans (D0.mono hbW.size))) (R2.below (hbW.trans (D0.mono hbW.size))) F1).mono ?_
   rintro e d1 ⟨rfl, hb1⟩
   have D1 : Below W.heap.size W d1 := D0.trans (hb1.mono D0.size)
   refine hK.out _ _ (HR.out _ D1) (fun hHeld => ?_)
   clear hK K hb1
   try simp only [Act.put, zA, zB, zC, zD, zE, zF]
   refine tk 7 (v := .bool false) rfl (Or.inl ⟨by rfl, ?_⟩) hHeld ?_
   ·intro w' hSw
    go_simp <;> rfl
   try simp only [Act.put, zA, zB, zC, zD, zE, zF]
   refine wpAnyH_done (by kernel_rfl) ?_ _
   clear hHeld
   go_wp2_with fail
   go_roundw
   case rel => exact ⟨k + 1, by omega, by go_num, D1⟩
   case measure => simp [intOf]; omega
  ·obtain rfl : k = 8 := by omega
   have hkk : ¬ ((8 : Nat) : Int) < 8 := by omega
   have HE : Hid (Below w.heap.size w wr) := hbW.trans (hbr.mono hbW.size)
   go_wp2
   go_ret
   exact ⟨rfl, HE.out⟩
theorem OwnS.part {w : World} {lo hi : Nat} {A M B : List SlotA} (h : OwnS w lo hi (A ++ (M ++ B))) : OwnS w lo hi M := by
 refine ⟨fun s hs => h.each s (by simp [hs]), ?_⟩
 have := h.apart
 simp only [List.flatMap_append, List.nodup_append] at this
 exact this.2.1.1
theorem OwnS.swap {w w' : World} {lo hi : Nat} {A M N B : List SlotA} (h : OwnS w lo hi (A ++ (M ++ B))) (ht : Touch (M.flatMap SlotA.blocks) w w') (ho : OwnS w' lo hi N) (hb : N.flatMap SlotA.blocks = M.flatMap SlotA.blocks) : OwnS w' lo hi (A ++ (N ++ B)) := by
 have ha := h.apart
 simp only [List.flatMap_append, List.nodup_append, List.mem_append] at ha
 obtain ⟨a1, ⟨a2, a3, a4⟩, a5⟩ := ha
 refine ⟨fun s hs => ?_, ?_⟩
 ·rcases List.mem_append.1 hs with hs | hs
  ·exact SlotA.touch (h.each s (by simp [hs])) ht (fun k hk hk' => a5 k (List.mem_flatMap.2 ⟨s, hs, hk⟩) k (.inl hk') rfl)
  ·rcases List.mem_append.1 hs with hs | hs
   ·exact ho.each s hs
   ·exact SlotA.touch (h.each s (by simp [hs])) ht (fun k hk hk' => a4 k hk' k (List.mem_flatMap.2 ⟨s, hs, hk⟩) rfl)
 ·have := h.apart
  simp only [List.flatMap_append, hb] at this ⊢
  exact this
theorem markSs_blocks (ss : List SlotA) : ∀ k, (markSs ss k).flatMap SlotA.blocks = ss.flatMap SlotA.blocks := by
 induction ss with
 | nil => intro k; rfl
 | cons s r ih => intro k; simp only [markSs, List.flatMap_cons, mark_blocks, ih]
theorem countS_app (A B : List SlotA) : countS (A ++ B) = countS A + countS B := by
 induction A with
 | nil => simp [countS]
 | cons s r ih => simp only [List.cons_append, countS, ih]; omega
theorem slots8_app (a b : List PageA) : slots8 (a ++ b) = slots8 a ++ slots8 b := by simp only [slots8, List.flatMap_append]
theorem slots8_cons (p : PageA) (b : List PageA) : slots8 (p :: b) = p.ss ++ slots8 b := by simp only [slots8, List.flatMap_cons]
theorem pageD_eq {ps : List PageA} {k : Nat} (h : k < ps.length) : ps[k] = ps.getD k zeroP := by simp [List.getD, h]
theorem slots_split (ps : List PageA) (k : Nat) (hk : k < ps.length) : slots8 ps = slots8 (ps.take k) ++ ((ps.getD k zeroP).ss ++ slots8 (ps.drop (k + 1))) := by
 have e : ps = ps.take k ++ ps.getD k zeroP :: ps.drop (k + 1) := by
  conv => lhs; rw [← List.take_append_drop k ps, List.drop_eq_getElem_cons hk]
  simp [List.getD, hk]
 conv => lhs; rw [e]
 simp only [slots8, List.flatMap_append, List.flatMap_cons]
theorem slots_next (ps : List PageA) (k : Nat) (hk : k < ps.length) : slots8 (ps.take (k + 1)) = slots8 (ps.take k) ++ (ps.getD k zeroP).ss := by
 rw [List.take_succ_eq_append_getElem hk, slots8_app, slots8_cons, pageD_eq hk]
 simp only [slots8, List.flatMap_nil, List.append_nil]
theorem countS_take_le (ps : List PageA) (k : Nat) : countS (slots8 (ps.take k)) ≤ countS (slots8 ps) := by
 conv => rhs; rw [← List.take_append_drop k ps, slots8_app, countS_app]
 omega
theorem markPageA8_touch (ps : List PageA) (hp : Disk8 ps) (lo hi : Nat) (k0 : Int) (w : World) (ho : OwnS w lo hi (slots8 ps)) (hf : ∀ p ∈ ps, Fit p.ss) (h0 : 0 ≤ k0) (hk : k0 + countS (slots8 ps) ≤ 10995116277760) (hhi : hi ≤ w.heap.size) :
  Calls Try.prog 43 #[.agg (cellsPs ps).toArray, .int .i64 k0] w fun e w' => e = .returned (.int .i64 (k0 + countS (slots8 ps))) ∧ OwnS w' lo hi (markSs (slots8 ps) k0) ∧ Touch ((slots8 ps).flatMap SlotA.blocks) w w' := by
 obtain ⟨W, hW, b0, hbW, hsW⟩ := boxes1 w (cellsPs ps) 32
 have hs0 : w.heap.size < W.heap.size := by omega
 have hbl := ho.blocks_lt
 go_enter Try.func43, Try.ntmps43
 go_wp2_with fail
 rw [hW.out]
 clear hW hsW
 go_loopw [1, 5] (fun kk i wr => ∃ k : Nat, k ≤ 8 ∧ i = .int .i64 (k : Int) ∧ kk = .int .i64 (k0 + countS (slots8 (ps.take k))) ∧ OwnS wr lo hi (markSs (slots8 (ps.take k)) k0 ++ slots8 (ps.drop k)) ∧ Touch ((slots8 ps).flatMap SlotA.blocks) W wr) (fun _ i _ => 8 - (intOf i).toNat)
 case atStart => exact ⟨0, Nat.zero_le _, rfl, by simp [slots8, countS], by simpa [slots8, markSs] using ho.below hbW, Touch.refl _ _⟩
 case round =>
  obtain ⟨k, hk8, rfl, rfl, hor, htr⟩ := hrel
  by_cases hlt : k < 8
  ·have hkl : k < ps.length := by rw [hp.eight]; exact hlt
   have hwB : w.heap.size ∉ (slots8 ps).flatMap SlotA.blocks := fun h => by have := (hbl _ h).2; omega
   have r1 := page_in hp (b0.touch htr hwB) k hlt
   have HP4 := hp.at hlt
   have F1 := hf _ (pageD_mem (k := k) hkl)
   have e1 : slots8 (ps.drop k) = (ps.getD k zeroP).ss ++ slots8 (ps.drop (k + 1)) := by
    rw [List.drop_eq_getElem_cons hkl, slots8_cons, pageD_eq hkl]
   rw [e1] at hor
   have e2 := slots_next ps k hkl
   have HC : Hid (countS (slots8 (ps.take (k + 1))) = countS (slots8 (ps.take k)) + countS (ps.getD k zeroP).ss) := by rw [Hid, e2, countS_app]
   have HM : Hid (markSs (slots8 (ps.take (k + 1))) k0 = markSs (slots8 (ps.take k)) k0 ++ markSs (ps.getD k zeroP).ss (k0 + countS (slots8 (ps.take k)))) := by rw [Hid, e2, markSs_app]
   have HB : Hid (∀ j ∈ (ps.getD k zeroP).ss.flatMap SlotA.blocks, j ∈ (slots8 ps).flatMap SlotA.blocks) := fun j hj => by
    rw [slots_split ps k hkl]
    simp only [List.flatMap_append, List.mem_append]
    exact .inr (.inl hj)
   have hcl := countS_take_le ps k
   have C := markPage_touch (ps.getD k zeroP) HP4 lo hi (k0 + countS (slots8 (ps.take k))) wr hor.part F1 (by omega) (by omega) (by have := htr.size; omega)
   clear e1 e2
   generalize ps.getD k zeroP = p at *
   have HIp := page_infoP p HP4
   have hi0 : (0 : Int) ≤ (k : Int) := by omega
   have hi8 : (k : Int) < 8 := by omega
   generalize hcc : countS (slots8 (ps.take k)) = cc at *
   go_wp2_with (first | (guard_target = wpList _ _ _ (Oper.mk (some 12) _ _ _ _ _ :: _) _ _; refine wpList_load_mid rfl 31 (.tmp 11) rfl w.heap.size (k * 17) rfl p.cells _ r1 Try.underlying31 rfl HIp ?_) | fail)
   refine C.mono ?_
   clear C
   rintro e w1 ⟨rfl, ho1, ht1⟩
   have HOK : Hid (OwnS w1 lo hi (markSs (slots8 (ps.take (k + 1))) k0 ++ slots8 (ps.drop (k + 1)))) := by
    rw [Hid, HM.out, List.append_assoc]
    exact hor.swap ht1 ho1 (markSs_blocks _ _)
   have HTK : Hid (Touch ((slots8 ps).flatMap SlotA.blocks) W w1) := htr.trans (ht1.mono HB.out)
   have HCC : Hid (k0 + (cc : Int) + (countS p.ss : Int) = k0 + (countS (slots8 (ps.take (k + 1))) : Int)) := by have := HC.out; rw [Hid]; omega
   clear hor htr ho1 ht1 HC HM
   go_wp2_with fail
   go_roundw
   case rel => exact ⟨k + 1, by omega, by go_num, by rw [HCC.out], HOK.out, HTK.out⟩
   case measure => simp [intOf]; omega
  ·obtain rfl : k = 8 := by omega
   have hkk : ¬ ((8 : Nat) : Int) < 8 := by omega
   have e1 : ps.take 8 = ps := by rw [← hp.eight, List.take_length]
   have e2 : ps.drop 8 = [] := by rw [← hp.eight, List.drop_length]
   rw [e1, e2] at hor
   have HE : Hid (OwnS wr lo hi (markSs (slots8 ps) k0) ∧ Touch ((slots8 ps).flatMap SlotA.blocks) w wr) := ⟨by simpa [slots8] using hor, (Touch.of_below hbW).trans htr⟩
   have HT : Hid (k0 + (countS (slots8 (ps.take 8)) : Int) = k0 + countS (slots8 ps)) := by rw [Hid, e1]
   clear e1 e2
   go_wp2
   go_ret
   exact ⟨ret_int HT.out, HE.out.1, HE.out.2⟩
theorem heldPageA8_any (ps : List PageA) (hp : Disk8 ps) (lo hi : Nat) (k0 : Int) (w : World) (ho : OwnS w lo hi (markSs (slots8 ps) k0)) (hf : ∀ p ∈ ps, Fit p.ss) (h0 : 0 ≤ k0) (hk : k0 + countS (slots8 ps) ≤ 10995116277760) :
  Calls Try.prog 49 #[.agg (cellsPs ps).toArray, .int .i64 k0] w fun e w' => e = .returned (.int .i64 (k0 + countS (slots8 ps))) ∧ Below w.heap.size w w' := by
 obtain ⟨W, hW, b0, hbW, hsW⟩ := boxes1 w (cellsPs ps) 32
 go_enter Try.func49, Try.ntmps49
 go_wp2_with fail
 rw [hW.out]
 clear hW hsW
 go_loopw [1, 5] (fun kk i wr => ∃ k : Nat, k ≤ 8 ∧ i = .int .i64 (k : Int) ∧ kk = .int .i64 (k0 + countS (slots8 (ps.take k))) ∧ Below W.heap.size W wr) (fun _ i _ => 8 - (intOf i).toNat)
 case atStart => exact ⟨0, Nat.zero_le _, rfl, by simp [slots8, countS], Below.refl _ _⟩
 case round =>
  obtain ⟨k, hk8, rfl, rfl, hbr⟩ := hrel
  by_cases hlt : k < 8
  ·have hkl : k < ps.length := by rw [hp.eight]; exact hlt
   have r1 := page_in hp (b0.below hbr b0.lt) k hlt
   have HP4 := hp.at hlt
   have F1 := hf _ (pageD_mem (k := k) hkl)
   have hor : OwnS wr lo hi (markSs (slots8 ps) k0) := ho.below (hbW.trans (hbr.mono hbW.size))
   rw [slots_split ps k hkl, markSs_app, markSs_app] at hor
   have e2 := slots_next ps k hkl
   have HC : Hid (countS (slots8 (ps.take (k + 1))) = countS (slots8 (ps.take k)) + countS (ps.getD k zeroP).ss) := by rw [Hid, e2, countS_app]
   have hcl := countS_take_le ps k
   have C := heldPage_any (ps.getD k zeroP) HP4 lo hi (k0 + countS (slots8 (ps.take k))) wr hor.part F1 (by omega) (by omega)
   clear e2 hor
   generalize ps.getD k zeroP = p at *
   have HIp := page_infoP p HP4
   have hi0 : (0 : Int) ≤ (k : Int) := by omega
   have hi8 : (k : Int) < 8 := by omega
   generalize hcc : countS (slots8 (ps.take k)) = cc at *
   go_wp2_with (first | (guard_target = wpList _ _ _ (Oper.mk (some 12) _ _ _ _ _ :: _) _ _; refine wpList_load_mid rfl 31 (.tmp 11) rfl w.heap.size (k * 17) rfl p.cells _ r1 Try.underlying31 rfl HIp ?_) | fail)
   refine C.mono ?_
   clear C
   rintro e w1 ⟨rfl, hb1⟩
   have HBK : Hid (Below W.heap.size W w1) := hbr.trans (hb1.mono hbr.size)
   have HCC : Hid (k0 + (cc : Int) + (countS p.ss : Int) = k0 + (countS (slots8 (ps.take (k + 1))) : Int)) := by have := HC.out; rw [Hid]; omega
   have hnn : ¬ (k0 + (cc : Int) + (countS p.ss : Int)) < 0 := by omega
   clear hbr hb1 HC r1
   go_wp2_with fail
   go_roundw
   case rel => exact ⟨k + 1, by omega, by go_num, by rw [HCC.out], HBK.out⟩
   case measure => simp [intOf]; omega
  ·obtain rfl : k = 8 := by omega
   have hkk : ¬ ((8 : Nat) : Int) < 8 := by omega
   have e1 : ps.take 8 = ps := by rw [← hp.eight, List.take_length]
   have HT : Hid (k0 + (countS (slots8 (ps.take 8)) : Int) = k0 + countS (slots8 ps)) := by rw [Hid, e1]
   have HE : Hid (Below w.heap.size w wr) := hbW.trans (hbr.mono hbW.size)
   clear e1
   go_wp2
   go_ret
   exact ⟨ret_int HT.out, HE.out⟩
structure PoolV where
 seats : List SeatV
 hand : Int
structure PoolA where
 seats : List SeatA
 hand : Int
 a : Option Addr
 c : Nat
def PoolA.v (l : PoolA) : PoolV := ⟨l.seats.map SeatA.v, l.hand⟩
def PoolA.cells (l : PoolA) : List Value := [.slice l.a l.seats.length l.c, .int .i64 l.hand]
def PoolA.reads (w : World) (l : PoolA) : Prop := ReadsSts w l.a l.seats
def PoolA.own (w : World) (lo hi : Nat) (l : PoolA) : Prop := OwnSts w lo hi l.a l.c l.seats
def SeatA.short (s : SeatA) (m : Nat) : Prop := ∀ x ∈ s.ss, x.v.o.ints.length ≤ m ∧ x.v.o.refs.length ≤ m
structure PoolA.short (l : PoolA) (m : Nat) : Prop where
 len : l.seats.length ≤ m
 each : ∀ r ∈ l.seats, r.short m
theorem PoolA.short.at {l : PoolA} {m : Nat} (h : l.short m) (k : Nat) (hk : k < l.seats.length) : (l.seats.getD k zeroSt).short m := h.each _ (seatD_mem _ k hk)
theorem mapSt_len {rs ts : List SeatA} (h : ts.map SeatA.v = rs.map SeatA.v) : ts.length = rs.length := by simpa using congrArg List.length h
theorem mapSt_at {rs ts : List SeatA} (h : ts.map SeatA.v = rs.map SeatA.v) (k : Nat) (hk : k < rs.length) : (ts.getD k zeroSt).v = (rs.getD k zeroSt).v := by
 have hk' : k < ts.length := by rw [mapSt_len h]; exact hk
 have := congrArg (fun x => x[k]?) h
 simpa [List.getD, hk, hk'] using this
end Go.Proofs.Ytgnkplbefclpgaa
namespace Go.Proofs.Ytgnkplbefclpgaa
open Go.RowKit
theorem Try.infoPg (p : PageA) (h : p.ss.length = 4) : (Try.prog.info? 31).map (·.size) = some p.cells.length := by rw [page_len p h]; kernel_rfl
theorem seat_page {w : World} {B : Nat} {t : TypeId} (s : SeatA) (b : Box w B s.cells t) : w.rangeAt B 1 s.page.cells := by
 rw [SeatA.cells_page] at b
 exact Box.range [.int .i64 s.no] s.page.cells [.bool s.dirty, .bool s.hot] b
theorem eqSeat_same (s t : SeatA) (he : t.v = s.v) (w : World) (hs : s.reads w) (ht : t.reads w) (hl : s.short 1099511627776) :
  Calls Try.prog 72 #[.agg s.cells.toArray, .agg t.cells.toArray] w fun e w' => e = .returned (.bool true) ∧ Below w.heap.size w w' := by
 obtain ⟨W, hW, b0, b1, hbW, hsW⟩ := boxes2 w s.cells t.cells 110 110
 have HEQ : Hid (t.no = s.no ∧ t.lsn = s.lsn ∧ t.ss.map (·.v) = s.ss.map (·.v) ∧ t.dirty = s.dirty ∧ t.hot = s.hot) := by
  simp only [SeatA.v, SeatV.mk.injEq] at he
  exact he
 have hrg0 : W.rangeAt w.heap.size 1 s.page.cells := seat_page s b0
 have hrg1 : W.rangeAt (w.heap.size + 1) 1 t.page.cells := seat_page t b1
 have HI0 := Try.infoPg s.page rfl
 have HI1 := Try.infoPg t.page rfl
 have C := eqPage_same s.lsn s.ss t.ss rfl HEQ.out.2.2.1 W (hs.below hbW) (ht.below hbW) hl
 have e1 : PageA.cells ⟨s.lsn, t.ss⟩ = t.page.cells := by rw [SeatA.page, HEQ.out.2.1]
 rw [e1] at C
 have c0 : W.cell? ⟨w.heap.size, 0, none⟩ = some (.int .i64 s.no) := b0.cell 0 _ rfl
 have c1 : W.cell? ⟨w.heap.size + 1, 0, none⟩ = some (.int .i64 s.no) := (b1.cell 0 _ rfl).trans (by rw [HEQ.out.1])
 have HC : Hid (∀ u, Below W.heap.size W u → u.cell? ⟨w.heap.size, 18, none⟩ = some (.bool s.dirty) ∧ u.cell? ⟨w.heap.size, 19, none⟩ = some (.bool s.hot) ∧ u.cell? ⟨w.heap.size + 1, 18, none⟩ = some (.bool s.dirty) ∧ u.cell? ⟨w.heap.size + 1, 19, none⟩ = some (.bool s.hot)) := fun u hu => ⟨(b0.below hu b0.lt).cell 18 _ rfl, (b0.below hu b0.lt).cell 19 _ rfl, ((b1.below hu b1.lt).cell 18 _ rfl).trans (by rw [HEQ.out.2.2.2.1]), ((b1.below hu b1.lt).cell 19 _ rfl).trans (by rw [HEQ.out.2.2.2.2])⟩
 clear hsW b0 b1 he HEQ e1
 generalize hsc : s.cells = cs0 at *
 generalize htc : t.cells = cs1 at *
 clear hsc htc
 go_enter Try.func72, Try.ntmps72
 go_upto_region 1 with fail
 rw [hW.out]
 clear hW
 go_wp2_with (first | (guard_target = wpList _ _ _ (Oper.mk (some 11) _ _ _ _ _ :: _) _ _; refine wpList_load_mid rfl 31 (.tmp 10) rfl w.heap.size 1 rfl s.page.cells _ hrg0 Try.underlying31 rfl HI0 ?_) | (guard_target = wpList _ _ _ (Oper.mk (some 13) _ _ _ _ _ :: _) _ _; refine wpList_load_mid rfl 31 (.tmp 12) rfl (w.heap.size + 1) 1 rfl t.page.cells _ hrg1 Try.underlying31 rfl HI1 ?_) | fail)
 refine C.mono ?_
 clear C hrg0 hrg1 HI0 HI1 c0 c1
 rintro e w1 ⟨rfl, hb1⟩
 obtain ⟨d0, d1, d2, d3⟩ := HC.out w1 hb1
 clear HC
 generalize s.dirty = sd at *
 generalize s.hot = sh at *
 go_wp2
 go_ret
 exact ⟨rfl, hbW.trans (hb1.mono hbW.size)⟩
end Go.Proofs.Ytgnkplbefclpgaa