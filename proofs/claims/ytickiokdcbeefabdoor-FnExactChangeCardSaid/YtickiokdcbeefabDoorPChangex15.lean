/- Several texts in one, in their order. -/
import Derived.Test.YtickiokdcbeefabDoorPChangex14
import Derived.Deep.CutRange
import Derived.Test.YtickiokdcbeefabDoorPChangex13
import Derived.Deep.LoopGhost
import Derived.Test.YtickiokdcbeefabDoorPChangex12
import Derived.Test.YtickiokdcbeefabDoorPChangex10
import Derived.Deep.MidRow
import Derived.Laws.Tables
import Derived.Deep.RegionLaw
import Derived.Deep.DrawnRows
/- The walks of spec.l5Force, spec.Force and impl.Force. -/
namespace Go.Proofs.YtickiokdcbeefabDoor
open Go.RowKit

end Go.Proofs.YtickiokdcbeefabDoor

/- spec.l5Force at a log that lies inside an engine; spec.l6Victim. -/
namespace Go.Proofs.YtickiokdcbeefabDoor
open Go.RowKit

end Go.Proofs.YtickiokdcbeefabDoor

/- A cell of a seat stored; spec.l6Victim. -/
namespace Go.Proofs.YtickiokdcbeefabDoor
open Go.RowKit

theorem cellsSts_mid (A B : List SeatA) (z z' : SeatA) (i : Nat) (v : Value) (hi : i < 20) (hc : z'.cells = z.cells.set i v) : (cellsSts (A ++ z :: B)).set (A.length * 20 + i) v = cellsSts (A ++ z' :: B) := by
  rw [cellsSts_app, cellsSts_cons, cellsSts_app, cellsSts_cons, List.set_append_right _ _ (by rw [cellsSts_len]; omega), cellsSts_len, show A.length * 20 + i - A.length * 20 = i by omega, List.set_append_left _ _ (by rw [cellsSt_len]; omega), hc]
/-- One cell of a seat stored: its lists stay. -/
theorem OwnSts.cellSet {w : World} {lo hi g c : Nat} {A B : List SeatA} {z z' : SeatA} (h : OwnSts w lo hi (some ⟨g, 0, none⟩) c (A ++ z :: B)) (i : Nat) (v : Value) (hi' : i < 20) (hc : z'.cells = z.cells.set i v) (hss : z'.ss = z.ss) :
    OwnSts (w.setCell ⟨g, A.length * 20 + i, none⟩ v) lo hi (some ⟨g, 0, none⟩) c (A ++ z' :: B) ∧ Touch [g] w (w.setCell ⟨g, A.length * 20 + i, none⟩ v) := by
  have hrow := h.row
  obtain ⟨h1, h2⟩ := hrow.stored (A.length * 20 + i) v
  have ht : Touch [g] w (w.setCell ⟨g, A.length * 20 + i, none⟩ v) := Touch.of_grown h2 (fun k hk => by cases hk; simp)
  have hbl : z'.blocks = z.blocks := by unfold SeatA.blocks; rw [hss]
  have hap := h.apart
  have hng : ∀ r ∈ A ++ z :: B, g ∉ r.blocks := fun r hr hk => by
    have := (List.nodup_append.1 hap).2.2 g (by simp [Value.ownBlock]) g (List.mem_flatMap.2 ⟨r, hr, hk⟩)
    exact this rfl
  have hlen : (A ++ z' :: B).length = (A ++ z :: B).length := by simp
  have hz : z'.own w lo hi := by
    have := h.each z (by simp)
    unfold SeatA.own at this ⊢
    rwa [hss]
  refine ⟨⟨?_, ?_, ?_, fun r hr => ?_, ?_⟩, ht⟩
  · rw [hlen, ← cellsSts_mid A B z z' i v hi' hc]
    exact h1
  · simpa using h.top
  · rw [hlen]; exact h.blk
  · rcases List.mem_append.1 hr with hr | hr
    · exact (h.each r (by simp [hr])).touch ht (fun k hk hk' => hng r (by simp [hr]) (by rw [← List.mem_singleton.1 hk']; exact hk))
    · rcases List.mem_cons.1 hr with rfl | hr
      · exact hz.touch ht (fun k hk hk' => hng z (by simp) (by rw [← hbl, ← List.mem_singleton.1 hk']; exact hk))
      · exact (h.each r (by simp [hr])).touch ht (fun k hk hk' => hng r (by simp [hr]) (by rw [← List.mem_singleton.1 hk']; exact hk))
  · rw [hlen]
    simpa [hbl] using hap
end Go.Proofs.YtickiokdcbeefabDoor

/- An engine in its box: what a step of it keeps, and what is new behind it. -/
namespace Go.Proofs.YtickiokdcbeefabDoor
open Go.RowKit

end Go.Proofs.YtickiokdcbeefabDoor

/- Who goes from a pool that is full: the walk of spec.l6Victim. -/
namespace Go.Proofs.YtickiokdcbeefabDoor
open Go.RowKit

def zeroStV : SeatV := zeroSt.v
theorem seatV_at (ls : List SeatA) (k : Nat) : (ls.map SeatA.v).getD k zeroStV = (ls.getD k zeroSt).v := by
  simp only [List.getD, List.getElem?_map]
  cases ls[k]? <;> rfl
theorem seat_set (ls : List SeatA) (k : Nat) (s : SeatA) (hk : k < ls.length) : ls.set k s = ls.take k ++ s :: ls.drop (k + 1) := by
  rw [List.set_eq_take_append_cons_drop, if_pos hk]
end Go.Proofs.YtickiokdcbeefabDoor

/- Appending a seat, a record, as a step of a region that draws its order: where the row lies behind it. -/
namespace Go.Proofs.YtickiokdcbeefabDoor
open Go.RowKit

theorem run_append_seat {w : World} (ty : TypeId) (lo hi : Nat) (a : Option Addr) (c : Nat) (rs : List SeatA) (hown : OwnSts w lo hi a c rs)
    (b off : Nat) (sc : Nat) (q : SeatA) (hr : w.rangeAt b off q.cells) (l u : Nat) (hq : q.own w l u) (hl : hi ≤ l) (hu : u ≤ w.heap.size)
    (hb : rs.length + 1 ≤ 68719476736) (hlo : lo ≤ hi) :
    ∃ a' c' w', (Builtin.append_ #[26, 26] ty #[.slice a rs.length c, .slice (some ⟨b, off, none⟩) 1 sc]).run Tryd.prog w = .ok (.slice a' (rs ++ [q]).length c') w' ∧ OwnSts w' lo w'.heap.size a' c' (rs ++ [q]) ∧ w.grownBy w' (Value.slice a rs.length c).ownBlock ∧
      (∀ k, (Value.slice a' (rs ++ [q]).length c').ownBlock = some k → (Value.slice a rs.length c).ownBlock = some k ∨ k = w.heap.size) := by
  obtain ⟨i0, hi0, hz0, hz1, hz2⟩ := info_parts Tryd.infoSeat
  have hqb := hq.blocks_lt
  have htop := hown.top
  obtain ⟨v', w', hrun, h1, h2, _, h5⟩ := run_append_own_at (P := Tryd.prog) w lo 26 ty 51 i0 (.agg zeroSt.cells.toArray) 20 280 Tryd.underlying26 hi0 hz0 hz1 hz2 rfl (by decide) _ _ _ hown.row ⟨b, off, none⟩ 1 sc q.cells (by rfl) (by
    intro j v hj
    rw [Addr_add]
    exact hr j v hj) (oneSt q) (by simp only [maxLen]; omega) (by omega) (by omega)
  have e : cellsSts rs ++ q.cells = cellsSts (rs ++ [q]) := by rw [cellsSts_app, cellsSts_cons]; simp [cellsSts]
  have e2 : rs.length + 1 = (rs ++ [q]).length := by simp
  rw [e, e2] at h1
  have sh : ∃ a' c', v' = .slice a' (rs ++ [q]).length c' := by
    rcases h1.2 with ⟨rfl, h0⟩ | ⟨g, cap, cur, rfl, _⟩
    · simp at h0
    · exact ⟨_, _, rfl⟩
  obtain ⟨a', c', rfl⟩ := sh
  have hsz := h2.size
  have ht : Touch (Value.slice a rs.length c).ownBlock.toList w w' := Touch.of_grown h2 (fun k hk => Option.mem_toList.2 hk)
  have hrow := h1.lt
  have hold : ∀ r ∈ rs, r.own w' lo w'.heap.size := fun r hr => ((hown.each r hr).touch ht (fun k hk hk' => (List.nodup_append.1 hown.apart).2.2 k hk' k (List.mem_flatMap.2 ⟨r, hr, hk⟩) rfl)).widen (Nat.le_refl _) (by omega) (Nat.le_refl _)
  have hnew : q.own w' lo w'.heap.size := (hq.touch ht (fun k hk hk' => by have := hqb k hk; have := hown.blk k (Option.mem_toList.1 hk'); omega)).widen (by omega) (by omega) (Nat.le_refl _)
  refine ⟨a', c', w', hrun, ⟨h1, Nat.le_refl _, fun k hk => (hrow k hk).2, fun r hr => ?_, ?_⟩, h2, fun k hk => h5.elim (fun h5 => .inl (by rw [← h5]; exact hk)) (fun h5 => by rw [h5] at hk; exact .inr (Option.some.inj hk).symm)⟩
  · rcases List.mem_append.1 hr with hr | hr
    · exact hold r hr
    · obtain rfl := List.mem_singleton.1 hr
      exact hnew
  · rw [List.flatMap_append, List.nodup_append, List.nodup_append]
    have hap := (List.nodup_append.1 hown.apart).2.1
    have hin : ∀ x ∈ rs.flatMap SeatA.blocks, lo ≤ x ∧ x < hi := fun x hx => by
      obtain ⟨r, hr, hx⟩ := List.mem_flatMap.1 hx
      exact (hown.each r hr).blocks_lt x hx
    refine ⟨by cases (Value.slice a' (rs ++ [q]).length c').ownBlock <;> simp, ⟨hap, by simpa using hq.apart, fun x hx y hy e => ?_⟩, fun x hx y hy e => ?_⟩
    · have := hin x hx
      simp only [List.flatMap_cons, List.flatMap_nil, List.append_nil] at hy
      have := hqb y hy
      omega
    · have hx' := Option.mem_toList.1 hx
      subst e
      rcases List.mem_append.1 hy with hy | hy
      · obtain ⟨r, hr, hy⟩ := List.mem_flatMap.1 hy
        exact rowSt_apart h1 (hold r hr) x hx' hy
      · simp only [List.flatMap_cons, List.flatMap_nil, List.append_nil] at hy
        exact rowSt_apart h1 hnew x hx' hy

theorem step_append_seat {w : World} {ops : Array Oper} {o : Oper} {act : Act} {K : Act → World → Prop} {Q : Exit → Act → World → Prop} {E : Prop} (hgd : o.guard = none) (s x : Operand)
    (ho : o.op = .call { callee := .builtin .append, args := #[s, x], argTypes := #[26, 26] })
    (lo hi : Nat) (a : Option Addr) (c : Nat) (rs : List SeatA) (hs : act.eval s = .slice a rs.length c) (hown : OwnSts w lo hi a c rs)
    (b off : Nat) (sc : Nat) (q : SeatA) (hx : act.eval x = .slice (some ⟨b, off, none⟩) 1 sc) (hr : w.rangeAt b off q.cells) (l u : Nat) (hq : q.own w l u) (hl : hi ≤ l) (hu : u ≤ w.heap.size)
    (hb : rs.length + 1 ≤ 68719476736) (hlo : lo ≤ hi)
    (h : ∀ a' c' w', OwnSts w' lo w'.heap.size a' c' (rs ++ [q]) → w.grownBy w' (Value.slice a rs.length c).ownBlock → (∀ k, (Value.slice a' (rs ++ [q]).length c').ownBlock = some k → (Value.slice a rs.length c).ownBlock = some k ∨ k = w.heap.size) → K (act.put o.dst (.slice a' (rs ++ [q]).length c')) w') :
    if Region.wanted o (yielded ops act.tmps) = true then Oper.wp Tryd.prog o act w K Q else E := by
  have hw : Region.wanted o (yielded ops act.tmps) = true := by simp [Region.wanted, hgd]
  rw [if_pos hw]
  obtain ⟨a', c', w', hrun, h2, h3, h4⟩ := run_append_seat (w := w) o.type lo hi a c rs hown b off sc q hr l u hq hl hu hb hlo
  unfold Oper.wp
  simp [execOp, ho, resolve, invoke, builtin, hs, hx, hrun, Result.andThen]
  have := h a' c' w' h2 h3 h4
  rw [List.length_append, List.length_singleton] at this
  exact this
end Go.Proofs.YtickiokdcbeefabDoor

/- A seat made by a literal. -/
namespace Go.Proofs.YtickiokdcbeefabDoor
open Go.RowKit

theorem lit_seat (q : SeatA) : List.foldl (fun cs x => cs.setIfInBounds x.snd x.fst) (#[.int .i64 0, .int .i64 0, .bool false, .int .i64 0, .slice none 0 0, .slice none 0 0, .bool false, .int .i64 0, .slice none 0 0, .slice none 0 0, .bool false, .int .i64 0, .slice none 0 0, .slice none 0 0, .bool false, .int .i64 0, .slice none 0 0, .slice none 0 0, .bool false, .bool false] : Array Value) q.cells.zipIdx = q.cells.toArray := by simp [SeatA.cells, SlotA.cells, List.zipIdx]
theorem seat_one (q : SeatA) : q.cells.toArray.all (·.oneCell') = true := all_oneCell_toArray (oneSt q)
theorem seat_info (q : SeatA) : (Tryd.prog.info? 51).map (·.size) = some q.cells.length := by show _ = some 20; kernel_rfl
theorem seat_load {w : World} {C : Nat} (q : SeatA) (b : Box w C q.cells 51) : (loadVar 51 ⟨C, 0, none⟩).run Tryd.prog w = .ok (.agg q.cells.toArray) w :=
  run_loadVar_mid (P := Tryd.prog) w C 0 51 q.cells _ (Box.range [] q.cells [] (by simpa using b)) Tryd.underlying51 rfl (seat_info q)
theorem seat_out {w : World} {C : Nat} (q : SeatA) (old : List Value) (ho : old.length = 20) (bC : Box w C old 51) :
    ∃ WF, Hid (w.setCells C 0 q.cells = WF) ∧ Within C (C + 1) w WF ∧ WF.heap.size = w.heap.size ∧ Hid (w.there C 0 q.cells.toArray.size) ∧ Hid ((loadVar 51 ⟨C, 0, none⟩).run Tryd.prog WF = .ok (.agg q.cells.toArray) WF) ∧ Box WF C q.cells 51 := by
  obtain ⟨WF, hWF, bF, hwF, hsF⟩ := range_fill [] old q.cells [] (by simpa using bC) (by rw [ho]; rfl)
  have bF' : Box WF C q.cells 51 := by simpa using bF
  exact ⟨WF, hWF, hwF, hsF, bC.there 0 _ (by rw [ho]; show 0 + 20 ≤ 20; decide), seat_load q bF', bF'⟩
end Go.Proofs.YtickiokdcbeefabDoor

/- A page brought into a pool: the walk of spec.l6Bring. -/
namespace Go.Proofs.YtickiokdcbeefabDoor
open Go.RowKit
attribute [local go_sem ↓] Go.wp_at_zero Go.wp_at_succ

end Go.Proofs.YtickiokdcbeefabDoor
