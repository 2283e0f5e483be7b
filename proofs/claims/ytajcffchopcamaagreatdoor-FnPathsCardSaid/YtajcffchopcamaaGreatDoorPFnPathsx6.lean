/- Several texts in one, in their order. -/
import Derived.Test.YtajcffchopcamaaGreatDoorPFnPathsx3
import Derived.Test.YtajcffchopcamaaGreatDoorPFnPathsx5
import Derived.Deep.RegionHeld3
import Derived.WalkKit
import Derived.Test.YtajcffchopcamaaGreatDoorProg
import Derived.Test.YtajcffchopcamaaGreatDoorPFnPathsx1
/- Rows of a path's steps. -/
namespace Go.Proofs.YtajcffchopcamaaGreatDoor
open Go.RowKit

structure StepV where
  kd : Int
  num : Int
def StepV.cells (l : StepV) : List Value := [.int .i64 l.kd, .int .i64 l.num]
def zeroPh : StepV := ⟨0, 0⟩
def cellsPh (ls : List StepV) : List Value := ls.flatMap StepV.cells
theorem cellsPh_len (ls : List StepV) : (cellsPh ls).length = ls.length * 2 := by
  induction ls with
  | nil => rfl
  | cons s r ih => simp only [cellsPh, List.flatMap_cons, List.length_append, StepV.cells, List.length_cons, List.length_nil] at *; omega
theorem cellsPh_app (a b : List StepV) : cellsPh (a ++ b) = cellsPh a ++ cellsPh b := by simp [cellsPh]
theorem cellsPh_at (ls : List StepV) (k j : Nat) (hk : k < ls.length) (hj : j < 2) : (cellsPh ls)[k * 2 + j]? = (ls.getD k zeroPh).cells[j]? := by
  induction ls generalizing k with
  | nil => simp at hk
  | cons s r ih =>
    have e : cellsPh (s :: r) = s.cells ++ cellsPh r := by simp [cellsPh]
    have l3 : s.cells.length = 2 := rfl
    rw [e]
    cases k with
    | zero => rw [List.getElem?_append_left (by rw [l3]; omega)]; simp
    | succ k =>
      rw [List.getElem?_append_right (by rw [l3]; omega), l3]
      have := ih k (by simpa using hk)
      rw [show (k + 1) * 2 + j - 2 = k * 2 + j by omega, this]
      simp
/-- The slice at a reads these. -/
def ReadsPh (w : World) (a : Option Addr) (ls : List StepV) : Prop := ls ≠ [] → ∃ b off, a = some ⟨b, off, none⟩ ∧ ∀ k, k < ls.length → w.cell? ⟨b, off + k * 2, none⟩ = some (.int .i64 (ls.getD k zeroPh).kd) ∧ w.cell? ⟨b, off + k * 2 + 1, none⟩ = some (.int .i64 (ls.getD k zeroPh).num)
theorem ReadsPh.nil (w : World) (a : Option Addr) : ReadsPh w a [] := fun h => absurd rfl h
theorem ReadsPh.below {w w' : World} {a : Option Addr} {ls : List StepV} (h : ReadsPh w a ls) (hb : Below w.heap.size w w') : ReadsPh w' a ls := by
  intro hne
  obtain ⟨b, off, ha, hc⟩ := h hne
  refine ⟨b, off, ha, fun k hk => ?_⟩
  obtain ⟨h0, h1⟩ := hc k hk
  have hlt := block_lt h0
  exact ⟨by rw [hb.cell (p := ⟨b, off + k * 2, none⟩) hlt]; exact h0, by rw [hb.cell (p := ⟨b, off + k * 2 + 1, none⟩) hlt]; exact h1⟩
theorem ReadsPh.cases {w : World} {a : Option Addr} {ls : List StepV} (h : ReadsPh w a ls) : ls = [] ∨ ∃ b off, a = some ⟨b, off, none⟩ ∧ 0 < ls.length ∧ ∀ k, k < ls.length → w.cell? ⟨b, off + k * 2, none⟩ = some (.int .i64 (ls.getD k zeroPh).kd) ∧ w.cell? ⟨b, off + k * 2 + 1, none⟩ = some (.int .i64 (ls.getD k zeroPh).num) := by
  by_cases e : ls = []
  · exact .inl e
  · obtain ⟨b, off, ha, hc⟩ := h e
    exact .inr ⟨b, off, ha, List.length_pos_iff.2 e, hc⟩

/-- The slice at a, of capacity c, owns these; its row lies from lo up to hi. -/
def OwnPh (w : World) (lo hi : Nat) (a : Option Addr) (c : Nat) (ls : List StepV) : Prop :=
  w.ownsRow lo 44 2 (.slice a ls.length c) ls.length (cellsPh ls) ∧ hi ≤ w.heap.size ∧ ∀ k, (Value.slice a ls.length c).ownBlock = some k → k < hi
theorem OwnPh.lt {w : World} {lo hi : Nat} {a : Option Addr} {c : Nat} {ls : List StepV} (h : OwnPh w lo hi a c ls) : ∀ k, (Value.slice a ls.length c).ownBlock = some k → lo ≤ k ∧ k < hi := fun k hk => ⟨(h.1.lt k hk).1, h.2.2 k hk⟩
theorem OwnPh.touch {w w' : World} {lo hi : Nat} {a : Option Addr} {c : Nat} {ls : List StepV} {bl : List Nat} (h : OwnPh w lo hi a c ls) (ht : Touch bl w w') (hd : ∀ k, (Value.slice a ls.length c).ownBlock = some k → k ∉ bl) : OwnPh w' lo hi a c ls :=
  ⟨ownsRow_block h.1 (fun k hk => ht.block k (h.1.lt k hk).2 (hd k hk)), Nat.le_trans h.2.1 ht.size, h.2.2⟩
theorem OwnPh.within {w w' : World} {lo hi l r : Nat} {a : Option Addr} {c : Nat} {ls : List StepV} (h : OwnPh w lo hi a c ls) (hw : Within l r w w') (hd : hi ≤ l ∨ r ≤ lo) : OwnPh w' lo hi a c ls :=
  ⟨ownsRow_block h.1 (fun k hk => hw.block k (by have := h.2.2 k hk; have := h.2.1; omega) (by have := h.lt k hk; omega)), Nat.le_trans h.2.1 hw.size, h.2.2⟩
theorem OwnPh.below {w w' : World} {lo hi : Nat} {a : Option Addr} {c : Nat} {ls : List StepV} (h : OwnPh w lo hi a c ls) (hb : Below w.heap.size w w') : OwnPh w' lo hi a c ls :=
  h.within (Within.of_below (lo := w.heap.size) (hi := w.heap.size) hb) (.inl h.2.1)
theorem OwnPh.widen {w : World} {lo hi lo' hi' : Nat} {a : Option Addr} {c : Nat} {ls : List StepV} (h : OwnPh w lo hi a c ls) (h1 : lo' ≤ lo) (h2 : hi ≤ hi') (h3 : hi' ≤ w.heap.size) : OwnPh w lo' hi' a c ls :=
  ⟨ownsRow_base h.1 (fun k hk => by have := h.lt k hk; omega), h3, fun k hk => by have := h.lt k hk; omega⟩
theorem ownPh_nil (w : World) (lo hi : Nat) (h : hi ≤ w.heap.size) : OwnPh w lo hi none 0 [] := ⟨⟨by simp [cellsPh], .inl ⟨rfl, rfl⟩⟩, h, fun k hk => by cases hk⟩
theorem OwnPh.nocap {w : World} {lo hi : Nat} {a : Option Addr} {c : Nat} {ls : List StepV} (h : OwnPh w lo hi a c ls) : a = none → c = 0 := by
  intro ha
  rcases h.1.2 with ⟨hv, _⟩ | ⟨g, cap, cur, hv, _⟩
  · simp only [Value.slice.injEq] at hv; exact hv.2.2
  · simp [ha] at hv
/-- The two cells of one of a row that lies in block g. -/
theorem row_step {w : World} {base g n cap : Nat} {ls : List StepV} (h : w.ownsRow base 44 2 (.slice (some ⟨g, 0, none⟩) n cap) n (cellsPh ls)) (hn : ls.length = n) (k : Nat) (hk : k < n) :
    w.cell? ⟨g, k * 2, none⟩ = some (.int .i64 (ls.getD k zeroPh).kd) ∧ w.cell? ⟨g, k * 2 + 1, none⟩ = some (.int .i64 (ls.getD k zeroPh).num) ∧ (∀ i, w.frozen? ⟨g, i, none⟩ = false) := by
  have a0 := cellsPh_at ls k 0 (by omega) (by omega)
  have a1 := cellsPh_at ls k 1 (by omega) (by omega)
  simp only [StepV.cells, Nat.add_zero, List.getElem?_cons_zero, List.getElem?_cons_succ] at a0 a1
  exact ⟨by rw [h.cellAt (k * 2) (by omega)]; exact a0, by rw [h.cellAt (k * 2 + 1) (by omega)]; exact a1, fun i => h.frozenAt i⟩
theorem OwnPh.reads {w : World} {lo hi : Nat} {a : Option Addr} {c : Nat} {ls : List StepV} (h : OwnPh w lo hi a c ls) : ReadsPh w a ls := by
  intro hne
  rcases h.1.2 with ⟨_, h0⟩ | ⟨g, cap', cur, hv, hb, hg, hr⟩
  · exact absurd (List.length_eq_zero_iff.1 h0) hne
  · simp only [Value.slice.injEq] at hv
    obtain ⟨rfl, _, rfl⟩ := hv
    refine ⟨g, 0, rfl, fun k hk => ?_⟩
    obtain ⟨a0, a1, _⟩ := row_step h.1 rfl k hk
    rw [Nat.zero_add]
    exact ⟨a0, a1⟩
theorem Tryz.infoStep : (Tryz.prog.info? 44).map (fun i => (i.zero, i.size, i.bytes)) = some (some (.agg #[.int .i64 0, .int .i64 0]), 2, 16) := by kernel_rfl
theorem steps_oneCell (zs : List StepV) : ∀ v ∈ cellsPh zs, v.oneCell' = true := by
  intro v hv
  obtain ⟨s, _, hs⟩ := List.mem_flatMap.1 hv
  simp only [StepV.cells, List.mem_cons, List.not_mem_nil, or_false] at hs
  rcases hs with rfl | rfl <;> rfl

theorem append_steps {w : World} {ops : Array Oper} {rest : List Oper} {o : Oper} {act : Act} {Q : Exit → Act → World → Prop} (hgd : o.guard = none) (s x : Operand)
    (ho : o.op = .call { callee := .builtin .append, args := #[s, x], argTypes := #[25, 25] })
    (lo hi : Nat) (a : Option Addr) (c : Nat) (xs : List StepV) (hs : act.eval s = .slice a xs.length c) (hown : OwnPh w lo hi a c xs)
    (sa : Option Addr) (sc : Nat) (zs : List StepV) (hx : act.eval x = .slice sa zs.length sc) (hr : ReadsPh w sa zs) (hc : sa = none → sc = 0)
    (hb : xs.length + zs.length ≤ 1099511627776) (hlo : lo ≤ w.heap.size)
    (h : ∀ a' c' ys w', Hid (ys = xs ++ zs) → OwnPh w' lo w'.heap.size a' c' ys → w.grownBy w' (Value.slice a xs.length c).ownBlock → wpList Tryz.prog ops Q rest (act.put o.dst (.slice a' ys.length c')) w') :
    wpList Tryz.prog ops Q (o :: rest) act w := by
  obtain ⟨i0, hi0, hz0, hz1, hz2⟩ := info_parts Tryz.infoStep
  have fin : ∀ v' w', w'.ownsRow lo 44 2 v' (xs.length + zs.length) (cellsPh xs ++ cellsPh zs) → w.grownBy w' (Value.slice a xs.length c).ownBlock → wpList Tryz.prog ops Q rest (act.put o.dst v') w' := by
    intro v' w' h1 h2
    rw [← cellsPh_app, ← List.length_append] at h1
    have sh : ∃ a' c', v' = .slice a' (xs ++ zs).length c' := by
      rcases h1.2 with ⟨rfl, h0⟩ | ⟨g, cap, cur, rfl, _⟩
      · exact ⟨none, 0, by rw [h0]⟩
      · exact ⟨_, _, rfl⟩
    obtain ⟨a', c', rfl⟩ := sh
    exact h a' c' (xs ++ zs) w' rfl ⟨h1, Nat.le_refl _, fun k hk => (h1.lt k hk).2⟩ h2
  cases sa with
  | none =>
    have hz : zs = [] := by
      by_cases e : zs = []
      · exact e
      · obtain ⟨b, off, hh, _⟩ := hr e
        cases hh
    subst hz
    have := hc rfl
    subst this
    exact wpList_append_own_none hgd s x 25 ho lo 44 i0 2 Tryz.underlying25 hi0 _ _ _ hs hown.1 hx (fin _ w (by simpa [cellsPh] using hown.1) (World.grownBy.refl _ _))
  | some ad =>
    refine wpList_append_own w hgd s x 25 ho lo 44 i0 (.agg #[.int .i64 0, .int .i64 0]) 2 16 Tryz.underlying25 hi0 hz0 hz1 hz2 rfl (by decide) _ _ _ hs hown.1 ad zs.length sc (cellsPh zs) hx (by rw [cellsPh_len]) ?_ (steps_oneCell _) (by simp only [maxLen]; omega) (by omega) hlo (fun v' w' h1 h2 _ => fin v' w' h1 h2)
    intro j u hj
    have hjl : j < zs.length * 2 := by rw [← cellsPh_len]; exact (List.getElem?_eq_some_iff.1 hj).1
    have hne : zs ≠ [] := by intro e; simp [e] at hjl
    obtain ⟨b, off, hh, hcell⟩ := hr hne
    cases hh
    have hat := cellsPh_at zs (j / 2) (j % 2) (by omega) (Nat.mod_lt _ (by omega))
    rw [show j / 2 * 2 + j % 2 = j by omega, hj] at hat
    obtain ⟨k0, k1⟩ := hcell (j / 2) (by omega)
    rw [Addr_add]
    rcases (by omega : j % 2 = 0 ∨ j % 2 = 1) with h' | h' <;> rw [h'] at hat <;> simp only [StepV.cells, List.getElem?_cons_zero, List.getElem?_cons_succ, Option.some.injEq] at hat
    · rw [show off + j = off + j / 2 * 2 by omega, k0, hat]
    · rw [show off + j = off + j / 2 * 2 + 1 by omega, k1, hat]
theorem readsPh_one (w : World) (z : StepV) (t : TypeId) : ReadsPh (w.alloc (.cells #[.int .i64 z.kd, .int .i64 z.num] t)) (some ⟨w.heap.size, 0, none⟩) [z] := by
  intro _
  refine ⟨w.heap.size, 0, rfl, fun k hk => ?_⟩
  obtain rfl : k = 0 := by simpa using hk
  have b : Box (w.alloc (.cells #[.int .i64 z.kd, .int .i64 z.num] t)) w.heap.size [.int .i64 z.kd, .int .i64 z.num] t := box_new _ _ _
  exact ⟨b.cell 0 _ rfl, b.cell 1 _ rfl⟩
end Go.Proofs.YtajcffchopcamaaGreatDoor

/- The walks of laws.toPathStep, toPathStepS, eqPathStep, eqPathStepS, szPathStepS. -/
namespace Go.Proofs.YtajcffchopcamaaGreatDoor
open Go.RowKit

end Go.Proofs.YtajcffchopcamaaGreatDoor

/- The walks of laws.markPathStepS and laws.heldPathStepS. -/
namespace Go.Proofs.YtajcffchopcamaaGreatDoor
open Go.RowKit

end Go.Proofs.YtajcffchopcamaaGreatDoor

/- Is a number within bounds? -/
namespace Go.Proofs.YtajcffchopcamaaGreatDoor
def inB (x l m : Int) : Bool := decide (l ≤ x ∧ x ≤ m)
end Go.Proofs.YtajcffchopcamaaGreatDoor

/- The walk of spec.l1In. -/
namespace Go.Proofs.YtajcffchopcamaaGreatDoor
open Go.RowKit

set_option maxHeartbeats 400000 in
theorem l1In_any (x l m : Int) (w : World) : Calls Tryz.prog 65 #[.int .i64 x, .int .i64 l, .int .i64 m] w fun e w' => e = .returned (.bool (inB x l m)) ∧ w' = w := by
  by_cases h1 : l ≤ x
  · by_cases h2 : x ≤ m
    · have HB : Hid (inB x l m = true) := by simp [Hid, inB, h1, h2]
      go_enter Tryz.func65, Tryz.ntmps65
      go_wp2
      go_ret
      exact ⟨ret_bool HB.out.symm, rfl⟩
    · have HB : Hid (inB x l m = false) := by simp [Hid, inB, h2]
      go_enter Tryz.func65, Tryz.ntmps65
      go_wp2
      go_ret
      exact ⟨ret_bool HB.out.symm, rfl⟩
  · have HB : Hid (inB x l m = false) := by simp [Hid, inB, h1]
    go_enter Tryz.func65, Tryz.ntmps65
    go_wp2
    go_ret
    exact ⟨ret_bool HB.out.symm, rfl⟩

end Go.Proofs.YtajcffchopcamaaGreatDoor
