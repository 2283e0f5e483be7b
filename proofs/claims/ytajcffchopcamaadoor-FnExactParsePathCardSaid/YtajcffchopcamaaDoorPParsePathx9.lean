/- Several texts in one, in their order. -/
import Derived.Test.YtajcffchopcamaaDoorPParsePathx5
import Derived.Test.YtajcffchopcamaaDoorPParsePathx6
import Derived.Test.YtajcffchopcamaaDoorPParsePathx8
import Derived.Test.YtajcffchopcamaaDoorPParsePathx4
import Derived.Deep.RegionHeld3
/- What is written lies in some blocks, named one by one; all else is as it was. -/
namespace Go.Proofs.YtajcffchopcamaaDoor
open Go.RowKit

structure Touch (bl : List Nat) (w w' : World) : Prop where
  os : w'.os = w.os
  tape : w'.tape = w.tape
  output : w'.output = w.output
  size : w.heap.size ≤ w'.heap.size
  block : ∀ k, k < w.heap.size → k ∉ bl → w'.heap[k]? = w.heap[k]?

theorem Touch.refl (bl : List Nat) (w : World) : Touch bl w w := ⟨rfl, rfl, rfl, Nat.le_refl _, fun _ _ _ => rfl⟩
theorem Touch.trans {bl : List Nat} {a b c : World} (h : Touch bl a b) (k : Touch bl b c) : Touch bl a c :=
  ⟨k.os.trans h.os, k.tape.trans h.tape, k.output.trans h.output, Nat.le_trans h.size k.size, fun i hi hn => (k.block i (Nat.lt_of_lt_of_le hi h.size) hn).trans (h.block i hi hn)⟩
theorem Touch.mono {bl bl' : List Nat} {w w' : World} (h : Touch bl w w') (hs : ∀ k ∈ bl, k ∈ bl') : Touch bl' w w' :=
  ⟨h.os, h.tape, h.output, h.size, fun k hk hn => h.block k hk (fun hh => hn (hs k hh))⟩
theorem Touch.of_below {bl : List Nat} {w w' : World} (h : Below w.heap.size w w') : Touch bl w w' := ⟨h.os, h.tape, h.output, h.size, fun k hk _ => h.block k hk⟩
theorem Touch.of_grown {bl : List Nat} {w w' : World} {row : Option Nat} (h : w.grownBy w' row) (hr : ∀ k, row = some k → k ∈ bl) : Touch bl w w' :=
  ⟨h.os, h.tape, h.output, h.size, fun k hk hn => h.block k hk (fun e => hn (hr k e.symm))⟩
theorem Touch.within {bl : List Nat} {lo hi : Nat} {w w' : World} (h : Touch bl w w') (hb : ∀ k ∈ bl, lo ≤ k ∧ k < hi) : Within lo hi w w' :=
  ⟨h.os, h.tape, h.output, h.size, fun k hk hn => h.block k hk (fun hh => hn (hb k hh))⟩
end Go.Proofs.YtajcffchopcamaaDoor

/- Rows of a path's steps. -/
namespace Go.Proofs.YtajcffchopcamaaDoor
open Go.RowKit

structure StepV where
  kd : Int
  num : Int
def StepV.cells (l : StepV) : List Value := [.int .i64 l.kd, .int .i64 l.num]
def zeroPh : StepV := ⟨0, 0⟩
def cellsPh (ls : List StepV) : List Value := ls.flatMap StepV.cells
theorem cellsPh_len (ls : List StepV) : (cellsPh ls).length = ls.length * 2 := by
  induction ls with
  | nil => rfl
  | cons s r ih => simp only [cellsPh, List.flatMap_cons, List.length_append, StepV.cells, List.length_cons, List.length_nil] at *; omega
theorem cellsPh_app (a b : List StepV) : cellsPh (a ++ b) = cellsPh a ++ cellsPh b := by simp [cellsPh]
theorem cellsPh_at (ls : List StepV) (k j : Nat) (hk : k < ls.length) (hj : j < 2) : (cellsPh ls)[k * 2 + j]? = (ls.getD k zeroPh).cells[j]? := by
  induction ls generalizing k with
  | nil => simp at hk
  | cons s r ih =>
    have e : cellsPh (s :: r) = s.cells ++ cellsPh r := by simp [cellsPh]
    have l3 : s.cells.length = 2 := rfl
    rw [e]
    cases k with
    | zero => rw [List.getElem?_append_left (by rw [l3]; omega)]; simp
    | succ k =>
      rw [List.getElem?_append_right (by rw [l3]; omega), l3]
      have := ih k (by simpa using hk)
      rw [show (k + 1) * 2 + j - 2 = k * 2 + j by omega, this]
      simp
theorem cellsPh_set (ls : List StepV) (k : Nat) (hk : k < ls.length) (t : StepV) :
    ((cellsPh ls).set (k * 2) (.int .i64 t.kd)).set (k * 2 + 1) (.int .i64 t.num) = cellsPh (ls.set k t) := by
  induction ls generalizing k with
  | nil => simp at hk
  | cons s r ih =>
    cases k with
    | zero => simp [cellsPh, StepV.cells]
    | succ k =>
      have := ih k (by simpa using hk)
      have e2 : ∀ x, cellsPh (s :: x) = s.cells ++ cellsPh x := fun x => by simp [cellsPh]
      have l3 : s.cells.length = 2 := rfl
      rw [e2, List.set_append_right _ _ (by rw [l3]; omega), List.set_append_right _ _ (by rw [l3]; omega), l3, show (k + 1) * 2 - 2 = k * 2 by omega, show (k + 1) * 2 + 1 - 2 = k * 2 + 1 by omega, this, List.set_cons_succ, e2]

/-- The slice at a reads these. -/
def ReadsPh (w : World) (a : Option Addr) (ls : List StepV) : Prop := ls ≠ [] → ∃ b off, a = some ⟨b, off, none⟩ ∧ ∀ k, k < ls.length → w.cell? ⟨b, off + k * 2, none⟩ = some (.int .i64 (ls.getD k zeroPh).kd) ∧ w.cell? ⟨b, off + k * 2 + 1, none⟩ = some (.int .i64 (ls.getD k zeroPh).num)
theorem ReadsPh.nil (w : World) (a : Option Addr) : ReadsPh w a [] := fun h => absurd rfl h
theorem ReadsPh.below {w w' : World} {a : Option Addr} {ls : List StepV} (h : ReadsPh w a ls) (hb : Below w.heap.size w w') : ReadsPh w' a ls := by
  intro hne
  obtain ⟨b, off, ha, hc⟩ := h hne
  refine ⟨b, off, ha, fun k hk => ?_⟩
  obtain ⟨h0, h1⟩ := hc k hk
  have hlt := block_lt h0
  exact ⟨by rw [hb.cell (p := ⟨b, off + k * 2, none⟩) hlt]; exact h0, by rw [hb.cell (p := ⟨b, off + k * 2 + 1, none⟩) hlt]; exact h1⟩
theorem ReadsPh.cases {w : World} {a : Option Addr} {ls : List StepV} (h : ReadsPh w a ls) : ls = [] ∨ ∃ b off, a = some ⟨b, off, none⟩ ∧ 0 < ls.length ∧ ∀ k, k < ls.length → w.cell? ⟨b, off + k * 2, none⟩ = some (.int .i64 (ls.getD k zeroPh).kd) ∧ w.cell? ⟨b, off + k * 2 + 1, none⟩ = some (.int .i64 (ls.getD k zeroPh).num) := by
  by_cases e : ls = []
  · exact .inl e
  · obtain ⟨b, off, ha, hc⟩ := h e
    exact .inr ⟨b, off, ha, List.length_pos_iff.2 e, hc⟩

/-- The slice at a, of capacity c, owns these; its row lies from lo up to hi. -/
def OwnPh (w : World) (lo hi : Nat) (a : Option Addr) (c : Nat) (ls : List StepV) : Prop :=
  w.ownsRow lo 41 2 (.slice a ls.length c) ls.length (cellsPh ls) ∧ hi ≤ w.heap.size ∧ ∀ k, (Value.slice a ls.length c).ownBlock = some k → k < hi
theorem OwnPh.lt {w : World} {lo hi : Nat} {a : Option Addr} {c : Nat} {ls : List StepV} (h : OwnPh w lo hi a c ls) : ∀ k, (Value.slice a ls.length c).ownBlock = some k → lo ≤ k ∧ k < hi := fun k hk => ⟨(h.1.lt k hk).1, h.2.2 k hk⟩
theorem OwnPh.within {w w' : World} {lo hi l r : Nat} {a : Option Addr} {c : Nat} {ls : List StepV} (h : OwnPh w lo hi a c ls) (hw : Within l r w w') (hd : hi ≤ l ∨ r ≤ lo) : OwnPh w' lo hi a c ls :=
  ⟨ownsRow_block h.1 (fun k hk => hw.block k (by have := h.2.2 k hk; have := h.2.1; omega) (by have := h.lt k hk; omega)), Nat.le_trans h.2.1 hw.size, h.2.2⟩
theorem OwnPh.below {w w' : World} {lo hi : Nat} {a : Option Addr} {c : Nat} {ls : List StepV} (h : OwnPh w lo hi a c ls) (hb : Below w.heap.size w w') : OwnPh w' lo hi a c ls :=
  h.within (Within.of_below (lo := w.heap.size) (hi := w.heap.size) hb) (.inl h.2.1)
theorem OwnPh.widen {w : World} {lo hi lo' hi' : Nat} {a : Option Addr} {c : Nat} {ls : List StepV} (h : OwnPh w lo hi a c ls) (h1 : lo' ≤ lo) (h2 : hi ≤ hi') (h3 : hi' ≤ w.heap.size) : OwnPh w lo' hi' a c ls :=
  ⟨ownsRow_base h.1 (fun k hk => by have := h.lt k hk; omega), h3, fun k hk => by have := h.lt k hk; omega⟩
theorem ownPh_nil (w : World) (lo hi : Nat) (h : hi ≤ w.heap.size) : OwnPh w lo hi none 0 [] := ⟨⟨by simp [cellsPh], .inl ⟨rfl, rfl⟩⟩, h, fun k hk => by cases hk⟩
theorem OwnPh.nocap {w : World} {lo hi : Nat} {a : Option Addr} {c : Nat} {ls : List StepV} (h : OwnPh w lo hi a c ls) : a = none → c = 0 := by
  intro ha
  rcases h.1.2 with ⟨hv, _⟩ | ⟨g, cap, cur, hv, _⟩
  · simp only [Value.slice.injEq] at hv; exact hv.2.2
  · simp [ha] at hv
/-- The two cells of one of a row that lies in block g. -/
theorem row_step {w : World} {base g n cap : Nat} {ls : List StepV} (h : w.ownsRow base 41 2 (.slice (some ⟨g, 0, none⟩) n cap) n (cellsPh ls)) (hn : ls.length = n) (k : Nat) (hk : k < n) :
    w.cell? ⟨g, k * 2, none⟩ = some (.int .i64 (ls.getD k zeroPh).kd) ∧ w.cell? ⟨g, k * 2 + 1, none⟩ = some (.int .i64 (ls.getD k zeroPh).num) ∧ (∀ i, w.frozen? ⟨g, i, none⟩ = false) := by
  have a0 := cellsPh_at ls k 0 (by omega) (by omega)
  have a1 := cellsPh_at ls k 1 (by omega) (by omega)
  simp only [StepV.cells, Nat.add_zero, List.getElem?_cons_zero, List.getElem?_cons_succ] at a0 a1
  exact ⟨by rw [h.cellAt (k * 2) (by omega)]; exact a0, by rw [h.cellAt (k * 2 + 1) (by omega)]; exact a1, fun i => h.frozenAt i⟩
/-- One of the row stored. -/
theorem row_storePh {w : World} {base g n cap : Nat} {ls : List StepV} (h : w.ownsRow base 41 2 (.slice (some ⟨g, 0, none⟩) n cap) n (cellsPh ls)) (hn : ls.length = n) (k : Nat) (hk : k < n) (t : StepV) :
    ∃ W, Hid ((w.setCell ⟨g, k * 2, none⟩ (.int .i64 t.kd)).setCell ⟨g, k * 2 + 1, none⟩ (.int .i64 t.num) = W) ∧ W.ownsRow base 41 2 (.slice (some ⟨g, 0, none⟩) n cap) n (cellsPh (ls.set k t)) ∧ w.grownBy W (some g) := by
  have s1 := h.stored (k * 2) (.int .i64 t.kd)
  have s2 := s1.1.stored (k * 2 + 1) (.int .i64 t.num)
  refine ⟨_, rfl, ?_, grownBy_trans s1.2 s2.2⟩
  have := s2.1
  rw [cellsPh_set ls k (by omega) t] at this
  exact this
theorem OwnPh.reads {w : World} {lo hi : Nat} {a : Option Addr} {c : Nat} {ls : List StepV} (h : OwnPh w lo hi a c ls) : ReadsPh w a ls := by
  intro hne
  rcases h.1.2 with ⟨_, h0⟩ | ⟨g, cap', cur, hv, hb, hg, hr⟩
  · exact absurd (List.length_eq_zero_iff.1 h0) hne
  · simp only [Value.slice.injEq] at hv
    obtain ⟨rfl, _, rfl⟩ := hv
    refine ⟨g, 0, rfl, fun k hk => ?_⟩
    obtain ⟨a0, a1, _⟩ := row_step h.1 rfl k hk
    rw [Nat.zero_add]
    exact ⟨a0, a1⟩
theorem Tryd.infoStep : (Tryd.prog.info? 41).map (fun i => (i.zero, i.size, i.bytes)) = some (some (.agg #[.int .i64 0, .int .i64 0]), 2, 16) := by kernel_rfl
theorem steps_oneCell (zs : List StepV) : ∀ v ∈ cellsPh zs, v.oneCell' = true := by
  intro v hv
  obtain ⟨s, _, hs⟩ := List.mem_flatMap.1 hv
  simp only [StepV.cells, List.mem_cons, List.not_mem_nil, or_false] at hs
  rcases hs with rfl | rfl <;> rfl

theorem append_steps {w : World} {ops : Array Oper} {rest : List Oper} {o : Oper} {act : Act} {Q : Exit → Act → World → Prop} (hgd : o.guard = none) (s x : Operand)
    (ho : o.op = .call { callee := .builtin .append, args := #[s, x], argTypes := #[27, 27] })
    (lo hi : Nat) (a : Option Addr) (c : Nat) (xs : List StepV) (hs : act.eval s = .slice a xs.length c) (hown : OwnPh w lo hi a c xs)
    (sa : Option Addr) (sc : Nat) (zs : List StepV) (hx : act.eval x = .slice sa zs.length sc) (hr : ReadsPh w sa zs) (hc : sa = none → sc = 0)
    (hb : xs.length + zs.length ≤ 1099511627776) (hlo : lo ≤ w.heap.size)
    (h : ∀ a' c' ys w', Hid (ys = xs ++ zs) → OwnPh w' lo w'.heap.size a' c' ys → w.grownBy w' (Value.slice a xs.length c).ownBlock → wpList Tryd.prog ops Q rest (act.put o.dst (.slice a' ys.length c')) w') :
    wpList Tryd.prog ops Q (o :: rest) act w := by
  obtain ⟨i0, hi0, hz0, hz1, hz2⟩ := info_parts Tryd.infoStep
  have fin : ∀ v' w', w'.ownsRow lo 41 2 v' (xs.length + zs.length) (cellsPh xs ++ cellsPh zs) → w.grownBy w' (Value.slice a xs.length c).ownBlock → wpList Tryd.prog ops Q rest (act.put o.dst v') w' := by
    intro v' w' h1 h2
    rw [← cellsPh_app, ← List.length_append] at h1
    have sh : ∃ a' c', v' = .slice a' (xs ++ zs).length c' := by
      rcases h1.2 with ⟨rfl, h0⟩ | ⟨g, cap, cur, rfl, _⟩
      · exact ⟨none, 0, by rw [h0]⟩
      · exact ⟨_, _, rfl⟩
    obtain ⟨a', c', rfl⟩ := sh
    exact h a' c' (xs ++ zs) w' rfl ⟨h1, Nat.le_refl _, fun k hk => (h1.lt k hk).2⟩ h2
  cases sa with
  | none =>
    have hz : zs = [] := by
      by_cases e : zs = []
      · exact e
      · obtain ⟨b, off, hh, _⟩ := hr e
        cases hh
    subst hz
    have := hc rfl
    subst this
    exact wpList_append_own_none hgd s x 27 ho lo 41 i0 2 Tryd.underlying27 hi0 _ _ _ hs hown.1 hx (fin _ w (by simpa [cellsPh] using hown.1) (World.grownBy.refl _ _))
  | some ad =>
    refine wpList_append_own w hgd s x 27 ho lo 41 i0 (.agg #[.int .i64 0, .int .i64 0]) 2 16 Tryd.underlying27 hi0 hz0 hz1 hz2 rfl (by decide) _ _ _ hs hown.1 ad zs.length sc (cellsPh zs) hx (by rw [cellsPh_len]) ?_ (steps_oneCell _) (by simp only [maxLen]; omega) (by omega) hlo (fun v' w' h1 h2 _ => fin v' w' h1 h2)
    intro j u hj
    have hjl : j < zs.length * 2 := by rw [← cellsPh_len]; exact (List.getElem?_eq_some_iff.1 hj).1
    have hne : zs ≠ [] := by intro e; simp [e] at hjl
    obtain ⟨b, off, hh, hcell⟩ := hr hne
    cases hh
    have hat := cellsPh_at zs (j / 2) (j % 2) (by omega) (Nat.mod_lt _ (by omega))
    rw [show j / 2 * 2 + j % 2 = j by omega, hj] at hat
    obtain ⟨k0, k1⟩ := hcell (j / 2) (by omega)
    rw [Addr_add]
    rcases (by omega : j % 2 = 0 ∨ j % 2 = 1) with h' | h' <;> rw [h'] at hat <;> simp only [StepV.cells, List.getElem?_cons_zero, List.getElem?_cons_succ, Option.some.injEq] at hat
    · rw [show off + j = off + j / 2 * 2 by omega, k0, hat]
    · rw [show off + j = off + j / 2 * 2 + 1 by omega, k1, hat]
theorem readsPh_one (w : World) (z : StepV) (t : TypeId) : ReadsPh (w.alloc (.cells #[.int .i64 z.kd, .int .i64 z.num] t)) (some ⟨w.heap.size, 0, none⟩) [z] := by
  intro _
  refine ⟨w.heap.size, 0, rfl, fun k hk => ?_⟩
  obtain rfl : k = 0 := by simpa using hk
  have b : Box (w.alloc (.cells #[.int .i64 z.kd, .int .i64 z.num] t)) w.heap.size [.int .i64 z.kd, .int .i64 z.num] t := box_new _ _ _
  exact ⟨b.cell 0 _ rfl, b.cell 1 _ rfl⟩
end Go.Proofs.YtajcffchopcamaaDoor

/- The walks of laws.toPathStep, toPathStepS, eqPathStep, eqPathStepS, szPathStepS. -/
namespace Go.Proofs.YtajcffchopcamaaDoor
open Go.RowKit

set_option maxHeartbeats 400000 in
set_option maxRecDepth 100000 in
theorem eqPathStep_same (l : StepV) (w : World) :
    Calls Tryd.prog 34 #[.agg l.cells.toArray, .agg l.cells.toArray] w fun e w' => e = .returned (.bool true) ∧ Below w.heap.size w w' := by
  obtain ⟨x, y⟩ := l
  simp only [StepV.cells]
  obtain ⟨W, hW, b0, b1, hbW, hsW⟩ := boxes2 w [.int .i64 x, .int .i64 y] [.int .i64 x, .int .i64 y] 41 41
  clear b0 b1 hsW
  go_enter Tryd.func34, Tryd.ntmps34
  go_wp2
  rw [hW.out]
  go_ret
  exact ⟨rfl, hbW⟩

set_option maxHeartbeats 1000000 in
set_option maxRecDepth 100000 in
theorem eqPathStepS_same (a b : Option Addr) (ca cb : Nat) (ls : List StepV) (w : World) (ha : ReadsPh w a ls) (hb : ReadsPh w b ls) (hl : ls.length ≤ 1099511627776) :
    Calls Tryd.prog 21 #[.slice a ls.length ca, .slice b ls.length cb] w fun e w' => e = .returned (.bool true) ∧ Below w.heap.size w w' := by
  rcases ha.cases with rfl | ⟨b1, o1, rfl, hpos, hc1⟩
  · go_enter Tryd.func21, Tryd.ntmps21
    go_wp2
    refine wp_loop_rounds 1 ?_
    rw [rounds_succ]
    go_wp2
    go_ret
    exact ⟨rfl, Below.refl _ _⟩
  · rcases hb.cases with rfl | ⟨b2, o2, rfl, _, hc2⟩
    · simp at hpos
    · go_enter Tryd.func21, Tryd.ntmps21
      go_wp2
      go_loopw [5] (fun i wr => ∃ k : Nat, k ≤ ls.length ∧ i = .int .i64 k ∧ Below w.heap.size w wr) (fun i _ => ls.length - (intOf i).toNat)
      case atStart => exact ⟨0, Nat.zero_le _, rfl, Below.refl _ _⟩
      case round =>
        obtain ⟨k, hk, rfl, hbl⟩ := hrel
        by_cases hlt : k < ls.length
        · have h1 := hc1 k hlt
          have h2 := hc2 k hlt
          clear hc1 hc2
          generalize ls.getD k zeroPh = z at *
          have HS : Hid (∀ w1, Below w.heap.size w w1 → (w1.cell? ⟨b1, o1 + k * 2, none⟩ = some (.int .i64 z.kd) ∧ w1.cell? ⟨b1, o1 + k * 2 + 1, none⟩ = some (.int .i64 z.num)) ∧ (w1.cell? ⟨b2, o2 + k * 2, none⟩ = some (.int .i64 z.kd) ∧ w1.cell? ⟨b2, o2 + k * 2 + 1, none⟩ = some (.int .i64 z.num))) := fun w1 hh =>
            ⟨⟨(hh.cell (block_lt h1.1)).trans h1.1, (hh.cell (block_lt h1.2)).trans h1.2⟩, (hh.cell (block_lt h2.1)).trans h2.1, (hh.cell (block_lt h2.2)).trans h2.2⟩
          have hh := HS.out wr hbl
          clear h1 h2
          go_wp2_with fail
          go_region_held3 (fun w1 => (w1.cell? ⟨b1, o1 + k * 2, none⟩ = some (.int .i64 z.kd) ∧ w1.cell? ⟨b1, o1 + k * 2 + 1, none⟩ = some (.int .i64 z.num)) ∧ (w1.cell? ⟨b2, o2 + k * 2, none⟩ = some (.int .i64 z.kd) ∧ w1.cell? ⟨b2, o2 + k * 2 + 1, none⟩ = some (.int .i64 z.num)))
            (first | exact HS.out _ hw2 | go_keep | fail)
            ((first | (go_at_call 34; refine (eqPathStep_same z _).mono ?_; rintro e w2 ⟨rfl, hb2⟩; have hw2 : Below w.heap.size w w2 := (hbl.drew).trans (hb2.mono hbl.size)) | fail))
          all_goals
            go_wp2_with fail
            go_roundw
            case rel => exact ⟨k + 1, by omega, by go_num, hw2⟩
            case measure => simp [intOf]; omega
        · go_wp2
          go_ret
          exact ⟨rfl, hbl⟩
end Go.Proofs.YtajcffchopcamaaDoor
