/- Several texts in one, in their order. -/
import Derived.Test.YtickiokdcbeefaaGreatDoorPFnLogsx1
import Derived.Test.YtickiokdcbeefaaGreatDoorPFnLogsx2
import Derived.Deep.QuietTactic
import Derived.BigQuiet
import Derived.Deep.AppendLies
import Derived.Laws.AppendOwnNone
import Derived.Deep.RegionHeld3
import Derived.Test.YtickiokdcbeefaaGreatDoorPFnLogsx3
import Derived.Laws.CopyOwn
import Derived.Deep.RegionLaw
import Derived.Deep.DrawnRows
import Derived.WalkKit
import Derived.Laws.IdiomStrings
import Derived.Lib.BufferRead
set_option maxHeartbeats 8000000
set_option maxRecDepth 100000
namespace Go.Proofs.YtickiokdcbeefaaGreatDoor
open Go.RowKit
theorem lives_oneCell (zs : List LiveV) : ∀ v ∈ cellsL zs, v.oneCell' = true := by
 intro v hv
 obtain ⟨s, _, hs⟩ := List.mem_flatMap.1 hv
 simp only [LiveV.cells, List.mem_cons, List.not_mem_nil, or_false] at hs
 rcases hs with rfl | rfl | rfl <;> rfl
theorem append_lives {w : World} {ops : Array Oper} {rest : List Oper} {o : Oper} {act : Act} {Q : Exit → Act → World → Prop} (hgd : o.guard = none) (s x : Operand)
  (ho : o.op = .call { callee := .builtin .append, args := #[s, x], argTypes := #[40, 40] })
  (lo hi : Nat) (a : Option Addr) (c : Nat) (xs : List LiveV) (hs : act.eval s = .slice a xs.length c) (hown : OwnL w lo hi a c xs)
  (sa : Option Addr) (sc : Nat) (zs : List LiveV) (hx : act.eval x = .slice sa zs.length sc) (hr : ReadsL w sa zs) (hc : sa = none → sc = 0)
  (hb : xs.length + zs.length ≤ 1099511627776) (hlo : lo ≤ w.heap.size)
  (h : ∀ a' c' ys w', Hid (ys = xs ++ zs) → OwnL w' lo w'.heap.size a' c' ys → w.grownBy w' (Value.slice a xs.length c).ownBlock → wpList Tryz.prog ops Q rest (act.put o.dst (.slice a' ys.length c')) w') :
  wpList Tryz.prog ops Q (o :: rest) act w := by
 obtain ⟨i0, hi0, hz0, hz1, hz2⟩ := info_parts Tryz.infoLive
 have fin : ∀ v' w', w'.ownsRow lo 62 3 v' (xs.length + zs.length) (cellsL xs ++ cellsL zs) → w.grownBy w' (Value.slice a xs.length c).ownBlock → wpList Tryz.prog ops Q rest (act.put o.dst v') w' := by
  intro v' w' h1 h2
  rw [← cellsL_app, ← List.length_append] at h1
  have sh : ∃ a' c', v' = .slice a' (xs ++ zs).length c' := by
   rcases h1.2 with ⟨rfl, h0⟩ | ⟨g, cap, cur, rfl, _⟩
   ·exact ⟨none, 0, by rw [h0]⟩
   ·exact ⟨_, _, rfl⟩
  obtain ⟨a', c', rfl⟩ := sh
  exact h a' c' (xs ++ zs) w' rfl ⟨h1, Nat.le_refl _, fun k hk => (h1.lt k hk).2⟩ h2
 cases sa with
 | none =>
  have hz : zs = [] := by
   by_cases e : zs = []
   ·exact e
   ·obtain ⟨b, off, hh, _⟩ := hr e
    cases hh
  subst hz
  have := hc rfl
  subst this
  exact wpList_append_own_none hgd s x 40 ho lo 62 i0 3 Tryz.underlying40 hi0 _ _ _ hs hown.1 hx (fin _ w (by simpa [cellsL] using hown.1) (World.grownBy.refl _ _))
 | some ad =>
  refine wpList_append_own w hgd s x 40 ho lo 62 i0 (.agg #[.int .i64 0, .int .i64 0, .bool false]) 3 24 Tryz.underlying40 hi0 hz0 hz1 hz2 rfl (by decide) _ _ _ hs hown.1 ad zs.length sc (cellsL zs) hx (by rw [cellsL_len]) ?_ (lives_oneCell _) (by simp only [maxLen]; omega) (by omega) hlo (fun v' w' h1 h2 _ => fin v' w' h1 h2)
  intro j u hj
  have hjl : j < zs.length * 3 := by rw [← cellsL_len]; exact (List.getElem?_eq_some_iff.1 hj).1
  have hne : zs ≠ [] := by intro e; simp [e] at hjl
  obtain ⟨b, off, hh, hcell⟩ := hr hne
  cases hh
  have hat := cellsL_at zs (j / 3) (j % 3) (by omega) (Nat.mod_lt _ (by omega))
  rw [show j / 3 * 3 + j % 3 = j by omega, hj] at hat
  obtain ⟨k0, k1, k2⟩ := hcell (j / 3) (by omega)
  rw [Addr_add]
  rcases (by omega : j % 3 = 0 ∨ j % 3 = 1 ∨ j % 3 = 2) with h' | h' | h' <;> rw [h'] at hat <;> simp only [LiveV.cells, List.getElem?_cons_zero, List.getElem?_cons_succ, Option.some.injEq] at hat
  ·rw [show off + j = off + j / 3 * 3 by omega, k0, hat]
  ·rw [show off + j = off + j / 3 * 3 + 1 by omega, k1, hat]
  ·rw [show off + j = off + j / 3 * 3 + 2 by omega, k2, hat]
theorem readsL_one (w : World) (z : LiveV) (t : TypeId) : ReadsL (w.alloc (.cells #[.int .i64 z.tx, .int .i64 z.last, .bool z.aborts] t)) (some ⟨w.heap.size, 0, none⟩) [z] := by
 intro _
 refine ⟨w.heap.size, 0, rfl, fun k hk => ?_⟩
 obtain rfl : k = 0 := by simpa using hk
 have b : Box (w.alloc (.cells #[.int .i64 z.tx, .int .i64 z.last, .bool z.aborts] t)) w.heap.size [.int .i64 z.tx, .int .i64 z.last, .bool z.aborts] t := box_new _ _ _
 exact ⟨b.cell 0 _ rfl, b.cell 1 _ rfl, b.cell 2 _ rfl⟩
structure HoldV where
 tx : Int
 oid : Int
def HoldV.cells (l : HoldV) : List Value := [.int .i64 l.tx, .int .i64 l.oid]
def zeroH : HoldV := ⟨0, 0⟩
def cellsH (ls : List HoldV) : List Value := ls.flatMap HoldV.cells
theorem cellsH_len (ls : List HoldV) : (cellsH ls).length = ls.length * 2 := by
 induction ls with
 | nil => rfl
 | cons s r ih => simp only [cellsH, List.flatMap_cons, List.length_append, HoldV.cells, List.length_cons, List.length_nil] at *; omega
theorem cellsH_app (a b : List HoldV) : cellsH (a ++ b) = cellsH a ++ cellsH b := by simp [cellsH]
theorem cellsH_at (ls : List HoldV) (k j : Nat) (hk : k < ls.length) (hj : j < 2) : (cellsH ls)[k * 2 + j]? = (ls.getD k zeroH).cells[j]? := by
 induction ls generalizing k with
 | nil => simp at hk
 | cons s r ih =>
  have e : cellsH (s :: r) = s.cells ++ cellsH r := by simp [cellsH]
  have l3 : s.cells.length = 2 := rfl
  rw [e]
  cases k with
  | zero => rw [List.getElem?_append_left (by rw [l3]; omega)]; simp
  | succ k =>
   rw [List.getElem?_append_right (by rw [l3]; omega), l3]
   have := ih k (by simpa using hk)
   rw [show (k + 1) * 2 + j - 2 = k * 2 + j by omega, this]
   simp
def ReadsH (w : World) (a : Option Addr) (ls : List HoldV) : Prop := ls ≠ [] → ∃ b off, a = some ⟨b, off, none⟩ ∧ ∀ k, k < ls.length → w.cell? ⟨b, off + k * 2, none⟩ = some (.int .i64 (ls.getD k zeroH).tx) ∧ w.cell? ⟨b, off + k * 2 + 1, none⟩ = some (.int .i64 (ls.getD k zeroH).oid)
theorem ReadsH.below {w w' : World} {a : Option Addr} {ls : List HoldV} (h : ReadsH w a ls) (hb : Below w.heap.size w w') : ReadsH w' a ls := by
 intro hne
 obtain ⟨b, off, ha, hc⟩ := h hne
 refine ⟨b, off, ha, fun k hk => ?_⟩
 obtain ⟨h0, h1⟩ := hc k hk
 have hlt := block_lt h0
 exact ⟨by rw [hb.cell (p := ⟨b, off + k * 2, none⟩) hlt]; exact h0, by rw [hb.cell (p := ⟨b, off + k * 2 + 1, none⟩) hlt]; exact h1⟩
def OwnH (w : World) (lo hi : Nat) (a : Option Addr) (c : Nat) (ls : List HoldV) : Prop :=
 w.ownsRow lo 182 2 (.slice a ls.length c) ls.length (cellsH ls) ∧ hi ≤ w.heap.size ∧ ∀ k, (Value.slice a ls.length c).ownBlock = some k → k < hi
theorem OwnH.lt {w : World} {lo hi : Nat} {a : Option Addr} {c : Nat} {ls : List HoldV} (h : OwnH w lo hi a c ls) : ∀ k, (Value.slice a ls.length c).ownBlock = some k → lo ≤ k ∧ k < hi := fun k hk => ⟨(h.1.lt k hk).1, h.2.2 k hk⟩
theorem OwnH.touch {w w' : World} {lo hi : Nat} {a : Option Addr} {c : Nat} {ls : List HoldV} {bl : List Nat} (h : OwnH w lo hi a c ls) (ht : Touch bl w w') (hd : ∀ k, (Value.slice a ls.length c).ownBlock = some k → k ∉ bl) : OwnH w' lo hi a c ls :=
 ⟨ownsRow_block h.1 (fun k hk => ht.block k (h.1.lt k hk).2 (hd k hk)), Nat.le_trans h.2.1 ht.size, h.2.2⟩
theorem OwnH.within {w w' : World} {lo hi l r : Nat} {a : Option Addr} {c : Nat} {ls : List HoldV} (h : OwnH w lo hi a c ls) (hw : Within l r w w') (hd : hi ≤ l ∨ r ≤ lo) : OwnH w' lo hi a c ls :=
 ⟨ownsRow_block h.1 (fun k hk => hw.block k (by have := h.2.2 k hk; have := h.2.1; omega) (by have := h.lt k hk; omega)), Nat.le_trans h.2.1 hw.size, h.2.2⟩
theorem OwnH.below {w w' : World} {lo hi : Nat} {a : Option Addr} {c : Nat} {ls : List HoldV} (h : OwnH w lo hi a c ls) (hb : Below w.heap.size w w') : OwnH w' lo hi a c ls :=
 h.within (Within.of_below (lo := w.heap.size) (hi := w.heap.size) hb) (.inl h.2.1)
theorem OwnH.widen {w : World} {lo hi lo' hi' : Nat} {a : Option Addr} {c : Nat} {ls : List HoldV} (h : OwnH w lo hi a c ls) (h1 : lo' ≤ lo) (h2 : hi ≤ hi') (h3 : hi' ≤ w.heap.size) : OwnH w lo' hi' a c ls :=
 ⟨ownsRow_base h.1 (fun k hk => by have := h.lt k hk; omega), h3, fun k hk => by have := h.lt k hk; omega⟩
theorem ownH_nil (w : World) (lo hi : Nat) (h : hi ≤ w.heap.size) : OwnH w lo hi none 0 [] := ⟨⟨by simp [cellsH], .inl ⟨rfl, rfl⟩⟩, h, fun k hk => by cases hk⟩
theorem row_hold {w : World} {base g n cap : Nat} {ls : List HoldV} (h : w.ownsRow base 182 2 (.slice (some ⟨g, 0, none⟩) n cap) n (cellsH ls)) (hn : ls.length = n) (k : Nat) (hk : k < n) :
  w.cell? ⟨g, k * 2, none⟩ = some (.int .i64 (ls.getD k zeroH).tx) ∧ w.cell? ⟨g, k * 2 + 1, none⟩ = some (.int .i64 (ls.getD k zeroH).oid) ∧ (∀ i, w.frozen? ⟨g, i, none⟩ = false) := by
 have a0 := cellsH_at ls k 0 (by omega) (by omega)
 have a1 := cellsH_at ls k 1 (by omega) (by omega)
 simp only [HoldV.cells, Nat.add_zero, List.getElem?_cons_zero, List.getElem?_cons_succ] at a0 a1
 exact ⟨by rw [h.cellAt (k * 2) (by omega)]; exact a0, by rw [h.cellAt (k * 2 + 1) (by omega)]; exact a1, fun i => h.frozenAt i⟩
theorem OwnH.reads {w : World} {lo hi : Nat} {a : Option Addr} {c : Nat} {ls : List HoldV} (h : OwnH w lo hi a c ls) : ReadsH w a ls := by
 intro hne
 rcases h.1.2 with ⟨_, h0⟩ | ⟨g, cap', cur, hv, hb, hg, hr⟩
 ·exact absurd (List.length_eq_zero_iff.1 h0) hne
 ·simp only [Value.slice.injEq] at hv
  obtain ⟨rfl, _, rfl⟩ := hv
  refine ⟨g, 0, rfl, fun k hk => ?_⟩
  obtain ⟨a0, a1, _⟩ := row_hold h.1 rfl k hk
  rw [Nat.zero_add]
  exact ⟨a0, a1⟩
theorem Tryz.infoHold : (Tryz.prog.info? 182).map (fun i => (i.zero, i.size, i.bytes)) = some (some (.agg #[.int .i64 0, .int .i64 0]), 2, 16) := by kernel_rfl
theorem holds_oneCell (zs : List HoldV) : ∀ v ∈ cellsH zs, v.oneCell' = true := by
 intro v hv
 obtain ⟨s, _, hs⟩ := List.mem_flatMap.1 hv
 simp only [HoldV.cells, List.mem_cons, List.not_mem_nil, or_false] at hs
 rcases hs with rfl | rfl <;> rfl
theorem append_holds {w : World} {ops : Array Oper} {rest : List Oper} {o : Oper} {act : Act} {Q : Exit → Act → World → Prop} (hgd : o.guard = none) (s x : Operand)
  (ho : o.op = .call { callee := .builtin .append, args := #[s, x], argTypes := #[103, 103] })
  (lo hi : Nat) (a : Option Addr) (c : Nat) (xs : List HoldV) (hs : act.eval s = .slice a xs.length c) (hown : OwnH w lo hi a c xs)
  (sa : Option Addr) (sc : Nat) (zs : List HoldV) (hx : act.eval x = .slice sa zs.length sc) (hr : ReadsH w sa zs) (hc : sa = none → sc = 0)
  (hb : xs.length + zs.length ≤ 1099511627776) (hlo : lo ≤ w.heap.size)
  (h : ∀ a' c' ys w', Hid (ys = xs ++ zs) → OwnH w' lo w'.heap.size a' c' ys → w.grownBy w' (Value.slice a xs.length c).ownBlock → wpList Tryz.prog ops Q rest (act.put o.dst (.slice a' ys.length c')) w') :
  wpList Tryz.prog ops Q (o :: rest) act w := by
 obtain ⟨i0, hi0, hz0, hz1, hz2⟩ := info_parts Tryz.infoHold
 have fin : ∀ v' w', w'.ownsRow lo 182 2 v' (xs.length + zs.length) (cellsH xs ++ cellsH zs) → w.grownBy w' (Value.slice a xs.length c).ownBlock → wpList Tryz.prog ops Q rest (act.put o.dst v') w' := by
  intro v' w' h1 h2
  rw [← cellsH_app, ← List.length_append] at h1
  have sh : ∃ a' c', v' = .slice a' (xs ++ zs).length c' := by
   rcases h1.2 with ⟨rfl, h0⟩ | ⟨g, cap, cur, rfl, _⟩
   ·exact ⟨none, 0, by rw [h0]⟩
   ·exact ⟨_, _, rfl⟩
  obtain ⟨a', c', rfl⟩ := sh
  exact h a' c' (xs ++ zs) w' rfl ⟨h1, Nat.le_refl _, fun k hk => (h1.lt k hk).2⟩ h2
 cases sa with
 | none =>
  have hz : zs = [] := by
   by_cases e : zs = []
   ·exact e
   ·obtain ⟨b, off, hh, _⟩ := hr e
    cases hh
  subst hz
  have := hc rfl
  subst this
  exact wpList_append_own_none hgd s x 103 ho lo 182 i0 2 Tryz.underlying103 hi0 _ _ _ hs hown.1 hx (fin _ w (by simpa [cellsH] using hown.1) (World.grownBy.refl _ _))
 | some ad =>
  refine wpList_append_own w hgd s x 103 ho lo 182 i0 (.agg #[.int .i64 0, .int .i64 0]) 2 16 Tryz.underlying103 hi0 hz0 hz1 hz2 rfl (by decide) _ _ _ hs hown.1 ad zs.length sc (cellsH zs) hx (by rw [cellsH_len]) ?_ (holds_oneCell _) (by simp only [maxLen]; omega) (by omega) hlo (fun v' w' h1 h2 _ => fin v' w' h1 h2)
  intro j u hj
  have hjl : j < zs.length * 2 := by rw [← cellsH_len]; exact (List.getElem?_eq_some_iff.1 hj).1
  have hne : zs ≠ [] := by intro e; simp [e] at hjl
  obtain ⟨b, off, hh, hcell⟩ := hr hne
  cases hh
  have hat := cellsH_at zs (j / 2) (j % 2) (by omega) (Nat.mod_lt _ (by omega))
  rw [show j / 2 * 2 + j % 2 = j by omega, hj] at hat
  obtain ⟨k0, k1⟩ := hcell (j / 2) (by omega)
  rw [Addr_add]
  rcases (by omega : j % 2 = 0 ∨ j % 2 = 1) with h' | h' <;> rw [h'] at hat <;> simp only [HoldV.cells, List.getElem?_cons_zero, List.getElem?_cons_succ, Option.some.injEq] at hat
  ·rw [show off + j = off + j / 2 * 2 by omega, k0, hat]
  ·rw [show off + j = off + j / 2 * 2 + 1 by omega, k1, hat]
theorem readsH_one (w : World) (z : HoldV) (t : TypeId) : ReadsH (w.alloc (.cells #[.int .i64 z.tx, .int .i64 z.oid] t)) (some ⟨w.heap.size, 0, none⟩) [z] := by
 intro _
 refine ⟨w.heap.size, 0, rfl, fun k hk => ?_⟩
 obtain rfl : k = 0 := by simpa using hk
 have b : Box (w.alloc (.cells #[.int .i64 z.tx, .int .i64 z.oid] t)) w.heap.size [.int .i64 z.tx, .int .i64 z.oid] t := box_new _ _ _
 exact ⟨b.cell 0 _ rfl, b.cell 1 _ rfl⟩
def CurAt (w : World) (B : Nat) (zs : List Int) : Prop :=
 ∃ (a : Option Addr) (c i : Nat) (h : Int), w.heap[B]? = some (.cells #[.slice a zs.length c, .int .i64 i, .int .i64 h] 75 (0, 0)) ∧ i ≤ zs.length ∧ Reads w a zs ∧ (zs ≠ [] → ∀ b off, a = some ⟨b, off, none⟩ → b < B)
theorem cell_of3 {w : World} {B : Nat} {v0 v1 v2 : Value} {t : TypeId} (h : w.heap[B]? = some (.cells #[v0, v1, v2] t (0, 0))) :
  w.cell? ⟨B, 0, none⟩ = some v0 ∧ w.cell? ⟨B, 1, none⟩ = some v1 ∧ w.cell? ⟨B, 2, none⟩ = some v2 ∧ (∀ o, w.frozen? ⟨B, o, none⟩ = false) := by
 refine ⟨?_, ?_, ?_, fun o => ?_⟩
 ·simp [World.cell?, h]
 ·simp [World.cell?, h]
 ·simp [World.cell?, h]
 ·simp [World.frozen?, h]
theorem set_of3 {w : World} {B : Nat} {v0 v1 v2 u : Value} {t : TypeId} (h : w.heap[B]? = some (.cells #[v0, v1, v2] t (0, 0))) :
  (w.setCell ⟨B, 1, none⟩ u).heap[B]? = some (.cells #[v0, u, v2] t (0, 0)) ∧ (w.setCell ⟨B, 2, none⟩ u).heap[B]? = some (.cells #[v0, v1, u] t (0, 0)) := by
 constructor
 ·rw [heap_setCell_same w B 1 _ t u h]; simp
 ·rw [heap_setCell_same w B 2 _ t u h]; simp
theorem grown_set (w : World) (B o : Nat) (u : Value) : w.grownBy (w.setCell ⟨B, o, none⟩ u) (some B) :=
 ⟨rfl, rfl, rfl, by simp, fun k _ hk => heap_setCell_other w ⟨B, o, none⟩ k u (fun e => hk (by simp [e]))⟩
theorem grown_drew_set (w : World) (n B o : Nat) (u : Value) : w.grownBy ((w.drewN n).setCell ⟨B, o, none⟩ u) (some B) :=
 ⟨rfl, rfl, rfl, by simp, fun k _ hk => heap_setCell_other (w.drewN n) ⟨B, o, none⟩ k u (fun e => hk (by simp [e]))⟩
theorem Reads.grown {w w' : World} {a : Option Addr} {zs : List Int} {B : Nat} (h : Reads w a zs) (hg : w.grownBy w' (some B)) (hne : zs ≠ [] → ∀ b off, a = some ⟨b, off, none⟩ → b ≠ B) : Reads w' a zs := by
 refine ⟨h.1, fun e => ?_⟩
 obtain ⟨b, off, ha, hc⟩ := h.2 e
 refine ⟨b, off, ha, fun i hi => hg.cell (hc i hi) ?_⟩
 intro he
 exact hne e b off ha (Option.some.inj he)
theorem CurAt.lt {w : World} {B : Nat} {zs : List Int} (h : CurAt w B zs) : B < w.heap.size := by
 obtain ⟨a, c, i, h, hh, _⟩ := h
 exact (Array.getElem?_eq_some_iff.1 hh).1
theorem CurAt.kept {w w' : World} {B : Nat} {zs : List Int} {row : Option Nat} (h : CurAt w B zs) (hg : w.grownBy w' row) (hrow : ∀ k, row = some k → B < k) : CurAt w' B zs := by
 have hB := h.lt
 obtain ⟨a, c, i, h, hh, hi, hr, hlt⟩ := h
 refine ⟨a, c, i, h, ?_, hi, ⟨hr.1, fun e => ?_⟩, hlt⟩
 ·rw [hg.block B hB (fun e => by have := hrow B e.symm; omega)]; exact hh
 ·obtain ⟨b, off, ha, hc⟩ := hr.2 e
  refine ⟨b, off, ha, fun j hj => hg.cell (hc j hj) ?_⟩
  intro he
  have h1 := hlt e b off ha
  have h2 := hrow b he.symm
  omega
theorem CurAt.alloc {w : World} {B : Nat} {zs : List Int} (h : CurAt w B zs) (o : Obj) : CurAt (w.alloc o) B zs := h.kept (World.grownBy_alloc w o none) (fun k e => by cases e)
theorem CurAt.below {w w' : World} {B : Nat} {zs : List Int} (h : CurAt w B zs) (hb : Below w.heap.size w w') : CurAt w' B zs :=
 h.kept (row := none) ⟨hb.os, hb.tape, hb.output, hb.size, fun k hk _ => hb.block k hk⟩ (fun k e => by cases e)
theorem grownBy_new {w w1 w2 : World} {r row : Option Nat} (h : w.grownBy w1 r) (hg : w1.grownBy w2 row) (hrow : ∀ k, row = some k → w.heap.size ≤ k) : w.grownBy w2 r :=
 ⟨hg.os.trans h.os, hg.tape.trans h.tape, hg.output.trans h.output, Nat.le_trans h.size hg.size, fun k hk hr => (hg.block k (Nat.lt_of_lt_of_le hk h.size) (fun e => by have := hrow k e.symm; omega)).trans (h.block k hk hr)⟩
theorem i64_and255 (n : Int) : bits .and .i64 n 255 = n % 256 := by
 have h1 : (BitVec.ofInt 64 255).toNat = 2 ^ 8 - 1 := by decide
 have key : (BitVec.ofInt 64 n &&& BitVec.ofInt 64 255).toNat = (n % ((2 ^ 64 : Nat) : Int)).toNat % 2 ^ 8 := by
  rw [BitVec.toNat_and, BitVec.toNat_ofInt, h1, Nat.and_two_pow_sub_one_eq_mod]
 show IntKind.i64.wrap ((BitVec.ofInt 64 n &&& BitVec.ofInt 64 255).toNat : Nat) = n % 256
 rw [key, IntKind.wrap_i64]
 omega
theorem ret_nat {a : Int} (h0 : 0 ≤ a) : Ending.returned (.int .i64 a) = .returned (.int .i64 ((a.toNat : Nat) : Int)) := by rw [Int.toNat_of_nonneg h0]
theorem l1Byte_any (B : Nat) (zs : List Int) (w : World) (hc : CurAt w B zs) (hl : zs.length ≤ 70368744177664) :
  Calls Tryz.prog 67 #[.pointer (some ⟨B, 0, none⟩)] w fun e w' => ∃ x : Nat, e = .returned (.int .i64 x) ∧ x < 256 ∧ CurAt w' B zs ∧ w.grownBy w' (some B) := by
 obtain ⟨a, c, i, h, hh, hi, hr, hlt0⟩ := hc
 have hne : zs ≠ [] → ∀ b off, a = some ⟨b, off, none⟩ → b ≠ B := fun h b off e => Nat.ne_of_lt (hlt0 h b off e)
 obtain ⟨c0, c1, c2, hf⟩ := cell_of3 hh
 have hf2 := hf 2
 clear hf
 have ha := i64_and255
 go_enter Tryz.func67, Tryz.ntmps67
 go_wp2
 generalize wrap64 (wrap64 (h * 6364136223846793005) + 1442695040888963407) = h1
 have hh1 := (set_of3 (u := .int .i64 h1) hh).2
 have hg1 := grown_set w B 2 (.int .i64 h1)
 have hr1 := hr.grown hg1 hne
 clear c0 c1 c2 hf2 hh hr
 generalize w.setCell ⟨B, 2, none⟩ (.int .i64 h1) = w1 at *
 obtain ⟨c0, c1, c2, hf⟩ := cell_of3 hh1
 have hf1 := hf 1
 clear hf
 go_quiet (fail)
 go_wp2
 have hxb : 0 ≤ bits .xor .i64 (h1 / 8589934592) (h1 / 140737488355328) % 256 ∧ bits .xor .i64 (h1 / 8589934592) (h1 / 140737488355328) % 256 < 256 := by omega
 generalize bits .xor .i64 (h1 / 8589934592) (h1 / 140737488355328) % 256 = y at *
 by_cases hlt : i < zs.length
 ·rcases hr1.cases with rfl | ⟨b, off, rfl, hpos, hcell⟩
  ·simp at hlt
  have hck := hcell i hlt
  have hby := bytes_at hr1.byte i
  clear hcell
  generalize zs.getD i 0 = z at *
  go_quiet (fail)
  go_wp2
  go_quiet (fail)
  go_wp2
  go_ret
  refine ⟨((y + z) % 256).toNat, ret_nat (by omega), by omega, ⟨some ⟨b, off, none⟩, c, i + 1, h1, ?_, by omega, ?_, hlt0⟩, ?_⟩
  ·exact (set_of3 (u := .int .i64 ((i : Int) + 1)) hh1).1
  ·exact hr1.grown (grown_drew_set w1 _ B 1 _) hne
  ·exact grownBy_trans hg1 (grown_drew_set w1 _ B 1 _)
 ·go_quiet (fail)
  go_wp2
  go_ret
  exact ⟨y.toNat, ret_nat hxb.1, by omega, ⟨a, c, i, h1, hh1, hi, hr1, hlt0⟩, ⟨hg1.os, hg1.tape, hg1.output, hg1.size, hg1.block⟩⟩
theorem l1Below_any (B : Nat) (zs : List Int) (n : Int) (w : World) (hc : CurAt w B zs) (hl : zs.length ≤ 70368744177664) (hn : n ≤ 1000000000) :
  Calls Tryz.prog 42 #[.pointer (some ⟨B, 0, none⟩), .int .i64 n] w fun e w' => ∃ x : Nat, e = .returned (.int .i64 x) ∧ (0 < n → (x : Int) < n) ∧ CurAt w' B zs ∧ w.grownBy w' (some B) := by
 by_cases h0 : n ≤ 0
 ·go_enter Tryz.func42, Tryz.ntmps42
  go_wp2
  go_ret
  exact ⟨0, rfl, fun h => by omega, hc, World.grownBy.refl _ _⟩
 by_cases h1 : n ≤ 256
 ·go_enter Tryz.func42, Tryz.ntmps42
  go_wp2_with fail
  refine (l1Byte_any B zs w hc hl).mono ?_
  rintro e w1 ⟨x, rfl, hx, hc1, hg1⟩
  have hnz : ¬ n = 0 := by omega
  go_wp2
  go_ret
  exact ⟨((x : Int) % n).toNat, ret_nat (Int.emod_nonneg _ hnz), fun h => by have := Int.emod_nonneg (x : Int) hnz; have := Int.emod_lt_of_pos (x : Int) h; omega, hc1, hg1⟩
 ·go_enter Tryz.func42, Tryz.ntmps42
  go_wp2_with fail
  refine (l1Byte_any B zs w hc hl).mono ?_
  rintro e w1 ⟨x, rfl, hx, hc1, hg1⟩
  go_wp2_with fail
  refine (l1Byte_any B zs w1 hc1 hl).mono ?_
  rintro e w2 ⟨y, rfl, hy, hc2, hg2⟩
  go_wp2_with fail
  refine (l1Byte_any B zs w2 hc2 hl).mono ?_
  rintro e w3 ⟨z, rfl, hz, hc3, hg3⟩
  have hnz : ¬ n = 0 := by omega
  clear hc hc1 hc2
  go_wp2
  go_ret
  exact ⟨(((x : Int) * 65536 + (y : Int) * 256 + (z : Int)) % n).toNat, ret_nat (Int.emod_nonneg _ hnz), fun h => by have := Int.emod_nonneg ((x : Int) * 65536 + (y : Int) * 256 + (z : Int)) hnz; have := Int.emod_lt_of_pos ((x : Int) * 65536 + (y : Int) * 256 + (z : Int)) h; omega, hc3, grownBy_trans (grownBy_trans hg1 hg2) hg3⟩
theorem l1Int_any (B : Nat) (zs : List Int) (na : Option Addr) (nc : Nat) (ns : List Int) (w : World) (hc : CurAt w B zs) (hl : zs.length ≤ 70368744177664) (hn : ReadsI w na ns) (hne : ∀ b off, na = some ⟨b, off, none⟩ → b ≠ B) (h1 : 1 ≤ ns.length) (h2 : ns.length ≤ 1000) :
  Calls Tryz.prog 38 #[.pointer (some ⟨B, 0, none⟩), .slice na ns.length nc] w fun e w' => ∃ j : Nat, j < ns.length ∧ e = .returned (.int .i64 (ns.getD j 0)) ∧ CurAt w' B zs ∧ w.grownBy w' (some B) := by
 have HN : Hid (ReadsI w na ns) := hn
 have HNE : Hid (∀ b off, na = some ⟨b, off, none⟩ → b ≠ B) := hne
 obtain ⟨b, off, rfl, _⟩ := hn (by intro e; simp [e] at h1)
 clear hn hne
 go_enter Tryz.func38, Tryz.ntmps38
 go_wp2_with fail
 refine (l1Below_any B zs ns.length w hc hl (by omega)).mono ?_
 rintro e w1 ⟨x, rfl, hx, hc1, hg1⟩
 have hx' : x < ns.length := by have := hx (by omega); omega
 obtain ⟨b', off', hh, hcell⟩ := (HN.out.grown hg1 HNE.out) (by intro e; simp [e] at h1)
 cases hh
 have hcx := hcell x hx'
 clear hcell hx
 generalize hv : ns.getD x 0 = v at *
 have HV : Hid (ns.getD x 0 = v) := hv
 clear hv
 go_wp2
 go_ret
 exact ⟨x, hx', by rw [HV.out]; rfl, hc1, hg1⟩
theorem l1New_any (a : Option Addr) (c : Nat) (zs : List Int) (w : World) (hr : Reads w a zs) (hl : zs.length ≤ 70368744177664) :
  Calls Tryz.prog 23 #[.slice a zs.length c] w fun e w' => e = .returned (.pointer (some ⟨w.heap.size, 0, none⟩)) ∧ CurAt w' w.heap.size zs ∧ Below w.heap.size w w' := by
 have HW : Hid (zs ≠ [] → ∀ b off, a = some ⟨b, off, none⟩ → b < w.heap.size) := by
  intro hne b off e
  obtain ⟨b', off', ha, hcc⟩ := hr.2 hne
  rw [ha] at e
  cases e
  exact block_lt (hcc 0 (List.length_pos_iff.2 hne))
 have HR : Hid (Reads w a zs) := hr
 have fin : ∀ h : Int, CurAt (w.alloc (.cells #[.slice a zs.length c, .int .i64 0, .int .i64 h] 75)) w.heap.size zs := fun h => ⟨a, c, 0, h, heap_alloc_new w _, by omega, HR.out.alloc _, HW.out⟩
 have FIN : Hid (∀ h : Int, CurAt (w.alloc (.cells #[.slice a zs.length c, .int .i64 0, .int .i64 h] 75)) w.heap.size zs) := fin
 clear fin
 rcases hr.cases with rfl | ⟨b, off, rfl, hpos, hcell⟩
 ·clear hr
  go_enter Tryz.func23, Tryz.ntmps23
  go_wp2
  refine wp_loop_rounds 1 ?_
  rw [rounds_succ]
  go_wp2
  go_ret
  exact ⟨rfl, FIN.out _, (Below.refl _ _).alloc (Nat.le_refl _) _⟩
 ·have hby := hr.byte
  clear hr
  go_enter Tryz.func23, Tryz.ntmps23
  go_wp2
  go_loop [3, 4] (fun hv i => ∃ (k : Nat) (h : Int), k ≤ zs.length ∧ k ≤ 4000 ∧ i = .int .i64 k ∧ hv = .int .i64 h) (fun _ i => 4000 - (intOf i).toNat)
  case atStart => exact ⟨0, _, by omega, by omega, rfl, rfl⟩
  case round =>
   obtain ⟨k, h, hk, hk4, rfl, rfl⟩ := hrel
   by_cases h1 : k < zs.length
   ·by_cases h2 : k < 4000
    ·have hck := hcell k h1
     have hbk := bytes_at hby k
     clear hcell hby
     generalize zs.getD k 0 = z at *
     go_wp2
     go_round
     case rel => exact ⟨k + 1, _, by omega, by omega, by go_num, rfl⟩
     case measure => simp [intOf]; omega
    ·go_wp2
     go_ret
     exact ⟨rfl, FIN.out _, (Below.refl _ _).alloc (Nat.le_refl _) _⟩
   ·go_wp2
    go_ret
    exact ⟨rfl, FIN.out _, (Below.refl _ _).alloc (Nat.le_refl _) _⟩
theorem run_append_ints {w : World} (ty : TypeId) (lo hi : Nat) (a : Option Addr) (c : Nat) (xs : List Int) (hown : OwnI w lo hi a c xs)
  (sa : Option Addr) (sc : Nat) (zs : List Int) (hr : ReadsI w sa zs) (hc : sa = none → sc = 0) (hb : xs.length + zs.length ≤ 1099511627776) (hlo : lo ≤ w.heap.size) :
  ∃ a' c' ys w', (Builtin.append_ #[35, 35] ty #[.slice a xs.length c, .slice sa zs.length sc]).run Tryz.prog w = .ok (.slice a' ys.length c') w' ∧ Hid (ys = xs ++ zs) ∧ OwnI w' lo w'.heap.size a' c' ys ∧ w.grownBy w' (Value.slice a xs.length c).ownBlock ∧
   (∀ k, (Value.slice a' ys.length c').ownBlock = some k → (Value.slice a xs.length c).ownBlock = some k ∨ k = w.heap.size) := by
 obtain ⟨i0, hi0, hz0, hz1, hz2⟩ := info_parts Tryz.infoInt
 cases sa with
 | none =>
  have hz : zs = [] := by
   by_cases e : zs = []
   ·exact e
   ·obtain ⟨b, off, hh, _⟩ := hr e
    cases hh
  subst hz
  have := hc rfl
  subst this
  refine ⟨a, c, xs, w, run_append_owned_none (P := Tryz.prog) (w := w) lo 35 ty 3 i0 1 Tryz.underlying35 hi0 _ _ _ hown.1, (by simp [Hid]), ⟨hown.1, Nat.le_refl _, fun k hk => (hown.1.lt k hk).2⟩, World.grownBy.refl _ _, fun k hk => .inl hk⟩
 | some ad =>
  obtain ⟨v', w', h1, h2, h3, _, h5⟩ := run_append_own_at (P := Tryz.prog) w lo 35 ty 3 i0 (.int .i64 0) 1 8 Tryz.underlying35 hi0 hz0 hz1 hz2 rfl (by decide) _ _ _ hown.1 ad zs.length sc (zs.map (Value.int .i64)) (by simp) (by
   intro j u hj
   have hjl : j < zs.length := by
    by_cases e : j < zs.length
    ·exact e
    ·simp [List.getElem?_eq_none (Nat.le_of_not_lt e)] at hj
   have hne : zs ≠ [] := by intro e; simp [e] at hjl
   obtain ⟨b, off, hh, hcell⟩ := hr hne
   cases hh
   rw [Addr_add, hcell j hjl]
   simpa [hjl] using hj) (ints_oneCell _ _) (by simp only [maxLen]; omega) (by omega) hlo
  rw [← List.map_append, ← List.length_append] at h2
  have sh : ∃ a' c', v' = .slice a' (xs ++ zs).length c' := by
   rcases h2.2 with ⟨rfl, h0⟩ | ⟨g, cap, cur, rfl, _⟩
   ·exact ⟨none, 0, by rw [h0]⟩
   ·exact ⟨_, _, rfl⟩
  obtain ⟨a', c', rfl⟩ := sh
  refine ⟨a', c', xs ++ zs, w', h1, rfl, ⟨h2, Nat.le_refl _, fun k hk => (h2.lt k hk).2⟩, h3, fun k hk => ?_⟩
  rcases h5 with h5 | h5
  ·exact .inl (by rw [← h5]; exact hk)
  ·rw [h5] at hk
   exact .inr (Option.some.inj hk).symm
theorem step_append_ints {w : World} {ops : Array Oper} {o : Oper} {act : Act} {K : Act → World → Prop} {Q : Exit → Act → World → Prop} {E : Prop} (hgd : o.guard = none) (s x : Operand)
  (ho : o.op = .call { callee := .builtin .append, args := #[s, x], argTypes := #[35, 35] })
  (lo hi : Nat) (a : Option Addr) (c : Nat) (xs : List Int) (hs : act.eval s = .slice a xs.length c) (hown : OwnI w lo hi a c xs)
  (sa : Option Addr) (sc : Nat) (zs : List Int) (hx : act.eval x = .slice sa zs.length sc) (hr : ReadsI w sa zs) (hc : sa = none → sc = 0)
  (hb : xs.length + zs.length ≤ 1099511627776) (hlo : lo ≤ w.heap.size)
  (h : ∀ a' c' ys w', Hid (ys = xs ++ zs) → OwnI w' lo w'.heap.size a' c' ys → w.grownBy w' (Value.slice a xs.length c).ownBlock →
   (∀ k, (Value.slice a' ys.length c').ownBlock = some k → (Value.slice a xs.length c).ownBlock = some k ∨ k = w.heap.size) → K (act.put o.dst (.slice a' ys.length c')) w') :
  if Region.wanted o (yielded ops act.tmps) = true then Oper.wp Tryz.prog o act w K Q else E := by
 have hw : Region.wanted o (yielded ops act.tmps) = true := by simp [Region.wanted, hgd]
 rw [if_pos hw]
 obtain ⟨a', c', ys, w', hrun, h1, h2, h3, h4⟩ := run_append_ints (w := w) o.type lo hi a c xs hown sa sc zs hr hc hb hlo
 unfold Oper.wp execOp
 simp only [ho, resolve, invoke, builtin, Sem.run_bind, Sem.run_pure, Result.andThen_ok, List.map_toArray, List.map_cons, List.map_nil, hs, hx, hrun]
 exact h a' c' ys w' h1 h2 h3 h4
structure ObjAt (w : World) (lo Bo : Nat) (o : ObjV) (aI : Option Addr) (cI : Nat) (aR : Option Addr) (cR : Nat) : Prop where
 box : Box w Bo [.int .i64 o.kind, .slice aI o.ints.length cI, .slice aR o.refs.length cR] 37
 own : OwnO w lo w.heap.size aI cI aR cR o
 lt : Bo < lo
theorem OwnO.kept {w w' : World} {lo hi : Nat} {aI : Option Addr} {cI : Nat} {aR : Option Addr} {cR : Nat} {o : ObjV} {B : Nat} (h : OwnO w lo hi aI cI aR cR o) (hg : w.grownBy w' (some B)) (hB : B < lo) : OwnO w' lo w'.heap.size aI cI aR cR o := by
 have h1 := h.ints.kept hg (fun k hk e => by have := (h.ints.lt k hk).1; cases e; omega)
 have h2 := h.refs.kept hg (fun k hk e => by have := (h.refs.lt k hk).1; cases e; omega)
 exact ⟨h1.widen (Nat.le_refl _) h1.2.1 (Nat.le_refl _), h2.widen (Nat.le_refl _) h2.2.1 (Nat.le_refl _), h.apart⟩
theorem ObjAt.kept {w w' : World} {lo Bo : Nat} {aI : Option Addr} {cI : Nat} {aR : Option Addr} {cR : Nat} {o : ObjV} {B : Nat} (h : ObjAt w lo Bo o aI cI aR cR) (hg : w.grownBy w' (some B)) (hB : B < Bo) : ObjAt w' lo Bo o aI cI aR cR :=
 ⟨h.box.block (hg.block Bo h.box.lt (fun e => by cases e; omega)), h.own.kept hg (by have := h.lt; omega), h.lt⟩
theorem ObjAt.alloc {w : World} {lo Bo : Nat} {aI : Option Addr} {cI : Nat} {aR : Option Addr} {cR : Nat} {o : ObjV} (h : ObjAt w lo Bo o aI cI aR cR) (ob : Obj) : ObjAt (w.alloc ob) lo Bo o aI cI aR cR :=
 ⟨h.box.alloc ob, (h.own.below ((Below.refl _ _).alloc (Nat.le_refl _) ob)).widen (Nat.le_refl _) (by simp) (Nat.le_refl _), h.lt⟩
theorem ObjAt.three {w : World} {lo Bo : Nat} {aI : Option Addr} {cI : Nat} {aR : Option Addr} {cR : Nat} {o : ObjV} (h : ObjAt w lo Bo o aI cI aR cR) :
  w.cell? ⟨Bo, 0, none⟩ = some (.int .i64 o.kind) ∧ w.cell? ⟨Bo, 1, none⟩ = some (.slice aI o.ints.length cI) ∧ w.cell? ⟨Bo, 2, none⟩ = some (.slice aR o.refs.length cR) ∧ w.frozen? ⟨Bo, 0, none⟩ = false ∧ w.frozen? ⟨Bo, 1, none⟩ = false ∧ w.frozen? ⟨Bo, 2, none⟩ = false := h.box.three
theorem Box.grown {w w' : World} {C B : Nat} {vs : List Value} {t : TypeId} (h : Box w C vs t) (hg : w.grownBy w' (some B)) (hne : C ≠ B) : Box w' C vs t := h.block (hg.block C h.lt (fun e => hne (Option.some.inj e)))
theorem CurAt.drew {w : World} {B : Nat} {zs : List Int} (h : CurAt w B zs) : CurAt w.drew B zs := h
theorem grown_drew (w : World) (r : Option Nat) : w.grownBy w.drew r := ⟨rfl, rfl, rfl, Nat.le_refl _, fun _ _ _ => rfl⟩
theorem ObjAt.pushI {w0 w w' : World} {lo Bo B : Nat} {aI : Option Addr} {cI : Nat} {aR : Option Addr} {cR : Nat} {o : ObjV} {zs : List Int} (h : ObjAt w lo Bo o aI cI aR cR) (hc : CurAt w B zs) (hB : B < Bo) (hg0 : w0.grownBy w (some B)) (h0 : w0.heap.size ≤ Bo)
  {a' : Option Addr} {c' : Nat} {ys : List Int} (ho : OwnI w' lo w'.heap.size a' c' ys) (hg : w.grownBy w' (Value.slice aI o.ints.length cI).ownBlock)
  (hat : ∀ k, (Value.slice a' ys.length c').ownBlock = some k → (Value.slice aI o.ints.length cI).ownBlock = some k ∨ k = w.heap.size) :
  (w'.cell? ⟨Bo, 1, none⟩ = some (.slice aI o.ints.length cI) ∧ w'.frozen? ⟨Bo, 1, none⟩ = false) ∧
  ObjAt (w'.setCell ⟨Bo, 1, none⟩ (.slice a' ys.length c')) lo Bo ⟨o.kind, ys, o.refs⟩ a' c' aR cR ∧ CurAt (w'.setCell ⟨Bo, 1, none⟩ (.slice a' ys.length c')) B zs ∧ w0.grownBy (w'.setCell ⟨Bo, 1, none⟩ (.slice a' ys.length c')) (some B) ∧ (∀ b, b < lo → b ≠ Bo → b < w.heap.size → (w'.setCell ⟨Bo, 1, none⟩ (.slice a' ys.length c')).heap[b]? = w.heap[b]?) := by
 have hlt := h.lt
 have hb' : Box w' Bo _ _ := h.box.block (hg.block Bo h.box.lt (fun e => by have := (h.own.ints.lt Bo e.symm).1; omega))
 have hbs := hb'.set 1 (.slice a' ys.length c')
 simp only [List.set] at hbs
 have hgs := grown_set w' Bo 1 (.slice a' ys.length c')
 have hR' := h.own.refs.kept hg (fun k hk e => h.own.apart k e hk)
 have hI2 := ho.kept hgs (fun k hk e => by have := (ho.lt k hk).1; cases e; omega)
 have hR2 := hR'.kept hgs (fun k hk e => by have := (hR'.lt k hk).1; cases e; omega)
 refine ⟨⟨hb'.cell 1 _ rfl, hb'.frozen 1⟩, ⟨hbs, ⟨hI2.widen (Nat.le_refl _) hI2.2.1 (Nat.le_refl _), hR2.widen (Nat.le_refl _) hR2.2.1 (Nat.le_refl _), fun k hk => ?_⟩, hlt⟩, ?_, ?_, ?_⟩
 ·rcases hat k hk with e | e
  ·exact h.own.apart k e
  ·intro e'
   have := (h.own.refs.lt k e').2
   omega
 ·exact (hc.kept hg (fun k e => by have := (h.own.ints.lt k e).1; omega)).kept hgs (fun k e => by cases e; omega)
 ·exact grownBy_new (grownBy_new hg0 hg (fun k e => by have := (h.own.ints.lt k e).1; omega)) hgs (fun k e => by cases e; omega)
 ·intro b hb hn hbl
  rw [hgs.block b (by have := hg.size; omega) (fun e => hn (Option.some.inj e))]
  exact hg.block b hbl (fun e => by have := (h.own.ints.lt b e.symm).1; omega)
theorem ObjAt.pushR {w0 w w' : World} {lo Bo B : Nat} {aI : Option Addr} {cI : Nat} {aR : Option Addr} {cR : Nat} {o : ObjV} {zs : List Int} (h : ObjAt w lo Bo o aI cI aR cR) (hc : CurAt w B zs) (hB : B < Bo) (hg0 : w0.grownBy w (some B)) (h0 : w0.heap.size ≤ Bo)
  {a' : Option Addr} {c' : Nat} {ys : List Int} (ho : OwnI w' lo w'.heap.size a' c' ys) (hg : w.grownBy w' (Value.slice aR o.refs.length cR).ownBlock)
  (hat : ∀ k, (Value.slice a' ys.length c').ownBlock = some k → (Value.slice aR o.refs.length cR).ownBlock = some k ∨ k = w.heap.size) :
  (w'.cell? ⟨Bo, 2, none⟩ = some (.slice aR o.refs.length cR) ∧ w'.frozen? ⟨Bo, 2, none⟩ = false) ∧
  ObjAt (w'.setCell ⟨Bo, 2, none⟩ (.slice a' ys.length c')) lo Bo ⟨o.kind, o.ints, ys⟩ aI cI a' c' ∧ CurAt (w'.setCell ⟨Bo, 2, none⟩ (.slice a' ys.length c')) B zs ∧ w0.grownBy (w'.setCell ⟨Bo, 2, none⟩ (.slice a' ys.length c')) (some B) ∧ (∀ b, b < lo → b ≠ Bo → b < w.heap.size → (w'.setCell ⟨Bo, 2, none⟩ (.slice a' ys.length c')).heap[b]? = w.heap[b]?) := by
 have hlt := h.lt
 have hb' : Box w' Bo _ _ := h.box.block (hg.block Bo h.box.lt (fun e => by have := (h.own.refs.lt Bo e.symm).1; omega))
 have hbs := hb'.set 2 (.slice a' ys.length c')
 simp only [List.set] at hbs
 have hgs := grown_set w' Bo 2 (.slice a' ys.length c')
 have hI' := h.own.ints.kept hg (fun k hk e => h.own.apart k hk e)
 have hR2 := ho.kept hgs (fun k hk e => by have := (ho.lt k hk).1; cases e; omega)
 have hI2 := hI'.kept hgs (fun k hk e => by have := (hI'.lt k hk).1; cases e; omega)
 refine ⟨⟨hb'.cell 2 _ rfl, hb'.frozen 2⟩, ⟨hbs, ⟨hI2.widen (Nat.le_refl _) hI2.2.1 (Nat.le_refl _), hR2.widen (Nat.le_refl _) hR2.2.1 (Nat.le_refl _), fun k hk => ?_⟩, hlt⟩, ?_, ?_, ?_⟩
 ·intro e'
  rcases hat k e' with e | e
  ·exact h.own.apart k hk e
  ·have := (h.own.ints.lt k hk).2
   omega
 ·exact (hc.kept hg (fun k e => by have := (h.own.refs.lt k e).1; omega)).kept hgs (fun k e => by cases e; omega)
 ·exact grownBy_new (grownBy_new hg0 hg (fun k e => by have := (h.own.refs.lt k e).1; omega)) hgs (fun k e => by cases e; omega)
 ·intro b hb hn hbl
  rw [hgs.block b (by have := hg.size; omega) (fun e => hn (Option.some.inj e))]
  exact hg.block b hbl (fun e => by have := (h.own.refs.lt b e.symm).1; omega)
theorem blA {W w' : World} (h : Below W.heap.size W w') (o : Obj) : Below W.heap.size W (w'.alloc o) := h.alloc h.size o
theorem blG {W w' w2 : World} {g : Nat} (h : Below W.heap.size W w') (hg : w'.grownBy w2 (some g)) (hn : W.heap.size ≤ g) : Below W.heap.size W w2 := h.grown hg h.size (fun k e => by cases e; exact hn)
theorem ownI_box0 {w : World} {g lo : Nat} (h : Box w g [] 3) (hlo : lo ≤ g) : OwnI w lo w.heap.size (some ⟨g, 0, none⟩) 0 [] :=
 ⟨⟨by simp, .inr ⟨g, 0, #[], rfl, hlo, h, Nat.le_refl _, by simp [maxLen], rfl, rfl⟩⟩, Nat.le_refl _, fun k hk => by cases hk; exact h.lt⟩
theorem l2Copy_any (o : ObjV) (aI : Option Addr) (cI : Nat) (aR : Option Addr) (cR : Nat) (w : World) (hr : ReadsO w aI cI aR cR o) (hlI : o.ints.length ≤ 1099511627776) (hlR : o.refs.length ≤ 1099511627776) :
  Calls Tryz.prog 97 #[.agg #[.int .i64 o.kind, .slice aI o.ints.length cI, .slice aR o.refs.length cR]] w fun e w' => ∃ aI' cI' aR' cR', e = .returned (.agg #[.int .i64 o.kind, .slice aI' o.ints.length cI', .slice aR' o.refs.length cR']) ∧
   OwnO w' w.heap.size w'.heap.size aI' cI' aR' cR' o ∧ Below w.heap.size w w' := by
 obtain ⟨k, ints, refs⟩ := o
 obtain ⟨hI, hR, hni, hnr⟩ := hr
 simp only at *
 obtain ⟨W, hW, b0, b1, hbW, hsW⟩ := boxes2 w [.int .i64 k, .slice aI ints.length cI, .slice aR refs.length cR] [.int .i64 0, .slice none 0 0, .slice none 0 0] 37 37
 have hI' := hI.below hbW
 have hR' := hR.below hbW
 have hwW : w.heap.size + 1 < W.heap.size := by omega
 clear hsW hI hR
 go_enter Tryz.func97, Tryz.ntmps97
 go_wp2_with fail
 rw [hW.out]
 clear hW
 have hkeep : ∀ w'', Below W.heap.size W w'' → Box w'' w.heap.size [.int .i64 k, .slice aI ints.length cI, .slice aR refs.length cR] 37 ∧ Box w'' (w.heap.size + 1) [.int .i64 0, .slice none 0 0, .slice none 0 0] 37 :=
  fun w'' hh => ⟨b0.below hh b0.lt, b1.below hh b1.lt⟩
 have hcells : ∀ w'', Below W.heap.size W w'' → (w''.cell? ⟨w.heap.size, 0, none⟩ = some (.int .i64 k) ∧ w''.cell? ⟨w.heap.size, 1, none⟩ = some (.slice aI ints.length cI) ∧ w''.cell? ⟨w.heap.size, 2, none⟩ = some (.slice aR refs.length cR)) ∧ (w''.cell? ⟨w.heap.size + 1, 0, none⟩ = some (.int .i64 0) ∧ w''.cell? ⟨w.heap.size + 1, 1, none⟩ = some (.slice none 0 0) ∧ w''.cell? ⟨w.heap.size + 1, 2, none⟩ = some (.slice none 0 0)) ∧ (w''.frozen? ⟨w.heap.size + 1, 0, none⟩ = false ∧ w''.frozen? ⟨w.heap.size + 1, 1, none⟩ = false ∧ w''.frozen? ⟨w.heap.size + 1, 2, none⟩ = false) := by
  intro w'' hh
  obtain ⟨ba, bb⟩ := hkeep w'' hh
  exact ⟨⟨ba.cell 0 _ rfl, ba.cell 1 _ rfl, ba.cell 2 _ rfl⟩, ⟨bb.cell 0 _ rfl, bb.cell 1 _ rfl, bb.cell 2 _ rfl⟩, bb.frozen 0, bb.frozen 1, bb.frozen 2⟩
 have hh := hcells W (Below.refl _ _)
 have q1 : Box (W.drew.alloc (.cells #[] 3)) W.heap.size [] 3 := box_new W.drew [] _
 have q2a : Box ((W.drew.alloc (.cells #[] 3)).alloc (.cells #[] 3)) W.heap.size [] 3 := (box_new W.drew [] _).alloc _
 have q2b : Box ((W.drew.alloc (.cells #[] 3)).alloc (.cells #[] 3)) (W.heap.size + 1) [] 3 := by
  have := box_new (W.drew.alloc (.cells #[] 3)) [] 3
  simpa using this
 have Q1 : Hid (_ ∧ _ ∧ _) := ⟨q1, q2a, q2b⟩
 clear q1 q2a q2b
 have HK : Hid _ := hkeep
 have HC : Hid _ := hcells
 have hne : ¬ (w.heap.size = w.heap.size + 1) := by omega
 have HNI : Hid _ := hni
 have HNR : Hid _ := hnr
 clear hkeep hcells b0 b1 hni hnr
 go_region_held3 (fun w'' => w''.cell? ⟨w.heap.size, 0, none⟩ = some (.int .i64 k) ∧ w''.cell? ⟨w.heap.size, 1, none⟩ = some (.slice aI ints.length cI) ∧ w''.cell? ⟨w.heap.size, 2, none⟩ = some (.slice aR refs.length cR))
  (first | exact (HC.out _ (by first | exact hb2 | exact hb1 | exact blA hb2 _ | exact blA hb1 _ | exact (Below.refl _ _).drew | exact blA (Below.refl _ _).drew _ | exact blA (blA (Below.refl _ _).drew _) _ | fail)).1 | exact ⟨((((HK.out _ (by first | exact hb2 | exact hb1 | fail)).1.other hne).other hne).other hne).cell 0 _ rfl, ((((HK.out _ (by first | exact hb2 | exact hb1 | fail)).1.other hne).other hne).other hne).cell 1 _ rfl, ((((HK.out _ (by first | exact hb2 | exact hb1 | fail)).1.other hne).other hne).other hne).cell 2 _ rfl⟩ | go_keep | fail)
  ((first
   | (refine step_append_ints rfl (.tmp 5) (.tmp 7) (by rfl) (w.heap.size + 1 + 1) _ _ _ [] (by rfl) (ownI_box0 (by first | exact Q1.out.1 | exact Q1.out.2.1 | exact Q1.out.2.2 | assumption | exact (Q1.out.2.2).grown hg1 (by dsimp only; omega) | exact (Q1.out.2.1).grown hg1 (by dsimp only; omega) | exact box_new _ [] _ | fail) (by first | omega | (have := hb1.size; omega))) aI cI ints (by rfl) (hI'.below (by first | exact hb2 | exact hb1 | exact blA hb2 _ | exact blA hb1 _ | exact (Below.refl _ _).drew | exact blA (Below.refl _ _).drew _ | exact blA (blA (Below.refl _ _).drew _) _ | fail)) HNI.out (by simp only [List.length_nil]; omega) (Nat.le_trans (by omega) (Below.size (B := W.heap.size) (w := W) (by first | exact hb2 | exact hb1 | exact blA hb2 _ | exact blA hb1 _ | exact (Below.refl _ _).drew | exact blA (Below.refl _ _).drew _ | exact blA (blA (Below.refl _ _).drew _) _ | fail))) ?_; intro a1 c1 y1 u1 hy1 hO1 hg1 hat1; have HA1 : Hid _ := hat1; clear hat1; have hyy : ints = y1 := (by simpa using hy1.out.symm); subst hyy; have hb1 := blG (W := W) (by first | exact hb2 | exact hb1 | exact blA hb2 _ | exact blA hb1 _ | exact (Below.refl _ _).drew | exact blA (Below.refl _ _).drew _ | exact blA (blA (Below.refl _ _).drew _) _ | fail) hg1 (by dsimp only; omega))
   | (refine step_append_ints rfl (.tmp 9) (.tmp 11) (by rfl) (w.heap.size + 1 + 1) _ _ _ [] (by rfl) (ownI_box0 (by first | exact Q1.out.1 | exact Q1.out.2.1 | exact Q1.out.2.2 | assumption | exact (Q1.out.2.2).grown hg1 (by dsimp only; omega) | exact (Q1.out.2.1).grown hg1 (by dsimp only; omega) | exact box_new _ [] _ | fail) (by first | omega | (have := hb1.size; omega))) aR cR refs (by rfl) (hR'.below (by first | exact hb2 | exact hb1 | exact blA hb2 _ | exact blA hb1 _ | exact (Below.refl _ _).drew | exact blA (Below.refl _ _).drew _ | exact blA (blA (Below.refl _ _).drew _) _ | fail)) HNR.out (by simp only [List.length_nil]; omega) (Nat.le_trans (by omega) (Below.size (B := W.heap.size) (w := W) (by first | exact hb2 | exact hb1 | exact blA hb2 _ | exact blA hb1 _ | exact (Below.refl _ _).drew | exact blA (Below.refl _ _).drew _ | exact blA (blA (Below.refl _ _).drew _) _ | fail))) ?_; intro a2 c2 y2 u2 hy2 hO2 hg2 hat2; have HA2 : Hid _ := hat2; clear hat2; have hyy : refs = y2 := (by simpa using hy2.out.symm); subst hyy; have hb2 := blG (W := W) (by first | exact hb2 | exact hb1 | exact blA hb2 _ | exact blA hb1 _ | exact (Below.refl _ _).drew | exact blA (Below.refl _ _).drew _ | exact blA (blA (Below.refl _ _).drew _) _ | fail) hg2 (by dsimp only; first | omega | (have := hb1.size; omega)); obtain ⟨⟨m0, m1, m2⟩, ⟨n0, n1, n2⟩, e0, e1, e2⟩ := HC.out _ hb2) | fail))
 all_goals
  have hO1' : OwnI u2 (w.heap.size + 1 + 1) u2.heap.size a1 c1 ints := by
   first
   | exact (hO1.kept hg2 (fun k hk e => by have h1 := HA1.out k hk; have h2 := (hO1.lt k hk).2; simp [Value.ownBlock] at h1 e; omega)).widen (Nat.le_refl _) hg2.size (Nat.le_refl _)
   | exact ((hO1.below ((Below.refl _ _).alloc (Nat.le_refl _) _)).kept hg2 (fun k hk e => by have h2 := (hO1.lt k hk).2; simp [Value.ownBlock] at e; omega)).widen (Nat.le_refl _) (Nat.le_trans (by simp) hg2.size) (Nat.le_refl _)
   | fail
  have hap : ∀ k, (Value.slice a1 ints.length c1).ownBlock = some k → (Value.slice a2 refs.length c2).ownBlock ≠ some k := by
   intro k hk hk'
   have h1 := HA1.out k hk
   have h2 := HA2.out k hk'
   have h3 := (hO1.lt k hk).2
   simp [Value.ownBlock] at h1 h2
   omega
  obtain ⟨WF, hWF, bF, hwF, hsF⟩ := box3_fill (HK.out _ hb2).2 (.int .i64 k) (.slice a1 ints.length c1) (.slice a2 refs.length c2)
  clear HA1 HA2 hg1 hg2 Q1 hb1 hO1
  rw [hWF.out]
  go_wp2
  obtain ⟨q0, q1, q2, _, _, _⟩ := bF.three
  have hs2 := hb2.size
  have hOF : OwnO WF (w.heap.size + 1 + 1) u2.heap.size a1 c1 a2 c2 ⟨k, ints, refs⟩ := (⟨hO1', hO2, hap⟩ : OwnO u2 (w.heap.size + 1 + 1) u2.heap.size a1 c1 a2 c2 ⟨k, ints, refs⟩).within hwF (.inr (by omega))
  exact bodyPost_ret (v := .agg #[.int .i64 k, .slice a1 ints.length c1, .slice a2 refs.length c2]) (by simp [results, Tryz.results97, go_sem, q0, q1, q2]) rfl ⟨a1, c1, a2, c2, rfl, hOF.widen (by omega) (by omega) (Nat.le_refl _), (hbW.trans (hb2.mono (by omega))).trans (hwF.below (by omega) (by omega))⟩
theorem set_cons1 (v x : Value) (L : List Value) (i : Nat) : (v :: L).set (1 + i) x = v :: L.set i x := by rw [Nat.add_comm, List.set_cons_succ]
theorem pslot_fill {w : World} {B : Nat} {v : Value} {ss : List SlotA} {ty : TypeId} (b : Box w B (v :: cellsS ss) ty) (k : Nat) (hk : k < ss.length) (t : SlotA) :
  ∃ W, Hid ((((w.setCell ⟨B, 1 + k * 4, none⟩ (.bool t.v.has)).setCell ⟨B, 1 + k * 4 + 1, none⟩ (.int .i64 t.v.o.kind)).setCell ⟨B, 1 + k * 4 + 2, none⟩ (.slice t.aI t.v.o.ints.length t.cI)).setCell ⟨B, 1 + k * 4 + 3, none⟩ (.slice t.aR t.v.o.refs.length t.cR) = W) ∧ Box W B (v :: cellsS (ss.set k t)) ty ∧ Within B (B + 1) w W ∧ W.heap.size = w.heap.size := by
 refine ⟨_, rfl, ?_, ?_, ?_⟩
 ·have := (((b.set (1 + k * 4) (.bool t.v.has)).set (1 + k * 4 + 1) (.int .i64 t.v.o.kind)).set (1 + k * 4 + 2) (.slice t.aI t.v.o.ints.length t.cI)).set (1 + k * 4 + 3) (.slice t.aR t.v.o.refs.length t.cR)
  rw [Nat.add_assoc, Nat.add_assoc 1 (k * 4) 2, Nat.add_assoc 1 (k * 4) 3, set_cons1, set_cons1, set_cons1, set_cons1, cellsS_set ss k hk t] at this
  rw [Nat.add_assoc, Nat.add_assoc 1 (k * 4) 2, Nat.add_assoc 1 (k * 4) 3]
  exact this
 ·exact (((within_set w B _ _ (by omega)).trans (within_set _ B _ _ (by omega))).trans (within_set _ B _ _ (by omega))).trans (within_set _ B _ _ (by omega))
 ·simp
theorem l3CopySlot_own (s : SlotA) (w : World) (hr : s.reads w) (hlI : s.v.o.ints.length ≤ 1099511627776) (hlR : s.v.o.refs.length ≤ 1099511627776) :
  Calls Tryz.prog 69 #[.agg s.cells.toArray] w fun e w' => ∃ t : SlotA, e = .returned (.agg t.cells.toArray) ∧ Hid (t.v = s.v) ∧ t.own w' w.heap.size w'.heap.size ∧ Below w.heap.size w w' := by
 obtain ⟨⟨h, ⟨k, ints, refs⟩⟩, aI, cI, aR, cR⟩ := s
 simp only [SlotA.cells, SlotA.reads, SlotA.own] at *
 obtain ⟨W, hW, b0, b1, hbW, hsW⟩ := boxes2 w [.bool h, .int .i64 k, .slice aI ints.length cI, .slice aR refs.length cR] [.bool false, .int .i64 0, .slice none 0 0, .slice none 0 0] 39 39
 have hr' := hr.below hbW
 have hwW : w.heap.size + 1 < W.heap.size := by omega
 clear hsW
 have HC : Hid (∀ w'', Below W.heap.size W w'' → w''.cell? ⟨w.heap.size, 0, none⟩ = some (.bool h) ∧ w''.cell? ⟨w.heap.size, 1, none⟩ = some (.int .i64 k) ∧ w''.cell? ⟨w.heap.size, 2, none⟩ = some (.slice aI ints.length cI) ∧ w''.cell? ⟨w.heap.size, 3, none⟩ = some (.slice aR refs.length cR)) := by
  intro w'' hh
  have ba := b0.below hh b0.lt
  exact ⟨ba.cell 0 _ rfl, ba.cell 1 _ rfl, ba.cell 2 _ rfl, ba.cell 3 _ rfl⟩
 have HB : Hid (∀ w'', Below W.heap.size W w'' → Box w'' w.heap.size [.bool h, .int .i64 k, .slice aI ints.length cI, .slice aR refs.length cR] 39 ∧ Box w'' (w.heap.size + 1) [.bool false, .int .i64 0, .slice none 0 0, .slice none 0 0] 39) := fun w'' hh => ⟨b0.below hh b0.lt, b1.below hh b1.lt⟩
 have hh := HC.out W (Below.refl _ _)
 have hne : ¬ (w.heap.size = w.heap.size + 1) := by omega
 clear b0 b1
 go_enter Tryz.func69, Tryz.ntmps69
 go_wp2_with fail
 rw [hW.out]
 clear hW
 go_region_held3 (fun w'' => w''.cell? ⟨w.heap.size, 0, none⟩ = some (.bool h) ∧ w''.cell? ⟨w.heap.size, 1, none⟩ = some (.int .i64 k) ∧ w''.cell? ⟨w.heap.size, 2, none⟩ = some (.slice aI ints.length cI) ∧ w''.cell? ⟨w.heap.size, 3, none⟩ = some (.slice aR refs.length cR))
  (first | exact HC.out _ hB1 | exact HC.out _ (Below.refl _ _).drew | exact ⟨(((((HB.out _ (by first | exact hB1 | fail)).1.other hne).other hne).other hne).other hne).cell 0 _ rfl, (((((HB.out _ (by first | exact hB1 | fail)).1.other hne).other hne).other hne).other hne).cell 1 _ rfl, (((((HB.out _ (by first | exact hB1 | fail)).1.other hne).other hne).other hne).other hne).cell 2 _ rfl, (((((HB.out _ (by first | exact hB1 | fail)).1.other hne).other hne).other hne).other hne).cell 3 _ rfl⟩ | go_keep | fail)
  (first
  | (go_at_call 97; refine (l2Copy_any ⟨k, ints, refs⟩ aI cI aR cR _ hr'.drew hlI hlR).mono ?_; rintro e u1 ⟨a1, c1, a2, c2, rfl, ho1, hb1⟩; have hB1 : Below W.heap.size W u1 := ((Below.refl _ _).drew).trans hb1; obtain ⟨m0, m1, m2, m3, e0, e1, e2, e3⟩ := (HB.out _ hB1).2.four)
  | fail)
 obtain ⟨WF, hWF, bF, hwF, hsF⟩ := box4_fill (HB.out _ hB1).2 (.bool h) (.int .i64 k) (.slice a1 ints.length c1) (.slice a2 refs.length c2)
 have hsu1 : W.heap.size ≤ u1.heap.size := hB1.size
 have hO : OwnO u1 W.heap.size u1.heap.size a1 c1 a2 c2 ⟨k, ints, refs⟩ := ho1
 have hOF : OwnO WF W.heap.size u1.heap.size a1 c1 a2 c2 ⟨k, ints, refs⟩ := hO.within hwF (.inr (by omega))
 have HBF : Hid (Below w.heap.size w WF) := (hbW.trans (hB1.mono (by omega))).trans (hwF.below (by omega) (by omega))
 rw [hWF.out]
 clear hwF ho1 hO
 go_wp2
 obtain ⟨q0, q1, q2, q3, _⟩ := bF.four
 exact bodyPost_ret (v := .agg #[.bool h, .int .i64 k, .slice a1 ints.length c1, .slice a2 refs.length c2]) (by simp [results, Tryz.results69, go_sem, q0, q1, q2, q3]) rfl ⟨⟨⟨h, ⟨k, ints, refs⟩⟩, a1, c1, a2, c2⟩, rfl, rfl, hOF.widen (by omega) (by omega) (Nat.le_refl _), HBF.out⟩
theorem l3Copy_own (p : PageA) (h4 : p.ss.length = 4) (w : World) (hr : ReadsS w p.ss) (hl : Fit p.ss) :
  Calls Tryz.prog 144 #[.agg p.cells.toArray] w fun e w' => ∃ ts : List SlotA, e = .returned (.agg (PageA.cells ⟨p.lsn, ts⟩).toArray) ∧ Hid (ts.map (·.v) = p.ss.map (·.v)) ∧ OwnS w' w.heap.size w'.heap.size ts ∧ Below w.heap.size w w' := by
 obtain ⟨n, ss⟩ := p
 simp only [PageA.cells] at *
 obtain ⟨W, hW, b0, b1, b2, hbW, hsW⟩ := boxes3 w (.int .i64 n :: cellsS ss) [.int .i64 0, .bool false, .int .i64 0, .slice none 0 0, .slice none 0 0, .bool false, .int .i64 0, .slice none 0 0, .slice none 0 0, .bool false, .int .i64 0, .slice none 0 0, .slice none 0 0, .bool false, .int .i64 0, .slice none 0 0, .slice none 0 0] [.int .i64 n, .bool false, .int .i64 0, .slice none 0 0, .slice none 0 0, .bool false, .int .i64 0, .slice none 0 0, .slice none 0 0, .bool false, .int .i64 0, .slice none 0 0, .slice none 0 0, .bool false, .int .i64 0, .slice none 0 0, .slice none 0 0] 98 98 98
 have b1' : Box W (w.heap.size + 1) ([] ++ ((.int .i64 0 :: cellsS zero4) ++ [])) 98 := b1
 have b2' : Box W (w.heap.size + 1 + 1) (.int .i64 n :: cellsS ([] ++ List.replicate (4 - 0) zeroS)) 98 := b2
 have hsW' : w.heap.size + 1 + 1 < W.heap.size := by omega
 have hc0 : (((w.alloc (.cells (.int .i64 n :: cellsS ss).toArray 98)).alloc (.cells #[.int .i64 0, .bool false, .int .i64 0, .slice none 0 0, .slice none 0 0, .bool false, .int .i64 0, .slice none 0 0, .slice none 0 0, .bool false, .int .i64 0, .slice none 0 0, .slice none 0 0, .bool false, .int .i64 0, .slice none 0 0, .slice none 0 0] 98))).cell? ⟨w.heap.size, 0, none⟩ = some (.int .i64 n) := ((box_new w (.int .i64 n :: cellsS ss) 98).alloc _).cell 0 _ rfl
 have H4 : Hid (ss.length = 4) := h4
 clear b1 b2 hsW h4
 go_enter Tryz.func144, Tryz.ntmps144
 go_wp2_with fail
 rw [hW.out]
 clear hW hc0
 go_loopw [4] (fun i wr => ∃ (k : Nat) (ts : List SlotA), i = .int .i64 k ∧ k ≤ 4 ∧ Hid (ts.length = k ∧ ts.map (·.v) = (ss.take k).map (·.v)) ∧ OwnS wr W.heap.size wr.heap.size ts ∧ Box wr (w.heap.size + 1 + 1) (.int .i64 n :: cellsS (ts ++ List.replicate (4 - k) zeroS)) 98 ∧ Below (w.heap.size + 1 + 1) W wr)
  (fun i _ => 4 - (intOf i).toNat)
 case atStart => exact ⟨0, [], rfl, by omega, ⟨rfl, rfl⟩, OwnS.nil _ _ _, b2', Below.refl _ _⟩
 case round =>
  obtain ⟨k, ts, rfl, hk, hts, hown, hbox, hbl⟩ := hrel
  clear b2'
  have b0r := b0.below hbl (by omega)
  have b1r := b1'.below hbl (by omega)
  have hsr := hbl.size
  have hsz := hbox.lt
  by_cases hlt : k < 4
  ·have hkl : k < ss.length := by rw [H4.out]; exact hlt
   obtain ⟨c0, c1, c2, c3, _⟩ := b0r.pslot k hkl
   have hi0 : (0 : Int) ≤ (k : Int) := by omega
   have hi4 : (k : Int) < 4 := by omega
   have hrk := (hr _ (getD_mem hkl)).below (hbW.trans (hbl.mono (by omega)))
   have hlk := hl _ (getD_mem hkl)
   have HV : Hid ((ss.take (k + 1)).map (·.v) = (ss.take k).map (·.v) ++ [(ss.getD k zeroS).v]) := by
    rw [Hid, List.take_add_one, List.map_append]
    simp [List.getD, hkl]
   generalize ss.getD k zeroS = s at *
   have C := l3CopySlot_own s wr hrk hlk.1 hlk.2
   simp only [SlotA.cells] at C
   go_wp2_with fail
   refine C.mono ?_
   clear C hrk hlk c0 c1 c2 c3
   rintro e w1 ⟨t, rfl, hv, ho, hb1⟩
   have hs1 := hb1.size
   have hbx := hbox.below hb1 hsz
   have hkt : k < (ts ++ List.replicate (4 - k) zeroS).length := by have := hts.out.1; simp; omega
   obtain ⟨W2, hW2, b2, hw2, hs2⟩ := pslot_fill hbx k hkt t
   obtain ⟨x0, x1, x2, x3, hfz⟩ := hbx.pslot k hkt
   have f0 := hfz (1 + k * 4)
   have f1 := hfz (1 + k * 4 + 1)
   have f2 := hfz (1 + k * 4 + 2)
   have f3 := hfz (1 + k * 4 + 3)
   generalize (ts ++ List.replicate (4 - k) zeroS).getD k zeroS = old at *
   have b2' : Box W2 (w.heap.size + 1 + 1) (.int .i64 n :: cellsS ((ts ++ [t]) ++ List.replicate (4 - (k + 1)) zeroS)) 98 := by
    rw [show 4 - k = (4 - (k + 1)) + 1 by omega] at b2
    have e := set_snoc ts (4 - (k + 1)) t
    rw [hts.out.1] at e
    rw [e] at b2
    exact b2
   have hO1 : OwnS w1 W.heap.size w1.heap.size (ts ++ [t]) := (hown.below hb1).snoc ho hsr hs1 (Nat.le_refl _)
   have hO2 : OwnS W2 W.heap.size W2.heap.size (ts ++ [t]) := (hO1.within hw2 (.inr (by omega))).widen (Nat.le_refl _) (by omega) (Nat.le_refl _)
   have hB2 : Below (w.heap.size + 1 + 1) W W2 := (hbl.trans (hb1.mono (by omega))).trans (hw2.below (Nat.le_refl _) (by omega))
   have HT : Hid ((ts ++ [t]).length = k + 1 ∧ (ts ++ [t]).map (·.v) = (ss.take (k + 1)).map (·.v)) := by
    refine ⟨by have := hts.out.1; simp; omega, ?_⟩
    rw [HV.out, List.map_append, hts.out.2, ← hv.out]
    rfl
   clear hfz hs2 hw2 b2 hO1 hown hbox hbx hts HV hkt hb1 ho
   go_wp2_with fail
   rw [hW2.out]
   go_roundw
   case rel => exact ⟨k + 1, ts ++ [t], by go_num, by omega, HT, hO2, b2', hB2⟩
   case measure => simp [intOf]; omega
  ·obtain rfl : k = 4 := by omega
   have hkk : ¬ ((4 : Nat) : Int) < 4 := by omega
   have hrp : ts ++ List.replicate (4 - 4) zeroS = ts := by simp
   rw [hrp] at hbox
   have htl : ts.length = 4 := hts.out.1
   have HMV : Hid (ts.map (·.v) = ss.map (·.v)) := by rw [Hid, hts.out.2, List.take_of_length_le (by rw [H4.out]; omega)]
   obtain ⟨WF, hWF, bF, hwF, hsF⟩ := range_fill [] (.int .i64 0 :: cellsS zero4) (.int .i64 n :: cellsS ts) [] b1r (by simp only [List.length_cons, cellsS_len, htl]; rfl)
   have HWF : Hid (wr.setCells (w.heap.size + 1) 0 (.int .i64 n :: cellsS ts) = WF) := hWF.out
   have HR2 : Hid (wr.rangeAt (w.heap.size + 1 + 1) 0 (.int .i64 n :: cellsS ts)) := Box.range [] (.int .i64 n :: cellsS ts) [] (by simpa using hbox)
   have HTF : Hid (wr.there (w.heap.size + 1) 0 (.int .i64 n :: cellsS ts).toArray.size) := b1r.there 0 _ (by simp only [List.size_toArray, cellsS_len, htl, List.length_append, List.length_cons, List.length_nil]; decide)
   have hrF : WF.rangeAt (w.heap.size + 1) 0 (.int .i64 n :: cellsS ts) := Box.range [] (.int .i64 n :: cellsS ts) [] (by simpa using bF)
   have HI : Hid ((Tryz.prog.info? 98).map (·.size) = some (.int .i64 n :: cellsS ts).length) := by rw [Hid, List.length_cons, cellsS_len, htl]; kernel_rfl
   have HO : Hid (_) := all_oneCell_toArray (oneP ⟨n, ts⟩)
   have HLF : Hid (_) := run_loadVar_mid (P := Tryz.prog) _ (w.heap.size + 1) 0 98 (.int .i64 n :: cellsS ts) _ hrF Tryz.underlying98 rfl HI.out
   have HOF : Hid (OwnS WF w.heap.size WF.heap.size ts) := (hown.within hwF (.inr (by omega))).widen (by omega) (by omega) (Nat.le_refl _)
   have HBF : Hid (Below w.heap.size w WF) := (hbW.trans (hbl.mono (by omega))).trans (hwF.below (by omega) (by omega))
   simp only [PageA.cells] at HO
   clear hWF bF hwF hsF hrF hrp htl hbox hown hts
   go_wp2_with (first | (guard_target = wpList _ _ _ (Oper.mk (some 20) _ _ _ _ _ :: _) _ _; refine wpList_load_mid rfl 98 (.tmp 3) rfl (w.heap.size + 1 + 1) 0 rfl (.int .i64 n :: cellsS ts) _ HR2.out Tryz.underlying98 rfl HI.out ?_) | (guard_target = wpList _ _ _ (Oper.mk none (Op.store _ (Operand.tmp 2) _) _ _ _ _ :: _) _ _; refine wpList_store_mid rfl 98 (.tmp 2) (.tmp 20) rfl (w.heap.size + 1) 0 (.int .i64 n :: cellsS ts).toArray rfl rfl HTF.out (by rw [List.size_toArray]; exact HI.out) HO.out ?_) | fail)
   rw [HWF.out]
   exact bodyPost_ret (v := .agg (.int .i64 n :: cellsS ts).toArray) (results_one Tryz.results144 rfl HLF.out) rfl ⟨ts, rfl, HMV, HOF.out, HBF.out⟩
theorem results_cell_flag {P : Program} {fn : Func} {s t : Nat} {ty : TypeId} {tmps : Array Value} {w : World} {v b : Value} {ad : Addr} (hf : fn.results = #[.cell s ty, .tmp t]) (ht : tmps[s]?.getD undef = .pointer (some ad)) (hl : (loadVar ty ad).run P w = .ok v w) (hb : tmps[t]?.getD undef = b) : (results fn tmps).run P w = .ok (.tuple #[v, b]) w := by
 unfold results
 rw [hf]
 simp [ht, asAddr, hl, hb]
theorem wpList_load_mid_if {ops : Array Oper} {rest : List Oper} {op : Oper} {a : Act} {w : World} {Q : Exit → Act → World → Prop} {P : Program} (hw : Region.wanted op (yielded ops a.tmps) = true) (ty : TypeId) (x : Operand) (ho : op.op = .load ty x)
  (b o : Nat) (hx : a.eval x = .pointer (some ⟨b, o, none⟩)) (cs : List Value) (d : TypeDesc) (hc : w.rangeAt b o cs)
  (hu : P.underlying ty = some d) (hd : d.isRow = true) (hi : (P.info? ty).map (·.size) = some cs.length)
  (h : wpList P ops Q rest (a.put op.dst (.agg cs.toArray)) w) : wpList P ops Q (op :: rest) a w :=
 wpList_step fun _ hK => by
  simp only [hw, if_true]
  exact wp_load_mid ty x ho b o hx cs d hc hu hd hi (hK _ _ h)
theorem run_append_lives {w : World} (ty : TypeId) (lo hi : Nat) (a : Option Addr) (c : Nat) (xs : List LiveV) (hown : OwnL w lo hi a c xs)
  (sa : Option Addr) (sc : Nat) (zs : List LiveV) (hr : ReadsL w sa zs) (hc : sa = none → sc = 0) (hb : xs.length + zs.length ≤ 1099511627776) (hlo : lo ≤ w.heap.size) :
  ∃ a' c' ys w', (Builtin.append_ #[40, 40] ty #[.slice a xs.length c, .slice sa zs.length sc]).run Tryz.prog w = .ok (.slice a' ys.length c') w' ∧ Hid (ys = xs ++ zs) ∧ OwnL w' lo w'.heap.size a' c' ys ∧ w.grownBy w' (Value.slice a xs.length c).ownBlock ∧
   (∀ k, (Value.slice a' ys.length c').ownBlock = some k → (Value.slice a xs.length c).ownBlock = some k ∨ k = w.heap.size) := by
 obtain ⟨i0, hi0, hz0, hz1, hz2⟩ := info_parts Tryz.infoLive
 cases sa with
 | none =>
  have hz : zs = [] := by
   by_cases e : zs = []
   ·exact e
   ·obtain ⟨b, off, hh, _⟩ := hr e
    cases hh
  subst hz
  have := hc rfl
  subst this
  refine ⟨a, c, xs, w, run_append_owned_none (P := Tryz.prog) (w := w) lo 40 ty 62 i0 3 Tryz.underlying40 hi0 _ _ _ hown.1, (by simp [Hid]), ⟨hown.1, Nat.le_refl _, fun k hk => (hown.1.lt k hk).2⟩, World.grownBy.refl _ _, fun k hk => .inl hk⟩
 | some ad =>
  obtain ⟨v', w', h1, h2, h3, _, h5⟩ := run_append_own_at (P := Tryz.prog) w lo 40 ty 62 i0 (.agg #[.int .i64 0, .int .i64 0, .bool false]) 3 24 Tryz.underlying40 hi0 hz0 hz1 hz2 rfl (by decide) _ _ _ hown.1 ad zs.length sc (cellsL zs) (by rw [cellsL_len]) (by
   intro j u hj
   have hjl : j < zs.length * 3 := by rw [← cellsL_len]; exact (List.getElem?_eq_some_iff.1 hj).1
   have hne : zs ≠ [] := by intro e; simp [e] at hjl
   obtain ⟨b, off, hh, hcell⟩ := hr hne
   cases hh
   have hat := cellsL_at zs (j / 3) (j % 3) (by omega) (Nat.mod_lt _ (by omega))
   rw [show j / 3 * 3 + j % 3 = j by omega, hj] at hat
   obtain ⟨k0, k1, k2⟩ := hcell (j / 3) (by omega)
   rw [Addr_add]
   rcases (by omega : j % 3 = 0 ∨ j % 3 = 1 ∨ j % 3 = 2) with h' | h' | h' <;> rw [h'] at hat <;> simp only [LiveV.cells, List.getElem?_cons_zero, List.getElem?_cons_succ, Option.some.injEq] at hat
   ·rw [show off + j = off + j / 3 * 3 by omega, k0, hat]
   ·rw [show off + j = off + j / 3 * 3 + 1 by omega, k1, hat]
   ·rw [show off + j = off + j / 3 * 3 + 2 by omega, k2, hat]) (lives_oneCell _) (by simp only [maxLen]; omega) (by omega) hlo
  rw [← cellsL_app, ← List.length_append] at h2
  have sh : ∃ a' c', v' = .slice a' (xs ++ zs).length c' := by
   rcases h2.2 with ⟨rfl, h0⟩ | ⟨g, cap, cur, rfl, _⟩
   ·exact ⟨none, 0, by rw [h0]⟩
   ·exact ⟨_, _, rfl⟩
  obtain ⟨a', c', rfl⟩ := sh
  refine ⟨a', c', xs ++ zs, w', h1, rfl, ⟨h2, Nat.le_refl _, fun k hk => (h2.lt k hk).2⟩, h3, fun k hk => ?_⟩
  rcases h5 with h5 | h5
  ·exact .inl (by rw [← h5]; exact hk)
  ·rw [h5] at hk
   exact .inr (Option.some.inj hk).symm
theorem step_append_lives {w : World} {ops : Array Oper} {o : Oper} {act : Act} {K : Act → World → Prop} {Q : Exit → Act → World → Prop} {E : Prop} (hgd : o.guard = none) (s x : Operand)
  (ho : o.op = .call { callee := .builtin .append, args := #[s, x], argTypes := #[40, 40] })
  (lo hi : Nat) (a : Option Addr) (c : Nat) (xs : List LiveV) (hs : act.eval s = .slice a xs.length c) (hown : OwnL w lo hi a c xs)
  (sa : Option Addr) (sc : Nat) (zs : List LiveV) (hx : act.eval x = .slice sa zs.length sc) (hr : ReadsL w sa zs) (hc : sa = none → sc = 0)
  (hb : xs.length + zs.length ≤ 1099511627776) (hlo : lo ≤ w.heap.size)
  (h : ∀ a' c' ys w', Hid (ys = xs ++ zs) → OwnL w' lo w'.heap.size a' c' ys → w.grownBy w' (Value.slice a xs.length c).ownBlock →
   (∀ k, (Value.slice a' ys.length c').ownBlock = some k → (Value.slice a xs.length c).ownBlock = some k ∨ k = w.heap.size) → K (act.put o.dst (.slice a' ys.length c')) w') :
  if Region.wanted o (yielded ops act.tmps) = true then Oper.wp Tryz.prog o act w K Q else E := by
 have hw : Region.wanted o (yielded ops act.tmps) = true := by simp [Region.wanted, hgd]
 rw [if_pos hw]
 obtain ⟨a', c', ys, w', hrun, h1, h2, h3, h4⟩ := run_append_lives (w := w) o.type lo hi a c xs hown sa sc zs hr hc hb hlo
 unfold Oper.wp execOp
 simp only [ho, resolve, invoke, builtin, Sem.run_bind, Sem.run_pure, Result.andThen_ok, List.map_toArray, List.map_cons, List.map_nil, hs, hx, hrun]
 exact h a' c' ys w' h1 h2 h3 h4
theorem run_append_holds {w : World} (ty : TypeId) (lo hi : Nat) (a : Option Addr) (c : Nat) (xs : List HoldV) (hown : OwnH w lo hi a c xs)
  (sa : Option Addr) (sc : Nat) (zs : List HoldV) (hr : ReadsH w sa zs) (hc : sa = none → sc = 0) (hb : xs.length + zs.length ≤ 1099511627776) (hlo : lo ≤ w.heap.size) :
  ∃ a' c' ys w', (Builtin.append_ #[103, 103] ty #[.slice a xs.length c, .slice sa zs.length sc]).run Tryz.prog w = .ok (.slice a' ys.length c') w' ∧ Hid (ys = xs ++ zs) ∧ OwnH w' lo w'.heap.size a' c' ys ∧ w.grownBy w' (Value.slice a xs.length c).ownBlock ∧
   (∀ k, (Value.slice a' ys.length c').ownBlock = some k → (Value.slice a xs.length c).ownBlock = some k ∨ k = w.heap.size) := by
 obtain ⟨i0, hi0, hz0, hz1, hz2⟩ := info_parts Tryz.infoHold
 cases sa with
 | none =>
  have hz : zs = [] := by
   by_cases e : zs = []
   ·exact e
   ·obtain ⟨b, off, hh, _⟩ := hr e
    cases hh
  subst hz
  have := hc rfl
  subst this
  refine ⟨a, c, xs, w, run_append_owned_none (P := Tryz.prog) (w := w) lo 103 ty 182 i0 2 Tryz.underlying103 hi0 _ _ _ hown.1, (by simp [Hid]), ⟨hown.1, Nat.le_refl _, fun k hk => (hown.1.lt k hk).2⟩, World.grownBy.refl _ _, fun k hk => .inl hk⟩
 | some ad =>
  obtain ⟨v', w', h1, h2, h3, _, h5⟩ := run_append_own_at (P := Tryz.prog) w lo 103 ty 182 i0 (.agg #[.int .i64 0, .int .i64 0]) 2 16 Tryz.underlying103 hi0 hz0 hz1 hz2 rfl (by decide) _ _ _ hown.1 ad zs.length sc (cellsH zs) (by rw [cellsH_len]) (by
   intro j u hj
   have hjl : j < zs.length * 2 := by rw [← cellsH_len]; exact (List.getElem?_eq_some_iff.1 hj).1
   have hne : zs ≠ [] := by intro e; simp [e] at hjl
   obtain ⟨b, off, hh, hcell⟩ := hr hne
   cases hh
   have hat := cellsH_at zs (j / 2) (j % 2) (by omega) (Nat.mod_lt _ (by omega))
   rw [show j / 2 * 2 + j % 2 = j by omega, hj] at hat
   obtain ⟨k0, k1⟩ := hcell (j / 2) (by omega)
   rw [Addr_add]
   rcases (by omega : j % 2 = 0 ∨ j % 2 = 1) with h' | h' <;> rw [h'] at hat <;> simp only [HoldV.cells, List.getElem?_cons_zero, List.getElem?_cons_succ, Option.some.injEq] at hat
   ·rw [show off + j = off + j / 2 * 2 by omega, k0, hat]
   ·rw [show off + j = off + j / 2 * 2 + 1 by omega, k1, hat]) (holds_oneCell _) (by simp only [maxLen]; omega) (by omega) hlo
  rw [← cellsH_app, ← List.length_append] at h2
  have sh : ∃ a' c', v' = .slice a' (xs ++ zs).length c' := by
   rcases h2.2 with ⟨rfl, h0⟩ | ⟨g, cap, cur, rfl, _⟩
   ·exact ⟨none, 0, by rw [h0]⟩
   ·exact ⟨_, _, rfl⟩
  obtain ⟨a', c', rfl⟩ := sh
  refine ⟨a', c', xs ++ zs, w', h1, rfl, ⟨h2, Nat.le_refl _, fun k hk => (h2.lt k hk).2⟩, h3, fun k hk => ?_⟩
  rcases h5 with h5 | h5
  ·exact .inl (by rw [← h5]; exact hk)
  ·rw [h5] at hk
   exact .inr (Option.some.inj hk).symm
theorem append_holdsF {w : World} {ops : Array Oper} {rest : List Oper} {o : Oper} {act : Act} {Q : Exit → Act → World → Prop} (hgd : o.guard = none) (s x : Operand)
  (ho : o.op = .call { callee := .builtin .append, args := #[s, x], argTypes := #[103, 103] })
  (lo hi : Nat) (a : Option Addr) (c : Nat) (xs : List HoldV) (hs : act.eval s = .slice a xs.length c) (hown : OwnH w lo hi a c xs)
  (sa : Option Addr) (sc : Nat) (zs : List HoldV) (hx : act.eval x = .slice sa zs.length sc) (hr : ReadsH w sa zs) (hc : sa = none → sc = 0)
  (hb : xs.length + zs.length ≤ 1099511627776) (hlo : lo ≤ w.heap.size)
  (h : ∀ a' c' ys w', Hid (ys = xs ++ zs) → OwnH w' lo w'.heap.size a' c' ys → w.grownBy w' (Value.slice a xs.length c).ownBlock → (∀ k, (Value.slice a' ys.length c').ownBlock = some k → (Value.slice a xs.length c).ownBlock = some k ∨ k = w.heap.size) → wpList Tryz.prog ops Q rest (act.put o.dst (.slice a' ys.length c')) w') :
  wpList Tryz.prog ops Q (o :: rest) act w := by
 obtain ⟨a', c', ys, w', hrun, h1, h2, h3, h4⟩ := run_append_holds (w := w) o.type lo hi a c xs hown sa sc zs hr hc hb hlo
 refine wpList_plain hgd fun K hK => ?_
 unfold Oper.wp execOp
 simp only [ho, resolve, invoke, builtin, Sem.run_bind, Sem.run_pure, Result.andThen_ok, List.map_toArray, List.map_cons, List.map_nil, hs, hx, hrun]
 exact hK _ _ (h a' c' ys w' h1 h2 h3 h4)
end Go.Proofs.YtickiokdcbeefaaGreatDoor
namespace Go.Proofs.YtickiokdcbeefaaGreatDoor
open Go.RowKit
attribute [local go_sem ↓] Go.wp_at_zero Go.wp_at_succ
theorem l2Obj_any (B : Nat) (zs : List Int) (w : World) (hc : CurAt w B zs) (hl : zs.length ≤ 70368744177664) :
  Calls Tryz.prog 108 #[.pointer (some ⟨B, 0, none⟩)] w fun e w' => ∃ aI cI aR cR o, e = .returned (.agg #[.int .i64 o.kind, .slice aI o.ints.length cI, .slice aR o.refs.length cR]) ∧ o.ints.length ≤ 3 ∧ o.refs.length ≤ 3 ∧ OwnO w' w.heap.size w'.heap.size aI cI aR cR o ∧ CurAt w' B zs ∧ w.grownBy w' (some B) := by
 have hB := hc.lt
 obtain ⟨W, hW, b0, hbW, hsW⟩ := boxes1 w [.int .i64 0, .slice none 0 0, .slice none 0 0] 37
 have hg0 : w.grownBy W (some B) := ⟨hbW.os, hbW.tape, hbW.output, hbW.size, fun k hk _ => hbW.block k hk⟩
 have hcW : CurAt W B zs := hc.below hbW
 have hsW' : w.heap.size < W.heap.size := by omega
 clear hsW hc
 go_enter Tryz.func108, Tryz.ntmps108
 go_wp2_with fail
 rw [hW.out]
 clear hW hbW
 refine (l1Below_any B zs 5 W hcW hl (by omega)).mono ?_
 rintro e w1 ⟨x, rfl, hx, hc1, hg1⟩
 have hx5 : (x : Int) < 5 := hx (by omega)
 have b1 : Box w1 w.heap.size _ _ := b0.block (hg1.block w.heap.size b0.lt (fun e => by cases e; omega))
 have hg01 := grownBy_trans hg0 hg1
 have hs1 := hg1.size
 clear hx b0 hg1 hg0 hcW
 obtain ⟨W2, hW2, b2, hbW2, hsW2⟩ := boxes1 w1 [.int .i64 (1 + (x : Int)), .slice none 0 0, .slice none 0 0] 37
 have hb1' := b1.below hbW2 b1.lt
 have hc2 : CurAt W2 B zs := hc1.below hbW2
 have hg2 : w.grownBy W2 (some B) := grownBy_new (row := none) hg01 ⟨hbW2.os, hbW2.tape, hbW2.output, hbW2.size, fun k hk _ => hbW2.block k hk⟩ (fun k e => by cases e)
 have ho2 : ObjAt W2 (w1.heap.size + 1) w1.heap.size ⟨1 + (x : Int), [], []⟩ none 0 none 0 := ⟨b2, ⟨ownI_nil _ _ _ (Nat.le_refl _), ownI_nil _ _ _ (Nat.le_refl _), fun k hk => by cases hk⟩, by omega⟩
 have hsW2' : w1.heap.size < W2.heap.size := by omega
 clear hsW2 b1 b2 hbW2 hg01 hc1
 go_wp2_with fail
 rw [hW2.out]
 clear hW2
 generalize 1 + (x : Int) = q at *
 generalize w1.heap.size = Bo at *
 refine (l1Below_any B zs 3 W2 hc2 hl (by omega)).mono ?_
 rintro e w3 ⟨y, rfl, hy, hc3, hg3⟩
 have hy3 : (y : Int) < 3 := hy (by omega)
 have hBB : B < Bo := by omega
 have hwB : w.heap.size < Bo := by omega
 have b3 : Box w3 w.heap.size _ _ := hb1'.block (hg3.block w.heap.size hb1'.lt (fun e => by cases e; omega))
 have ho3 := ho2.kept hg3 hBB
 have hgw3 := grownBy_trans hg2 hg3
 clear hy hb1' hc2 hg2 hg3 ho2 hsW2' hs1 hsW' hx5
 go_wp2_with fail
 go_loopw [4] (fun i wr => ∃ (k : Nat) (aI : Option Addr) (cI : Nat) (is : List Int), i = .int .i64 k ∧ k ≤ 2 ∧ is.length + k ≤ 2 ∧ ObjAt wr (Bo + 1) Bo ⟨q, is, []⟩ aI cI none 0 ∧ Box wr w.heap.size [.int .i64 0, .slice none 0 0, .slice none 0 0] 37 ∧ CurAt wr B zs ∧ w.grownBy wr (some B))
  (fun i _ => (intOf i).toNat)
 case atStart => exact ⟨y, none, 0, [], rfl, by omega, by simp; omega, ho3, b3, hc3, hgw3⟩
 case round =>
  obtain ⟨k, aI, cI, is, rfl, hk, hik, ho, hb, hcr, hgr⟩ := hrel
  clear ho3 b3 hc3 hgw3 hy3
  cases k with
  | zero =>
   have hil : is.length ≤ 2 := by omega
   clear hik hk
   go_wp2_with fail
   refine (l1Below_any B zs 4 wr hcr hl (by omega)).mono ?_
   rintro e w4 ⟨z, rfl, hz, hc4, hg4⟩
   have hz4 : (z : Int) < 4 := hz (by omega)
   have b4 := hb.grown hg4 (by omega)
   have ho4 := ho.kept hg4 hBB
   have hgw4 := grownBy_trans hgr hg4
   clear hz hcr hb ho hgr hg4
   go_wp2_with fail
   go_loopw [5] (fun i wr => ∃ (k : Nat) (aR : Option Addr) (cR : Nat) (rs : List Int), i = .int .i64 k ∧ k ≤ 3 ∧ rs.length + k ≤ 3 ∧ ObjAt wr (Bo + 1) Bo ⟨q, is, rs⟩ aI cI aR cR ∧ Box wr w.heap.size [.int .i64 0, .slice none 0 0, .slice none 0 0] 37 ∧ CurAt wr B zs ∧ w.grownBy wr (some B))
    (fun i _ => (intOf i).toNat)
   case atStart => exact ⟨z, none, 0, [], rfl, by omega, by simp; omega, ho4, b4, hc4, hgw4⟩
   case round =>
    clear ho4 b4 hc4 hgw4 hz4 w4
    rename_i _ wx
    obtain ⟨k, aR, cR, rs, rfl, hk, hik, ho, hb, hcr, hgr⟩ := hrel
    cases k with
    | zero =>
     have hrl : rs.length ≤ 3 := by omega
     clear hik hk
     obtain ⟨c0, c1, c2, _, _, _⟩ := ho.three
     obtain ⟨x0, x1, x2, g0, g1, g2⟩ := hb.three
     obtain ⟨WF, hWF, bF, hwF, hsF⟩ := box3_fill hb (.int .i64 q) (.slice aI is.length cI) (.slice aR rs.length cR)
     go_wp2
     rw [hWF.out]
     obtain ⟨q0, q1, q2, _, _, _⟩ := bF.three
     have hlo := ho.lt
     have hgF : wr.grownBy WF (some w.heap.size) := ⟨hwF.os, hwF.tape, hwF.output, hwF.size, fun k hk hn => hwF.block k hk (fun h => hn (by rw [show k = w.heap.size by omega]))⟩
     exact bodyPost_ret (v := .agg #[.int .i64 q, .slice aI is.length cI, .slice aR rs.length cR]) (by simp [results, Tryz.results108, go_sem, q0, q1, q2]) rfl ⟨aI, cI, aR, cR, ⟨q, is, rs⟩, rfl, by simp only; omega, hrl, (ho.own.kept hgF (by omega)).widen (by omega) (Nat.le_refl _) (Nat.le_refl _), hcr.kept hgF (fun k e => by cases e; exact hB), grownBy_new hgr hgF (fun k e => by cases e; exact Nat.le_refl _)⟩
    | succ m =>
     have hkp : (0 : Int) < ((m + 1 : Nat) : Int) := by omega
     obtain ⟨_, _, c2, _, _, f2⟩ := ho.three
     go_wp2_with fail
     go_region_law ((first
      | (go_simp; go_at_call 42; refine (l1Below_any B zs 32 _ (by exact hcr.drew) hl (by omega)).mono ?_; rintro e u1 ⟨x, rfl, hx, hc1, hg1⟩; have hg1' := grownBy_trans (grown_drew _ (some B)) hg1; have ho1 := ho.kept hg1' hBB; obtain ⟨_, _, d2, _, _, _⟩ := ho1.three; have dA := fun ob => (ho1.alloc ob).three.2.2.1)
      | (go_simp; go_at_call 38; refine (l1Int_any B zs _ _ [0, 1, 2, 3, 5, 8, 12, 31, (x : Int)] _ (hc1.alloc _) hl (readsI_lit u1 _ _) (fun b off e => by cases e; have := hc1.lt; omega) (by simp) (by simp)).mono ?_; rintro e u2 ⟨j, hj, rfl, hc2, hg2⟩; generalize List.getD _ j (0 : Int) = n; have hg2' := grownBy_trans (World.grownBy_alloc u1 _ (some B)) hg2; have ho2 := ho1.kept hg2' hBB; obtain ⟨_, _, d2, _, _, _⟩ := ho2.three; have dA := fun ob => (ho2.alloc ob).three.2.2.1)
      | (refine step_append_ints rfl (.tmp 33) (.tmp 39) (by rfl) (Bo + 1) _ aR cR rs (by rfl) (ho2.alloc _).own.refs _ _ [n] (by rfl) (readsI_lit u2 [n] _) (by intro h; cases h) (by simp; omega) (by have := ho2.box.lt; simp; omega) ?_; intro a3 c3 y3 u3 hy3 ho3 hg3 hat3; obtain ⟨⟨d2, f2⟩, hO, hC, hG, hT⟩ := (ho2.alloc _).pushR (hc2.alloc _) hBB (grownBy_new (grownBy_trans (grownBy_trans hgr hg1') hg2') (World.grownBy_alloc u2 _ none) (fun j e => by cases e)) (by omega) ho3 hg3 hat3)))
     all_goals
      have hbF := (((hb.grown hg1' (by omega)).grown hg2' (by omega)).alloc _).block (hT w.heap.size (by omega) (by omega) (((hb.grown hg1' (by omega)).grown hg2' (by omega)).alloc _).lt)
      have hyl : y3.length + m ≤ 3 := by have := congrArg List.length hy3.out; simp at this; omega
      clear hT hat3 hg3 ho3 dA d2 f2 hc1 hc2 ho1 ho2 hg1' hg2' hcr hgr hb ho hg1 hg2 hy3
      generalize u3.setCell _ _ = wf at *
      go_wp2_with fail
      go_roundw
      case rel => exact ⟨m, a3, c3, y3, by go_num, by omega, hyl, hO, hbF, hC, hG⟩
      case measure => simp [intOf]
  | succ m =>
   have hkp : (0 : Int) < ((m + 1 : Nat) : Int) := by omega
   obtain ⟨_, c1, _, _, f1, _⟩ := ho.three
   go_wp2_with fail
   go_region_law ((first
    | (go_simp; go_at_call 42; refine (l1Below_any B zs 50 _ (by exact hcr.drew) hl (by omega)).mono ?_; rintro e u1 ⟨x, rfl, hx, hc1, hg1⟩; have hg1' := grownBy_trans (grown_drew wr (some B)) hg1; have ho1 := ho.kept hg1' hBB; obtain ⟨_, d1, _, _, _, _⟩ := ho1.three; have dA := fun ob => (ho1.alloc ob).three.2.1)
    | (go_simp; go_at_call 38; refine (l1Int_any B zs _ _ [0, 1, -1, 7, 1000000, -1000000, (x : Int)] _ (hc1.alloc _) hl (readsI_lit u1 _ _) (fun b off e => by cases e; have := hc1.lt; omega) (by simp) (by simp)).mono ?_; rintro e u2 ⟨j, hj, rfl, hc2, hg2⟩; generalize List.getD _ j (0 : Int) = n; have hg2' := grownBy_trans (World.grownBy_alloc u1 _ (some B)) hg2; have ho2 := ho1.kept hg2' hBB; obtain ⟨_, d1, _, _, _, _⟩ := ho2.three; have dA := fun ob => (ho2.alloc ob).three.2.1)
    | (refine step_append_ints rfl (.tmp 17) (.tmp 23) (by rfl) (Bo + 1) _ aI cI is (by rfl) (ho2.alloc _).own.ints _ _ [n] (by rfl) (readsI_lit u2 [n] _) (by intro h; cases h) (by simp; omega) (by have := ho2.box.lt; simp; omega) ?_; intro a3 c3 y3 u3 hy3 ho3 hg3 hat3; obtain ⟨⟨d1, f1⟩, hO, hC, hG, hT⟩ := (ho2.alloc _).pushI (hc2.alloc _) hBB (grownBy_new (grownBy_trans (grownBy_trans hgr hg1') hg2') (World.grownBy_alloc u2 _ none) (fun j e => by cases e)) (by omega) ho3 hg3 hat3)))
   all_goals
    have hbF := (((hb.grown hg1' (by omega)).grown hg2' (by omega)).alloc _).block (hT w.heap.size (by omega) (by omega) (((hb.grown hg1' (by omega)).grown hg2' (by omega)).alloc _).lt)
    have hyl : y3.length + m ≤ 2 := by have := congrArg List.length hy3.out; simp at this; omega
    clear hT hat3 hg3 ho3 dA d1 f1 hc1 hc2 ho1 ho2 hg1' hg2' hcr hgr hb ho hg1 hg2 hy3
    generalize u3.setCell _ _ = wf at *
    go_wp2_with fail
    go_roundw
    case rel => exact ⟨m, a3, c3, y3, by go_num, by omega, hyl, hO, hbF, hC, hG⟩
    case measure => simp [intOf]
end Go.Proofs.YtickiokdcbeefaaGreatDoor
namespace Go.Proofs.YtickiokdcbeefaaGreatDoor
open Go.RowKit
attribute [local go_sem ↓] Go.wp_at_zero Go.wp_at_succ
end Go.Proofs.YtickiokdcbeefaaGreatDoor
namespace Go.Proofs.YtickiokdcbeefaaGreatDoor
open Go.RowKit
theorem l1Once_any (B : Nat) (zs : List Int) (n : Int) (w : World) (hc : CurAt w B zs) (hl : zs.length ≤ 70368744177664) (hn : n ≤ 1000000000) :
  Calls Tryz.prog 66 #[.pointer (some ⟨B, 0, none⟩), .int .i64 n] w fun e w' => ∃ b : Bool, e = .returned (.bool b) ∧ CurAt w' B zs ∧ w.grownBy w' (some B) := by
 go_enter Tryz.func66, Tryz.ntmps66
 go_wp2_with fail
 refine (l1Below_any B zs n w hc hl hn).mono ?_
 rintro e w1 ⟨x, rfl, _, hc1, hg1⟩
 go_wp2
 go_ret
 exact ⟨_, rfl, hc1, hg1⟩
theorem CurAt.within {w w' : World} {B l r : Nat} {zs : List Int} (h : CurAt w B zs) (hw : Within l r w w') (hl : B < l) : CurAt w' B zs := by
 have hB := h.lt
 obtain ⟨a, c, i, h, hh, hi, hr, hlt⟩ := h
 refine ⟨a, c, i, h, ?_, hi, ⟨hr.1, fun e => ?_⟩, hlt⟩
 ·rw [hw.block B hB (by omega)]; exact hh
 ·obtain ⟨b, off, ha, hc⟩ := hr.2 e
  refine ⟨b, off, ha, fun j hj => ?_⟩
  have h1 := hlt e b off ha
  have := World.cell?_of_block (w := w) (w' := w') (a := ⟨b, off + j, none⟩) (hw.block b (block_lt (hc j hj)) (by omega))
  rw [this]
  exact hc j hj
theorem within_cur {w w' : World} {B : Nat} (h : w.grownBy w' (some B)) : Within B (B + 1) w w' := Within.of_grown h (fun k hk => by cases hk; omega)
theorem Within.new {B l r : Nat} {w w1 w2 : World} (h : Within B (B + 1) w w1) (h2 : Within l r w1 w2) (hl : w.heap.size ≤ l) : Within B (B + 1) w w2 :=
 ⟨h2.os.trans h.os, h2.tape.trans h.tape, h2.output.trans h.output, Nat.le_trans h.size h2.size, fun k hk hn => (h2.block k (Nat.lt_of_lt_of_le hk h.size) (by omega)).trans (h.block k hk hn)⟩
theorem l3DrawSlot_any (B : Nat) (zs : List Int) (w : World) (hc : CurAt w B zs) (hl : zs.length ≤ 70368744177664) :
  Calls Tryz.prog 95 #[.pointer (some ⟨B, 0, none⟩)] w fun e w' => ∃ t : SlotA, e = .returned (.agg t.cells.toArray) ∧ (t.v.o.ints.length ≤ 3 ∧ t.v.o.refs.length ≤ 3) ∧ t.own w' w.heap.size w'.heap.size ∧ CurAt w' B zs ∧ Within B (B + 1) w w' := by
 have hB := hc.lt
 obtain ⟨W, hW, b0, hbW, hsW⟩ := boxes1 w [.bool false, .int .i64 0, .slice none 0 0, .slice none 0 0] 39
 have hcW : CurAt W B zs := hc.below hbW
 have hsW' : w.heap.size < W.heap.size := by omega
 clear hsW hc
 go_enter Tryz.func95, Tryz.ntmps95
 go_wp2_with fail
 rw [hW.out]
 clear hW
 refine (l1Once_any B zs 3 W hcW hl (by omega)).mono ?_
 rintro e w1 ⟨bb, rfl, hc1, hg1⟩
 have hw1 := within_cur hg1
 have hs1 := hw1.size
 have b1 := b0.within hw1 (by omega)
 have HW1 : Within B (B + 1) w w1 := (Within.of_below hbW).trans hw1
 clear b0 hg1 hw1 hcW hbW
 cases bb with
 | true =>
  obtain ⟨x0, x1, x2, x3, f0, f1, f2, f3⟩ := b1.four
  obtain ⟨WF, hWF, bF, hwF, hsF⟩ := box4_fill b1 (.bool false) (.int .i64 0) (.slice none 0 0) (.slice none 0 0)
  have HC : Hid (CurAt WF B zs) := hc1.within hwF (by omega)
  have HWF : Hid (Within B (B + 1) w WF) := HW1.new hwF (Nat.le_refl _)
  clear hwF HW1 hc1 b1
  go_wp2
  rw [hWF.out]
  obtain ⟨q0, q1, q2, q3, _⟩ := bF.four
  exact bodyPost_ret (v := .agg #[.bool false, .int .i64 0, .slice none 0 0, .slice none 0 0]) (by simp [results, Tryz.results95, go_sem, q0, q1, q2, q3]) rfl ⟨zeroS, rfl, ⟨by simp [zeroS], by simp [zeroS]⟩, ⟨ownI_nil _ _ _ (Nat.le_refl _), ownI_nil _ _ _ (Nat.le_refl _), fun k hk => by cases hk⟩, HC.out, HWF.out⟩
 | false =>
  go_wp2_with fail
  refine (l2Obj_any B zs w1 hc1 hl).mono ?_
  rintro e w2 ⟨aI, cI, aR, cR, o, rfl, hlI, hlR, ho2, hc2, hg2⟩
  have hw2 := within_cur hg2
  have hs2 := hw2.size
  have b2 := b1.within hw2 (by omega)
  have HW2 : Within B (B + 1) w w2 := HW1.trans hw2
  obtain ⟨x0, x1, x2, x3, f0, f1, f2, f3⟩ := b2.four
  obtain ⟨WF, hWF, bF, hwF, hsF⟩ := box4_fill b2 (.bool true) (.int .i64 o.kind) (.slice aI o.ints.length cI) (.slice aR o.refs.length cR)
  have HC : Hid (CurAt WF B zs) := hc2.within hwF (by omega)
  have HWF : Hid (Within B (B + 1) w WF) := HW2.new hwF (Nat.le_refl _)
  have HOF : Hid (OwnO WF w.heap.size WF.heap.size aI cI aR cR o) := (ho2.within hwF (.inr (by omega))).widen (by omega) (by omega) (Nat.le_refl _)
  clear hwF HW1 HW2 hc1 hc2 b1 b2 hg2 hw2 ho2
  go_wp2
  rw [hWF.out]
  obtain ⟨q0, q1, q2, q3, _⟩ := bF.four
  exact bodyPost_ret (v := .agg #[.bool true, .int .i64 o.kind, .slice aI o.ints.length cI, .slice aR o.refs.length cR]) (by simp [results, Tryz.results95, go_sem, q0, q1, q2, q3]) rfl ⟨⟨⟨true, o⟩, aI, cI, aR, cR⟩, rfl, ⟨hlI, hlR⟩, HOF.out, HC.out, HWF.out⟩
theorem implGetInt_any (a : Option Addr) (c : Nat) (zs : List Int) (p : Int) (w : World) (hr : Reads w a zs) (hl : zs.length ≤ 70368744177664) (hcap : zs.length ≤ c) :
  Calls Tryz.prog 136 #[.slice a zs.length c, .int .i64 p] w fun e w' => e = .returned (triple (getAt zs p)) ∧ w' = w := by
 cases hg : getAt zs p with
 | some r =>
  obtain ⟨n, k⟩ := r
  have HS : Hid (scanOf zs p = _) := (show scanOf zs p = scanOk (n, k) from by unfold scanOf; rw [hg])
  clear hg
  go_enter Tryz.func136, Tryz.ntmps136
  go_wp2_with fail
  refine (scanInt_any a c zs p w hr hl hcap).mono ?_
  rintro e w' ⟨rfl, rfl⟩
  rw [HS.out]
  simp only [scanOk]
  go_wp2
  go_ret3
  exact ⟨rfl, rfl⟩
 | none =>
  have HS : Hid (scanOf zs p = _) := scan_none zs p hg _ rfl
  have hw : (scanWhy zs p == 0) = false := by unfold scanWhy; split <;> rfl
  clear hg
  generalize scanWhy zs p = y at *
  go_enter Tryz.func136, Tryz.ntmps136
  go_wp2_with fail
  refine (scanInt_any a c zs p w hr hl hcap).mono ?_
  rintro e w' ⟨rfl, rfl⟩
  rw [HS.out]
  go_wp2
  go_ret3
  exact ⟨rfl, rfl⟩
def setAll (w : World) : List (Nat × Nat) → List Int → World
 | x :: xs, z :: zs => setAll (w.setCell ⟨x.1, x.2, none⟩ (.int .i64 z)) xs zs
 | [], _ => w
 | _ :: _, [] => w
theorem setAll_snoc (ad : List (Nat × Nat)) : ∀ (l : List Int) (w : World) (x : Nat × Nat) (z : Int), ad.length = l.length → setAll w (ad ++ [x]) (l ++ [z]) = (setAll w ad l).setCell ⟨x.1, x.2, none⟩ (.int .i64 z) := by
 induction ad with
 | nil => intro l w x z h; cases l with
  | nil => rfl
  | cons y r => simp at h
 | cons a r ih => intro l w x z h; cases l with
  | nil => simp at h
  | cons y s => simp only [List.cons_append, setAll]; exact ih s _ x z (by simpa using h)
theorem setAll_within {lo hi : Nat} (ad : List (Nat × Nat)) : ∀ (l : List Int) (w : World), (∀ x ∈ ad, lo ≤ x.1 ∧ x.1 < hi) → Within lo hi w (setAll w ad l) := by
 induction ad with
 | nil => intro l w _; exact Within.refl _ _ _
 | cons a r ih => intro l w h; cases l with
  | nil => exact Within.refl _ _ _
  | cons y s =>
   have ha := h a (by simp)
   have h1 : Within lo hi w (w.setCell ⟨a.1, a.2, none⟩ (.int .i64 y)) := within_set w a.1 a.2 (.int .i64 y) ha
   exact h1.trans (ih s _ (fun x hx => h x (by simp [hx])))
theorem setAll_cell (ad : List (Nat × Nat)) : ∀ (l : List Int) (w : World) (a : Addr), (w.cell? a).isSome = true → ((setAll w ad l).cell? a).isSome = true := by
 induction ad with
 | nil => intro l w a h; exact h
 | cons x r ih => intro l w a h; cases l with
  | nil => exact h
  | cons y s => exact ih s _ a (World.isSome_setCells x.1 [.int .i64 y] x.2 w a h)
theorem setAll_frozen (ad : List (Nat × Nat)) : ∀ (l : List Int) (w : World) (a : Addr), (setAll w ad l).frozen? a = w.frozen? a := by
 induction ad with
 | nil => intro l w a; rfl
 | cons x r ih => intro l w a; cases l with
  | nil => rfl
  | cons y s => simp only [setAll]; rw [ih]; simp
def IntsAns (w w' : World) (ad : List (Nat × Nat)) (x : Option (List Int × Nat)) (e : Ending) : Prop := match x with
 | some (l, q) => e = .returned (.tuple #[.int .i64 (q : Nat), .bool true]) ∧ w' = setAll w ad l ∧ l.length = ad.length
 | none => e = .returned (.tuple #[.int .i64 0, .bool false]) ∧ ∃ l : List Int, l.length ≤ ad.length ∧ w' = setAll w (ad.take l.length) l
theorem intsAns_none {w w' : World} {ad : List (Nat × Nat)} {x : Option (List Int × Nat)} (h : x = none) (l : List Int) (hl : l.length ≤ ad.length) (hw : w' = setAll w (ad.take l.length) l) : IntsAns w w' ad x (.returned (.tuple #[.int .i64 0, .bool false])) := by subst h; exact ⟨rfl, l, hl, hw⟩
theorem intsAns_some {w w' : World} {ad : List (Nat × Nat)} {x : Option (List Int × Nat)} {l : List Int} {q : Nat} (h : x = some (l, q)) (hw : w' = setAll w ad l) (hl : l.length = ad.length) : IntsAns w w' ad x (.returned (.tuple #[.int .i64 (q : Nat), .bool true])) := by subst h; exact ⟨rfl, hw, hl⟩
theorem readInts_any (a : Option Addr) (c : Nat) (zs : List Int) (p P cP lo hi : Nat) (ad : List (Nat × Nat)) (w : World) (hrl : ∀ u, Within lo hi w u → Reads u a zs) (hl : zs.length ≤ 70368744177664) (hcap : zs.length ≤ c) (hm : ad.length ≤ 1000)
  (tP : TypeId) (hP : Box w P (ad.map fun x => Value.pointer (some ⟨x.1, x.2, none⟩)) tP) (hPo : P < lo ∨ hi ≤ P)
  (has : ∀ x ∈ ad, (lo ≤ x.1 ∧ x.1 < hi) ∧ (w.cell? ⟨x.1, x.2, none⟩).isSome = true ∧ w.frozen? ⟨x.1, x.2, none⟩ = false) :
  Calls Tryz.prog 121 #[.slice a zs.length c, .int .i64 (p : Int), .slice (some ⟨P, 0, none⟩) ad.length cP] w fun e w' => IntsAns w w' ad (numsAt zs ad.length p) e ∧ Within lo hi w w' := by
 have HW : Hid (∀ k l, Within lo hi w (setAll w (ad.take k) l)) := fun k l => setAll_within _ l w (fun x hx => (has x (List.mem_of_mem_take hx)).1)
 have HAS : Hid (_) := has
 have HPP : Hid (∀ i u, i < ad.length → Within lo hi w u → u.cell? ⟨P, i, none⟩ = some (.pointer (some ⟨(ad.getD i (0, 0)).1, (ad.getD i (0, 0)).2, none⟩))) := fun i u hi hu => (hP.within hu (by omega)).cell i _ (by simp [List.getD, hi])
 have HRL : Hid (_) := hrl
 clear hP has hrl
 go_enter Tryz.func121, Tryz.ntmps121
 go_wp2
 go_loopw [1, 15] (fun t i wr => ∃ (k q : Nat) (l : List Int), k ≤ ad.length ∧ i = .int .i64 k ∧ t = .int .i64 q ∧ Hid (l.length = k ∧ numsAt zs ad.length p = onTo l (numsAt zs (ad.length - k) q)) ∧ wr = setAll w (ad.take k) l) (fun _ i _ => ad.length - (intOf i).toNat)
 case atStart => exact ⟨0, p, [], Nat.zero_le _, rfl, rfl, ⟨rfl, by rw [onTo_nil]; rfl⟩, by simp [setAll]⟩
 case round =>
  obtain ⟨k, q, l, hk, rfl, rfl, hln, rfl⟩ := hrel
  by_cases hlt : k < ad.length
  ·have c0 := HPP.out k _ hlt (HW.out k l)
   have hrd := HRL.out _ (HW.out k l)
   have hx := HAS.out (ad.getD k (0, 0)) (by simp [List.getD, hlt])
   obtain ⟨old, hold⟩ := Option.isSome_iff_exists.1 (setAll_cell (ad.take k) l w _ hx.2.1)
   have hfz : (setAll w (ad.take k) l).frozen? ⟨(ad.getD k (0, 0)).1, (ad.getD k (0, 0)).2, none⟩ = false := by rw [setAll_frozen]; exact hx.2.2
   have HSN : Hid (∀ z, setAll w (ad.take (k + 1)) (l ++ [z]) = (setAll w (ad.take k) l).setCell ⟨(ad.getD k (0, 0)).1, (ad.getD k (0, 0)).2, none⟩ (.int .i64 z)) := fun z => by
    have e : ad.take (k + 1) = ad.take k ++ [ad.getD k (0, 0)] := by rw [List.take_add_one]; simp [List.getD, hlt]
    rw [e]
    exact setAll_snoc _ l w _ z (by rw [List.length_take, hln.out.1]; omega)
   have HRK : Hid (ad.length - k = (ad.length - (k + 1)) + 1) := by rw [Hid]; omega
   have C := implGetInt_any a c zs (q : Int) (setAll w (ad.take k) l) hrd hl hcap
   have HWk : Hid (_) := HW.out k l
   have HWE : Hid (l.length ≤ ad.length ∧ setAll w (ad.take k) l = setAll w (ad.take l.length) l) := ⟨by rw [hln.out.1]; exact hk, by rw [hln.out.1]⟩
   clear HPP HAS hx
   generalize ad.getD k (0, 0) = x at *
   cases hgt : getAt zs (q : Int) with
   | none =>
    have HX : Hid (numsAt zs ad.length p = none) := by rw [Hid, hln.out.2, HRK.out]; exact onTo_stop zs l _ q hgt
    rw [hgt] at C
    simp only [triple] at C
    generalize setAll w (ad.take k) l = wr at *
    go_wp2_with fail
    refine C.mono ?_
    rintro e u ⟨rfl, hu⟩
    rw [hu]
    clear hu u
    go_wp2
    go_ret2
    exact ⟨intsAns_none HX.out l HWE.out.1 HWE.out.2, HWk.out⟩
   | some g =>
    obtain ⟨z, q2⟩ := g
    have HX : Hid (numsAt zs ad.length p = onTo (l ++ [z]) (numsAt zs (ad.length - (k + 1)) q2)) := by rw [Hid, hln.out.2, HRK.out]; exact onTo_step zs l _ q q2 z hgt
    rw [hgt] at C
    simp only [triple] at C
    have HS := HSN.out z
    generalize setAll w (ad.take k) l = wr at *
    go_wp2_with fail
    refine C.mono ?_
    rintro e u ⟨rfl, hu⟩
    rw [hu]
    clear hu u
    go_wp2
    go_roundw
    case rel => exact ⟨k + 1, q2, l ++ [z], by omega, by go_num, rfl, ⟨by simp [hln.out.1], HX.out⟩, HS.symm⟩
    case measure => simp [intOf]; omega
  ·obtain rfl : k = ad.length := by omega
   have HX : Hid (numsAt zs ad.length p = some (l, q)) := by rw [Hid, hln.out.2, Nat.sub_self]; simp [numsAt, onTo]
   have HT : Hid (ad.take ad.length = ad) := List.take_length
   rw [HT.out]
   have HWk : Hid (Within lo hi w (setAll w ad l)) := by have := HW.out ad.length l; rw [HT.out] at this; exact this
   go_wp2
   go_ret2
   exact ⟨intsAns_some HX.out rfl hln.out.1, HWk.out⟩
end Go.Proofs.YtickiokdcbeefaaGreatDoor
namespace Go.Proofs.YtickiokdcbeefaaGreatDoor
def sBytes (s : ByteArray) : List Int := s.data.toList.map fun b => (b.toNat : Int)
theorem sBytes_len (s : ByteArray) : (sBytes s).length = s.size := by
 rw [sBytes, List.length_map, Array.length_toList]; rfl
theorem sBytes_byte (s : ByteArray) : ∀ z ∈ sBytes s, 0 ≤ z ∧ z < 256 := by
 intro z hz
 simp only [sBytes, List.mem_map] at hz
 obtain ⟨b, _, rfl⟩ := hz
 have := b.toNat_lt
 omega
theorem sBytes_extract (s : ByteArray) (a b : Nat) : sBytes (s.extract a b) = ((sBytes s).drop a).take (b - a) := by
 unfold sBytes
 rw [ByteArray.data_extract, Array.toList_extract, List.map_take, List.map_drop]
theorem sBytes_step (s : ByteArray) (f p : Nat) (h : f ≤ p) : (sBytes s).take f ++ sBytes (s.extract f p) = (sBytes s).take p := by
 rw [sBytes_extract, ← List.take_add, Nat.add_sub_cancel' h]
theorem sBytes_rest (s : ByteArray) (f : Nat) (h : f ≤ s.size) : (sBytes s).take f ++ sBytes (s.extract f s.size) = sBytes s := by
 rw [sBytes_step s f s.size h, List.take_of_length_le (by rw [sBytes_len]; exact Nat.le_refl _)]
end Go.Proofs.YtickiokdcbeefaaGreatDoor
namespace Go.Proofs.YtickiokdcbeefaaGreatDoor
open Go.RowKit
def strOf (G : List Int) : ByteArray := ⟨(G.map fun z => UInt8.ofNat z.toNat).toArray⟩
theorem run_text (w : World) (b off cap : Nat) (G : List Int) (n : Nat) (hn : n = G.length) (hr : Reads w (some ⟨b, off, none⟩) G) :
  (convert 22 9 (.slice (some ⟨b, off, none⟩) n cap)).run Tryz.prog w = .ok (.string (strOf G)) w := by
 have h := run_convert_bytes_back (P := Tryz.prog) w 22 9 5 ⟨b, off, none⟩ cap (G.map fun z => UInt8.ofNat z.toNat) Tryz.underlying22 Tryz.underlying5 Tryz.underlying9 ?_
 ·rw [List.length_map] at h
  rw [hn, h]
  rfl
 ·intro j hj
  rw [List.length_map] at hj
  have hne : G ≠ [] := by intro e; simp [e] at hj
  obtain ⟨b', off', hh, hc⟩ := hr.2 hne
  cases hh
  have hadd : (⟨b, off, none⟩ : Addr).add j = ⟨b, off + j, none⟩ := by unfold Addr.add; split <;> simp_all
  rw [hadd, hc j hj]
  have hb := bytes_nat hr.1 j
  have hg : G.getD j 0 = G[j] := by simp [List.getD, hj]
  rw [hg] at hb
  simp only [List.getElem_map, hg]
  have : (UInt8.ofNat G[j].toNat).toNat = G[j].toNat := by simp; omega
  rw [this, ← hb.1]
theorem run_text_own {w : World} {base : Nat} {a : Option Addr} {c : Nat} {ys : List Int} (h : OwnB w base a c ys) :
  (convert 22 9 (.slice a ys.length c)).run Tryz.prog w = .ok (.string (strOf ys)) w := by
 cases a with
 | none =>
  have hn : ys = [] := by
   by_cases e : ys = []
   ·exact e
   ·obtain ⟨b, off, hh, _⟩ := h.reads.2 e
    cases hh
  subst hn
  exact Lib.run_convert_nil_bytes (P := Tryz.prog) w 22 9 5 c Tryz.underlying22 Tryz.underlying5 Tryz.underlying9
 | some x =>
  rcases h.2.2 with ⟨hv, _⟩ | ⟨g, cap, cur, hv, _⟩
  ·simp at hv
  ·simp only [Value.slice.injEq, Option.some.injEq] at hv
   obtain ⟨rfl, _, rfl⟩ := hv
   exact run_text w g 0 c ys _ rfl h.reads
def textOf (zs : List Int) (p : Int) : Value := match getAt zs p with
 | some r => if 0 ≤ r.1 ∧ r.1 ≤ (zs.length : Int) - (r.2 : Int) then .tuple #[.string (strOf ((zs.drop r.2).take r.1.toNat)), .int .i64 ((r.2 : Int) + r.1), .bool true] else .tuple #[.string ⟨#[]⟩, .int .i64 0, .bool false]
 | none => .tuple #[.string ⟨#[]⟩, .int .i64 0, .bool false]
theorem implGetText_any (a : Option Addr) (c : Nat) (zs : List Int) (p : Int) (w : World) (hr : Reads w a zs) (hl : zs.length ≤ 70368744177664) (hcap : zs.length ≤ c) :
  Calls Tryz.prog 137 #[.slice a zs.length c, .int .i64 p] w fun e w' => e = .returned (textOf zs p) ∧ w' = w := by
 cases hg : getAt zs p with
 | none =>
  have HT : Hid (textOf zs p = _) := (show textOf zs p = .tuple #[.string ⟨#[]⟩, .int .i64 0, .bool false] from by unfold textOf; rw [hg])
  have HG : Hid (_ = _) := hg
  clear hg
  go_enter Tryz.func137, Tryz.ntmps137
  go_wp2_with fail
  refine (implGetInt_any a c zs p w hr hl hcap).mono ?_
  rintro e w' ⟨rfl, rfl⟩
  rw [HG.out]
  simp only [triple]
  go_wp2
  go_ret3
  exact ⟨by rw [HT.out]; rfl, rfl⟩
 | some r =>
  obtain ⟨n, k⟩ := r
  obtain ⟨hk, hn1, hn2⟩ := getAt_bd zs p n k hg
  have HG : Hid (_ = _) := hg
  by_cases h0 : n < 0
  ·have HT : Hid (textOf zs p = _) := (show textOf zs p = .tuple #[.string ⟨#[]⟩, .int .i64 0, .bool false] from by unfold textOf; rw [hg]; simp only; rw [if_neg (by omega)])
   clear hg
   go_enter Tryz.func137, Tryz.ntmps137
   go_wp2_with fail
   refine (implGetInt_any a c zs p w hr hl hcap).mono ?_
   rintro e w' ⟨rfl, rfl⟩
   rw [HG.out]
   simp only [triple]
   go_wp2
   go_ret3
   exact ⟨by rw [HT.out]; rfl, rfl⟩
  obtain ⟨m, rfl⟩ := Int.eq_ofNat_of_zero_le (show 0 ≤ n from by omega)
  by_cases h1 : (zs.length : Int) - (k : Int) < (m : Int)
  ·have HT : Hid (textOf zs p = _) := (show textOf zs p = .tuple #[.string ⟨#[]⟩, .int .i64 0, .bool false] from by unfold textOf; rw [hg]; simp only; rw [if_neg (by omega)])
   clear hg
   go_enter Tryz.func137, Tryz.ntmps137
   go_wp2_with fail
   refine (implGetInt_any a c zs p w hr hl hcap).mono ?_
   rintro e w' ⟨rfl, rfl⟩
   rw [HG.out]
   simp only [triple]
   go_wp2
   go_ret3
   exact ⟨by rw [HT.out]; rfl, rfl⟩
  have HT : Hid (textOf zs p = _) := (show textOf zs p = .tuple #[.string (strOf ((zs.drop k).take m)), .int .i64 ((k : Int) + (m : Int)), .bool true] from by unfold textOf; rw [hg]; simp only; rw [if_pos (by omega), Int.toNat_natCast])
  rcases hr.cases with rfl | ⟨b, off, rfl, hpos, hcell⟩
  ·simp [getAt, getOf, lead] at hg
  have hrp := reads_part hr.byte hcell k m (by omega)
  have hml : ((zs.drop k).take m).length = m := by simp; omega
  clear hg hcell
  generalize (zs.drop k).take m = G at *
  have HML : Hid (G.length = m) := hml
  clear hml
  by_cases hck : c = k
  ·have hm0 : m ≤ 0 := by omega
   have hG : G = [] := by have := HML.out; exact List.length_eq_zero_iff.1 (by omega)
   have HGE : Hid (strOf G = strOf []) := by rw [hG]; rfl
   have hcA : ∀ cap, (convert 22 9 (.slice (some ⟨b, off, none⟩) (k + m - k) cap)).run Tryz.prog w = .ok (.string (strOf [])) w := fun cap => run_text w b off cap [] _ (by simp; omega) ⟨by simp, by simp⟩
   have hcB : ∀ cap, (convert 22 9 (.slice (some ⟨b, off, none⟩) m cap)).run Tryz.prog w = .ok (.string (strOf [])) w := fun cap => run_text w b off cap [] _ (by simp; omega) ⟨by simp, by simp⟩
   clear hG hrp
   subst hck
   go_enter Tryz.func137, Tryz.ntmps137
   go_wp2_with fail
   refine (implGetInt_any (some ⟨b, off, none⟩) c zs p w hr hl hcap).mono ?_
   rintro e w' ⟨rfl, rfl⟩
   rw [HG.out]
   simp only [triple]
   go_wp2
   go_ret3
   exact ⟨by rw [HT.out, HGE.out]; rfl, rfl⟩
  ·have hcA : ∀ cap, (convert 22 9 (.slice (some ⟨b, off + k, none⟩) (k + m - k) cap)).run Tryz.prog w = .ok (.string (strOf G)) w := fun cap => run_text w b (off + k) cap G _ (by have := HML.out; omega) hrp
   have hcB : ∀ cap, (convert 22 9 (.slice (some ⟨b, off + k, none⟩) m cap)).run Tryz.prog w = .ok (.string (strOf G)) w := fun cap => run_text w b (off + k) cap G _ HML.out.symm hrp
   clear hrp
   go_enter Tryz.func137, Tryz.ntmps137
   go_wp2_with fail
   refine (implGetInt_any (some ⟨b, off, none⟩) c zs p w hr hl hcap).mono ?_
   rintro e w' ⟨rfl, rfl⟩
   rw [HG.out]
   simp only [triple]
   go_wp2
   go_ret3
   exact ⟨by rw [HT.out]; rfl, rfl⟩
end Go.Proofs.YtickiokdcbeefaaGreatDoor
namespace Go.Proofs.YtickiokdcbeefaaGreatDoor
open Go.RowKit
end Go.Proofs.YtickiokdcbeefaaGreatDoor