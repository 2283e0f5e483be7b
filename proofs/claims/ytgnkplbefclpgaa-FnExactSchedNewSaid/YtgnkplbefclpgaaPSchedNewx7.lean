/- Several texts in one, in their order. -/
import Derived.Test.YtgnkplbefclpgaaPSchedNewx3
import Derived.Test.YtgnkplbefclpgaaPSchedNewx2
import Derived.Test.YtgnkplbefclpgaaPSchedNewx4
import Derived.Deep.QuietTactic
import Derived.BigQuiet
import Derived.Test.YtgnkplbefclpgaaPSchedNewx1
import Derived.Deep.AppendLies
import Derived.Laws.AppendOwnNone
import Derived.Deep.RegionHeld3
import Derived.Test.YtgnkplbefclpgaaPSchedNewx6
import Derived.Test.YtgnkplbefclpgaaPSchedNewx5
import Derived.Laws.CopyOwn
import Derived.Deep.RegionHeld
set_option maxHeartbeats 8000000
set_option maxRecDepth 100000
namespace Go.Proofs.Ytgnkplbefclpgaa
open Go.RowKit
structure HoldV where
 tx : Int
 oid : Int
def HoldV.cells (l : HoldV) : List Value := [.int .i64 l.tx, .int .i64 l.oid]
def zeroH : HoldV := ⟨0, 0⟩
def cellsH (ls : List HoldV) : List Value := ls.flatMap HoldV.cells
theorem cellsH_at (ls : List HoldV) (k j : Nat) (hk : k < ls.length) (hj : j < 2) : (cellsH ls)[k * 2 + j]? = (ls.getD k zeroH).cells[j]? := by
 induction ls generalizing k with
 | nil => simp at hk
 | cons s r ih =>
  have e : cellsH (s :: r) = s.cells ++ cellsH r := by simp [cellsH]
  have l3 : s.cells.length = 2 := rfl
  rw [e]
  cases k with
  | zero => rw [List.getElem?_append_left (by rw [l3]; omega)]; simp
  | succ k =>
   rw [List.getElem?_append_right (by rw [l3]; omega), l3]
   have := ih k (by simpa using hk)
   rw [show (k + 1) * 2 + j - 2 = k * 2 + j by omega, this]
   simp
theorem cellsH_set (ls : List HoldV) (k : Nat) (hk : k < ls.length) (t : HoldV) :
  ((cellsH ls).set (k * 2) (.int .i64 t.tx)).set (k * 2 + 1) (.int .i64 t.oid) = cellsH (ls.set k t) := by
 induction ls generalizing k with
 | nil => simp at hk
 | cons s r ih =>
  cases k with
  | zero => simp [cellsH, HoldV.cells]
  | succ k =>
   have := ih k (by simpa using hk)
   have e2 : ∀ x, cellsH (s :: x) = s.cells ++ cellsH x := fun x => by simp [cellsH]
   have l3 : s.cells.length = 2 := rfl
   rw [e2, List.set_append_right _ _ (by rw [l3]; omega), List.set_append_right _ _ (by rw [l3]; omega), l3, show (k + 1) * 2 - 2 = k * 2 by omega, show (k + 1) * 2 + 1 - 2 = k * 2 + 1 by omega, this, List.set_cons_succ, e2]
def ReadsH (w : World) (a : Option Addr) (ls : List HoldV) : Prop := ls ≠ [] → ∃ b off, a = some ⟨b, off, none⟩ ∧ ∀ k, k < ls.length → w.cell? ⟨b, off + k * 2, none⟩ = some (.int .i64 (ls.getD k zeroH).tx) ∧ w.cell? ⟨b, off + k * 2 + 1, none⟩ = some (.int .i64 (ls.getD k zeroH).oid)
theorem ReadsH.nil (w : World) (a : Option Addr) : ReadsH w a [] := fun h => absurd rfl h
theorem ReadsH.below {w w' : World} {a : Option Addr} {ls : List HoldV} (h : ReadsH w a ls) (hb : Below w.heap.size w w') : ReadsH w' a ls := by
 intro hne
 obtain ⟨b, off, ha, hc⟩ := h hne
 refine ⟨b, off, ha, fun k hk => ?_⟩
 obtain ⟨h0, h1⟩ := hc k hk
 have hlt := block_lt h0
 exact ⟨by rw [hb.cell (p := ⟨b, off + k * 2, none⟩) hlt]; exact h0, by rw [hb.cell (p := ⟨b, off + k * 2 + 1, none⟩) hlt]; exact h1⟩
theorem ReadsH.cases {w : World} {a : Option Addr} {ls : List HoldV} (h : ReadsH w a ls) : ls = [] ∨ ∃ b off, a = some ⟨b, off, none⟩ ∧ 0 < ls.length ∧ ∀ k, k < ls.length → w.cell? ⟨b, off + k * 2, none⟩ = some (.int .i64 (ls.getD k zeroH).tx) ∧ w.cell? ⟨b, off + k * 2 + 1, none⟩ = some (.int .i64 (ls.getD k zeroH).oid) := by
 by_cases e : ls = []
 ·exact .inl e
 ·obtain ⟨b, off, ha, hc⟩ := h e
  exact .inr ⟨b, off, ha, List.length_pos_iff.2 e, hc⟩
def OwnH (w : World) (lo hi : Nat) (a : Option Addr) (c : Nat) (ls : List HoldV) : Prop :=
 w.ownsRow lo 99 2 (.slice a ls.length c) ls.length (cellsH ls) ∧ hi ≤ w.heap.size ∧ ∀ k, (Value.slice a ls.length c).ownBlock = some k → k < hi
theorem OwnH.lt {w : World} {lo hi : Nat} {a : Option Addr} {c : Nat} {ls : List HoldV} (h : OwnH w lo hi a c ls) : ∀ k, (Value.slice a ls.length c).ownBlock = some k → lo ≤ k ∧ k < hi := fun k hk => ⟨(h.1.lt k hk).1, h.2.2 k hk⟩
theorem OwnH.touch {w w' : World} {lo hi : Nat} {a : Option Addr} {c : Nat} {ls : List HoldV} {bl : List Nat} (h : OwnH w lo hi a c ls) (ht : Touch bl w w') (hd : ∀ k, (Value.slice a ls.length c).ownBlock = some k → k ∉ bl) : OwnH w' lo hi a c ls :=
 ⟨ownsRow_block h.1 (fun k hk => ht.block k (h.1.lt k hk).2 (hd k hk)), Nat.le_trans h.2.1 ht.size, h.2.2⟩
theorem OwnH.within {w w' : World} {lo hi l r : Nat} {a : Option Addr} {c : Nat} {ls : List HoldV} (h : OwnH w lo hi a c ls) (hw : Within l r w w') (hd : hi ≤ l ∨ r ≤ lo) : OwnH w' lo hi a c ls :=
 ⟨ownsRow_block h.1 (fun k hk => hw.block k (by have := h.2.2 k hk; have := h.2.1; omega) (by have := h.lt k hk; omega)), Nat.le_trans h.2.1 hw.size, h.2.2⟩
theorem OwnH.below {w w' : World} {lo hi : Nat} {a : Option Addr} {c : Nat} {ls : List HoldV} (h : OwnH w lo hi a c ls) (hb : Below w.heap.size w w') : OwnH w' lo hi a c ls :=
 h.within (Within.of_below (lo := w.heap.size) (hi := w.heap.size) hb) (.inl h.2.1)
theorem OwnH.widen {w : World} {lo hi lo' hi' : Nat} {a : Option Addr} {c : Nat} {ls : List HoldV} (h : OwnH w lo hi a c ls) (h1 : lo' ≤ lo) (h2 : hi ≤ hi') (h3 : hi' ≤ w.heap.size) : OwnH w lo' hi' a c ls :=
 ⟨ownsRow_base h.1 (fun k hk => by have := h.lt k hk; omega), h3, fun k hk => by have := h.lt k hk; omega⟩
theorem ownH_nil (w : World) (lo hi : Nat) (h : hi ≤ w.heap.size) : OwnH w lo hi none 0 [] := ⟨⟨by simp [cellsH], .inl ⟨rfl, rfl⟩⟩, h, fun k hk => by cases hk⟩
theorem OwnH.nocap {w : World} {lo hi : Nat} {a : Option Addr} {c : Nat} {ls : List HoldV} (h : OwnH w lo hi a c ls) : a = none → c = 0 := by
 intro ha
 rcases h.1.2 with ⟨hv, _⟩ | ⟨g, cap, cur, hv, _⟩
 ·simp only [Value.slice.injEq] at hv; exact hv.2.2
 ·simp [ha] at hv
theorem row_hold {w : World} {base g n cap : Nat} {ls : List HoldV} (h : w.ownsRow base 99 2 (.slice (some ⟨g, 0, none⟩) n cap) n (cellsH ls)) (hn : ls.length = n) (k : Nat) (hk : k < n) :
  w.cell? ⟨g, k * 2, none⟩ = some (.int .i64 (ls.getD k zeroH).tx) ∧ w.cell? ⟨g, k * 2 + 1, none⟩ = some (.int .i64 (ls.getD k zeroH).oid) ∧ (∀ i, w.frozen? ⟨g, i, none⟩ = false) := by
 have a0 := cellsH_at ls k 0 (by omega) (by omega)
 have a1 := cellsH_at ls k 1 (by omega) (by omega)
 simp only [HoldV.cells, Nat.add_zero, List.getElem?_cons_zero, List.getElem?_cons_succ] at a0 a1
 exact ⟨by rw [h.cellAt (k * 2) (by omega)]; exact a0, by rw [h.cellAt (k * 2 + 1) (by omega)]; exact a1, fun i => h.frozenAt i⟩
theorem row_storeH {w : World} {base g n cap : Nat} {ls : List HoldV} (h : w.ownsRow base 99 2 (.slice (some ⟨g, 0, none⟩) n cap) n (cellsH ls)) (hn : ls.length = n) (k : Nat) (hk : k < n) (t : HoldV) :
  ∃ W, Hid ((w.setCell ⟨g, k * 2, none⟩ (.int .i64 t.tx)).setCell ⟨g, k * 2 + 1, none⟩ (.int .i64 t.oid) = W) ∧ W.ownsRow base 99 2 (.slice (some ⟨g, 0, none⟩) n cap) n (cellsH (ls.set k t)) ∧ w.grownBy W (some g) := by
 have s1 := h.stored (k * 2) (.int .i64 t.tx)
 have s2 := s1.1.stored (k * 2 + 1) (.int .i64 t.oid)
 refine ⟨_, rfl, ?_, grownBy_trans s1.2 s2.2⟩
 have := s2.1
 rw [cellsH_set ls k (by omega) t] at this
 exact this
theorem OwnH.reads {w : World} {lo hi : Nat} {a : Option Addr} {c : Nat} {ls : List HoldV} (h : OwnH w lo hi a c ls) : ReadsH w a ls := by
 intro hne
 rcases h.1.2 with ⟨_, h0⟩ | ⟨g, cap', cur, hv, hb, hg, hr⟩
 ·exact absurd (List.length_eq_zero_iff.1 h0) hne
 ·simp only [Value.slice.injEq] at hv
  obtain ⟨rfl, _, rfl⟩ := hv
  refine ⟨g, 0, rfl, fun k hk => ?_⟩
  obtain ⟨a0, a1, _⟩ := row_hold h.1 rfl k hk
  rw [Nat.zero_add]
  exact ⟨a0, a1⟩
structure ObjAt (w : World) (lo Bo : Nat) (o : ObjV) (aI : Option Addr) (cI : Nat) (aR : Option Addr) (cR : Nat) : Prop where
 box : Box w Bo [.int .i64 o.kind, .slice aI o.ints.length cI, .slice aR o.refs.length cR] 26
 own : OwnO w lo w.heap.size aI cI aR cR o
 lt : Bo < lo
theorem ObjAt.three {w : World} {lo Bo : Nat} {aI : Option Addr} {cI : Nat} {aR : Option Addr} {cR : Nat} {o : ObjV} (h : ObjAt w lo Bo o aI cI aR cR) :
  w.cell? ⟨Bo, 0, none⟩ = some (.int .i64 o.kind) ∧ w.cell? ⟨Bo, 1, none⟩ = some (.slice aI o.ints.length cI) ∧ w.cell? ⟨Bo, 2, none⟩ = some (.slice aR o.refs.length cR) ∧ w.frozen? ⟨Bo, 0, none⟩ = false ∧ w.frozen? ⟨Bo, 1, none⟩ = false ∧ w.frozen? ⟨Bo, 2, none⟩ = false := h.box.three
end Go.Proofs.Ytgnkplbefclpgaa
namespace Go.Proofs.Ytgnkplbefclpgaa
def wpAnyL (P : Program) (md : Region.Mode) (ops : Array Oper) (Q : Exit → Act → World → Prop) (S : World → Prop) (ks : Nat → Bool) : Nat → Array Bool → Act → World → Prop
 | 0, listed, a, w => Region.ready md ops listed = [] ∧ Q .normal a w
 | fuel + 1, listed, a, w =>
  (Region.ready md ops listed = [] → Q .normal a w) ∧
  ∀ i ∈ Region.ready md ops listed, wpOp P ops Q i (fun a' w' => (ks i = false → S w') ∧ wpAnyL P md ops Q S ks fuel (listed.setIfInBounds i true) a' w') a w
def AllReadyL (P : Program) (md : Region.Mode) (ops : Array Oper) (Q : Exit → Act → World → Prop) (S : World → Prop) (ks : Nat → Bool) (fuel : Nat) (listed : Array Bool) (a : Act) (w : World) (rs : List Nat) : Prop :=
 ∀ i ∈ rs, wpOp P ops Q i (fun a' w' => (ks i = false → S w') ∧ wpAnyL P md ops Q S ks fuel (listed.setIfInBounds i true) a' w') a w
theorem AllReadyL.nil {P : Program} {ops : Array Oper} {Q : Exit → Act → World → Prop} {md : Region.Mode} {S : World → Prop} {ks : Nat → Bool} {fuel : Nat} {listed : Array Bool} {a : Act} {w : World} : AllReadyL P md ops Q S ks fuel listed a w [] := fun _ h => by cases h
theorem AllReadyL.cons {P : Program} {ops : Array Oper} {Q : Exit → Act → World → Prop} {md : Region.Mode} {S : World → Prop} {ks : Nat → Bool} {fuel : Nat} {listed : Array Bool} {a : Act} {w : World} {i : Nat} {o : Oper} {rs : List Nat} (ho : ops[i]? = some o)
  (h : ∀ K' : Act → World → Prop, Shut (∀ a w, (ks i = false → S w) → ((ks i = false → S w) → wpAnyL P md ops Q S ks fuel (listed.setIfInBounds i true) a w) → K' a w) → if Region.wanted o (yielded ops a.tmps) = true then Oper.wp P o a w K' Q else K' (a.put o.dst undef) w)
  (hs : AllReadyL P md ops Q S ks fuel listed a w rs) : AllReadyL P md ops Q S ks fuel listed a w (i :: rs) := fun j hj => by
 rcases List.mem_cons.1 hj with rfl | hj
 ·exact wpOp_step ho (fun K' hK => h K' (fun a w hS hW => hK a w ⟨hS, hW hS⟩))
 ·exact hs j hj
end Go.Proofs.Ytgnkplbefclpgaa