/- Several texts in one, in their order. -/
import Derived.Test.YtoboickdkednkaaDoorPFnPoolsx2
import Derived.Deep.MidRow
import Derived.WalkKit
import Derived.Test.YtoboickdkednkaaDoorProg
import Derived.Test.YtoboickdkednkaaDoorPFnPoolsx1
/- Slots: what they are, what a walk reads and owns of them; the walk of laws.toSlot. -/
namespace Go.Proofs.YtoboickdkednkaaDoor
open Go.RowKit

structure SlotV where
  has : Bool
  o : ObjV

/-- A slot, and where its object's lists lie. -/
structure SlotA where
  v : SlotV
  aI : Option Addr
  cI : Nat
  aR : Option Addr
  cR : Nat

def SlotA.cells (s : SlotA) : List Value := [.bool s.v.has, .int .i64 s.v.o.kind, .slice s.aI s.v.o.ints.length s.cI, .slice s.aR s.v.o.refs.length s.cR]
def SlotA.reads (w : World) (s : SlotA) : Prop := ReadsO w s.aI s.cI s.aR s.cR s.v.o
def SlotA.own (w : World) (lo hi : Nat) (s : SlotA) : Prop := OwnO w lo hi s.aI s.cI s.aR s.cR s.v.o

theorem Box.four {w : World} {B : Nat} {x0 x1 x2 x3 : Value} {t : TypeId} (b : Box w B [x0, x1, x2, x3] t) :
    w.cell? ⟨B, 0, none⟩ = some x0 ∧ w.cell? ⟨B, 1, none⟩ = some x1 ∧ w.cell? ⟨B, 2, none⟩ = some x2 ∧ w.cell? ⟨B, 3, none⟩ = some x3 ∧ w.frozen? ⟨B, 0, none⟩ = false ∧ w.frozen? ⟨B, 1, none⟩ = false ∧ w.frozen? ⟨B, 2, none⟩ = false ∧ w.frozen? ⟨B, 3, none⟩ = false :=
  ⟨b.cell 0 _ rfl, b.cell 1 _ rfl, b.cell 2 _ rfl, b.cell 3 _ rfl, b.frozen 0, b.frozen 1, b.frozen 2, b.frozen 3⟩
theorem box4_fill {w : World} {B : Nat} {x0 x1 x2 x3 : Value} {t : TypeId} (b : Box w B [x0, x1, x2, x3] t) (v0 v1 v2 v3 : Value) :
    ∃ W, Hid ((((w.setCell ⟨B, 0, none⟩ v0).setCell ⟨B, 1, none⟩ v1).setCell ⟨B, 2, none⟩ v2).setCell ⟨B, 3, none⟩ v3 = W) ∧ Box W B [v0, v1, v2, v3] t ∧ Within B (B + 1) w W ∧ W.heap.size = w.heap.size := by
  refine ⟨_, rfl, ?_, ?_, ?_⟩
  · have := (((b.set 0 v0).set 1 v1).set 2 v2).set 3 v3
    simpa only [List.set] using this
  · exact (((within_set w B 0 v0 (by omega)).trans (within_set _ B 1 v1 (by omega))).trans (within_set _ B 2 v2 (by omega))).trans (within_set _ B 3 v3 (by omega))
  · simp

end Go.Proofs.YtoboickdkednkaaDoor

/- Rows of slots: their cells, what is owned of them, a slot stored. -/
namespace Go.Proofs.YtoboickdkednkaaDoor
open Go.RowKit

/-- A result that lies in a box: it is read as the load reads it. -/
theorem results_one {P : Program} {fn : Func} {s : Nat} {ty : TypeId} {tmps : Array Value} {w : World} {v : Value} {ad : Addr} (hf : fn.results = #[.cell s ty]) (ht : tmps[s]?.getD undef = .pointer (some ad)) (hl : (loadVar ty ad).run P w = .ok v w) : (results fn tmps).run P w = .ok v w := by
  unfold results
  rw [hf]
  simp [ht, asAddr, hl]

def cellsS (ss : List SlotA) : List Value := ss.flatMap SlotA.cells
def zeroS : SlotA := ⟨⟨false, ⟨0, [], []⟩⟩, none, 0, none, 0⟩

theorem cells_len (s : SlotA) : s.cells.length = 4 := rfl
theorem cellsS_len (ss : List SlotA) : (cellsS ss).length = ss.length * 4 := by
  induction ss with
  | nil => rfl
  | cons s r ih => simp only [cellsS, List.flatMap_cons, List.length_append, cells_len, List.length_cons] at *; omega
theorem cellsS_at (ss : List SlotA) (k j : Nat) (hk : k < ss.length) (hj : j < 4) : (cellsS ss)[k * 4 + j]? = (ss.getD k zeroS).cells[j]? := by
  induction ss generalizing k with
  | nil => simp at hk
  | cons s r ih =>
    have e : cellsS (s :: r) = s.cells ++ cellsS r := by simp [cellsS]
    rw [e]
    cases k with
    | zero => rw [List.getElem?_append_left (by rw [cells_len]; omega)]; simp
    | succ k =>
      rw [List.getElem?_append_right (by rw [cells_len]; omega), cells_len]
      have := ih k (by simpa using hk)
      rw [show (k + 1) * 4 + j - 4 = k * 4 + j by omega, this]
      simp
theorem cellsS_set (ss : List SlotA) (k : Nat) (hk : k < ss.length) (t : SlotA) :
    ((((cellsS ss).set (k * 4) (.bool t.v.has)).set (k * 4 + 1) (.int .i64 t.v.o.kind)).set (k * 4 + 2) (.slice t.aI t.v.o.ints.length t.cI)).set (k * 4 + 3) (.slice t.aR t.v.o.refs.length t.cR) = cellsS (ss.set k t) := by
  induction ss generalizing k with
  | nil => simp at hk
  | cons s r ih =>
    cases k with
    | zero =>
      simp [cellsS, SlotA.cells]
    | succ k =>
      have := ih k (by simpa using hk)
      simp only [List.set_cons_succ]
      have e : cellsS (s :: r) = [.bool s.v.has, .int .i64 s.v.o.kind, .slice s.aI s.v.o.ints.length s.cI, .slice s.aR s.v.o.refs.length s.cR] ++ cellsS r := by simp [cellsS, SlotA.cells]
      have e2 : cellsS (s :: r.set k t) = [.bool s.v.has, .int .i64 s.v.o.kind, .slice s.aI s.v.o.ints.length s.cI, .slice s.aR s.v.o.refs.length s.cR] ++ cellsS (r.set k t) := by simp [cellsS, SlotA.cells]
      rw [e, e2, ← this]
      rw [show (k + 1) * 4 = k * 4 + 4 by omega]
      simp [List.set]

/-- The facts that a walk wants of slot k of a row of slots that lies in block B from cell o on. -/
theorem Box.slot {w : World} {B : Nat} {ss : List SlotA} {t : TypeId} (b : Box w B (cellsS ss) t) (k : Nat) (hk : k < ss.length) :
    w.cell? ⟨B, k * 4, none⟩ = some (.bool (ss.getD k zeroS).v.has) ∧ w.cell? ⟨B, k * 4 + 1, none⟩ = some (.int .i64 (ss.getD k zeroS).v.o.kind) ∧
    w.cell? ⟨B, k * 4 + 2, none⟩ = some (.slice (ss.getD k zeroS).aI (ss.getD k zeroS).v.o.ints.length (ss.getD k zeroS).cI) ∧ w.cell? ⟨B, k * 4 + 3, none⟩ = some (.slice (ss.getD k zeroS).aR (ss.getD k zeroS).v.o.refs.length (ss.getD k zeroS).cR) ∧
    (∀ i, w.frozen? ⟨B, i, none⟩ = false) :=
  ⟨b.cell _ _ (cellsS_at ss k 0 hk (by omega)), b.cell _ _ (cellsS_at ss k 1 hk (by omega)), b.cell _ _ (cellsS_at ss k 2 hk (by omega)), b.cell _ _ (cellsS_at ss k 3 hk (by omega)), fun i => b.frozen i⟩
/-- The blocks that a slot's lists own. -/
def SlotA.blocks (s : SlotA) : List Nat := (Value.slice s.aI s.v.o.ints.length s.cI).ownBlock.toList ++ (Value.slice s.aR s.v.o.refs.length s.cR).ownBlock.toList
/-- The slots own their lists; no two of them share a row. -/
structure OwnS (w : World) (lo hi : Nat) (ss : List SlotA) : Prop where
  each : ∀ s ∈ ss, s.own w lo hi
  apart : (ss.flatMap SlotA.blocks).Nodup

theorem SlotA.blocks_lt {w : World} {lo hi : Nat} {s : SlotA} (h : s.own w lo hi) : ∀ k ∈ s.blocks, lo ≤ k ∧ k < hi := by
  intro k hk
  rcases List.mem_append.1 hk with h1 | h1
  · exact h.ints.lt k (Option.mem_toList.1 h1)
  · exact h.refs.lt k (Option.mem_toList.1 h1)
theorem SlotA.blocks_nodup {w : World} {lo hi : Nat} {s : SlotA} (h : s.own w lo hi) : s.blocks.Nodup := by
  unfold SlotA.blocks
  cases h1 : (Value.slice s.aI s.v.o.ints.length s.cI).ownBlock with
  | none => cases h2 : (Value.slice s.aR s.v.o.refs.length s.cR).ownBlock <;> simp
  | some a =>
    cases h2 : (Value.slice s.aR s.v.o.refs.length s.cR).ownBlock with
    | none => simp
    | some b =>
      have := h.apart a h1
      rw [h2] at this
      have hne : b ≠ a := fun e => this (by rw [e])
      simp [Ne.symm hne]
theorem OwnS.nil (w : World) (lo hi : Nat) : OwnS w lo hi [] := ⟨by simp, by simp⟩
theorem OwnS.below {w w' : World} {lo hi : Nat} {ss : List SlotA} (h : OwnS w lo hi ss) (hb : Below w.heap.size w w') : OwnS w' lo hi ss := ⟨fun s hs => (h.each s hs).below hb, h.apart⟩
theorem OwnS.within {w w' : World} {lo hi l r : Nat} {ss : List SlotA} (h : OwnS w lo hi ss) (hw : Within l r w w') (hd : hi ≤ l ∨ r ≤ lo) : OwnS w' lo hi ss := ⟨fun s hs => (h.each s hs).within hw hd, h.apart⟩
theorem OwnS.widen {w : World} {lo hi lo' hi' : Nat} {ss : List SlotA} (h : OwnS w lo hi ss) (h1 : lo' ≤ lo) (h2 : hi ≤ hi') (h3 : hi' ≤ w.heap.size) : OwnS w lo' hi' ss := ⟨fun s hs => (h.each s hs).widen h1 h2 h3, h.apart⟩
theorem OwnS.blocks_lt {w : World} {lo hi : Nat} {ss : List SlotA} (h : OwnS w lo hi ss) : ∀ k ∈ ss.flatMap SlotA.blocks, lo ≤ k ∧ k < hi := by
  intro k hk
  obtain ⟨s, hs, hk'⟩ := List.mem_flatMap.1 hk
  exact SlotA.blocks_lt (h.each s hs) k hk'
/-- One more, behind them. -/
theorem OwnS.snoc {w : World} {lo mid hi : Nat} {ss : List SlotA} {t : SlotA} (h : OwnS w lo mid ss) (ht : t.own w mid hi) (h1 : lo ≤ mid) (h2 : mid ≤ hi) (h3 : hi ≤ w.heap.size) : OwnS w lo hi (ss ++ [t]) := by
  refine ⟨fun s hs => ?_, ?_⟩
  · rcases List.mem_append.1 hs with h' | h'
    · exact (h.each s h').widen (Nat.le_refl _) h2 h3
    · obtain rfl := List.mem_singleton.1 h'
      exact OwnO.widen ht h1 (Nat.le_refl _) h3
  · rw [List.flatMap_append, List.nodup_append]
    refine ⟨h.apart, by simpa using SlotA.blocks_nodup ht, ?_⟩
    intro a ha b hb e
    have := (h.blocks_lt a ha).2
    have := (SlotA.blocks_lt ht b (by simpa using hb)).1
    omega
def ReadsS (w : World) (ss : List SlotA) : Prop := ∀ s ∈ ss, s.reads w
theorem OwnS.reads {w : World} {lo hi : Nat} {ss : List SlotA} (h : OwnS w lo hi ss) : ReadsS w ss := fun s hs => OwnO.reads (h.each s hs)
theorem ReadsS.below {w w' : World} {ss : List SlotA} (h : ReadsS w ss) (hb : Below w.heap.size w w') : ReadsS w' ss := fun s hs => ReadsO.below (h s hs) hb
end Go.Proofs.YtoboickdkednkaaDoor

/- The walk of laws.toSlotA4. -/
namespace Go.Proofs.YtoboickdkednkaaDoor
open Go.RowKit

def zero4 : List SlotA := [zeroS, zeroS, zeroS, zeroS]
theorem within_setCells (B o : Nat) (vs : List Value) (w : World) : Within B (B + 1) w (w.setCells B o vs) := by
  induction vs generalizing o w with
  | nil => exact Within.refl _ _ _
  | cons v r ih => exact (within_set w B o v (by omega)).trans (ih (o + 1) _)
theorem set_snoc (ts : List SlotA) (n : Nat) (t : SlotA) : (ts ++ List.replicate (n + 1) zeroS).set ts.length t = (ts ++ [t]) ++ List.replicate n zeroS := by
  rw [List.set_append_right _ _ (Nat.le_refl _)]
  simp [List.replicate_succ]
theorem getD_mem {ss : List SlotA} {k : Nat} (h : k < ss.length) : ss.getD k zeroS ∈ ss := by simp [List.getD, h]

end Go.Proofs.YtoboickdkednkaaDoor

/- Ranges of cells in a box: read, and written, whole. -/
namespace Go.Proofs.YtoboickdkednkaaDoor
open Go.RowKit

theorem Box.range {w : World} {B : Nat} {t : TypeId} (pre cs post : List Value) (b : Box w B (pre ++ (cs ++ post)) t) : w.rangeAt B pre.length cs := by
  intro j v hv
  have hj : j < cs.length := (List.getElem?_eq_some_iff.1 hv).1
  refine b.cell _ v ?_
  rw [List.getElem?_append_right (by omega), List.getElem?_append_left (by omega)]
  rw [show pre.length + j - pre.length = j by omega]
  exact hv
theorem Box.there {w : World} {B : Nat} {vs : List Value} {t : TypeId} (b : Box w B vs t) (o n : Nat) (h : o + n ≤ vs.length) : w.there B o n := fun j hj =>
  ⟨by rw [b.cell (o + j) _ (List.getElem?_eq_getElem (by omega))]; rfl, b.frozen _⟩
theorem set_range (pre post : List Value) : ∀ (old cs : List Value), old.length = cs.length → ∀ (w : World) (B : Nat) (t : TypeId), Box w B (pre ++ (old ++ post)) t → Box (w.setCells B pre.length cs) B (pre ++ (cs ++ post)) t := by
  intro old
  induction old generalizing pre with
  | nil => intro cs h w B t b; obtain rfl := List.length_eq_zero_iff.1 h.symm; exact b
  | cons x r ih =>
    intro cs h w B t b
    obtain ⟨c, cr, rfl⟩ : ∃ c cr, cs = c :: cr := by
      cases cs with
      | nil => simp at h
      | cons c cr => exact ⟨c, cr, rfl⟩
    have hb := b.set pre.length c
    rw [List.set_append_right _ _ (Nat.le_refl _), Nat.sub_self] at hb
    simp only [List.cons_append, List.set_cons_zero] at hb
    have hb' : Box (w.setCell ⟨B, pre.length, none⟩ c) B ((pre ++ [c]) ++ (r ++ post)) t := by simpa using hb
    have := ih (pre ++ [c]) cr (by simpa using h) _ B t hb'
    simp only [List.length_append, List.length_singleton] at this
    rw [World.setCells]
    simpa using this
theorem range_fill {w : World} {B : Nat} {t : TypeId} (pre old cs post : List Value) (b : Box w B (pre ++ (old ++ post)) t) (h : old.length = cs.length) :
    ∃ W, Hid (w.setCells B pre.length cs = W) ∧ Box W B (pre ++ (cs ++ post)) t ∧ Within B (B + 1) w W ∧ W.heap.size = w.heap.size := by
  refine ⟨_, rfl, set_range pre post old cs h w B t b, within_setCells _ _ _ _, ?_⟩
  have h1 := (within_setCells B pre.length cs w).size
  have : ∀ (vs : List Value) (o : Nat) (w : World), (w.setCells B o vs).heap.size = w.heap.size := by
    intro vs
    induction vs with
    | nil => intro o w; rfl
    | cons v r ih => intro o w; rw [World.setCells, ih]; simp
  exact this _ _ _
theorem oneS (ss : List SlotA) : ∀ v ∈ cellsS ss, v.oneCell' = true := by
  intro v hv
  obtain ⟨s, _, hs⟩ := List.mem_flatMap.1 hv
  simp only [SlotA.cells, List.mem_cons, List.not_mem_nil, or_false] at hs
  rcases hs with rfl | rfl | rfl | rfl <;> rfl

structure PageA where
  lsn : Int
  ss : List SlotA
def PageA.cells (p : PageA) : List Value := .int .i64 p.lsn :: cellsS p.ss
theorem oneP (p : PageA) : ∀ v ∈ p.cells, v.oneCell' = true := by
  intro v hv
  rcases List.mem_cons.1 hv with rfl | h
  · rfl
  · exact oneS _ v h
theorem page_len (p : PageA) (h : p.ss.length = 4) : p.cells.length = 17 := by simp [PageA.cells, cellsS_len, h]
end Go.Proofs.YtoboickdkednkaaDoor

/- The walk of spec.FreeSlot. -/
namespace Go.Proofs.YtoboickdkednkaaDoor
open Go.RowKit

theorem Box.pslot {w : World} {B : Nat} {v : Value} {ss : List SlotA} {t : TypeId} (b : Box w B (v :: cellsS ss) t) (k : Nat) (hk : k < ss.length) :
    w.cell? ⟨B, 1 + k * 4, none⟩ = some (.bool (ss.getD k zeroS).v.has) ∧ w.cell? ⟨B, 1 + k * 4 + 1, none⟩ = some (.int .i64 (ss.getD k zeroS).v.o.kind) ∧
    w.cell? ⟨B, 1 + k * 4 + 2, none⟩ = some (.slice (ss.getD k zeroS).aI (ss.getD k zeroS).v.o.ints.length (ss.getD k zeroS).cI) ∧ w.cell? ⟨B, 1 + k * 4 + 3, none⟩ = some (.slice (ss.getD k zeroS).aR (ss.getD k zeroS).v.o.refs.length (ss.getD k zeroS).cR) ∧
    (∀ i, w.frozen? ⟨B, i, none⟩ = false) := by
  have key : ∀ j, j < 4 → (v :: cellsS ss)[1 + k * 4 + j]? = (ss.getD k zeroS).cells[j]? := fun j hj => by
    rw [show 1 + k * 4 + j = (k * 4 + j) + 1 by omega, List.getElem?_cons_succ]
    exact cellsS_at ss k j hk hj
  exact ⟨b.cell _ _ (key 0 (by omega)), b.cell _ _ (key 1 (by omega)), b.cell _ _ (key 2 (by omega)), b.cell _ _ (key 3 (by omega)), fun i => b.frozen i⟩

end Go.Proofs.YtoboickdkednkaaDoor

/- A slot of a page stored. -/
namespace Go.Proofs.YtoboickdkednkaaDoor
open Go.RowKit

theorem set_cons1 (v x : Value) (L : List Value) (i : Nat) : (v :: L).set (1 + i) x = v :: L.set i x := by rw [Nat.add_comm, List.set_cons_succ]
theorem pslot_fill {w : World} {B : Nat} {v : Value} {ss : List SlotA} {ty : TypeId} (b : Box w B (v :: cellsS ss) ty) (k : Nat) (hk : k < ss.length) (t : SlotA) :
    ∃ W, Hid ((((w.setCell ⟨B, 1 + k * 4, none⟩ (.bool t.v.has)).setCell ⟨B, 1 + k * 4 + 1, none⟩ (.int .i64 t.v.o.kind)).setCell ⟨B, 1 + k * 4 + 2, none⟩ (.slice t.aI t.v.o.ints.length t.cI)).setCell ⟨B, 1 + k * 4 + 3, none⟩ (.slice t.aR t.v.o.refs.length t.cR) = W) ∧ Box W B (v :: cellsS (ss.set k t)) ty ∧ Within B (B + 1) w W ∧ W.heap.size = w.heap.size := by
  refine ⟨_, rfl, ?_, ?_, ?_⟩
  · have := (((b.set (1 + k * 4) (.bool t.v.has)).set (1 + k * 4 + 1) (.int .i64 t.v.o.kind)).set (1 + k * 4 + 2) (.slice t.aI t.v.o.ints.length t.cI)).set (1 + k * 4 + 3) (.slice t.aR t.v.o.refs.length t.cR)
    rw [Nat.add_assoc, Nat.add_assoc 1 (k * 4) 2, Nat.add_assoc 1 (k * 4) 3, set_cons1, set_cons1, set_cons1, set_cons1, cellsS_set ss k hk t] at this
    rw [Nat.add_assoc, Nat.add_assoc 1 (k * 4) 2, Nat.add_assoc 1 (k * 4) 3]
    exact this
  · exact (((within_set w B _ _ (by omega)).trans (within_set _ B _ _ (by omega))).trans (within_set _ B _ _ (by omega))).trans (within_set _ B _ _ (by omega))
  · simp
/-- One of them is another, which lies behind them all. -/
theorem OwnS.set {w : World} {lo mid mid' hi : Nat} {ss : List SlotA} {t : SlotA} (h : OwnS w lo mid ss) (k : Nat) (ht : t.own w mid' hi) (h1 : lo ≤ mid') (h2 : mid ≤ mid') (h3 : mid' ≤ hi) : OwnS w lo hi (ss.set k t) := by
  have hhi : hi ≤ w.heap.size := ht.ints.2.1
  refine ⟨fun s hs => ?_, ?_⟩
  · rcases List.mem_or_eq_of_mem_set hs with h' | rfl
    · exact OwnO.widen (h.each s h') (Nat.le_refl _) (by omega) hhi
    · exact OwnO.widen ht h1 (Nat.le_refl _) hhi
  · have hb := SlotA.blocks_lt ht
    have hn := SlotA.blocks_nodup ht
    have hl := h.blocks_lt
    have ha := h.apart
    clear h ht
    induction ss generalizing k with
    | nil => exact ha
    | cons s r ih =>
      rw [List.flatMap_cons, List.nodup_append] at ha
      cases k with
      | zero =>
        rw [List.set_cons_zero, List.flatMap_cons, List.nodup_append]
        refine ⟨hn, ha.2.1, fun a ha' b hb' e => ?_⟩
        have h5 := (hb a ha').1
        have h6 := (hl b (by rw [List.flatMap_cons]; exact List.mem_append.2 (.inr hb'))).2
        omega
      | succ k =>
        rw [List.set_cons_succ, List.flatMap_cons, List.nodup_append]
        refine ⟨ha.1, ih k (fun x hx => hl x (by rw [List.flatMap_cons]; exact List.mem_append.2 (.inr hx))) ha.2.1, fun a ha' b hb' e => ?_⟩
        subst e
        obtain ⟨x, hx, hbx⟩ := List.mem_flatMap.1 hb'
        rcases List.mem_or_eq_of_mem_set hx with h' | rfl
        · exact ha.2.2 a ha' a (List.mem_flatMap.2 ⟨x, h', hbx⟩) rfl
        · have h5 := (hb a hbx).1
          have h6 := (hl a (by rw [List.flatMap_cons]; exact List.mem_append.2 (.inl ha'))).2
          omega
end Go.Proofs.YtoboickdkednkaaDoor

/- Is a number within bounds? -/
namespace Go.Proofs.YtoboickdkednkaaDoor
def inB (x l m : Int) : Bool := decide (l ≤ x ∧ x ≤ m)
end Go.Proofs.YtoboickdkednkaaDoor

/- The walk of spec.l1In. -/
namespace Go.Proofs.YtoboickdkednkaaDoor
open Go.RowKit

set_option maxHeartbeats 400000 in
theorem l1In_any (x l m : Int) (w : World) : Calls Tryd.prog 28 #[.int .i64 x, .int .i64 l, .int .i64 m] w fun e w' => e = .returned (.bool (inB x l m)) ∧ w' = w := by
  by_cases h1 : l ≤ x
  · by_cases h2 : x ≤ m
    · have HB : Hid (inB x l m = true) := by simp [Hid, inB, h1, h2]
      go_enter Tryd.func28, Tryd.ntmps28
      go_wp2
      go_ret
      exact ⟨ret_bool HB.out.symm, rfl⟩
    · have HB : Hid (inB x l m = false) := by simp [Hid, inB, h2]
      go_enter Tryd.func28, Tryd.ntmps28
      go_wp2
      go_ret
      exact ⟨ret_bool HB.out.symm, rfl⟩
  · have HB : Hid (inB x l m = false) := by simp [Hid, inB, h1]
    go_enter Tryd.func28, Tryd.ntmps28
    go_wp2
    go_ret
    exact ⟨ret_bool HB.out.symm, rfl⟩

end Go.Proofs.YtoboickdkednkaaDoor

/- When an object is right; the walk of spec.ObjOk. -/
namespace Go.Proofs.YtoboickdkednkaaDoor
open Go.RowKit

def okB (o : ObjV) : Bool := inB o.kind 1 99 && (decide (o.ints.length ≤ 5) && (decide (o.refs.length ≤ 5) && (o.ints.all (fun z => inB z (-1000000) 1000000) && o.refs.all (fun z => inB z 0 31))))

theorem okB_kind {o : ObjV} (h : inB o.kind 1 99 = false) : okB o = false := by simp [okB, h]
theorem okB_ints {o : ObjV} (h : ¬ o.ints.length ≤ 5) : okB o = false := by simp [okB, h]
theorem okB_refs {o : ObjV} (h : ¬ o.refs.length ≤ 5) : okB o = false := by simp [okB, h]
theorem okB_int {o : ObjV} (j : Nat) (hj : j < o.ints.length) (h : inB (o.ints.getD j 0) (-1000000) 1000000 = false) : okB o = false := by
  have : (o.ints.all (fun z => inB z (-1000000) 1000000)) = false := by
    rw [List.all_eq_false]
    exact ⟨o.ints.getD j 0, by simp [List.getD, hj], by rw [h]; decide⟩
  simp [okB, this]
theorem okB_ref {o : ObjV} (j : Nat) (hj : j < o.refs.length) (h : inB (o.refs.getD j 0) 0 31 = false) : okB o = false := by
  have : (o.refs.all (fun z => inB z 0 31)) = false := by
    rw [List.all_eq_false]
    exact ⟨o.refs.getD j 0, by simp [List.getD, hj], by rw [h]; decide⟩
  simp [okB, this]
theorem okB_true {o : ObjV} (h1 : inB o.kind 1 99 = true) (h2 : o.ints.length ≤ 5) (h3 : o.refs.length ≤ 5) (h4 : ∀ j, j < o.ints.length → inB (o.ints.getD j 0) (-1000000) 1000000 = true) (h5 : ∀ j, j < o.refs.length → inB (o.refs.getD j 0) 0 31 = true) : okB o = true := by
  have a4 : (o.ints.all (fun z => inB z (-1000000) 1000000)) = true := by
    rw [List.all_eq_true]
    intro z hz
    obtain ⟨j, hj, rfl⟩ := List.getElem_of_mem hz
    have := h4 j hj
    simpa [List.getD, hj] using this
  have a5 : (o.refs.all (fun z => inB z 0 31)) = true := by
    rw [List.all_eq_true]
    intro z hz
    obtain ⟨j, hj, rfl⟩ := List.getElem_of_mem hz
    have := h5 j hj
    simpa [List.getD, hj] using this
  simp [okB, h1, h2, h3, a4, a5]

set_option maxHeartbeats 1000000 in
set_option maxRecDepth 100000 in
theorem specObjOk_any (o : ObjV) (aI : Option Addr) (cI : Nat) (aR : Option Addr) (cR : Nat) (w : World) (hr : ReadsO w aI cI aR cR o) (hnI : o.ints.length ≤ 140737488355328) (hnR : o.refs.length ≤ 140737488355328) :
    Calls Tryd.prog 54 #[.agg #[.int .i64 o.kind, .slice aI o.ints.length cI, .slice aR o.refs.length cR]] w fun e w' => e = .returned (.bool (okB o)) ∧ Below w.heap.size w w' := by
  obtain ⟨k, ints, refs⟩ := o
  obtain ⟨hI, hR, _, _⟩ := hr
  simp only at *
  obtain ⟨W, hW, b0, hbW, hsW⟩ := boxes1 w [.int .i64 k, .slice aI ints.length cI, .slice aR refs.length cR] 29
  have hI' := hI.below hbW
  have hR' := hR.below hbW
  have x1 := b0.cell 1 _ rfl
  have x2 := b0.cell 2 _ rfl
  cases hk : inB k 1 99 with
  | false =>
    have HK : Hid (_ = _) := hk
    have HE : Hid (okB ⟨k, ints, refs⟩ = false) := okB_kind hk
    clear hk
    go_enter Tryd.func54, Tryd.ntmps54
    go_wp2_with fail
    rw [hW.out]
    refine (l1In_any _ _ _ _).mono ?_
    rintro e w' ⟨rfl, rfl⟩
    rw [HK.out]
    go_wp2
    go_ret
    exact ⟨ret_bool HE.out.symm, hbW⟩
  | true =>
  have HK : Hid (_ = _) := hk
  clear hk
  by_cases h5 : ints.length ≤ 5
  case neg =>
    have HE : Hid (okB ⟨k, ints, refs⟩ = false) := okB_ints h5
    go_enter Tryd.func54, Tryd.ntmps54
    go_wp2_with fail
    rw [hW.out]
    refine (l1In_any _ _ _ _).mono ?_
    rintro e w' ⟨rfl, rfl⟩
    rw [HK.out]
    go_wp2
    go_ret
    exact ⟨ret_bool HE.out.symm, hbW⟩
  case pos =>
  by_cases h6 : refs.length ≤ 5
  case neg =>
    have HE : Hid (okB ⟨k, ints, refs⟩ = false) := okB_refs h6
    go_enter Tryd.func54, Tryd.ntmps54
    go_wp2_with fail
    rw [hW.out]
    refine (l1In_any _ _ _ _).mono ?_
    rintro e w' ⟨rfl, rfl⟩
    rw [HK.out]
    go_wp2
    go_ret
    exact ⟨ret_bool HE.out.symm, hbW⟩
  case pos =>
  go_enter Tryd.func54, Tryd.ntmps54
  go_wp2_with fail
  rw [hW.out]
  refine (l1In_any _ _ _ _).mono ?_
  rintro e w' ⟨rfl, rfl⟩
  rw [HK.out]
  go_wp2
  go_loop [3] (fun i => ∃ j : Nat, j ≤ ints.length ∧ i = .int .i64 j ∧ Hid (∀ t, t < j → inB (ints.getD t 0) (-1000000) 1000000 = true)) (fun i => ints.length - (intOf i).toNat)
  case atStart => exact ⟨0, by omega, rfl, fun t ht => by omega⟩
  case round =>
    obtain ⟨j, hj, rfl, hall⟩ := hrel
    by_cases hlt : j < ints.length
    · rcases hI'.cases with rfl | ⟨b, off, rfl, hpos, hcell⟩
      · simp at hlt
      have hc := hcell j hlt
      clear hcell
      cases hz : inB (ints.getD j 0) (-1000000) 1000000 with
      | false =>
        have HE : Hid (okB ⟨k, ints, refs⟩ = false) := okB_int j hlt hz
        have HZ : Hid (_ = _) := hz
        clear hz
        generalize ints.getD j 0 = z at *
        go_wp2_with fail
        refine (l1In_any _ _ _ _).mono ?_
        rintro e w' ⟨rfl, rfl⟩
        rw [HZ.out]
        go_wp2
        go_ret
        exact ⟨ret_bool HE.out.symm, hbW⟩
      | true =>
        have HN : Hid (∀ t, t < j + 1 → inB (ints.getD t 0) (-1000000) 1000000 = true) := by
          intro t ht
          by_cases e : t = j
          · rw [e]; exact hz
          · exact hall.out t (by omega)
        have HZ : Hid (_ = _) := hz
        clear hz
        generalize ints.getD j 0 = z at *
        go_wp2_with fail
        refine (l1In_any _ _ _ _).mono ?_
        rintro e w' ⟨rfl, rfl⟩
        rw [HZ.out]
        go_wp2
        go_round
        case rel => exact ⟨j + 1, by omega, by go_num, HN⟩
        case measure => simp [intOf]; omega
    · have HALL : Hid (∀ t, t < ints.length → inB (ints.getD t 0) (-1000000) 1000000 = true) := fun t ht => hall.out t (by omega)
      go_wp2
      go_loop [4] (fun i => ∃ j : Nat, j ≤ refs.length ∧ i = .int .i64 j ∧ Hid (∀ t, t < j → inB (refs.getD t 0) 0 31 = true)) (fun i => refs.length - (intOf i).toNat)
      case atStart => exact ⟨0, by omega, rfl, fun t ht => by omega⟩
      case round =>
        obtain ⟨i, hi, rfl, hall2⟩ := hrel
        by_cases hlt2 : i < refs.length
        · rcases hR'.cases with rfl | ⟨b, off, rfl, hpos, hcell⟩
          · simp at hlt2
          have hc := hcell i hlt2
          clear hcell
          cases hz : inB (refs.getD i 0) 0 31 with
          | false =>
            have HE : Hid (okB ⟨k, ints, refs⟩ = false) := okB_ref i hlt2 hz
            have HZ : Hid (_ = _) := hz
            clear hz
            generalize refs.getD i 0 = z at *
            go_wp2_with fail
            refine (l1In_any _ _ _ _).mono ?_
            rintro e w' ⟨rfl, rfl⟩
            rw [HZ.out]
            go_wp2
            go_ret
            exact ⟨ret_bool HE.out.symm, hbW⟩
          | true =>
            have HN : Hid (∀ t, t < i + 1 → inB (refs.getD t 0) 0 31 = true) := by
              intro t ht
              by_cases e : t = i
              · rw [e]; exact hz
              · exact hall2.out t (by omega)
            have HZ : Hid (_ = _) := hz
            clear hz
            generalize refs.getD i 0 = z at *
            go_wp2_with fail
            refine (l1In_any _ _ _ _).mono ?_
            rintro e w' ⟨rfl, rfl⟩
            rw [HZ.out]
            go_wp2
            go_round
            case rel => exact ⟨i + 1, by omega, by go_num, HN⟩
            case measure => simp [intOf]; omega
        · have HE : Hid (okB ⟨k, ints, refs⟩ = true) := okB_true HK.out h5 h6 HALL.out (fun t ht => hall2.out t (by simp only at ht; omega))
          go_wp2
          go_ret
          exact ⟨ret_bool HE.out.symm, hbW⟩
end Go.Proofs.YtoboickdkednkaaDoor
